import Derived.KernelRfl
set_option linter.unusedVariables false
set_option linter.unusedSimpArgs false
set_option maxRecDepth 100000
set_option maxHeartbeats 4000000
namespace Go.Proofs.YtipobchbnjgenaaGreat.Fld
def pm (p : Nat) : Nat -> Nat -> Nat -> Nat
 | 0, _, _ => 1
 | k + 1, a, n => if n % 2 = 1 then pm p k (a * a % p) (n / 2) * a % p else pm p k (a * a % p) (n / 2)
theorem prime_of (q s : Nat) (hq : 0 < q) (hs : q < s * s) (h : ∀ d, d < s -> d ∣ q -> d = 1 ∨ d = q) : ∀ d, d ∣ q -> d = 1 ∨ d = q := by
 intro d hd
 by_cases hl : d < s
 · exact h d hl hd
 · obtain ⟨e, he⟩ := hd
   have hes : e < s := by
    apply Nat.lt_of_not_le
    intro hc
    have := Nat.mul_le_mul (Nat.le_of_not_lt hl) hc
    omega
   rcases h e hes ⟨d, by rw [he, Nat.mul_comm]⟩ with h1 | h1
   · right; rw [he, h1, Nat.mul_one]
   · left
     rw [h1] at he
     have : d * q = 1 * q := by omega
     exact Nat.eq_of_mul_eq_mul_right hq this
theorem p2 : ∀ d, d ∣ 2 -> d = 1 ∨ d = 2 := prime_of 2 2 (by decide) (by decide) (by decide)
theorem p3 : ∀ d, d ∣ 3 -> d = 1 ∨ d = 3 := prime_of 3 2 (by decide) (by decide) (by decide)
theorem p5 : ∀ d, d ∣ 5 -> d = 1 ∨ d = 5 := prime_of 5 3 (by decide) (by decide) (by decide)
end Go.Proofs.YtipobchbnjgenaaGreat.Fld
namespace Go.Proofs.YtipobchbnjgenaaGreat.Fld
def add (p a b : Int) : Int := (a + b) % p
def sub (p a b : Int) : Int := (a - b) % p
def mul (p a b : Int) : Int := (a * b) % p
def pow (p a n : Int) : Int := (a ^ n.toNat) % p
def El (p a : Int) : Prop := 0 <= a ∧ a < p
def Wd (a : Int) : Prop := 0 <= a ∧ a < 18446744073709551616
def Md (p : Int) (wd : Bool) : Prop := (p = 2013265921 ∧ wd = false) ∨ (p = 18446744069414584321 ∧ wd = true)
def low64 (a : Int) : Int := a % 18446744073709551616
def high64 (a : Int) : Int := a / 18446744073709551616
def subR (p a b : Int) : Int := if a < b then a - b + p else a - b
theorem Md.bounds {p : Int} {wd : Bool} (h : Md p wd) : 2 <= p ∧ p < 18446744073709551616 := by
 rcases h with ⟨h, _⟩ | ⟨h, _⟩ <;> omega
theorem add_el {p a b : Int} (hp : 0 < p) : El p (add p a b) := ⟨Int.emod_nonneg _ (by omega), Int.emod_lt_of_pos _ hp⟩
theorem sub_el {p a b : Int} (hp : 0 < p) : El p (sub p a b) := ⟨Int.emod_nonneg _ (by omega), Int.emod_lt_of_pos _ hp⟩
theorem mul_el {p a b : Int} (hp : 0 < p) : El p (mul p a b) := ⟨Int.emod_nonneg _ (by omega), Int.emod_lt_of_pos _ hp⟩
theorem emod_sub_self (x p : Int) (h : p <= x) (h2 : x < 2 * p) : x % p = x - p := by
 have : x % p = (x - p) % p := by rw [Int.sub_emod_right]
 rw [this, Int.emod_eq_of_lt (by omega) (by omega)]
theorem emod_add_self (x p : Int) (h : -p <= x) (h2 : x < 0) : x % p = x + p := by
 have : x % p = (x + p) % p := by rw [Int.add_emod_right]
 rw [this, Int.emod_eq_of_lt (by omega) (by omega)]
theorem subR_sub (p a b : Int) (h1 : 0 <= a) (h2 : a < p) (h3 : 0 <= b) (h4 : b < p) : subR p a b = sub p a b := by
 unfold subR sub
 split
 · exact (emod_add_self _ _ (by omega) (by omega)).symm
 · exact (Int.emod_eq_of_lt (by omega) (by omega)).symm
theorem down_small (x : Int) (h0 : 0 <= x) (h1 : x <= 4053239664633446400) :
 El 2013265921 (x % 2013265920) ∧ El 2013265921 (x / 2013265920) ∧ sub 2013265921 (x % 2013265920) (x / 2013265920) = x % 2013265921 := by
 unfold El sub
 refine ⟨⟨by omega, by omega⟩, ⟨by omega, by omega⟩, ?_⟩
 have e : x % 2013265920 - x / 2013265920 = x - 2013265921 * (x / 2013265920) := by omega
 rw [e, Int.sub_mul_emod_self_left]
theorem down_large (h l : Int) (h0 : 0 <= h) (h1 : h <= 18446744073709551615) (l0 : 0 <= l) (l1 : l <= 18446744073709551615) :
 0 <= subR 18446744069414584321 l (h / 4294967296) ∧ subR 18446744069414584321 l (h / 4294967296) <= 18446744073709551615 ∧
 subR 18446744069414584321 l (h / 4294967296) + h % 4294967296 * 4294967295 < 2 * 18446744069414584321 ∧
 add 18446744069414584321 (subR 18446744069414584321 l (h / 4294967296)) (h % 4294967296 * 4294967295) = (h * 18446744073709551616 + l) % 18446744069414584321 := by
 unfold add subR
 have e : h * 18446744073709551616 + l = (l - h / 4294967296 + h % 4294967296 * 4294967295) + 18446744069414584321 * (h / 4294967296 * 4294967297 + h % 4294967296) := by omega
 rw [e, Int.add_mul_emod_self_left]
 split
 · refine ⟨by omega, by omega, by omega, ?_⟩
   have e2 : l - h / 4294967296 + 18446744069414584321 + h % 4294967296 * 4294967295 = (l - h / 4294967296 + h % 4294967296 * 4294967295) + 18446744069414584321 := by omega
   rw [e2, Int.add_emod_right]
 · exact ⟨by omega, by omega, by omega, rfl⟩
theorem high_low (x : Int) : high64 x * 18446744073709551616 + low64 x = x := by unfold high64 low64; omega
theorem mul_le {a b k : Int} (ha : 0 <= a) (hb : 0 <= b) (ha' : a <= k) (hb' : b <= k) : 0 <= a * b ∧ a * b <= k * k :=
 ⟨Int.mul_nonneg ha hb, Int.mul_le_mul ha' hb' hb (by omega)⟩
theorem mask32 (h : Int) (h0 : 0 <= h) (h1 : h <= 18446744073709551615) : 0 <= h / 4294967296 ∧ h / 4294967296 <= 4294967295 ∧ 0 <= h % 4294967296 * 4294967295 ∧ h % 4294967296 * 4294967295 <= 18446744073709551615 := by omega
end Go.Proofs.YtipobchbnjgenaaGreat.Fld
namespace Go.Proofs.YtipobchbnjgenaaGreat.Fld
def inv (p a : Int) : Int := pow p a (p - 2)
end Go.Proofs.YtipobchbnjgenaaGreat.Fld
namespace Go.Proofs.YtipobchbnjgenaaGreat.Fld
theorem half_pow (b : Int) (k : Nat) : b / 2 ^ (k + 1) = b / 2 ^ k / 2 := by
 rw [Int.pow_succ, Int.ediv_ediv_of_nonneg (Int.le_of_lt (Int.pow_pos (by decide)))]
theorem word_shift (b : Int) (k : Nat) (h0 : 0 <= b) (h1 : b <= 18446744073709551615) : 0 <= b / 2 ^ k ∧ b / 2 ^ k <= 18446744073709551615 := by
 have hp : (0 : Int) < 2 ^ k := Int.pow_pos (by decide)
 refine ⟨Int.ediv_nonneg h0 (Int.le_of_lt hp), ?_⟩
 have : b / 2 ^ k <= b := Int.ediv_le_self _ h0
 omega
theorem times_odd (p a q : Int) (ho : q % 2 = 1) : add p (add p (mul p a (q / 2)) (mul p a (q / 2))) a = mul p a q := by
 unfold add mul
 obtain ⟨h, hh⟩ : ∃ h, q / 2 = h := ⟨_, rfl⟩
 have e : q = h + h + 1 := by omega
 rw [hh, <- Int.add_emod, Int.emod_add_emod, e, Int.mul_add, Int.mul_add, Int.mul_one]
theorem times_even (p a q : Int) (ho : q % 2 = 0) : add p (mul p a (q / 2)) (mul p a (q / 2)) = mul p a q := by
 unfold add mul
 obtain ⟨h, hh⟩ : ∃ h, q / 2 = h := ⟨_, rfl⟩
 have e : q = h + h := by omega
 rw [hh, <- Int.add_emod, e, Int.mul_add]
theorem shift_all (b : Int) (h0 : 0 <= b) (h1 : b <= 18446744073709551615) : b / 2 ^ 64 = 0 := by
 have : (2 : Int) ^ 64 = 18446744073709551616 := by decide
 rw [this]; omega
theorem mul_zero_right (p a : Int) : mul p a 0 = 0 := by simp [mul]
end Go.Proofs.YtipobchbnjgenaaGreat.Fld
namespace Go.Proofs.YtipobchbnjgenaaGreat.Fld
def cv (f g : Nat -> Int) : Nat -> Int
 | 0 => f 0 * g 0
 | k + 1 => f 0 * g (k + 1) + cv (fun i => f (i + 1)) g k
def ev (t : Int) : Nat -> (Nat -> Int) -> Int
 | 0, _ => 0
 | n + 1, f => f 0 + t * ev t n (fun i => f (i + 1))
def Al (p : Int) (f g : Nat -> Int) : Prop := ∀ i, f i % p = g i % p
theorem Al.refl (p : Int) (f : Nat -> Int) : Al p f f := fun _ => rfl
theorem Al.symm {p : Int} {f g : Nat -> Int} (h : Al p f g) : Al p g f := fun i => (h i).symm
theorem Al.trans {p : Int} {f g h : Nat -> Int} (h1 : Al p f g) (h2 : Al p g h) : Al p f h := fun i => (h1 i).trans (h2 i)
theorem Al.add {p : Int} {f f' g g' : Nat -> Int} (h1 : Al p f f') (h2 : Al p g g') : Al p (fun i => f i + g i) (fun i => f' i + g' i) := fun i => by
 show (f i + g i) % p = (f' i + g' i) % p
 rw [Int.add_emod, h1 i, h2 i, <- Int.add_emod]
end Go.Proofs.YtipobchbnjgenaaGreat.Fld
namespace Go.Proofs.YtipobchbnjgenaaGreat.Fld
def co (xs : List Int) (i : Nat) : Int := xs.getD i 0
theorem co_out (xs : List Int) (i : Nat) (h : xs.length <= i) : co xs i = 0 := by simp [co, List.getD_eq_getElem?_getD, h]
theorem co_at {xs : List Int} {i : Nat} (h : i < xs.length) : co xs i = xs[i] := by simp [co, List.getD_eq_getElem?_getD, h]
theorem ext_co {xs ys : List Int} (hl : xs.length = ys.length) (h : ∀ i, i < xs.length -> co xs i = co ys i) : xs = ys := by
 apply List.ext_getElem hl
 intro i h1 h2
 have := h i h1
 rw [co_at h1, co_at h2] at this; exact this
def tr : List Int -> List Int
 | [] => []
 | x :: xs => if tr xs = [] then (if x = 0 then [] else [x]) else x :: tr xs
def mk (n : Nat) (c : Nat -> Int) : List Int := (List.range n).map c
theorem mk_len (n : Nat) (c : Nat -> Int) : (mk n c).length = n := by simp [mk]
theorem co_mk (n : Nat) (c : Nat -> Int) (i : Nat) : co (mk n c) i = if i < n then c i else 0 := by
 by_cases h : i < n
 · rw [if_pos h, co_at (by rw [mk_len]; exact h)]; simp [mk]
 · rw [if_neg h]; exact co_out _ _ (by rw [mk_len]; omega)
def Els (p : Int) (xs : List Int) : Prop := ∀ x ∈ xs, El p x
theorem Els.co {p : Int} {xs : List Int} (h : Els p xs) (hp : 0 < p) (i : Nat) : El p (co xs i) := by
 by_cases hi : i < xs.length
 · rw [co_at hi]; exact h _ (List.getElem_mem hi)
 · rw [co_out _ _ (by omega)]; exact ⟨Int.le_refl 0, hp⟩
def into (q : Nat -> Int) : List Int -> Nat -> Int
 | [] => fun _ => 0
 | x :: xs => fun i => (if i = 0 then x else 0) + cv q (into q xs) i
end Go.Proofs.YtipobchbnjgenaaGreat.Fld
namespace Go.Proofs.YtipobchbnjgenaaGreat.Fld
def Is (p : Int) (zs : List Int) (F : Nat -> Int) : Prop := Els p zs ∧ tr zs = zs ∧ Al p (co zs) F
theorem emod_el {p : Int} (hp : 0 < p) (a : Int) : El p (a % p) := ⟨Int.emod_nonneg _ (by omega), Int.emod_lt_of_pos _ hp⟩
def sm (p c : Int) (xs ys : List Int) : List Int := mk (max xs.length ys.length) (fun i => (co xs i + c * co ys i) % p)
def prd (p : Int) (xs ys : List Int) : List Int := if xs = [] ∨ ys = [] then [] else mk (xs.length + ys.length - 1) (fun k => cv (co xs) (co ys) k % p)
def vl (p t : Int) (xs : List Int) : Int := ev t xs.length (co xs) % p
def hn (p t : Int) (xs : List Int) (i : Nat) : Int := ev t (xs.length - i) (fun j => co xs (i + j)) % p
end Go.Proofs.YtipobchbnjgenaaGreat.Fld
namespace Go.Proofs.YtipobchbnjgenaaGreat.Fld
def By (bs : List Int) : Prop := ∀ b ∈ bs, 0 <= b ∧ b <= 255
theorem By.nil : By [] := fun b h => by cases h
theorem By.cons {b : Int} {bs : List Int} (h0 : 0 <= b) (h1 : b <= 255) (h : By bs) : By (b :: bs) := fun x hx => by
 rcases List.mem_cons.1 hx with rfl | hx
 · exact ⟨h0, h1⟩
 · exact h x hx
theorem By.app {as bs : List Int} (h : By as) (k : By bs) : By (as ++ bs) := fun x hx => by
 rcases List.mem_append.1 hx with hx | hx
 · exact h x hx
 · exact k x hx
theorem By.take {bs : List Int} (h : By bs) (n : Nat) : By (bs.take n) := fun x hx => h x (List.mem_of_mem_take hx)
theorem By.drop {bs : List Int} (h : By bs) (n : Nat) : By (bs.drop n) := fun x hx => h x (List.mem_of_mem_drop hx)
theorem By.tail {b : Int} {bs : List Int} (h : By (b :: bs)) : By bs := fun x hx => h x (List.mem_cons_of_mem _ hx)
def wd8 (n : Int) : Nat -> List Int
 | 0 => []
 | k + 1 => n / 256 ^ k % 256 :: wd8 n k
def tk8 (bs : List Int) : Int := bs.foldl (fun n b => n * 256 + b) 0
theorem p256_pos (k : Nat) : (0 : Int) < 256 ^ k := Int.pow_pos (by decide)
theorem wd8_len (n : Int) (k : Nat) : (wd8 n k).length = k := by
 induction k with
 | zero => rfl
 | succ k ih => simp [wd8, ih]
theorem wd8_by (n : Int) (k : Nat) : By (wd8 n k) := by
 induction k with
 | zero => exact By.nil
 | succ k ih => exact By.cons (Int.emod_nonneg _ (by decide)) (by have := Int.emod_lt_of_pos (n / 256 ^ k) (show (0 : Int) < 256 by decide); omega) ih
theorem tk8_from (bs : List Int) : ∀ a : Int, bs.foldl (fun n b => n * 256 + b) a = a * 256 ^ bs.length + tk8 bs := by
 induction bs with
 | nil => intro a; simp [tk8]
 | cons b bs ih =>
  intro a
  have e1 := ih (a * 256 + b)
  have e2 := ih b
  show bs.foldl _ (a * 256 + b) = _
  have e3 : tk8 (b :: bs) = bs.foldl (fun n b => n * 256 + b) b := by show bs.foldl _ (0 * 256 + b) = _; rw [Int.zero_mul, Int.zero_add]
  rw [e3, e1, e2, List.length_cons, Int.pow_succ, Int.add_mul]
  have : a * 256 * 256 ^ bs.length = a * (256 ^ bs.length * 256) := by rw [Int.mul_assoc, Int.mul_comm 256]
  omega
theorem tk8_cons (b : Int) (bs : List Int) : tk8 (b :: bs) = b * 256 ^ bs.length + tk8 bs := by
 have h : tk8 (b :: bs) = bs.foldl (fun n b => n * 256 + b) b := by show bs.foldl _ (0 * 256 + b) = _; rw [Int.zero_mul, Int.zero_add]
 rw [h]; exact tk8_from bs b
theorem tk8_snoc (as : List Int) (b : Int) : tk8 (as ++ [b]) = tk8 as * 256 + b := by
 show (as ++ [b]).foldl _ 0 = _
 rw [List.foldl_append]; rfl
theorem tk8_bd {bs : List Int} (h : By bs) : 0 <= tk8 bs ∧ tk8 bs < 256 ^ bs.length := by
 induction bs with
 | nil => exact ⟨Int.le_refl _, by simp [tk8]⟩
 | cons b bs ih =>
  have hi := ih h.tail
  have hb := h b List.mem_cons_self
  have hp := p256_pos bs.length
  rw [tk8_cons, List.length_cons, Int.pow_succ]
  have h1 : 0 <= b * 256 ^ bs.length := Int.mul_nonneg hb.1 (Int.le_of_lt hp)
  have h2 : b * 256 ^ bs.length <= 255 * 256 ^ bs.length := Int.mul_le_mul_of_nonneg_right hb.2 (Int.le_of_lt hp)
  omega
theorem wd8_add (c n : Int) {j : Nat} : ∀ k, k <= j -> wd8 (c * 256 ^ j + n) k = wd8 n k := by
 intro k
 induction k with
 | zero => intro _; rfl
 | succ k ih =>
  intro hk
  have e : (c * 256 ^ j + n) / 256 ^ k % 256 = n / 256 ^ k % 256 := by
   have hp := p256_pos k
   obtain ⟨m, rfl⟩ : ∃ m, j = k + 1 + m := ⟨j - (k + 1), by omega⟩
   have e1 : c * 256 ^ (k + 1 + m) = (256 * (c * 256 ^ m)) * 256 ^ k := by
    rw [Int.pow_add, Int.pow_succ]
    simp only [Int.mul_assoc, Int.mul_comm, Int.mul_left_comm]
   rw [e1, Int.add_comm, Int.add_mul_ediv_right _ _ (by omega), Int.add_mul_emod_self_left]
  simp only [wd8, e, ih (by omega)]
theorem tk8_wd8 {n : Int} (h0 : 0 <= n) : ∀ {k : Nat}, n < 256 ^ k -> tk8 (wd8 n k) = n := by
 have key : ∀ k : Nat, tk8 (wd8 n k) = n % 256 ^ k := by
  intro k
  induction k with
  | zero => simp [wd8, tk8, Int.emod_one]
  | succ k ih =>
   have hp := p256_pos k
   show tk8 (n / 256 ^ k % 256 :: wd8 n k) = _
   rw [tk8_cons, wd8_len, ih, Int.pow_succ]
   have a1 := Int.mul_ediv_add_emod n (256 ^ k)
   have a2 := Int.mul_ediv_add_emod (n / 256 ^ k) 256
   have hr := Int.emod_nonneg n (show (256 : Int) ^ k ≠ 0 by omega)
   have hr2 := Int.emod_lt_of_pos n hp
   generalize hq : n / 256 ^ k = q at *
   generalize hm : n % 256 ^ k = r at *
   have hd := Int.emod_nonneg q (show (256 : Int) ≠ 0 by decide)
   have hd2 := Int.emod_lt_of_pos q (show (0 : Int) < 256 by decide)
   generalize hs : q % 256 = s at *
   generalize ht : q / 256 = t at *
   have en : n = s * 256 ^ k + r + (256 ^ k * 256) * t := by
    rw [<- a1, <- a2, Int.mul_add]
    have : (256 : Int) ^ k * (256 * t) = 256 ^ k * 256 * t := by rw [Int.mul_assoc]
    have : (256 : Int) ^ k * s = s * 256 ^ k := Int.mul_comm _ _
    omega
   rw [en, Int.add_mul_emod_self_left]
   have h2 : s * 256 ^ k <= 255 * 256 ^ k := Int.mul_le_mul_of_nonneg_right (by omega) (by omega)
   have h1 : 0 <= s * 256 ^ k := Int.mul_nonneg hd (by omega)
   exact (Int.emod_eq_of_lt (by omega) (by omega)).symm
 intro k hk
 rw [key k, Int.emod_eq_of_lt h0 hk]
theorem wd8_tk8 {bs : List Int} (h : By bs) : wd8 (tk8 bs) bs.length = bs := by
 induction bs with
 | nil => rfl
 | cons b bs ih =>
  have hb := h b List.mem_cons_self
  have ht := tk8_bd h.tail
  have hp := p256_pos bs.length
  rw [tk8_cons]
  show (b * 256 ^ bs.length + tk8 bs) / 256 ^ bs.length % 256 :: wd8 (b * 256 ^ bs.length + tk8 bs) bs.length = _
  rw [wd8_add _ _ _ (Nat.le_refl _), ih h.tail, Int.add_comm, Int.add_mul_ediv_right _ _ (by omega), Int.ediv_eq_zero_of_lt ht.1 ht.2, Int.zero_add, Int.emod_eq_of_lt hb.1 (by omega)]
def rdL (k : Nat) : Nat -> List Int -> List Int
 | 0, _ => []
 | n + 1, bs => tk8 (bs.take k) :: rdL k n (bs.drop k)
def wrL (k : Nat) (l : List Int) : List Int := (l.map (fun x => wd8 x k)).flatten
theorem rdL_len (k : Nat) : ∀ n bs, (rdL k n bs).length = n
 | 0, _ => rfl
 | n + 1, bs => by simp [rdL, rdL_len k n]
theorem wrL_len (k : Nat) (l : List Int) : (wrL k l).length = l.length * k := by
 induction l with
 | nil => simp [wrL]
 | cons x l ih =>
  show (wd8 x k ++ wrL k l).length = _
  rw [List.length_append, wd8_len, ih, List.length_cons, Nat.add_mul]; omega
theorem wrL_by (k : Nat) (l : List Int) : By (wrL k l) := by
 induction l with
 | nil => exact By.nil
 | cons x l ih => exact (wd8_by x k).app ih
theorem wrL_snoc (k : Nat) (l : List Int) (x : Int) : wrL k (l ++ [x]) = wrL k l ++ wd8 x k := by
 unfold wrL; rw [List.map_append, List.flatten_append]; simp
theorem rdL_snoc (k : Nat) : ∀ n bs, rdL k (n + 1) bs = rdL k n bs ++ [tk8 ((bs.drop (n * k)).take k)]
 | 0, bs => by simp [rdL]
 | n + 1, bs => by
  show tk8 (bs.take k) :: rdL k (n + 1) (bs.drop k) = tk8 (bs.take k) :: rdL k n (bs.drop k) ++ _
  rw [rdL_snoc k n (bs.drop k), List.drop_drop, List.cons_append]
  rw [show k + n * k = (n + 1) * k by rw [Nat.add_mul]; omega]
theorem rd_wr (k : Nat) (l rest : List Int) (h : ∀ x ∈ l, 0 <= x ∧ x < 256 ^ k) : rdL k l.length (wrL k l ++ rest) = l := by
 induction l with
 | nil => rfl
 | cons x l ih =>
  have hx := h x List.mem_cons_self
  show tk8 ((wd8 x k ++ wrL k l ++ rest).take k) :: rdL k l.length ((wd8 x k ++ wrL k l ++ rest).drop k) = _
  rw [List.append_assoc, List.take_left' (wd8_len x k), List.drop_left' (wd8_len x k), tk8_wd8 hx.1 hx.2, ih (fun y hy => h y (List.mem_cons_of_mem _ hy))]
theorem wr_rd (k : Nat) : ∀ (n : Nat) (bs : List Int), By bs -> n * k <= bs.length -> wrL k (rdL k n bs) = bs.take (n * k)
 | 0, bs, _, _ => by simp [rdL, wrL]
 | n + 1, bs, h, hl => by
  have hl2 : n * k + k <= bs.length := by rw [Nat.add_mul, Nat.one_mul] at hl; exact hl
  show wd8 (tk8 (bs.take k)) k ++ wrL k (rdL k n (bs.drop k)) = _
  have e1 : wd8 (tk8 (bs.take k)) k = bs.take k := by
   have := wd8_tk8 (h.take k)
   rw [List.length_take, Nat.min_eq_left (by omega)] at this
   exact this
  rw [e1, wr_rd k n (bs.drop k) (h.drop k) (by rw [List.length_drop]; omega), Nat.add_mul, Nat.one_mul, Nat.add_comm, List.take_add]
end Go.Proofs.YtipobchbnjgenaaGreat.Fld
namespace Go.Proofs.YtipobchbnjgenaaGreat.Fld
def sr (p : Int) : Setoid (Nat -> Int) := ⟨Al p, ⟨Al.refl p, Al.symm, Al.trans⟩⟩
def Pl (p : Int) : Type := Quotient (sr p)
def pu (p : Int) (f : Nat -> Int) : Pl p := Quotient.mk (sr p) f
theorem pu_eq {p : Int} {f g : Nat -> Int} (h : Al p f g) : pu p f = pu p g := Quotient.sound (s := sr p) h
def qa {p : Int} (x y : Pl p) : Pl p := Quotient.lift₂ (s₁ := sr p) (s₂ := sr p) (fun f g => pu p (fun i => f i + g i)) (fun _ _ _ _ h k => pu_eq (Al.add h k)) x y
def pl (p : Int) (xs : List Int) : Pl p := pu p (co xs)
end Go.Proofs.YtipobchbnjgenaaGreat.Fld
namespace Go.Proofs.YtipobchbnjgenaaGreat.Fld
def fac (p x : Int) : List Int := [sub p 0 x, 1]
def zl (p : Int) : List Int -> List Int
 | [] => [1]
 | x :: xs => prd p (fac p x) (zl p xs)
def ck (xs : List Int) (s i : Nat) : List Int := (xs.drop (i * s)).take s
def sf (F : Nat -> Int) : Nat -> Int := fun i => ((i : Int) + 1) * F (i + 1)
end Go.Proofs.YtipobchbnjgenaaGreat.Fld
namespace Go.Proofs.YtipobchbnjgenaaGreat.Rnk
def sm (f : Nat -> Int) : Nat -> Int
 | 0 => 0
 | n + 1 => sm f n + f n
end Go.Proofs.YtipobchbnjgenaaGreat.Rnk
namespace Go.Proofs.YtipobchbnjgenaaGreat.Rnk
open Go.Proofs.YtipobchbnjgenaaGreat.Fld
def mx (l : List (List Int)) (k m : Nat) : Int := co (l.getD k []) m
end Go.Proofs.YtipobchbnjgenaaGreat.Rnk
namespace Go.Proofs.YtipobchbnjgenaaGreat.Fld
def inW (f : Int) (l : List Int) : Bool := if f = 1 then l.all (fun x => decide (x < 2013265921)) else if f = 2 then l.all (fun x => decide (x < 18446744069414584321)) else false
def ctE (n : Int) : Int := if 0 <= n ∧ n <= 2147483647 then 0 else 2
def ctL (n : Int) : List Int := if ctE n = 0 then wd8 n 4 else []
def rcE (bs : List Int) : Int := if bs.length < 4 then 7 else if 2147483647 < tk8 (bs.take 4) then 8 else 0
def rcN (bs : List Int) : Int := if rcE bs = 0 then tk8 (bs.take 4) else 0
def rcS (bs : List Int) : Int := if rcE bs = 0 then 4 else 0
def wF (f : Int) : Nat := (4 * f).toNat
def lsE (f : Int) (l : List Int) : Int := if inW f l = true then if 4096 < l.length then 4 else 0 else 2
def lsF (f : Int) (l : List Int) : List Int := f :: (wd8 (l.length : Int) 4 ++ wrL (wF f) l)
def lsL (f : Int) (l : List Int) : List Int := if lsE f l = 0 then lsF f l else []
def rlF (bs : List Int) : Int := bs.getD 0 0
def rlN (bs : List Int) : Nat := (tk8 ((bs.drop 1).take 4)).toNat
def rlX (bs : List Int) : List Int := rdL (wF (rlF bs)) (rlN bs) (bs.drop 5)
def rlE (bs : List Int) : Int :=
 if bs.length = 0 then 7 else if rlF bs ≠ 1 ∧ rlF bs ≠ 2 then 8 else if rcE (bs.drop 1) ≠ 0 then rcE (bs.drop 1) else if 4096 < rlN bs then 4
 else if bs.length < 5 + rlN bs * wF (rlF bs) then 7 else if inW (rlF bs) (rlX bs) = true then 0 else 8
def slE (bs : List Int) : Int := if 1048576 < bs.length then 4 else 0
def hd8 (bs : List Int) : List Int := wd8 (bs.length : Int) 4 ++ bs
def slF (S : List Int -> Int) (bs : List Int) : List Int := hd8 bs ++ wd8 (S (hd8 bs)) 8
def slL (S : List Int -> Int) (bs : List Int) : List Int := if slE bs = 0 then slF S bs else []
def usN (bs : List Int) : Nat := (tk8 (bs.take 4)).toNat
def usE (S : List Int -> Int) (bs : List Int) : Int :=
 if rcE bs ≠ 0 then rcE bs else if 1048576 < usN bs then 4 else if bs.length < 12 + usN bs then 7
 else if tk8 ((bs.drop (4 + usN bs)).take 8) = S (bs.take (4 + usN bs)) then 0 else 80
def usL (S : List Int -> Int) (bs : List Int) : List Int := if usE S bs = 0 then (bs.drop 4).take (usN bs) else []
theorem ctE_nat {n : Nat} (h : n <= 2147483647) : (0 : Int) <= (n : Int) ∧ (n : Int) < 256 ^ 4 := by
 have : (256 : Int) ^ 4 = 4294967296 := by decide
 omega
theorem tk_count {n : Nat} (h : n <= 2147483647) (rest : List Int) : (wd8 (n : Int) 4 ++ rest).take 4 = wd8 (n : Int) 4 ∧ tk8 (wd8 (n : Int) 4) = n :=
 ⟨List.take_left' (wd8_len _ _), tk8_wd8 (ctE_nat h).1 (ctE_nat h).2⟩
theorem rc_count {n : Nat} (h : n <= 2147483647) (rest : List Int) : rcE (wd8 (n : Int) 4 ++ rest) = 0 := by
 unfold rcE
 rw [(tk_count h rest).1, (tk_count h rest).2, if_neg (by rw [List.length_append, wd8_len]; omega), if_neg (by omega)]
theorem rcE_zero {bs : List Int} (h : rcE bs = 0) : 4 <= bs.length ∧ tk8 (bs.take 4) <= 2147483647 := by
 unfold rcE at h
 by_cases h1 : bs.length < 4
 · rw [if_pos h1] at h; cases h
 · rw [if_neg h1] at h
   by_cases h2 : 2147483647 < tk8 (bs.take 4)
   · rw [if_pos h2] at h; cases h
   · exact ⟨by omega, by omega⟩
theorem rcE_or (bs : List Int) : rcE bs = 0 ∨ rcE bs = 7 ∨ rcE bs = 8 := by
 unfold rcE; split
 · exact .inr (.inl rfl)
 · split
   · exact .inr (.inr rfl)
   · exact .inl rfl
theorem wd_count {bs : List Int} (hb : By bs) (h : 4 <= bs.length) : wd8 (((tk8 (bs.take 4)).toNat : Nat) : Int) 4 = bs.take 4 := by
 have h1 := wd8_tk8 (hb.take 4)
 have h2 := (tk8_bd (hb.take 4)).1
 rw [List.length_take, Nat.min_eq_left h] at h1
 rw [Int.toNat_of_nonneg h2, h1]
theorem inW_field {f : Int} {l : List Int} (h : inW f l = true) : f = 1 ∨ f = 2 := by
 unfold inW at h
 by_cases h1 : f = 1
 · exact .inl h1
 · by_cases h2 : f = 2
   · exact .inr h2
   · rw [if_neg h1, if_neg h2] at h; cases h
theorem inW_wide {f : Int} {l : List Int} (h : inW f l = true) {x : Int} (hx : x ∈ l) : x < 256 ^ wF f := by
 rcases inW_field h with rfl | rfl
 · have h1 : l.all (fun x => decide (x < 2013265921)) = true := h
   have := of_decide_eq_true (List.all_eq_true.1 h1 x hx)
   have e : (256 : Int) ^ wF 1 = 4294967296 := by decide
   omega
 · have h1 : l.all (fun x => decide (x < 18446744069414584321)) = true := h
   have := of_decide_eq_true (List.all_eq_true.1 h1 x hx)
   have e : (256 : Int) ^ wF 2 = 18446744073709551616 := by decide
   omega
theorem lsF_len (f : Int) (l : List Int) : (lsF f l).length = 5 + l.length * wF f := by
 unfold lsF
 rw [List.length_cons, List.length_append, wd8_len, wrL_len]; omega
theorem lsF_by {f : Int} (hf : f = 1 ∨ f = 2) (l : List Int) : By (lsF f l) :=
 By.cons (by omega) (by omega) ((wd8_by _ _).app (wrL_by _ _))
theorem lsE_zero {f : Int} {l : List Int} (h : lsE f l = 0) : inW f l = true ∧ l.length <= 4096 := by
 unfold lsE at h
 by_cases h1 : inW f l = true
 · rw [if_pos h1] at h
   by_cases h2 : 4096 < l.length
   · rw [if_pos h2] at h; cases h
   · exact ⟨h1, by omega⟩
 · rw [if_neg h1] at h; cases h
theorem read_list {f : Int} {l : List Int} (h : lsE f l = 0) (h0 : ∀ x ∈ l, 0 <= x) (rest : List Int) : rlE (lsF f l ++ rest) = 0 ∧ rlF (lsF f l ++ rest) = f ∧ rlN (lsF f l ++ rest) = l.length ∧ rlX (lsF f l ++ rest) = l := by
 obtain ⟨hi, hl⟩ := lsE_zero h
 have hf := inW_field hi
 have e0 : lsF f l ++ rest = f :: (wd8 (l.length : Int) 4 ++ (wrL (wF f) l ++ rest)) := by
  show f :: (wd8 (l.length : Int) 4 ++ wrL (wF f) l ++ rest) = _
  rw [List.append_assoc]
 have e1 : rlF (lsF f l ++ rest) = f := by rw [e0]; rfl
 have e2 : (lsF f l ++ rest).drop 1 = wd8 (l.length : Int) 4 ++ (wrL (wF f) l ++ rest) := by rw [e0]; rfl
 have e3 : rlN (lsF f l ++ rest) = l.length := by
  unfold rlN
  rw [e2, (tk_count (by omega) _).1, (tk_count (by omega) []).2]; simp
 have e4 : (lsF f l ++ rest).drop 5 = wrL (wF f) l ++ rest := by
  rw [show (5 : Nat) = 1 + 4 from rfl, <- List.drop_drop, e2, List.drop_left' (wd8_len _ _)]
 have e5 : rlX (lsF f l ++ rest) = l := by
  unfold rlX
  rw [e1, e3, e4]
  exact rd_wr _ l rest (fun x hx => ⟨h0 x hx, inW_wide hi hx⟩)
 refine ⟨?_, e1, e3, e5⟩
 unfold rlE
 rw [e1, e2, e3, e5, rc_count (by omega) _, if_neg (by rw [e0]; simp), if_neg (by omega), if_neg (by simp), if_neg (by omega), if_neg (by rw [List.length_append, lsF_len]; omega), if_pos hi]
theorem rlE_zero {bs : List Int} (h : rlE bs = 0) : 0 < bs.length ∧ (rlF bs = 1 ∨ rlF bs = 2) ∧ rcE (bs.drop 1) = 0 ∧ rlN bs <= 4096 ∧ 5 + rlN bs * wF (rlF bs) <= bs.length ∧ inW (rlF bs) (rlX bs) = true := by
 unfold rlE at h
 by_cases h1 : bs.length = 0
 · rw [if_pos h1] at h; cases h
 · rw [if_neg h1] at h
   by_cases h2 : rlF bs ≠ 1 ∧ rlF bs ≠ 2
   · rw [if_pos h2] at h; cases h
   · rw [if_neg h2] at h
     by_cases h3 : rcE (bs.drop 1) ≠ 0
     · rw [if_pos h3] at h; exact absurd h h3
     · rw [if_neg h3] at h
       by_cases h4 : 4096 < rlN bs
       · rw [if_pos h4] at h; cases h
       · rw [if_neg h4] at h
         by_cases h5 : bs.length < 5 + rlN bs * wF (rlF bs)
         · rw [if_pos h5] at h; cases h
         · rw [if_neg h5] at h
           by_cases h6 : inW (rlF bs) (rlX bs) = true
           · exact ⟨by omega, by omega, by simpa using h3, by omega, by omega, h6⟩
           · rw [if_neg h6] at h; cases h
theorem rlX_len (bs : List Int) : (rlX bs).length = rlN bs := rdL_len _ _ _
theorem list_read {bs : List Int} (hb : By bs) (h : rlE bs = 0) : lsE (rlF bs) (rlX bs) = 0 ∧ lsF (rlF bs) (rlX bs) = bs.take (5 + rlN bs * wF (rlF bs)) := by
 obtain ⟨h0, h1, h2, h3, h4, h5⟩ := rlE_zero h
 have hc := (rcE_zero h2).1
 constructor
 · unfold lsE
   rw [if_pos h5, if_neg (by rw [rlX_len]; omega)]
 · have e1 : wd8 ((rlN bs : Nat) : Int) 4 = (bs.drop 1).take 4 := wd_count (hb.drop 1) hc
   have e2 : wrL (wF (rlF bs)) (rlX bs) = (bs.drop 5).take (rlN bs * wF (rlF bs)) := by
    unfold rlX
    exact wr_rd _ _ _ (hb.drop 5) (by rw [List.length_drop]; omega)
   have e0 : bs = rlF bs :: bs.drop 1 := by
    cases bs with
    | nil => simp at h0
    | cons b bs => rfl
   unfold lsF
   rw [rlX_len, e1, e2]
   generalize rlN bs * wF (rlF bs) = m
   have e3 : bs.take (5 + m) = rlF bs :: (bs.drop 1).take (4 + m) := by
    rw [show 5 + m = (4 + m) + 1 by omega]
    conv => lhs; rw [e0]
    rw [List.take_succ_cons]
   rw [e3, List.take_add, List.drop_drop]
theorem hd8_len (bs : List Int) : (hd8 bs).length = 4 + bs.length := by unfold hd8; rw [List.length_append, wd8_len]
theorem slF_len (S : List Int -> Int) (bs : List Int) : (slF S bs).length = 12 + bs.length := by unfold slF; rw [List.length_append, wd8_len, hd8_len]; omega
theorem hd8_by {bs : List Int} (h : By bs) : By (hd8 bs) := (wd8_by _ _).app h
theorem slF_by (S : List Int -> Int) {bs : List Int} (h : By bs) : By (slF S bs) := (hd8_by h).app (wd8_by _ _)
theorem unseal_seal {S : List Int -> Int} (hS : ∀ bs, 0 <= S bs ∧ S bs <= 18446744073709551615) {bs : List Int} (h : bs.length <= 1048576) (rest : List Int) : usE S (slF S bs ++ rest) = 0 ∧ usN (slF S bs ++ rest) = bs.length ∧ usL S (slF S bs ++ rest) = bs := by
 have e0 : slF S bs ++ rest = wd8 (bs.length : Int) 4 ++ (bs ++ (wd8 (S (hd8 bs)) 8 ++ rest)) := by
  unfold slF
  rw [show hd8 bs = wd8 (bs.length : Int) 4 ++ bs from rfl]
  simp only [List.append_assoc]
 have e1 : usN (slF S bs ++ rest) = bs.length := by
  unfold usN
  rw [e0, (tk_count (by omega) _).1, (tk_count (by omega) []).2]; simp
 have e2 : rcE (slF S bs ++ rest) = 0 := by rw [e0]; exact rc_count (by omega) _
 have e3 : (slF S bs ++ rest).take (4 + bs.length) = hd8 bs := by
  unfold slF
  rw [List.append_assoc, List.take_left' (hd8_len bs)]
 have e4 : ((slF S bs ++ rest).drop (4 + bs.length)).take 8 = wd8 (S (hd8 bs)) 8 := by
  unfold slF
  rw [List.append_assoc, List.drop_left' (hd8_len bs), List.take_left' (wd8_len _ _)]
 have e5 : usE S (slF S bs ++ rest) = 0 := by
  unfold usE
  have hw := hS (hd8 bs)
  have e : (256 : Int) ^ 8 = 18446744073709551616 := by decide
  rw [e1, e2, e3, e4, tk8_wd8 hw.1 (by omega), if_neg (by simp), if_neg (by omega), if_neg (by rw [List.length_append, slF_len]; omega), if_pos rfl]
 refine ⟨e5, e1, ?_⟩
 unfold usL
 rw [if_pos e5, e1, e0, List.drop_left' (wd8_len _ _), List.take_left' rfl]
theorem usE_zero {S : List Int -> Int} {bs : List Int} (h : usE S bs = 0) : rcE bs = 0 ∧ usN bs <= 1048576 ∧ 12 + usN bs <= bs.length ∧ tk8 ((bs.drop (4 + usN bs)).take 8) = S (bs.take (4 + usN bs)) := by
 unfold usE at h
 by_cases h1 : rcE bs ≠ 0
 · rw [if_pos h1] at h; exact absurd h h1
 · rw [if_neg h1] at h
   by_cases h2 : 1048576 < usN bs
   · rw [if_pos h2] at h; cases h
   · rw [if_neg h2] at h
     by_cases h3 : bs.length < 12 + usN bs
     · rw [if_pos h3] at h; cases h
     · rw [if_neg h3] at h
       by_cases h4 : tk8 ((bs.drop (4 + usN bs)).take 8) = S (bs.take (4 + usN bs))
       · exact ⟨by simpa using h1, by omega, by omega, h4⟩
       · rw [if_neg h4] at h; cases h
theorem usL_len {S : List Int -> Int} {bs : List Int} (h : usE S bs = 0) : (usL S bs).length = usN bs := by
 obtain ⟨_, _, h3, _⟩ := usE_zero h
 unfold usL
 rw [if_pos h, List.length_take, List.length_drop]; omega
theorem seal_unseal {S : List Int -> Int} {bs : List Int} (hb : By bs) (h : usE S bs = 0) : slE (usL S bs) = 0 ∧ slF S (usL S bs) = bs.take (12 + usN bs) := by
 obtain ⟨h1, h2, h3, h4⟩ := usE_zero h
 have hl := usL_len h
 constructor
 · unfold slE
   rw [if_neg (by omega)]
 · have e1 : hd8 (usL S bs) = bs.take (4 + usN bs) := by
    unfold hd8
    rw [hl, show wd8 ((usN bs : Nat) : Int) 4 = bs.take 4 from wd_count hb (rcE_zero h1).1]
    unfold usL
    rw [if_pos h, List.take_add]
   have e2 : wd8 (S (bs.take (4 + usN bs))) 8 = (bs.drop (4 + usN bs)).take 8 := by
    have := wd8_tk8 ((hb.drop (4 + usN bs)).take 8)
    rw [List.length_take, List.length_drop, Nat.min_eq_left (by omega), h4] at this
    exact this
   unfold slF
   rw [e1, e2, show 12 + usN bs = (4 + usN bs) + 8 by omega]
   exact List.take_add.symm
theorem turned {S : List Int -> Int} {bs : List Int} (hb : By bs) {k : Nat} {v : Int} (hk : k < (slF S bs).length) (h0 : 0 <= v) (h1 : v <= 255) (hv : v ≠ (slF S bs).getD k 0) :
 usE S ((slF S bs).set k v) ≠ 0 ∨ usL S ((slF S bs).set k v) ≠ bs ∨ 12 + usN ((slF S bs).set k v) ≠ (slF S bs).length := by
 apply Classical.byContradiction
 intro hc
 have hc1 : usE S ((slF S bs).set k v) = 0 := Classical.byContradiction fun h => hc (.inl h)
 have hc2 : usL S ((slF S bs).set k v) = bs := Classical.byContradiction fun h => hc (.inr (.inl h))
 have hc3 : 12 + usN ((slF S bs).set k v) = (slF S bs).length := Classical.byContradiction fun h => hc (.inr (.inr h))
 have hy : By ((slF S bs).set k v) := fun x hx => by
  rcases List.mem_or_eq_of_mem_set hx with h | rfl
  · exact slF_by S hb x h
  · exact ⟨h0, h1⟩
 have e := (seal_unseal hy hc1).2
 rw [hc2, List.take_of_length_le (by rw [List.length_set]; omega)] at e
 apply hv
 rw [e, List.getD_eq_getElem?_getD, List.getElem?_set_self hk]; rfl
end Go.Proofs.YtipobchbnjgenaaGreat.Fld
namespace Go.Proofs.YtipobchbnjgenaaGreat.Fld
structure Dsk where
 l : List (List Int)
 f : Int
 x : Bool
 n : Nat
def dk0 : Dsk := ⟨[], -1, false, 0⟩
def dieD (D : Dsk) : Bool := D.x || decide (D.f = 0)
def didD (D : Dsk) (l : List (List Int)) : Dsk := ⟨l, if 0 < D.f then D.f - 1 else D.f, D.x, D.n + 1⟩
def wrE22 (D : Dsk) (b : List Int) : Int := if b.length = 32 then if dieD D = true then 220 else if 65536 <= D.l.length then 4 else 0 else 2
def wrN22 (D : Dsk) (b : List Int) : Dsk := if wrE22 D b = 0 then didD D (D.l ++ [b]) else if wrE22 D b = 220 then { D with x := true } else D
def tmE (D : Dsk) (i : Int) : Int := if 0 <= i ∧ i <= (D.l.length : Int) then if dieD D = true then 220 else 0 else 2
def tmN (D : Dsk) (i : Int) : Dsk := if tmE D i = 0 then didD D (D.l.take i.toNat) else if tmE D i = 220 then { D with x := true } else D
def fuE (i : Int) : Int := if 0 <= i then 0 else 2
def fuN (D : Dsk) (i : Int) : Dsk := if fuE i = 0 then { D with f := i } else D
def mdN (D : Dsk) : Dsk := { D with f := -1, x := false }
structure DskOk (D : Dsk) : Prop where
 len : D.l.length <= 65536
 blk : ∀ b ∈ D.l, b.length = 32
 fu : -1 <= D.f
theorem dk0_ok : DskOk dk0 := ⟨by simp [dk0], fun b hb => by simp [dk0] at hb, by simp [dk0]⟩
theorem didD_ok {D : Dsk} (h : DskOk D) {l : List (List Int)} (h1 : l.length <= 65536) (h2 : ∀ b ∈ l, b.length = 32) : DskOk (didD D l) := ⟨h1, h2, by
 have := h.fu
 unfold didD
 dsimp only
 split <;> omega⟩
theorem wr_zero {D : Dsk} {b : List Int} (h : wrE22 D b = 0) : b.length = 32 ∧ dieD D = false ∧ D.l.length < 65536 := by
 unfold wrE22 at h
 split at h
 · split at h
   · omega
   · split at h
     · omega
     · rename_i h1 h2 h3
       exact ⟨h1, by simpa using h2, by omega⟩
 · omega
theorem wrN_ok {D : Dsk} (h : DskOk D) (b : List Int) : DskOk (wrN22 D b) := by
 unfold wrN22
 split
 · rename_i e
   obtain ⟨h1, _, h3⟩ := wr_zero e
   refine didD_ok h (by simp; omega) (fun c hc => ?_)
   rcases List.mem_append.1 hc with hc | hc
   · exact h.blk c hc
   · rw [List.mem_singleton.1 hc]; exact h1
 · split
   · exact ⟨h.len, h.blk, h.fu⟩
   · exact h
theorem tmN_ok {D : Dsk} (h : DskOk D) (i : Int) : DskOk (tmN D i) := by
 unfold tmN
 split
 · exact didD_ok h (by rw [List.length_take]; have := h.len; omega) (fun c hc => h.blk c (List.mem_of_mem_take hc))
 · split
   · exact ⟨h.len, h.blk, h.fu⟩
   · exact h
theorem fuN_ok {D : Dsk} (h : DskOk D) (i : Int) : DskOk (fuN D i) := by
 unfold fuN
 split
 · rename_i e
   exact ⟨h.len, h.blk, by
    unfold fuE at e
    dsimp only
    split at e <;> omega⟩
 · exact h
theorem mdN_ok {D : Dsk} (h : DskOk D) : DskOk (mdN D) := ⟨h.len, h.blk, by simp [mdN]⟩
theorem wrN_n (D : Dsk) (b : List Int) : (wrN22 D b).n <= D.n + 1 := by unfold wrN22 didD; split <;> (try split) <;> simp
theorem tmN_n (D : Dsk) (i : Int) : (tmN D i).n <= D.n + 1 := by unfold tmN didD; split <;> (try split) <;> simp
end Go.Proofs.YtipobchbnjgenaaGreat.Fld
namespace Go.Proofs.YtipobchbnjgenaaGreat.Fld
def jrN (n : Nat) : Nat := (n + 43) / 32
theorem jrN_bd (n : Nat) : 12 + n <= 32 * jrN n ∧ 32 * jrN n < 44 + n ∧ 1 <= jrN n := by unfold jrN; omega
def jrB (S : List Int -> Int) (r : List Int) : List Int := slF S r ++ List.replicate (32 * jrN r.length - (12 + r.length)) 0
theorem jrB_len (S : List Int -> Int) (r : List Int) : (jrB S r).length = 32 * jrN r.length := by
 unfold jrB
 rw [List.length_append, slF_len, List.length_replicate]
 have := jrN_bd r.length
 omega
theorem jrB_by (S : List Int -> Int) {r : List Int} (h : By r) : By (jrB S r) := (slF_by S h).app (fun x hx => by rw [List.eq_of_mem_replicate hx]; exact ⟨by decide, by decide⟩)
def jrH (S : List Int -> Int) (zs : List Int) : Bool := decide (usE S zs = 0) && decide (jrB S (usL S zs) = zs.take (32 * jrN (usN zs)))
def jrR (S : List Int -> Int) : Nat -> List Int -> List (List Int)
 | 0, _ => []
 | k + 1, zs => if jrH S zs = true then usL S zs :: jrR S k (zs.drop (32 * jrN (usN zs))) else []
def jrW : List (List Int) -> Nat
 | [] => 0
 | r :: rs => jrN r.length + jrW rs
theorem jrW_app (as bs : List (List Int)) : jrW (as ++ bs) = jrW as + jrW bs := by
 induction as with
 | nil => simp [jrW]
 | cons a as ih => simp only [List.cons_append, jrW, ih]; omega
theorem jrB_flat (S : List Int -> Int) (rs : List (List Int)) : (rs.flatMap (jrB S)).length = 32 * jrW rs := by
 induction rs with
 | nil => rfl
 | cons r rs ih => rw [List.flatMap_cons, List.length_append, jrB_len, ih]; simp only [jrW]; omega
theorem jrW_ge (rs : List (List Int)) : rs.length <= jrW rs := by
 induction rs with
 | nil => exact Nat.le_refl _
 | cons r rs ih => have := jrN_bd r.length; simp only [jrW, List.length_cons]; omega
section
variable {S : List Int -> Int}
theorem jr_here (hS : ∀ bs, 0 <= S bs ∧ S bs <= 18446744073709551615) {r : List Int} (h : r.length <= 1048576) (rest : List Int) : jrH S (jrB S r ++ rest) = true ∧ usL S (jrB S r ++ rest) = r ∧ usN (jrB S r ++ rest) = r.length ∧ (jrB S r ++ rest).drop (32 * jrN r.length) = rest := by
 have e0 : jrB S r ++ rest = slF S r ++ (List.replicate (32 * jrN r.length - (12 + r.length)) 0 ++ rest) := by unfold jrB; rw [List.append_assoc]
 obtain ⟨h1, h2, h3⟩ := unseal_seal hS h (List.replicate (32 * jrN r.length - (12 + r.length)) 0 ++ rest)
 rw [<- e0] at h1 h2 h3
 refine ⟨?_, h3, h2, List.drop_left' (jrB_len S r)⟩
 unfold jrH
 rw [h1, h2, h3, List.take_left' (jrB_len S r)]
 simp
theorem jr_part {r : List Int} (h : r.length <= 1048576) {j : Nat} (hj : j < jrN r.length) : jrH S ((jrB S r).take (32 * j)) = false := by
 have hn := jrN_bd r.length
 have hl : ((jrB S r).take (32 * j)).length = 32 * j := by rw [List.length_take, jrB_len]; omega
 have key : usE S ((jrB S r).take (32 * j)) ≠ 0 := by
  intro hc
  obtain ⟨h1, h2, h3, _⟩ := usE_zero hc
  have h4 := (rcE_zero h1).1
  have hj1 : 1 <= j := by omega
  have e : ((jrB S r).take (32 * j)).take 4 = wd8 (r.length : Int) 4 := by
   rw [List.take_take, Nat.min_eq_left (by omega)]
   unfold jrB slF hd8
   simp only [List.append_assoc]
   exact List.take_left' (wd8_len _ _)
  have e2 : usN ((jrB S r).take (32 * j)) = r.length := by
   unfold usN
   rw [e, (tk_count (by omega) []).2]; simp
  rw [e2] at h3
  omega
 unfold jrH
 rw [decide_eq_false key]; rfl
theorem jr_nil : jrH S [] = false := rfl
theorem jrR_stop {zs : List Int} (h : jrH S zs = false) : ∀ k, jrR S k zs = []
 | 0 => rfl
 | k + 1 => by unfold jrR; rw [if_neg (by rw [h]; decide)]
theorem jr_read (hS : ∀ bs, 0 <= S bs ∧ S bs <= 18446744073709551615) : ∀ (rs : List (List Int)) (hr : ∀ r ∈ rs, r.length <= 1048576) {tl : List Int} (ht : jrH S tl = false) (k : Nat) (hk : rs.length <= k), jrR S k (rs.flatMap (jrB S) ++ tl) = rs
 | [], _, tl, ht, k, _ => by rw [List.flatMap_nil, List.nil_append]; exact jrR_stop ht k
 | r :: rs, hr, tl, ht, 0, hk => by simp at hk
 | r :: rs, hr, tl, ht, k + 1, hk => by
  obtain ⟨h1, h2, h3, h4⟩ := jr_here hS (hr r List.mem_cons_self) (rs.flatMap (jrB S) ++ tl)
  rw [List.flatMap_cons, List.append_assoc]
  unfold jrR
  rw [if_pos h1, h2, h3, h4, jr_read hS rs (fun x hx => hr x (List.mem_cons_of_mem _ hx)) ht k (by simpa using hk)]
theorem jrH_iff {zs : List Int} (h : jrH S zs = true) : usE S zs = 0 ∧ (usL S zs).length = usN zs ∧ (usL S zs).length <= 1048576 ∧ jrB S (usL S zs) = zs.take (32 * jrN (usN zs)) ∧ 32 * jrN (usN zs) <= zs.length := by
 unfold jrH at h
 rw [Bool.and_eq_true, decide_eq_true_iff, decide_eq_true_iff] at h
 obtain ⟨h1, h2⟩ := h
 have hl := usL_len h1
 have hu := (usE_zero h1).2.1
 refine ⟨h1, hl, by omega, h2, ?_⟩
 have := congrArg List.length h2
 rw [jrB_len, hl, List.length_take] at this
 omega
theorem jr_what : ∀ (k : Nat) (zs : List Int), (jrR S k zs).flatMap (jrB S) = zs.take (32 * jrW (jrR S k zs)) ∧ 32 * jrW (jrR S k zs) <= zs.length ∧ ∀ r ∈ jrR S k zs, r.length <= 1048576
 | 0, zs => ⟨by simp [jrR, jrW], by simp [jrR, jrW], fun r hr => by cases hr⟩
 | k + 1, zs => by
  unfold jrR
  by_cases h : jrH S zs = true
  · rw [if_pos h]
    obtain ⟨h1, h2, h3, h4, h5⟩ := jrH_iff h
    obtain ⟨i1, i2, i3⟩ := jr_what k (zs.drop (32 * jrN (usN zs)))
    rw [List.length_drop] at i2
    refine ⟨?_, ?_, fun r hr => ?_⟩
    · rw [List.flatMap_cons, i1, h4]
      simp only [jrW, h2]
      rw [Nat.mul_add, List.take_add]
    · simp only [jrW, h2]; omega
    · rcases List.mem_cons.1 hr with rfl | hr
      · exact h3
      · exact i3 r hr
  · rw [if_neg h]
    exact ⟨by simp [jrW], by simp [jrW], fun r hr => by cases hr⟩
theorem jr_fuel : ∀ (k m : Nat) (zs : List Int), zs.length <= 32 * k -> zs.length <= 32 * m -> jrR S k zs = jrR S m zs
 | 0, m, zs, hk, _ => by
  have : zs = [] := List.length_eq_zero_iff.1 (by omega)
  subst this
  exact (jrR_stop jr_nil m).symm
 | k + 1, 0, zs, _, hm => by
  have : zs = [] := List.length_eq_zero_iff.1 (by omega)
  subst this
  exact jrR_stop jr_nil (k + 1)
 | k + 1, m + 1, zs, hk, hm => by
  unfold jrR
  by_cases h : jrH S zs = true
  · rw [if_pos h, if_pos h]
    have hb := jrN_bd (usN zs)
    rw [jr_fuel k m (zs.drop (32 * jrN (usN zs))) (by rw [List.length_drop]; omega) (by rw [List.length_drop]; omega)]
  · rw [if_neg h, if_neg h]
end
def ck32 : Nat -> List Int -> List (List Int)
 | 0, _ => []
 | k + 1, zs => zs.take 32 :: ck32 k (zs.drop 32)
theorem ck32_len (k : Nat) (zs : List Int) : (ck32 k zs).length = k := by
 induction k generalizing zs with
 | zero => rfl
 | succ k ih => unfold ck32; rw [List.length_cons, ih]
theorem ck32_at : ∀ (k : Nat) (zs : List Int) (i : Nat), i < k -> (ck32 k zs)[i]? = some ((zs.drop (32 * i)).take 32)
 | 0, zs, i, h => by omega
 | k + 1, zs, 0, h => by unfold ck32; simp
 | k + 1, zs, i + 1, h => by
  unfold ck32
  rw [List.getElem?_cons_succ, ck32_at k (zs.drop 32) i (by omega), List.drop_drop]
  congr 3
  omega
theorem ck32_32 {k : Nat} {zs : List Int} (h : zs.length = 32 * k) : ∀ b ∈ ck32 k zs, b.length = 32 := fun b hb => by
 obtain ⟨i, hi⟩ := List.getElem?_of_mem hb
 have hk : i < k := by have := (List.getElem?_eq_some_iff.1 hi).1; rwa [ck32_len] at this
 rw [ck32_at k zs i hk] at hi
 injection hi with hi
 rw [<- hi, List.length_take, List.length_drop]
 omega
theorem ck32_take : ∀ (k j : Nat) (zs : List Int), j <= k -> ((ck32 k zs).take j).flatten = zs.take (32 * j)
 | k, 0, zs, _ => by simp
 | 0, j + 1, zs, h => by omega
 | k + 1, j + 1, zs, h => by
  unfold ck32
  rw [List.take_succ_cons, List.flatten_cons, ck32_take k j (zs.drop 32) (by omega), show 32 * (j + 1) = 32 + 32 * j by omega, List.take_add]
def jrC (S : List Int -> Int) (r : List Int) : List (List Int) := ck32 (jrN r.length) (jrB S r)
theorem flat_len32 {l : List (List Int)} (h : ∀ b ∈ l, b.length = 32) : l.flatten.length = 32 * l.length := by
 induction l with
 | nil => rfl
 | cons b l ih => rw [List.flatten_cons, List.length_append, h b List.mem_cons_self, ih (fun x hx => h x (List.mem_cons_of_mem _ hx)), List.length_cons]; omega
theorem flat_take32 : ∀ (l : List (List Int)) (h : ∀ b ∈ l, b.length = 32) (k : Nat), (l.take k).flatten = l.flatten.take (32 * k)
 | [], _, k => by simp
 | b :: l, h, 0 => by simp
 | b :: l, h, k + 1 => by
  have hb := h b List.mem_cons_self
  rw [List.take_succ_cons, List.flatten_cons, List.flatten_cons, flat_take32 l (fun x hx => h x (List.mem_cons_of_mem _ hx)) k, show 32 * (k + 1) = b.length + 32 * k by omega, List.take_length_add_append]
def wsE : Dsk -> List (List Int) -> Int
 | _, [] => 0
 | D, b :: bs => if wrE22 D b = 0 then wsE (wrN22 D b) bs else wrE22 D b
def wsN : Dsk -> List (List Int) -> Dsk
 | D, [] => D
 | D, b :: bs => if wrE22 D b = 0 then wsN (wrN22 D b) bs else wrN22 D b
theorem wsN_ok : ∀ (bs : List (List Int)) {D : Dsk}, DskOk D -> DskOk (wsN D bs)
 | [], D, h => h
 | b :: bs, D, h => by
  unfold wsN
  split
  · exact wsN_ok bs (wrN_ok h b)
  · exact wrN_ok h b
end Go.Proofs.YtipobchbnjgenaaGreat.Fld
namespace Go.Proofs.YtipobchbnjgenaaGreat.Fld
section
variable (S : List Int -> Int)
def apE23 (D : Dsk) (r : List Int) : Int := if 1048576 < r.length then 4 else wsE D (jrC S r)
def apN23 (D : Dsk) (r : List Int) : Dsk := if 1048576 < r.length then D else wsN D (jrC S r)
def rdD (D : Dsk) : List (List Int) := jrR S D.l.length D.l.flatten
def opE23 (D : Dsk) : Int := if jrW (rdD S D) < D.l.length then tmE D (jrW (rdD S D) : Int) else 0
def opN23 (D : Dsk) : Dsk := if jrW (rdD S D) < D.l.length then tmN D (jrW (rdD S D) : Int) else D
def opR23 (D : Dsk) : List (List Int) := if opE23 S D = 0 then rdD S D else []
structure Jex (D : Dsk) (rs : List (List Int)) : Prop where
 flat : D.l.flatten = rs.flatMap (jrB S)
 len : ∀ r ∈ rs, r.length <= 1048576
 ok : DskOk D
structure Jkp (D : Dsk) (rs : List (List Int)) : Prop where
 flat : ∃ tl, D.l.flatten = rs.flatMap (jrB S) ++ tl ∧ jrH S tl = false
 len : ∀ r ∈ rs, r.length <= 1048576
 ok : DskOk D
end
section
variable {S : List Int -> Int}
theorem Jex.kp {D : Dsk} {rs : List (List Int)} (h : Jex S D rs) : Jkp S D rs := ⟨⟨[], by rw [h.flat, List.append_nil], rfl⟩, h.len, h.ok⟩
theorem jex_new : Jex S dk0 [] := ⟨rfl, fun r hr => (by cases hr), dk0_ok⟩
theorem Jkp.of_l {D E : Dsk} {rs : List (List Int)} (h : Jkp S D rs) (e : E.l = D.l) (ho : DskOk E) : Jkp S E rs := ⟨by rw [e]; exact h.flat, h.len, ho⟩
theorem Jex.of_l {D E : Dsk} {rs : List (List Int)} (h : Jex S D rs) (e : E.l = D.l) (ho : DskOk E) : Jex S E rs := ⟨by rw [e]; exact h.flat, h.len, ho⟩
theorem Jkp.count {D : Dsk} {rs : List (List Int)} (h : Jkp S D rs) : jrW rs <= D.l.length := by
 obtain ⟨tl, h1, _⟩ := h.flat
 have h2 := flat_len32 h.ok.blk
 rw [h1, List.length_append, jrB_flat] at h2
 omega
theorem Jkp.read (hS : ∀ bs, 0 <= S bs ∧ S bs <= 18446744073709551615) {D : Dsk} {rs : List (List Int)} (h : Jkp S D rs) : rdD S D = rs := by
 obtain ⟨tl, h1, h2⟩ := h.flat
 unfold rdD
 rw [h1]
 exact jr_read hS rs h.len h2 _ (Nat.le_trans (jrW_ge rs) h.count)
theorem Jkp.open_ (hS : ∀ bs, 0 <= S bs ∧ S bs <= 18446744073709551615) {D : Dsk} {rs : List (List Int)} (h : Jkp S D rs) : Jkp S (opN23 S D) rs ∧ (dieD D = false -> opE23 S D = 0 ∧ opR23 S D = rs ∧ Jex S (opN23 S D) rs) := by
 have hr := h.read hS
 have hc := h.count
 unfold opN23 opR23 opE23
 rw [hr]
 by_cases hw : jrW rs < D.l.length
 · rw [if_pos hw, if_pos hw]
   have ht : (D.l.take (jrW rs)).flatten = rs.flatMap (jrB S) := by
    obtain ⟨tl, h1, _⟩ := h.flat
    rw [flat_take32 _ h.ok.blk, h1, List.take_left' (jrB_flat S rs)]
   have ok := tmN_ok h.ok (jrW rs : Int)
   cases hd : dieD D with
   | true =>
    have e : tmE D (jrW rs : Int) = 220 := by unfold tmE; rw [if_pos (by omega), if_pos hd]
    refine ⟨h.of_l ?_ ok, fun hc => by cases hc⟩
    unfold tmN
    rw [if_neg (by omega), if_pos e]
   | false =>
    have e : tmE D (jrW rs : Int) = 0 := by unfold tmE; rw [if_pos (by omega), if_neg (by rw [hd]; decide)]
    have el : (tmN D (jrW rs : Int)).l = D.l.take (jrW rs) := by unfold tmN; rw [if_pos e]; show D.l.take (Int.toNat _) = _; rw [Int.toNat_natCast]
    have hx : Jex S (tmN D (jrW rs : Int)) rs := ⟨by rw [el, ht], h.len, ok⟩
    exact ⟨hx.kp, fun _ => ⟨e, by rw [if_pos e], hx⟩⟩
 · rw [if_neg hw, if_neg hw, if_pos rfl]
   refine ⟨h, fun _ => ⟨rfl, rfl, ⟨?_, h.len, h.ok⟩⟩⟩
   obtain ⟨tl, h1, _⟩ := h.flat
   have h2 := flat_len32 h.ok.blk
   have h3 := congrArg List.length h1
   rw [List.length_append, jrB_flat] at h3
   have : tl = [] := List.length_eq_zero_iff.1 (by omega)
   rw [h1, this, List.append_nil]
theorem md_die (D : Dsk) : dieD (mdN D) = false := by simp [dieD, mdN]
end
end Go.Proofs.YtipobchbnjgenaaGreat.Fld
namespace Go.Proofs.YtipobchbnjgenaaGreat.Fld
structure Mg where
 k : Int
 r : Int
 v : Int
 f : Int
 l : List Int
def mg0 : Mg := ⟨0, 0, 0, 0, []⟩
def mgM (m : Mg) : Bool := decide ((m.k = 1 ∨ m.k = 2) ∧ 0 <= m.r ∧ m.r < 65536 ∧ 0 <= m.v ∧ m.v < 64 ∧ inW m.f m.l = true ∧ m.l.length <= 64)
def mgS (m n : Mg) : Bool := decide (m.k = n.k ∧ m.r = n.r ∧ m.v = n.v ∧ m.f = n.f ∧ m.l = n.l)
def mgI (m : Mg) : List Int := m.k :: (wd8 m.r 4 ++ (wd8 m.v 4 ++ lsF m.f m.l))
def mwE (m : Mg) : Int := if mgM m = true then 0 else 2
def mwI (m : Mg) : List Int := if mgM m = true then mgI m else []
def mwL (S : List Int -> Int) (m : Mg) : List Int := if mgM m = true then slF S (mgI m) else []
def miM (is : List Int) : Mg := ⟨is.getD 0 0, tk8 ((is.drop 1).take 4), tk8 ((is.drop 5).take 4), rlF (is.drop 9), rlX (is.drop 9)⟩
def miK (is : List Int) : Bool := decide (9 <= is.length ∧ rlE (is.drop 9) = 0 ∧ mgM (miM is) = true ∧ mgI (miM is) = is)
def mrE (S : List Int -> Int) (bs : List Int) : Int := if usE S bs ≠ 0 then usE S bs else if 12 + usN bs = bs.length ∧ miK (usL S bs) = true then 0 else 8
def mrM (S : List Int -> Int) (bs : List Int) : Mg := if mrE S bs = 0 then miM (usL S bs) else mg0
theorem mgM_facts {m : Mg} (h : mgM m = true) : (m.k = 1 ∨ m.k = 2) ∧ 0 <= m.r ∧ m.r < 65536 ∧ 0 <= m.v ∧ m.v < 64 ∧ inW m.f m.l = true ∧ m.l.length <= 64 := of_decide_eq_true h
theorem mgM_ls {m : Mg} (h : mgM m = true) : lsE m.f m.l = 0 := by
 obtain ⟨_, _, _, _, _, h6, h7⟩ := mgM_facts h
 unfold lsE
 rw [if_pos h6, if_neg (by omega)]
theorem mgI_by {m : Mg} (h : mgM m = true) : By (mgI m) := by
 obtain ⟨h1, _, _, _, _, h6, _⟩ := mgM_facts h
 exact By.cons (by omega) (by omega) ((wd8_by _ _).app ((wd8_by _ _).app (lsF_by (inW_field h6) _)))
theorem mgI_len {m : Mg} (h : mgM m = true) : 14 <= (mgI m).length ∧ (mgI m).length <= 526 := by
 obtain ⟨_, _, _, _, _, h6, h7⟩ := mgM_facts h
 have e : (mgI m).length = 9 + (5 + m.l.length * wF m.f) := by
  unfold mgI
  rw [List.length_cons, List.length_append, List.length_append, wd8_len, wd8_len, lsF_len]; omega
 have hq : wF m.f <= 8 := by rcases inW_field h6 with e | e <;> rw [e] <;> decide
 have hm : m.l.length * wF m.f <= 64 * 8 := Nat.mul_le_mul h7 hq
 omega
theorem mi_of_mg {m : Mg} (h : mgM m = true) (h0 : ∀ x ∈ m.l, 0 <= x) : miM (mgI m) = m ∧ miK (mgI m) = true := by
 obtain ⟨h1, h2, h3, h4, h5, h6, h7⟩ := mgM_facts h
 have hL := mgI_len h
 have r4 : (256 : Int) ^ 4 = 4294967296 := by decide
 have d1 : (mgI m).drop 1 = wd8 m.r 4 ++ (wd8 m.v 4 ++ lsF m.f m.l) := rfl
 have d5 : (mgI m).drop 5 = wd8 m.v 4 ++ lsF m.f m.l := by
  rw [show (5 : Nat) = 1 + 4 from rfl, <- List.drop_drop, d1, List.drop_left' (wd8_len _ _)]
 have d9 : (mgI m).drop 9 = lsF m.f m.l := by
  rw [show (9 : Nat) = 5 + 4 from rfl, <- List.drop_drop, d5, List.drop_left' (wd8_len _ _)]
 obtain ⟨q1, q2, q3, q4⟩ := read_list (mgM_ls h) h0 []
 rw [List.append_nil] at q1 q2 q3 q4
 have e : miM (mgI m) = m := by
  unfold miM
  rw [d1, d5, d9, q2, q4, List.take_left' (wd8_len _ _), List.take_left' (wd8_len _ _), tk8_wd8 h2 (by omega), tk8_wd8 h4 (by omega)]
  rfl
 refine ⟨e, decide_eq_true ⟨by omega, by rw [d9]; exact q1, by rw [e]; exact h, by rw [e]⟩⟩
theorem miK_facts {is : List Int} (h : miK is = true) : 9 <= is.length ∧ rlE (is.drop 9) = 0 ∧ mgM (miM is) = true ∧ mgI (miM is) = is := of_decide_eq_true h
theorem miK_iff {is : List Int} (hb : By is) : miK is = true ↔ 0 < is.length ∧ rcE (is.drop 1) = 0 ∧ rcE (is.drop 5) = 0 ∧ rlE (is.drop 9) = 0 ∧ (is.drop 9).length = 5 + rlN (is.drop 9) * wF (rlF (is.drop 9)) ∧ mgM (miM is) = true := by
 constructor
 · intro h
   obtain ⟨h1, h2, h3, h4⟩ := miK_facts h
   obtain ⟨_, g2, g3, g4, g5, _, _⟩ := mgM_facts h3
   have k1 : rcE (is.drop 1) = 0 := by
    unfold rcE
    have : tk8 ((is.drop 1).take 4) < 65536 := g3
    rw [if_neg (by rw [List.length_drop]; omega), if_neg (by omega)]
   have k5 : rcE (is.drop 5) = 0 := by
    unfold rcE
    have : tk8 ((is.drop 5).take 4) < 64 := g5
    rw [if_neg (by rw [List.length_drop]; omega), if_neg (by omega)]
   refine ⟨by omega, k1, k5, h2, ?_, h3⟩
   have e1 : (mgI (miM is)).length = is.length := by rw [h4]
   have e2 : (mgI (miM is)).length = 9 + (5 + rlN (is.drop 9) * wF (rlF (is.drop 9))) := by
    unfold mgI
    rw [List.length_cons, List.length_append, List.length_append, wd8_len, wd8_len, lsF_len]
    show 4 + (4 + (5 + (rlX (is.drop 9)).length * wF (rlF (is.drop 9)))) + 1 = _
    rw [rlX_len]; omega
   rw [List.length_drop]; omega
 · rintro ⟨h0, h1, h5, h9, hl, hm⟩
   have l1 := (rcE_zero h1).1
   have l5 := (rcE_zero h5).1
   have l9 := (rlE_zero h9).1
   rw [List.length_drop] at l1 l5 l9
   refine decide_eq_true ⟨by omega, h9, hm, ?_⟩
   have w1 := wd8_tk8 ((hb.drop 1).take 4)
   have w5 := wd8_tk8 ((hb.drop 5).take 4)
   rw [List.length_take, List.length_drop, Nat.min_eq_left (by omega)] at w1 w5
   have w9 := (list_read (hb.drop 9) h9).2
   rw [<- hl, List.take_length] at w9
   show is.getD 0 0 :: (wd8 (tk8 ((is.drop 1).take 4)) 4 ++ (wd8 (tk8 ((is.drop 5).take 4)) 4 ++ lsF (rlF (is.drop 9)) (rlX (is.drop 9)))) = is
   rw [w1, w5, w9]
   have e5 : (is.drop 5).take 4 ++ is.drop 9 = is.drop 5 := by
    have := List.take_append_drop 4 (is.drop 5)
    rw [List.drop_drop] at this; exact this
   have e1 : (is.drop 1).take 4 ++ is.drop 5 = is.drop 1 := by
    have := List.take_append_drop 4 (is.drop 1)
    rw [List.drop_drop] at this; exact this
   rw [e5, e1]
   cases is with
   | nil => simp at h0
   | cons b bs => rfl
theorem mrE_zero {S : List Int -> Int} {bs : List Int} (h : mrE S bs = 0) : usE S bs = 0 ∧ 12 + usN bs = bs.length ∧ miK (usL S bs) = true := by
 unfold mrE at h
 by_cases h1 : usE S bs ≠ 0
 · rw [if_pos h1] at h; exact absurd h h1
 · rw [if_neg h1] at h
   by_cases h2 : 12 + usN bs = bs.length ∧ miK (usL S bs) = true
   · exact ⟨by omega, h2.1, h2.2⟩
   · rw [if_neg h2] at h; cases h
theorem mr_of_mw {S : List Int -> Int} (hS : ∀ bs, 0 <= S bs ∧ S bs <= 18446744073709551615) {m : Mg} (h : mgM m = true) (h0 : ∀ x ∈ m.l, 0 <= x) : mrE S (slF S (mgI m)) = 0 ∧ mrM S (slF S (mgI m)) = m := by
 have hl := mgI_len h
 obtain ⟨e1, e2, e3⟩ := unseal_seal hS (bs := mgI m) (by omega) []
 rw [List.append_nil] at e1 e2 e3
 obtain ⟨e4, e5⟩ := mi_of_mg h h0
 have e6 : mrE S (slF S (mgI m)) = 0 := by
  unfold mrE
  rw [if_neg (by omega), if_pos ⟨by rw [e2, slF_len], by rw [e3]; exact e5⟩]
 refine ⟨e6, ?_⟩
 unfold mrM
 rw [if_pos e6, e3, e4]
theorem mw_of_mr {S : List Int -> Int} {bs : List Int} (hb : By bs) (h : mrE S bs = 0) : mgM (mrM S bs) = true ∧ slF S (mgI (mrM S bs)) = bs := by
 obtain ⟨h1, h2, h3⟩ := mrE_zero h
 obtain ⟨_, _, k3, k4⟩ := miK_facts h3
 have e : mrM S bs = miM (usL S bs) := by unfold mrM; rw [if_pos h]
 rw [e]
 refine ⟨k3, ?_⟩
 rw [k4, (seal_unseal hb h1).2, h2, List.take_length]
theorem miK_again {S : List Int -> Int} (hS : ∀ bs, 0 <= S bs ∧ S bs <= 18446744073709551615) {bs : List Int} (hb : By bs) (h : usE S bs = 0) (hn : 12 + usN bs = bs.length) (h9 : 9 <= (usL S bs).length) (he : rlE ((usL S bs).drop 9) = 0) (hm : mgM (miM (usL S bs)) = true) :
 miK (usL S bs) = decide (slF S (mgI (miM (usL S bs))) = bs) := by
 have hs := (seal_unseal hb h).2
 rw [hn, List.take_length] at hs
 have key : mgI (miM (usL S bs)) = usL S bs ↔ slF S (mgI (miM (usL S bs))) = bs := by
  constructor
  · intro e; rw [e]; exact hs
  · intro e
    have hl := mgI_len hm
    have e3 := (unseal_seal hS (bs := mgI (miM (usL S bs))) (by omega) []).2.2
    rw [List.append_nil, e] at e3
    exact e3.symm
 unfold miK
 rw [decide_eq_decide]
 exact ⟨fun h => key.1 h.2.2.2, fun h => ⟨h9, he, hm, key.2 h⟩⟩
theorem mg_eq {m n : Mg} (h1 : m.k = n.k) (h2 : m.r = n.r) (h3 : m.v = n.v) (h4 : m.f = n.f) (h5 : m.l = n.l) : m = n := by
 cases m; cases n; simp_all
theorem mgS_iff (m n : Mg) : mgS m n = true ↔ m = n := by
 unfold mgS
 rw [decide_eq_true_iff]
 exact ⟨fun ⟨h1, h2, h3, h4, h5⟩ => mg_eq h1 h2 h3 h4 h5, fun h => by subst h; exact ⟨rfl, rfl, rfl, rfl, rfl⟩⟩
theorem mgS_self (m : Mg) : mgS m m = true := (mgS_iff m m).2 rfl
end Go.Proofs.YtipobchbnjgenaaGreat.Fld
namespace Go.Proofs.YtipobchbnjgenaaGreat.Fld
theorem ws_any : ∀ (bs : List (List Int)) (D : Dsk), ∃ j, j <= bs.length ∧ (wsN D bs).l = D.l ++ bs.take j ∧ (wsE D bs = 0 ∧ j = bs.length ∨ wsE D bs ≠ 0 ∧ j < bs.length)
 | [], D => ⟨0, Nat.le_refl _, by simp [wsN], .inl ⟨rfl, rfl⟩⟩
 | b :: bs, D => by
  unfold wsN wsE
  by_cases e : wrE22 D b = 0
  · have e2 : (wrN22 D b).l = D.l ++ [b] := by unfold wrN22; rw [if_pos e]; rfl
    rw [if_pos e, if_pos e]
    obtain ⟨j, h1, h2, h3⟩ := ws_any bs (wrN22 D b)
    refine ⟨j + 1, by rw [List.length_cons]; omega, ?_, ?_⟩
    · rw [h2, e2, List.take_succ_cons, List.append_assoc]; rfl
    · rcases h3 with ⟨h4, h5⟩ | ⟨h4, h5⟩
      · exact .inl ⟨h4, by rw [List.length_cons]; omega⟩
      · exact .inr ⟨h4, by rw [List.length_cons]; omega⟩
  · rw [if_neg e, if_neg e]
    refine ⟨0, Nat.zero_le _, ?_, .inr ⟨e, by simp⟩⟩
    unfold wrN22
    rw [if_neg e]
    split <;> simp
section
variable {S : List Int -> Int}
theorem Jex.append_any {D : Dsk} {rs : List (List Int)} (h : Jex S D rs) {r : List Int} (hr : r.length <= 1048576) :
 (apE23 S D r = 0 ∧ Jex S (apN23 S D r) (rs ++ [r])) ∨ (apE23 S D r ≠ 0 ∧ Jkp S (apN23 S D r) rs) := by
 have hB := jrB_len S r
 have hc : (jrC S r).length = jrN r.length := ck32_len _ _
 unfold apE23 apN23
 rw [if_neg (by omega), if_neg (by omega)]
 obtain ⟨j, h1, h2, h3⟩ := ws_any (jrC S r) D
 have hf : (wsN D (jrC S r)).l.flatten = rs.flatMap (jrB S) ++ (jrB S r).take (32 * j) := by
  rw [h2, List.flatten_append, h.flat]
  congr 1
  exact ck32_take _ _ _ (by omega)
 have hok := wsN_ok (jrC S r) h.ok
 rcases h3 with ⟨e, hj⟩ | ⟨e, hj⟩
 · refine .inl ⟨e, ⟨?_, fun x hx => ?_, hok⟩⟩
   · rw [hf, hj, hc, <- hB, List.take_length, List.flatMap_append]; simp
   · rcases List.mem_append.1 hx with hx | hx
     · exact h.len x hx
     · rw [List.mem_singleton.1 hx]; exact hr
 · exact .inr ⟨e, ⟨⟨_, hf, jr_part hr (by omega)⟩, h.len, hok⟩⟩
theorem Jkp.opened (hS : ∀ bs, 0 <= S bs ∧ S bs <= 18446744073709551615) {D : Dsk} {rs : List (List Int)} (h : Jkp S D rs) (e : opE23 S D = 0) : opR23 S D = rs ∧ Jex S (opN23 S D) rs := by
 cases hd : dieD D with
 | false => exact ((h.open_ hS).2 hd).2
 | true =>
  have hr := h.read hS
  have hn : ¬ jrW (rdD S D) < D.l.length := fun hlt => by
   unfold opE23 at e
   rw [if_pos hlt] at e
   unfold tmE at e
   rw [if_pos (by omega), if_pos hd] at e
   cases e
  obtain ⟨h1, h2, h3⟩ := ((h.of_l (E := mdN D) rfl (mdN_ok h.ok)).open_ hS).2 (md_die D)
  have hn2 : ¬ jrW (rdD S (mdN D)) < (mdN D).l.length := hn
  unfold opN23 at h3
  rw [if_neg hn2] at h3
  refine ⟨by unfold opR23; rw [if_pos e]; exact hr, ?_⟩
  unfold opN23
  rw [if_neg hn]
  exact h3.of_l rfl h.ok
end
def fndW : List (Int × List Int) -> Int -> Option (List Int)
 | [], _ => none
 | h :: L, r => if h.1 = r then some h.2 else fndW L r
theorem fnd_snoc : ∀ (L : List (Int × List Int)) (h : Int × List Int) (r : Int), fndW (L ++ [h]) r = match fndW L r with | some v => some v | none => if h.1 = r then some h.2 else none
 | [], h, r => rfl
 | g :: L, h, r => by
  rw [List.cons_append]
  unfold fndW
  split
  · rfl
  · exact fnd_snoc L h r
theorem fnd_mem : ∀ {L : List (Int × List Int)} {r : Int} {v : List Int}, fndW L r = some v -> (r, v) ∈ L
 | [], r, v, h => by cases h
 | g :: L, r, v, h => by
  unfold fndW at h
  split at h
  · rename_i e
    injection h with h
    subst e h
    exact List.mem_cons_self
  · exact List.mem_cons_of_mem _ (fnd_mem h)
theorem fnd_none : ∀ {L : List (Int × List Int)} {r : Int}, fndW L r = none ↔ ∀ h ∈ L, h.1 ≠ r
 | [], r => by simp [fndW]
 | g :: L, r => by
  unfold fndW
  split
  · rename_i e
    exact ⟨(fun h => nomatch h), fun h => absurd e (h g List.mem_cons_self)⟩
  · rename_i e
    rw [fnd_none]
    exact ⟨fun h x hx => (List.mem_cons.1 hx).elim (fun q => q ▸ e) (h x), fun h x hx => h x (List.mem_cons_of_mem _ hx)⟩
section
variable (S : List Int -> Int) (f wd id : Int)
def shB (b : List Int) : Bool := decide (mrE S b = 0 ∧ (mrM S b).k = 1 ∧ (mrM S b).v = id ∧ (mrM S b).f = f ∧ ((mrM S b).l.length : Int) = wd)
def putW (L : List (Int × List Int)) (b : List Int) : List (Int × List Int) := if shB S f wd id b = true ∧ fndW L (mrM S b).r = none then L ++ [((mrM S b).r, (mrM S b).l)] else L
def hldW (rs : List (List Int)) : List (Int × List Int) := rs.foldl (putW S f wd id) []
structure Wk where
 L : List (Int × List Int)
 x : Bool
def newB (st : Wk) (b : List Int) : Bool := !st.x && shB S f wd id b && (fndW st.L (mrM S b).r).isNone
def onE (st : Wk) (D : Dsk) (b : List Int) : Int :=
 if st.x = true then 240 else if shB S f wd id b = true then (match fndW st.L (mrM S b).r with | some v => if v = (mrM S b).l then 0 else 6 | none => apE23 S D b) else 8
def onN (st : Wk) (D : Dsk) (b : List Int) : Dsk := if newB S f wd id st b = true then apN23 S D b else D
def onW (st : Wk) (D : Dsk) (b : List Int) : Wk := if newB S f wd id st b = true then (if apE23 S D b = 0 then ⟨putW S f wd id st.L b, false⟩ else ⟨st.L, true⟩) else st
def onM (F : List Int -> List Int) (b : List Int) : Mg := ⟨2, (mrM S b).r, id, f, F (mrM S b).l⟩
def onL (F : List Int -> List Int) (st : Wk) (D : Dsk) (b : List Int) : List Int := if onE S f wd id st D b = 0 then mwL S (onM S f id F b) else []
def Wok (D : Dsk) (st : Wk) (rs : List (List Int)) : Prop := st.L = hldW S f wd id rs ∧ Jkp S D rs ∧ (st.x = false -> Jex S D rs)
end
section
variable {S : List Int -> Int} {f wd id : Int}
theorem shB_facts {b : List Int} (h : shB S f wd id b = true) : mrE S b = 0 ∧ (mrM S b).k = 1 ∧ (mrM S b).v = id ∧ (mrM S b).f = f ∧ ((mrM S b).l.length : Int) = wd := of_decide_eq_true h
theorem shB_len {b : List Int} (hb : By b) (h : shB S f wd id b = true) : b.length <= 538 := by
 obtain ⟨h1, h2⟩ := mw_of_mr hb (shB_facts h).1
 have h3 := (mgI_len h1).2
 rw [<- h2, slF_len]
 omega
theorem fnd_put {L : List (Int × List Int)} {r : Int} {v : List Int} (h : fndW L r = some v) (b : List Int) : fndW (putW S f wd id L b) r = some v := by
 unfold putW
 split
 · rw [fnd_snoc, h]
 · exact h
theorem fnd_new {L : List (Int × List Int)} {b : List Int} (h : shB S f wd id b = true) (hn : fndW L (mrM S b).r = none) : fndW (putW S f wd id L b) (mrM S b).r = some (mrM S b).l := by
 unfold putW
 rw [if_pos ⟨h, hn⟩, fnd_snoc, hn]
 exact if_pos rfl
theorem hld_snoc (rs : List (List Int)) (b : List Int) : hldW S f wd id (rs ++ [b]) = putW S f wd id (hldW S f wd id rs) b := by
 unfold hldW
 rw [List.foldl_append]; rfl
theorem fnd_more {rs : List (List Int)} {r : Int} {v : List Int} (h : fndW (hldW S f wd id rs) r = some v) (b : List Int) : fndW (hldW S f wd id (rs ++ [b])) r = some v := by
 rw [hld_snoc]; exact fnd_put h b
theorem newB_facts {st : Wk} {b : List Int} (h : newB S f wd id st b = true) : st.x = false ∧ shB S f wd id b = true ∧ fndW st.L (mrM S b).r = none := by
 unfold newB at h
 rw [Bool.and_eq_true, Bool.and_eq_true] at h
 obtain ⟨⟨h1, h2⟩, h3⟩ := h
 exact ⟨by simpa using h1, h2, by simpa using h3⟩
theorem Wok.on {D : Dsk} {st : Wk} {rs : List (List Int)} (h : Wok S f wd id D st rs) {b : List Int} (hb : By b) :
 (newB S f wd id st b = true ∧ apE23 S D b = 0 ∧ Wok S f wd id (onN S f wd id st D b) (onW S f wd id st D b) (rs ++ [b])) ∨ ((newB S f wd id st b = true -> apE23 S D b ≠ 0) ∧ Wok S f wd id (onN S f wd id st D b) (onW S f wd id st D b) rs) := by
 obtain ⟨h1, h2, h3⟩ := h
 unfold onN onW
 cases hn : newB S f wd id st b with
 | false => exact .inr ⟨(fun e => nomatch e), h1, h2, h3⟩
 | true =>
  obtain ⟨n1, n2, n3⟩ := newB_facts hn
  have hl := shB_len hb n2
  simp only [if_true]
  rcases (h3 n1).append_any (r := b) (by omega) with ⟨e, hx⟩ | ⟨e, hk⟩
  · refine .inl ⟨trivial, e, ?_⟩
    rw [if_pos e]
    exact ⟨by rw [hld_snoc, h1], hx.kp, fun _ => hx⟩
  · refine .inr ⟨fun _ => e, ?_⟩
    rw [if_neg e]
    exact ⟨h1, hk, fun hc => by cases hc⟩
theorem Wok.of_l {D E : Dsk} {st : Wk} {rs : List (List Int)} (h : Wok S f wd id D st rs) (e : E.l = D.l) (ho : DskOk E) : Wok S f wd id E st rs := ⟨h.1, h.2.1.of_l e ho, fun hx => (h.2.2 hx).of_l e ho⟩
theorem Jkp.wok (hS : ∀ bs, 0 <= S bs ∧ S bs <= 18446744073709551615) {D : Dsk} {rs : List (List Int)} (h : Jkp S D rs) (e : opE23 S D = 0) : Wok S f wd id (opN23 S D) ⟨hldW S f wd id (opR23 S D), false⟩ rs := by
 obtain ⟨h1, h2⟩ := h.opened hS e
 exact ⟨by rw [h1], h2.kp, fun _ => h2⟩
theorem on_zero {D : Dsk} {st : Wk} {b : List Int} (h : onE S f wd id st D b = 0) : shB S f wd id b = true ∧ st.x = false ∧ fndW (onW S f wd id st D b).L (mrM S b).r = some (mrM S b).l := by
 unfold onE at h
 split at h
 · cases h
 · rename_i hx
   have hx : st.x = false := by simpa using hx
   split at h
   · rename_i hs
     split at h
     · rename_i v hv
       split at h
       · rename_i hv2
         refine ⟨hs, hx, ?_⟩
         have hn : newB S f wd id st b = false := by unfold newB; rw [hv]; simp
         unfold onW
         rw [hn]
         simp only [Bool.false_eq_true, if_false]
         rw [hv, hv2]
       · cases h
     · rename_i hv
       refine ⟨hs, hx, ?_⟩
       have hn : newB S f wd id st b = true := by unfold newB; rw [hv, hx, hs]; rfl
       unfold onW
       rw [if_pos hn, if_pos h]
       exact fnd_new hs hv
   · cases h
end
def insW (r : Int) : List Int -> List Int
 | [] => [r]
 | a :: l => if a < r then a :: insW r l else r :: a :: l
def rndW (L : List (Int × List Int)) : List Int := L.foldl (fun l h => insW h.1 l) []
theorem ins_mem (r a : Int) : ∀ l : List Int, a ∈ insW r l ↔ a = r ∨ a ∈ l
 | [] => by simp [insW]
 | b :: l => by
  unfold insW
  split
  · rw [List.mem_cons, ins_mem r a l, List.mem_cons]
    constructor
    · rintro (h | h | h) <;> simp [h]
    · rintro (h | h | h) <;> simp [h]
  · rw [List.mem_cons]
theorem ins_rise {r : Int} : ∀ {l : List Int}, l.Pairwise (· < ·) -> r ∉ l -> (insW r l).Pairwise (· < ·)
 | [], _, _ => by simp [insW]
 | b :: l, h, hr => by
  rw [List.pairwise_cons] at h
  obtain ⟨h1, h2⟩ := h
  have hb : r ≠ b := fun e => hr (by rw [e]; exact List.mem_cons_self)
  unfold insW
  split
  · rename_i hlt
    rw [List.pairwise_cons]
    refine ⟨fun a ha => ?_, ins_rise h2 (fun hm => hr (List.mem_cons_of_mem _ hm))⟩
    rcases (ins_mem r a l).1 ha with rfl | ha
    · exact hlt
    · exact h1 a ha
  · rename_i hlt
    rw [List.pairwise_cons, List.pairwise_cons]
    refine ⟨fun a ha => ?_, h1, h2⟩
    rcases List.mem_cons.1 ha with rfl | ha
    · omega
    · have := h1 a ha; omega
theorem rnd_facts : ∀ (L : List (Int × List Int)) (l : List Int), l.Pairwise (· < ·) -> (L.map (·.1)).Nodup -> (∀ h ∈ L, h.1 ∉ l) -> (L.foldl (fun l h => insW h.1 l) l).Pairwise (· < ·) ∧ ∀ a, a ∈ L.foldl (fun l h => insW h.1 l) l ↔ a ∈ l ∨ ∃ h ∈ L, h.1 = a
 | [], l, h1, _, _ => ⟨h1, fun a => by simp⟩
 | g :: L, l, h1, h2, h3 => by
  rw [List.map_cons, List.nodup_cons] at h2
  obtain ⟨h4, h5⟩ := h2
  have hg := h3 g List.mem_cons_self
  rw [List.foldl_cons]
  obtain ⟨i1, i2⟩ := rnd_facts L (insW g.1 l) (ins_rise h1 hg) h5 (fun h hh hm => by
   rcases (ins_mem g.1 h.1 l).1 hm with e | hm
   · exact h4 (by rw [<- e]; exact List.mem_map.2 ⟨h, hh, rfl⟩)
   · exact h3 h (List.mem_cons_of_mem _ hh) hm)
  refine ⟨i1, fun a => ?_⟩
  rw [i2, ins_mem]
  constructor
  · rintro ((rfl | h) | ⟨h, hh, rfl⟩)
    · exact .inr ⟨g, List.mem_cons_self, rfl⟩
    · exact .inl h
    · exact .inr ⟨h, List.mem_cons_of_mem _ hh, rfl⟩
  · rintro (h | ⟨h, hh, rfl⟩)
    · exact .inl (.inr h)
    · rcases List.mem_cons.1 hh with rfl | hh
      · exact .inl (.inl rfl)
      · exact .inr ⟨h, hh, rfl⟩
end Go.Proofs.YtipobchbnjgenaaGreat.Fld
