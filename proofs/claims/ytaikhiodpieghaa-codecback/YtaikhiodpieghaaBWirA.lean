import Derived.Test.YtaikhiodpieghaaBunP
set_option linter.unusedVariables false
set_option linter.unusedSimpArgs false
set_option maxRecDepth 100000
set_option maxHeartbeats 4000000
namespace Go.Proofs.Ytaikhiodpieghaa.Fld
def By (bs : List Int) : Prop := ∀ b ∈ bs, 0 <= b ∧ b <= 255
theorem By.nil : By [] := fun b h => by cases h
theorem By.cons {b : Int} {bs : List Int} (h0 : 0 <= b) (h1 : b <= 255) (h : By bs) : By (b :: bs) := fun x hx => by
 rcases List.mem_cons.1 hx with rfl | hx
 · exact ⟨h0, h1⟩
 · exact h x hx
theorem By.app {as bs : List Int} (h : By as) (k : By bs) : By (as ++ bs) := fun x hx => by
 rcases List.mem_append.1 hx with hx | hx
 · exact h x hx
 · exact k x hx
theorem By.take {bs : List Int} (h : By bs) (n : Nat) : By (bs.take n) := fun x hx => h x (List.mem_of_mem_take hx)
theorem By.drop {bs : List Int} (h : By bs) (n : Nat) : By (bs.drop n) := fun x hx => h x (List.mem_of_mem_drop hx)
theorem By.tail {b : Int} {bs : List Int} (h : By (b :: bs)) : By bs := fun x hx => h x (List.mem_cons_of_mem _ hx)
def wd8 (n : Int) : Nat -> List Int
 | 0 => []
 | k + 1 => n / 256 ^ k % 256 :: wd8 n k
def tk8 (bs : List Int) : Int := bs.foldl (fun n b => n * 256 + b) 0
theorem p256_pos (k : Nat) : (0 : Int) < 256 ^ k := Int.pow_pos (by decide)
theorem wd8_len (n : Int) (k : Nat) : (wd8 n k).length = k := by
 induction k with
 | zero => rfl
 | succ k ih => simp [wd8, ih]
theorem wd8_by (n : Int) (k : Nat) : By (wd8 n k) := by
 induction k with
 | zero => exact By.nil
 | succ k ih => exact By.cons (Int.emod_nonneg _ (by decide)) (by have := Int.emod_lt_of_pos (n / 256 ^ k) (show (0 : Int) < 256 by decide); omega) ih
theorem tk8_from (bs : List Int) : ∀ a : Int, bs.foldl (fun n b => n * 256 + b) a = a * 256 ^ bs.length + tk8 bs := by
 induction bs with
 | nil => intro a; simp [tk8]
 | cons b bs ih =>
  intro a
  have e1 := ih (a * 256 + b)
  have e2 := ih b
  show bs.foldl _ (a * 256 + b) = _
  have e3 : tk8 (b :: bs) = bs.foldl (fun n b => n * 256 + b) b := by show bs.foldl _ (0 * 256 + b) = _; rw [Int.zero_mul, Int.zero_add]
  rw [e3, e1, e2, List.length_cons, Int.pow_succ, Int.add_mul]
  have : a * 256 * 256 ^ bs.length = a * (256 ^ bs.length * 256) := by rw [Int.mul_assoc, Int.mul_comm 256]
  omega
theorem tk8_cons (b : Int) (bs : List Int) : tk8 (b :: bs) = b * 256 ^ bs.length + tk8 bs := by
 have h : tk8 (b :: bs) = bs.foldl (fun n b => n * 256 + b) b := by show bs.foldl _ (0 * 256 + b) = _; rw [Int.zero_mul, Int.zero_add]
 rw [h]; exact tk8_from bs b
theorem tk8_snoc (as : List Int) (b : Int) : tk8 (as ++ [b]) = tk8 as * 256 + b := by
 show (as ++ [b]).foldl _ 0 = _
 rw [List.foldl_append]; rfl
theorem tk8_bd {bs : List Int} (h : By bs) : 0 <= tk8 bs ∧ tk8 bs < 256 ^ bs.length := by
 induction bs with
 | nil => exact ⟨Int.le_refl _, by simp [tk8]⟩
 | cons b bs ih =>
  have hi := ih h.tail
  have hb := h b List.mem_cons_self
  have hp := p256_pos bs.length
  rw [tk8_cons, List.length_cons, Int.pow_succ]
  have h1 : 0 <= b * 256 ^ bs.length := Int.mul_nonneg hb.1 (Int.le_of_lt hp)
  have h2 : b * 256 ^ bs.length <= 255 * 256 ^ bs.length := Int.mul_le_mul_of_nonneg_right hb.2 (Int.le_of_lt hp)
  omega
theorem wd8_add (c n : Int) {j : Nat} : ∀ k, k <= j -> wd8 (c * 256 ^ j + n) k = wd8 n k := by
 intro k
 induction k with
 | zero => intro _; rfl
 | succ k ih =>
  intro hk
  have e : (c * 256 ^ j + n) / 256 ^ k % 256 = n / 256 ^ k % 256 := by
   have hp := p256_pos k
   obtain ⟨m, rfl⟩ : ∃ m, j = k + 1 + m := ⟨j - (k + 1), by omega⟩
   have e1 : c * 256 ^ (k + 1 + m) = (256 * (c * 256 ^ m)) * 256 ^ k := by
    rw [Int.pow_add, Int.pow_succ]
    simp only [Int.mul_assoc, Int.mul_comm, Int.mul_left_comm]
   rw [e1, Int.add_comm, Int.add_mul_ediv_right _ _ (by omega), Int.add_mul_emod_self_left]
  simp only [wd8, e, ih (by omega)]
theorem tk8_wd8 {n : Int} (h0 : 0 <= n) : ∀ {k : Nat}, n < 256 ^ k -> tk8 (wd8 n k) = n := by
 have key : ∀ k : Nat, tk8 (wd8 n k) = n % 256 ^ k := by
  intro k
  induction k with
  | zero => simp [wd8, tk8, Int.emod_one]
  | succ k ih =>
   have hp := p256_pos k
   show tk8 (n / 256 ^ k % 256 :: wd8 n k) = _
   rw [tk8_cons, wd8_len, ih, Int.pow_succ]
   have a1 := Int.mul_ediv_add_emod n (256 ^ k)
   have a2 := Int.mul_ediv_add_emod (n / 256 ^ k) 256
   have hr := Int.emod_nonneg n (show (256 : Int) ^ k ≠ 0 by omega)
   have hr2 := Int.emod_lt_of_pos n hp
   generalize hq : n / 256 ^ k = q at *
   generalize hm : n % 256 ^ k = r at *
   have hd := Int.emod_nonneg q (show (256 : Int) ≠ 0 by decide)
   have hd2 := Int.emod_lt_of_pos q (show (0 : Int) < 256 by decide)
   generalize hs : q % 256 = s at *
   generalize ht : q / 256 = t at *
   have en : n = s * 256 ^ k + r + (256 ^ k * 256) * t := by
    rw [<- a1, <- a2, Int.mul_add]
    have : (256 : Int) ^ k * (256 * t) = 256 ^ k * 256 * t := by rw [Int.mul_assoc]
    have : (256 : Int) ^ k * s = s * 256 ^ k := Int.mul_comm _ _
    omega
   rw [en, Int.add_mul_emod_self_left]
   have h2 : s * 256 ^ k <= 255 * 256 ^ k := Int.mul_le_mul_of_nonneg_right (by omega) (by omega)
   have h1 : 0 <= s * 256 ^ k := Int.mul_nonneg hd (by omega)
   exact (Int.emod_eq_of_lt (by omega) (by omega)).symm
 intro k hk
 rw [key k, Int.emod_eq_of_lt h0 hk]
theorem wd8_tk8 {bs : List Int} (h : By bs) : wd8 (tk8 bs) bs.length = bs := by
 induction bs with
 | nil => rfl
 | cons b bs ih =>
  have hb := h b List.mem_cons_self
  have ht := tk8_bd h.tail
  have hp := p256_pos bs.length
  rw [tk8_cons]
  show (b * 256 ^ bs.length + tk8 bs) / 256 ^ bs.length % 256 :: wd8 (b * 256 ^ bs.length + tk8 bs) bs.length = _
  rw [wd8_add _ _ _ (Nat.le_refl _), ih h.tail, Int.add_comm, Int.add_mul_ediv_right _ _ (by omega), Int.ediv_eq_zero_of_lt ht.1 ht.2, Int.zero_add, Int.emod_eq_of_lt hb.1 (by omega)]
def rdL (k : Nat) : Nat -> List Int -> List Int
 | 0, _ => []
 | n + 1, bs => tk8 (bs.take k) :: rdL k n (bs.drop k)
def wrL (k : Nat) (l : List Int) : List Int := (l.map (fun x => wd8 x k)).flatten
theorem rdL_len (k : Nat) : ∀ n bs, (rdL k n bs).length = n
 | 0, _ => rfl
 | n + 1, bs => by simp [rdL, rdL_len k n]
theorem wrL_len (k : Nat) (l : List Int) : (wrL k l).length = l.length * k := by
 induction l with
 | nil => simp [wrL]
 | cons x l ih =>
  show (wd8 x k ++ wrL k l).length = _
  rw [List.length_append, wd8_len, ih, List.length_cons, Nat.add_mul]; omega
theorem wrL_by (k : Nat) (l : List Int) : By (wrL k l) := by
 induction l with
 | nil => exact By.nil
 | cons x l ih => exact (wd8_by x k).app ih
theorem wrL_snoc (k : Nat) (l : List Int) (x : Int) : wrL k (l ++ [x]) = wrL k l ++ wd8 x k := by
 unfold wrL; rw [List.map_append, List.flatten_append]; simp
theorem rdL_snoc (k : Nat) : ∀ n bs, rdL k (n + 1) bs = rdL k n bs ++ [tk8 ((bs.drop (n * k)).take k)]
 | 0, bs => by simp [rdL]
 | n + 1, bs => by
  show tk8 (bs.take k) :: rdL k (n + 1) (bs.drop k) = tk8 (bs.take k) :: rdL k n (bs.drop k) ++ _
  rw [rdL_snoc k n (bs.drop k), List.drop_drop, List.cons_append]
  rw [show k + n * k = (n + 1) * k by rw [Nat.add_mul]; omega]
theorem rd_wr (k : Nat) (l rest : List Int) (h : ∀ x ∈ l, 0 <= x ∧ x < 256 ^ k) : rdL k l.length (wrL k l ++ rest) = l := by
 induction l with
 | nil => rfl
 | cons x l ih =>
  have hx := h x List.mem_cons_self
  show tk8 ((wd8 x k ++ wrL k l ++ rest).take k) :: rdL k l.length ((wd8 x k ++ wrL k l ++ rest).drop k) = _
  rw [List.append_assoc, List.take_left' (wd8_len x k), List.drop_left' (wd8_len x k), tk8_wd8 hx.1 hx.2, ih (fun y hy => h y (List.mem_cons_of_mem _ hy))]
theorem wr_rd (k : Nat) : ∀ (n : Nat) (bs : List Int), By bs -> n * k <= bs.length -> wrL k (rdL k n bs) = bs.take (n * k)
 | 0, bs, _, _ => by simp [rdL, wrL]
 | n + 1, bs, h, hl => by
  have hl2 : n * k + k <= bs.length := by rw [Nat.add_mul, Nat.one_mul] at hl; exact hl
  show wd8 (tk8 (bs.take k)) k ++ wrL k (rdL k n (bs.drop k)) = _
  have e1 : wd8 (tk8 (bs.take k)) k = bs.take k := by
   have := wd8_tk8 (h.take k)
   rw [List.length_take, Nat.min_eq_left (by omega)] at this
   exact this
  rw [e1, wr_rd k n (bs.drop k) (h.drop k) (by rw [List.length_drop]; omega), Nat.add_mul, Nat.one_mul, Nat.add_comm, List.take_add]
end Go.Proofs.Ytaikhiodpieghaa.Fld
