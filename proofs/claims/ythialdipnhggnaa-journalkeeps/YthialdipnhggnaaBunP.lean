import Derived.KernelRfl
set_option linter.unusedVariables false
set_option linter.unusedSimpArgs false
set_option maxRecDepth 100000
set_option maxHeartbeats 4000000
namespace Go.Proofs.Ythialdipnhggnaa.Fld
theorem prime_of (q s : Nat) (hq : 0 < q) (hs : q < s * s) (h : ∀ d, d < s -> d ∣ q -> d = 1 ∨ d = q) : ∀ d, d ∣ q -> d = 1 ∨ d = q := by
 intro d hd
 by_cases hl : d < s
 · exact h d hl hd
 · obtain ⟨e, he⟩ := hd
   have hes : e < s := by
    apply Nat.lt_of_not_le
    intro hc
    have := Nat.mul_le_mul (Nat.le_of_not_lt hl) hc
    omega
   rcases h e hes ⟨d, by rw [he, Nat.mul_comm]⟩ with h1 | h1
   · right; rw [he, h1, Nat.mul_one]
   · left
     rw [h1] at he
     have : d * q = 1 * q := by omega
     exact Nat.eq_of_mul_eq_mul_right hq this
theorem p2 : ∀ d, d ∣ 2 -> d = 1 ∨ d = 2 := prime_of 2 2 (by decide) (by decide) (by decide)
end Go.Proofs.Ythialdipnhggnaa.Fld
namespace Go.Proofs.Ythialdipnhggnaa.Fld
def add (p a b : Int) : Int := (a + b) % p
end Go.Proofs.Ythialdipnhggnaa.Fld
namespace Go.Proofs.Ythialdipnhggnaa.Fld
def By (bs : List Int) : Prop := ∀ b ∈ bs, 0 <= b ∧ b <= 255
theorem By.nil : By [] := fun b h => by cases h
theorem By.cons {b : Int} {bs : List Int} (h0 : 0 <= b) (h1 : b <= 255) (h : By bs) : By (b :: bs) := fun x hx => by
 rcases List.mem_cons.1 hx with rfl | hx
 · exact ⟨h0, h1⟩
 · exact h x hx
theorem By.app {as bs : List Int} (h : By as) (k : By bs) : By (as ++ bs) := fun x hx => by
 rcases List.mem_append.1 hx with hx | hx
 · exact h x hx
 · exact k x hx
theorem By.take {bs : List Int} (h : By bs) (n : Nat) : By (bs.take n) := fun x hx => h x (List.mem_of_mem_take hx)
theorem By.drop {bs : List Int} (h : By bs) (n : Nat) : By (bs.drop n) := fun x hx => h x (List.mem_of_mem_drop hx)
theorem By.tail {b : Int} {bs : List Int} (h : By (b :: bs)) : By bs := fun x hx => h x (List.mem_cons_of_mem _ hx)
def wd8 (n : Int) : Nat -> List Int
 | 0 => []
 | k + 1 => n / 256 ^ k % 256 :: wd8 n k
def tk8 (bs : List Int) : Int := bs.foldl (fun n b => n * 256 + b) 0
theorem p256_pos (k : Nat) : (0 : Int) < 256 ^ k := Int.pow_pos (by decide)
theorem wd8_len (n : Int) (k : Nat) : (wd8 n k).length = k := by
 induction k with
 | zero => rfl
 | succ k ih => simp [wd8, ih]
theorem wd8_by (n : Int) (k : Nat) : By (wd8 n k) := by
 induction k with
 | zero => exact By.nil
 | succ k ih => exact By.cons (Int.emod_nonneg _ (by decide)) (by have := Int.emod_lt_of_pos (n / 256 ^ k) (show (0 : Int) < 256 by decide); omega) ih
theorem tk8_from (bs : List Int) : ∀ a : Int, bs.foldl (fun n b => n * 256 + b) a = a * 256 ^ bs.length + tk8 bs := by
 induction bs with
 | nil => intro a; simp [tk8]
 | cons b bs ih =>
  intro a
  have e1 := ih (a * 256 + b)
  have e2 := ih b
  show bs.foldl _ (a * 256 + b) = _
  have e3 : tk8 (b :: bs) = bs.foldl (fun n b => n * 256 + b) b := by show bs.foldl _ (0 * 256 + b) = _; rw [Int.zero_mul, Int.zero_add]
  rw [e3, e1, e2, List.length_cons, Int.pow_succ, Int.add_mul]
  have : a * 256 * 256 ^ bs.length = a * (256 ^ bs.length * 256) := by rw [Int.mul_assoc, Int.mul_comm 256]
  omega
theorem tk8_cons (b : Int) (bs : List Int) : tk8 (b :: bs) = b * 256 ^ bs.length + tk8 bs := by
 have h : tk8 (b :: bs) = bs.foldl (fun n b => n * 256 + b) b := by show bs.foldl _ (0 * 256 + b) = _; rw [Int.zero_mul, Int.zero_add]
 rw [h]; exact tk8_from bs b
theorem tk8_snoc (as : List Int) (b : Int) : tk8 (as ++ [b]) = tk8 as * 256 + b := by
 show (as ++ [b]).foldl _ 0 = _
 rw [List.foldl_append]; rfl
theorem tk8_bd {bs : List Int} (h : By bs) : 0 <= tk8 bs ∧ tk8 bs < 256 ^ bs.length := by
 induction bs with
 | nil => exact ⟨Int.le_refl _, by simp [tk8]⟩
 | cons b bs ih =>
  have hi := ih h.tail
  have hb := h b List.mem_cons_self
  have hp := p256_pos bs.length
  rw [tk8_cons, List.length_cons, Int.pow_succ]
  have h1 : 0 <= b * 256 ^ bs.length := Int.mul_nonneg hb.1 (Int.le_of_lt hp)
  have h2 : b * 256 ^ bs.length <= 255 * 256 ^ bs.length := Int.mul_le_mul_of_nonneg_right hb.2 (Int.le_of_lt hp)
  omega
theorem wd8_add (c n : Int) {j : Nat} : ∀ k, k <= j -> wd8 (c * 256 ^ j + n) k = wd8 n k := by
 intro k
 induction k with
 | zero => intro _; rfl
 | succ k ih =>
  intro hk
  have e : (c * 256 ^ j + n) / 256 ^ k % 256 = n / 256 ^ k % 256 := by
   have hp := p256_pos k
   obtain ⟨m, rfl⟩ : ∃ m, j = k + 1 + m := ⟨j - (k + 1), by omega⟩
   have e1 : c * 256 ^ (k + 1 + m) = (256 * (c * 256 ^ m)) * 256 ^ k := by
    rw [Int.pow_add, Int.pow_succ]
    simp only [Int.mul_assoc, Int.mul_comm, Int.mul_left_comm]
   rw [e1, Int.add_comm, Int.add_mul_ediv_right _ _ (by omega), Int.add_mul_emod_self_left]
  simp only [wd8, e, ih (by omega)]
theorem tk8_wd8 {n : Int} (h0 : 0 <= n) : ∀ {k : Nat}, n < 256 ^ k -> tk8 (wd8 n k) = n := by
 have key : ∀ k : Nat, tk8 (wd8 n k) = n % 256 ^ k := by
  intro k
  induction k with
  | zero => simp [wd8, tk8, Int.emod_one]
  | succ k ih =>
   have hp := p256_pos k
   show tk8 (n / 256 ^ k % 256 :: wd8 n k) = _
   rw [tk8_cons, wd8_len, ih, Int.pow_succ]
   have a1 := Int.mul_ediv_add_emod n (256 ^ k)
   have a2 := Int.mul_ediv_add_emod (n / 256 ^ k) 256
   have hr := Int.emod_nonneg n (show (256 : Int) ^ k ≠ 0 by omega)
   have hr2 := Int.emod_lt_of_pos n hp
   generalize hq : n / 256 ^ k = q at *
   generalize hm : n % 256 ^ k = r at *
   have hd := Int.emod_nonneg q (show (256 : Int) ≠ 0 by decide)
   have hd2 := Int.emod_lt_of_pos q (show (0 : Int) < 256 by decide)
   generalize hs : q % 256 = s at *
   generalize ht : q / 256 = t at *
   have en : n = s * 256 ^ k + r + (256 ^ k * 256) * t := by
    rw [<- a1, <- a2, Int.mul_add]
    have : (256 : Int) ^ k * (256 * t) = 256 ^ k * 256 * t := by rw [Int.mul_assoc]
    have : (256 : Int) ^ k * s = s * 256 ^ k := Int.mul_comm _ _
    omega
   rw [en, Int.add_mul_emod_self_left]
   have h2 : s * 256 ^ k <= 255 * 256 ^ k := Int.mul_le_mul_of_nonneg_right (by omega) (by omega)
   have h1 : 0 <= s * 256 ^ k := Int.mul_nonneg hd (by omega)
   exact (Int.emod_eq_of_lt (by omega) (by omega)).symm
 intro k hk
 rw [key k, Int.emod_eq_of_lt h0 hk]
theorem wd8_tk8 {bs : List Int} (h : By bs) : wd8 (tk8 bs) bs.length = bs := by
 induction bs with
 | nil => rfl
 | cons b bs ih =>
  have hb := h b List.mem_cons_self
  have ht := tk8_bd h.tail
  have hp := p256_pos bs.length
  rw [tk8_cons]
  show (b * 256 ^ bs.length + tk8 bs) / 256 ^ bs.length % 256 :: wd8 (b * 256 ^ bs.length + tk8 bs) bs.length = _
  rw [wd8_add _ _ _ (Nat.le_refl _), ih h.tail, Int.add_comm, Int.add_mul_ediv_right _ _ (by omega), Int.ediv_eq_zero_of_lt ht.1 ht.2, Int.zero_add, Int.emod_eq_of_lt hb.1 (by omega)]
end Go.Proofs.Ythialdipnhggnaa.Fld
namespace Go.Proofs.Ythialdipnhggnaa.Fld
def rcE (bs : List Int) : Int := if bs.length < 4 then 7 else if 2147483647 < tk8 (bs.take 4) then 8 else 0
def rcN (bs : List Int) : Int := if rcE bs = 0 then tk8 (bs.take 4) else 0
def rcS (bs : List Int) : Int := if rcE bs = 0 then 4 else 0
def slE (bs : List Int) : Int := if 1048576 < bs.length then 4 else 0
def hd8 (bs : List Int) : List Int := wd8 (bs.length : Int) 4 ++ bs
def slF (S : List Int -> Int) (bs : List Int) : List Int := hd8 bs ++ wd8 (S (hd8 bs)) 8
def slL (S : List Int -> Int) (bs : List Int) : List Int := if slE bs = 0 then slF S bs else []
def usN (bs : List Int) : Nat := (tk8 (bs.take 4)).toNat
def usE (S : List Int -> Int) (bs : List Int) : Int :=
 if rcE bs ≠ 0 then rcE bs else if 1048576 < usN bs then 4 else if bs.length < 12 + usN bs then 7
 else if tk8 ((bs.drop (4 + usN bs)).take 8) = S (bs.take (4 + usN bs)) then 0 else 80
def usL (S : List Int -> Int) (bs : List Int) : List Int := if usE S bs = 0 then (bs.drop 4).take (usN bs) else []
theorem ctE_nat {n : Nat} (h : n <= 2147483647) : (0 : Int) <= (n : Int) ∧ (n : Int) < 256 ^ 4 := by
 have : (256 : Int) ^ 4 = 4294967296 := by decide
 omega
theorem tk_count {n : Nat} (h : n <= 2147483647) (rest : List Int) : (wd8 (n : Int) 4 ++ rest).take 4 = wd8 (n : Int) 4 ∧ tk8 (wd8 (n : Int) 4) = n :=
 ⟨List.take_left' (wd8_len _ _), tk8_wd8 (ctE_nat h).1 (ctE_nat h).2⟩
theorem rc_count {n : Nat} (h : n <= 2147483647) (rest : List Int) : rcE (wd8 (n : Int) 4 ++ rest) = 0 := by
 unfold rcE
 rw [(tk_count h rest).1, (tk_count h rest).2, if_neg (by rw [List.length_append, wd8_len]; omega), if_neg (by omega)]
theorem rcE_zero {bs : List Int} (h : rcE bs = 0) : 4 <= bs.length ∧ tk8 (bs.take 4) <= 2147483647 := by
 unfold rcE at h
 by_cases h1 : bs.length < 4
 · rw [if_pos h1] at h; cases h
 · rw [if_neg h1] at h
   by_cases h2 : 2147483647 < tk8 (bs.take 4)
   · rw [if_pos h2] at h; cases h
   · exact ⟨by omega, by omega⟩
theorem rcE_or (bs : List Int) : rcE bs = 0 ∨ rcE bs = 7 ∨ rcE bs = 8 := by
 unfold rcE; split
 · exact .inr (.inl rfl)
 · split
   · exact .inr (.inr rfl)
   · exact .inl rfl
theorem wd_count {bs : List Int} (hb : By bs) (h : 4 <= bs.length) : wd8 (((tk8 (bs.take 4)).toNat : Nat) : Int) 4 = bs.take 4 := by
 have h1 := wd8_tk8 (hb.take 4)
 have h2 := (tk8_bd (hb.take 4)).1
 rw [List.length_take, Nat.min_eq_left h] at h1
 rw [Int.toNat_of_nonneg h2, h1]
theorem hd8_len (bs : List Int) : (hd8 bs).length = 4 + bs.length := by unfold hd8; rw [List.length_append, wd8_len]
theorem slF_len (S : List Int -> Int) (bs : List Int) : (slF S bs).length = 12 + bs.length := by unfold slF; rw [List.length_append, wd8_len, hd8_len]; omega
theorem hd8_by {bs : List Int} (h : By bs) : By (hd8 bs) := (wd8_by _ _).app h
theorem slF_by (S : List Int -> Int) {bs : List Int} (h : By bs) : By (slF S bs) := (hd8_by h).app (wd8_by _ _)
theorem unseal_seal {S : List Int -> Int} (hS : ∀ bs, 0 <= S bs ∧ S bs <= 18446744073709551615) {bs : List Int} (h : bs.length <= 1048576) (rest : List Int) : usE S (slF S bs ++ rest) = 0 ∧ usN (slF S bs ++ rest) = bs.length ∧ usL S (slF S bs ++ rest) = bs := by
 have e0 : slF S bs ++ rest = wd8 (bs.length : Int) 4 ++ (bs ++ (wd8 (S (hd8 bs)) 8 ++ rest)) := by
  unfold slF
  rw [show hd8 bs = wd8 (bs.length : Int) 4 ++ bs from rfl]
  simp only [List.append_assoc]
 have e1 : usN (slF S bs ++ rest) = bs.length := by
  unfold usN
  rw [e0, (tk_count (by omega) _).1, (tk_count (by omega) []).2]; simp
 have e2 : rcE (slF S bs ++ rest) = 0 := by rw [e0]; exact rc_count (by omega) _
 have e3 : (slF S bs ++ rest).take (4 + bs.length) = hd8 bs := by
  unfold slF
  rw [List.append_assoc, List.take_left' (hd8_len bs)]
 have e4 : ((slF S bs ++ rest).drop (4 + bs.length)).take 8 = wd8 (S (hd8 bs)) 8 := by
  unfold slF
  rw [List.append_assoc, List.drop_left' (hd8_len bs), List.take_left' (wd8_len _ _)]
 have e5 : usE S (slF S bs ++ rest) = 0 := by
  unfold usE
  have hw := hS (hd8 bs)
  have e : (256 : Int) ^ 8 = 18446744073709551616 := by decide
  rw [e1, e2, e3, e4, tk8_wd8 hw.1 (by omega), if_neg (by simp), if_neg (by omega), if_neg (by rw [List.length_append, slF_len]; omega), if_pos rfl]
 refine ⟨e5, e1, ?_⟩
 unfold usL
 rw [if_pos e5, e1, e0, List.drop_left' (wd8_len _ _), List.take_left' rfl]
theorem usE_zero {S : List Int -> Int} {bs : List Int} (h : usE S bs = 0) : rcE bs = 0 ∧ usN bs <= 1048576 ∧ 12 + usN bs <= bs.length ∧ tk8 ((bs.drop (4 + usN bs)).take 8) = S (bs.take (4 + usN bs)) := by
 unfold usE at h
 by_cases h1 : rcE bs ≠ 0
 · rw [if_pos h1] at h; exact absurd h h1
 · rw [if_neg h1] at h
   by_cases h2 : 1048576 < usN bs
   · rw [if_pos h2] at h; cases h
   · rw [if_neg h2] at h
     by_cases h3 : bs.length < 12 + usN bs
     · rw [if_pos h3] at h; cases h
     · rw [if_neg h3] at h
       by_cases h4 : tk8 ((bs.drop (4 + usN bs)).take 8) = S (bs.take (4 + usN bs))
       · exact ⟨by simpa using h1, by omega, by omega, h4⟩
       · rw [if_neg h4] at h; cases h
theorem usL_len {S : List Int -> Int} {bs : List Int} (h : usE S bs = 0) : (usL S bs).length = usN bs := by
 obtain ⟨_, _, h3, _⟩ := usE_zero h
 unfold usL
 rw [if_pos h, List.length_take, List.length_drop]; omega
theorem seal_unseal {S : List Int -> Int} {bs : List Int} (hb : By bs) (h : usE S bs = 0) : slE (usL S bs) = 0 ∧ slF S (usL S bs) = bs.take (12 + usN bs) := by
 obtain ⟨h1, h2, h3, h4⟩ := usE_zero h
 have hl := usL_len h
 constructor
 · unfold slE
   rw [if_neg (by omega)]
 · have e1 : hd8 (usL S bs) = bs.take (4 + usN bs) := by
    unfold hd8
    rw [hl, show wd8 ((usN bs : Nat) : Int) 4 = bs.take 4 from wd_count hb (rcE_zero h1).1]
    unfold usL
    rw [if_pos h, List.take_add]
   have e2 : wd8 (S (bs.take (4 + usN bs))) 8 = (bs.drop (4 + usN bs)).take 8 := by
    have := wd8_tk8 ((hb.drop (4 + usN bs)).take 8)
    rw [List.length_take, List.length_drop, Nat.min_eq_left (by omega), h4] at this
    exact this
   unfold slF
   rw [e1, e2, show 12 + usN bs = (4 + usN bs) + 8 by omega]
   exact List.take_add.symm
end Go.Proofs.Ythialdipnhggnaa.Fld
namespace Go.Proofs.Ythialdipnhggnaa.Fld
structure Dsk where
 l : List (List Int)
 f : Int
 x : Bool
 n : Nat
def dk0 : Dsk := ⟨[], -1, false, 0⟩
def dieD (D : Dsk) : Bool := D.x || decide (D.f = 0)
def didD (D : Dsk) (l : List (List Int)) : Dsk := ⟨l, if 0 < D.f then D.f - 1 else D.f, D.x, D.n + 1⟩
def wrE22 (D : Dsk) (b : List Int) : Int := if b.length = 32 then if dieD D = true then 220 else if 65536 <= D.l.length then 4 else 0 else 2
def wrN22 (D : Dsk) (b : List Int) : Dsk := if wrE22 D b = 0 then didD D (D.l ++ [b]) else if wrE22 D b = 220 then { D with x := true } else D
def tmE (D : Dsk) (i : Int) : Int := if 0 <= i ∧ i <= (D.l.length : Int) then if dieD D = true then 220 else 0 else 2
def tmN (D : Dsk) (i : Int) : Dsk := if tmE D i = 0 then didD D (D.l.take i.toNat) else if tmE D i = 220 then { D with x := true } else D
def fuE (i : Int) : Int := if 0 <= i then 0 else 2
def fuN (D : Dsk) (i : Int) : Dsk := if fuE i = 0 then { D with f := i } else D
def mdN (D : Dsk) : Dsk := { D with f := -1, x := false }
structure DskOk (D : Dsk) : Prop where
 len : D.l.length <= 65536
 blk : ∀ b ∈ D.l, b.length = 32
 fu : -1 <= D.f
theorem dk0_ok : DskOk dk0 := ⟨by simp [dk0], fun b hb => by simp [dk0] at hb, by simp [dk0]⟩
theorem didD_ok {D : Dsk} (h : DskOk D) {l : List (List Int)} (h1 : l.length <= 65536) (h2 : ∀ b ∈ l, b.length = 32) : DskOk (didD D l) := ⟨h1, h2, by
 have := h.fu
 unfold didD
 dsimp only
 split <;> omega⟩
theorem wr_zero {D : Dsk} {b : List Int} (h : wrE22 D b = 0) : b.length = 32 ∧ dieD D = false ∧ D.l.length < 65536 := by
 unfold wrE22 at h
 split at h
 · split at h
   · omega
   · split at h
     · omega
     · rename_i h1 h2 h3
       exact ⟨h1, by simpa using h2, by omega⟩
 · omega
theorem wrN_ok {D : Dsk} (h : DskOk D) (b : List Int) : DskOk (wrN22 D b) := by
 unfold wrN22
 split
 · rename_i e
   obtain ⟨h1, _, h3⟩ := wr_zero e
   refine didD_ok h (by simp; omega) (fun c hc => ?_)
   rcases List.mem_append.1 hc with hc | hc
   · exact h.blk c hc
   · rw [List.mem_singleton.1 hc]; exact h1
 · split
   · exact ⟨h.len, h.blk, h.fu⟩
   · exact h
theorem tmN_ok {D : Dsk} (h : DskOk D) (i : Int) : DskOk (tmN D i) := by
 unfold tmN
 split
 · exact didD_ok h (by rw [List.length_take]; have := h.len; omega) (fun c hc => h.blk c (List.mem_of_mem_take hc))
 · split
   · exact ⟨h.len, h.blk, h.fu⟩
   · exact h
theorem fuN_ok {D : Dsk} (h : DskOk D) (i : Int) : DskOk (fuN D i) := by
 unfold fuN
 split
 · rename_i e
   exact ⟨h.len, h.blk, by
    unfold fuE at e
    dsimp only
    split at e <;> omega⟩
 · exact h
theorem mdN_ok {D : Dsk} (h : DskOk D) : DskOk (mdN D) := ⟨h.len, h.blk, by simp [mdN]⟩
theorem wrN_n (D : Dsk) (b : List Int) : (wrN22 D b).n <= D.n + 1 := by unfold wrN22 didD; split <;> (try split) <;> simp
theorem tmN_n (D : Dsk) (i : Int) : (tmN D i).n <= D.n + 1 := by unfold tmN didD; split <;> (try split) <;> simp
end Go.Proofs.Ythialdipnhggnaa.Fld
