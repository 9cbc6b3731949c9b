import Derived.Test.YthialdipnhggnaaBunP
set_option linter.unusedVariables false
set_option linter.unusedSimpArgs false
set_option maxRecDepth 100000
set_option maxHeartbeats 4000000
namespace Go.Proofs.Ythialdipnhggnaa.Fld
def jrN (n : Nat) : Nat := (n + 43) / 32
theorem jrN_bd (n : Nat) : 12 + n <= 32 * jrN n ∧ 32 * jrN n < 44 + n ∧ 1 <= jrN n := by unfold jrN; omega
def jrB (S : List Int -> Int) (r : List Int) : List Int := slF S r ++ List.replicate (32 * jrN r.length - (12 + r.length)) 0
theorem jrB_len (S : List Int -> Int) (r : List Int) : (jrB S r).length = 32 * jrN r.length := by
 unfold jrB
 rw [List.length_append, slF_len, List.length_replicate]
 have := jrN_bd r.length
 omega
theorem jrB_by (S : List Int -> Int) {r : List Int} (h : By r) : By (jrB S r) := (slF_by S h).app (fun x hx => by rw [List.eq_of_mem_replicate hx]; exact ⟨by decide, by decide⟩)
def jrH (S : List Int -> Int) (zs : List Int) : Bool := decide (usE S zs = 0) && decide (jrB S (usL S zs) = zs.take (32 * jrN (usN zs)))
def jrR (S : List Int -> Int) : Nat -> List Int -> List (List Int)
 | 0, _ => []
 | k + 1, zs => if jrH S zs = true then usL S zs :: jrR S k (zs.drop (32 * jrN (usN zs))) else []
def jrW : List (List Int) -> Nat
 | [] => 0
 | r :: rs => jrN r.length + jrW rs
theorem jrW_app (as bs : List (List Int)) : jrW (as ++ bs) = jrW as + jrW bs := by
 induction as with
 | nil => simp [jrW]
 | cons a as ih => simp only [List.cons_append, jrW, ih]; omega
theorem jrB_flat (S : List Int -> Int) (rs : List (List Int)) : (rs.flatMap (jrB S)).length = 32 * jrW rs := by
 induction rs with
 | nil => rfl
 | cons r rs ih => rw [List.flatMap_cons, List.length_append, jrB_len, ih]; simp only [jrW]; omega
theorem jrW_ge (rs : List (List Int)) : rs.length <= jrW rs := by
 induction rs with
 | nil => exact Nat.le_refl _
 | cons r rs ih => have := jrN_bd r.length; simp only [jrW, List.length_cons]; omega
section
variable {S : List Int -> Int}
theorem jr_here (hS : ∀ bs, 0 <= S bs ∧ S bs <= 18446744073709551615) {r : List Int} (h : r.length <= 1048576) (rest : List Int) : jrH S (jrB S r ++ rest) = true ∧ usL S (jrB S r ++ rest) = r ∧ usN (jrB S r ++ rest) = r.length ∧ (jrB S r ++ rest).drop (32 * jrN r.length) = rest := by
 have e0 : jrB S r ++ rest = slF S r ++ (List.replicate (32 * jrN r.length - (12 + r.length)) 0 ++ rest) := by unfold jrB; rw [List.append_assoc]
 obtain ⟨h1, h2, h3⟩ := unseal_seal hS h (List.replicate (32 * jrN r.length - (12 + r.length)) 0 ++ rest)
 rw [<- e0] at h1 h2 h3
 refine ⟨?_, h3, h2, List.drop_left' (jrB_len S r)⟩
 unfold jrH
 rw [h1, h2, h3, List.take_left' (jrB_len S r)]
 simp
theorem jr_part {r : List Int} (h : r.length <= 1048576) {j : Nat} (hj : j < jrN r.length) : jrH S ((jrB S r).take (32 * j)) = false := by
 have hn := jrN_bd r.length
 have hl : ((jrB S r).take (32 * j)).length = 32 * j := by rw [List.length_take, jrB_len]; omega
 have key : usE S ((jrB S r).take (32 * j)) ≠ 0 := by
  intro hc
  obtain ⟨h1, h2, h3, _⟩ := usE_zero hc
  have h4 := (rcE_zero h1).1
  have hj1 : 1 <= j := by omega
  have e : ((jrB S r).take (32 * j)).take 4 = wd8 (r.length : Int) 4 := by
   rw [List.take_take, Nat.min_eq_left (by omega)]
   unfold jrB slF hd8
   simp only [List.append_assoc]
   exact List.take_left' (wd8_len _ _)
  have e2 : usN ((jrB S r).take (32 * j)) = r.length := by
   unfold usN
   rw [e, (tk_count (by omega) []).2]; simp
  rw [e2] at h3
  omega
 unfold jrH
 rw [decide_eq_false key]; rfl
theorem jr_nil : jrH S [] = false := rfl
theorem jrR_stop {zs : List Int} (h : jrH S zs = false) : ∀ k, jrR S k zs = []
 | 0 => rfl
 | k + 1 => by unfold jrR; rw [if_neg (by rw [h]; decide)]
theorem jr_read (hS : ∀ bs, 0 <= S bs ∧ S bs <= 18446744073709551615) : ∀ (rs : List (List Int)) (hr : ∀ r ∈ rs, r.length <= 1048576) {tl : List Int} (ht : jrH S tl = false) (k : Nat) (hk : rs.length <= k), jrR S k (rs.flatMap (jrB S) ++ tl) = rs
 | [], _, tl, ht, k, _ => by rw [List.flatMap_nil, List.nil_append]; exact jrR_stop ht k
 | r :: rs, hr, tl, ht, 0, hk => by simp at hk
 | r :: rs, hr, tl, ht, k + 1, hk => by
  obtain ⟨h1, h2, h3, h4⟩ := jr_here hS (hr r List.mem_cons_self) (rs.flatMap (jrB S) ++ tl)
  rw [List.flatMap_cons, List.append_assoc]
  unfold jrR
  rw [if_pos h1, h2, h3, h4, jr_read hS rs (fun x hx => hr x (List.mem_cons_of_mem _ hx)) ht k (by simpa using hk)]
theorem jrH_iff {zs : List Int} (h : jrH S zs = true) : usE S zs = 0 ∧ (usL S zs).length = usN zs ∧ (usL S zs).length <= 1048576 ∧ jrB S (usL S zs) = zs.take (32 * jrN (usN zs)) ∧ 32 * jrN (usN zs) <= zs.length := by
 unfold jrH at h
 rw [Bool.and_eq_true, decide_eq_true_iff, decide_eq_true_iff] at h
 obtain ⟨h1, h2⟩ := h
 have hl := usL_len h1
 have hu := (usE_zero h1).2.1
 refine ⟨h1, hl, by omega, h2, ?_⟩
 have := congrArg List.length h2
 rw [jrB_len, hl, List.length_take] at this
 omega
theorem jr_what : ∀ (k : Nat) (zs : List Int), (jrR S k zs).flatMap (jrB S) = zs.take (32 * jrW (jrR S k zs)) ∧ 32 * jrW (jrR S k zs) <= zs.length ∧ ∀ r ∈ jrR S k zs, r.length <= 1048576
 | 0, zs => ⟨by simp [jrR, jrW], by simp [jrR, jrW], fun r hr => by cases hr⟩
 | k + 1, zs => by
  unfold jrR
  by_cases h : jrH S zs = true
  · rw [if_pos h]
    obtain ⟨h1, h2, h3, h4, h5⟩ := jrH_iff h
    obtain ⟨i1, i2, i3⟩ := jr_what k (zs.drop (32 * jrN (usN zs)))
    rw [List.length_drop] at i2
    refine ⟨?_, ?_, fun r hr => ?_⟩
    · rw [List.flatMap_cons, i1, h4]
      simp only [jrW, h2]
      rw [Nat.mul_add, List.take_add]
    · simp only [jrW, h2]; omega
    · rcases List.mem_cons.1 hr with rfl | hr
      · exact h3
      · exact i3 r hr
  · rw [if_neg h]
    exact ⟨by simp [jrW], by simp [jrW], fun r hr => by cases hr⟩
theorem jr_fuel : ∀ (k m : Nat) (zs : List Int), zs.length <= 32 * k -> zs.length <= 32 * m -> jrR S k zs = jrR S m zs
 | 0, m, zs, hk, _ => by
  have : zs = [] := List.length_eq_zero_iff.1 (by omega)
  subst this
  exact (jrR_stop jr_nil m).symm
 | k + 1, 0, zs, _, hm => by
  have : zs = [] := List.length_eq_zero_iff.1 (by omega)
  subst this
  exact jrR_stop jr_nil (k + 1)
 | k + 1, m + 1, zs, hk, hm => by
  unfold jrR
  by_cases h : jrH S zs = true
  · rw [if_pos h, if_pos h]
    have hb := jrN_bd (usN zs)
    rw [jr_fuel k m (zs.drop (32 * jrN (usN zs))) (by rw [List.length_drop]; omega) (by rw [List.length_drop]; omega)]
  · rw [if_neg h, if_neg h]
end
def ck32 : Nat -> List Int -> List (List Int)
 | 0, _ => []
 | k + 1, zs => zs.take 32 :: ck32 k (zs.drop 32)
theorem ck32_len (k : Nat) (zs : List Int) : (ck32 k zs).length = k := by
 induction k generalizing zs with
 | zero => rfl
 | succ k ih => unfold ck32; rw [List.length_cons, ih]
theorem ck32_at : ∀ (k : Nat) (zs : List Int) (i : Nat), i < k -> (ck32 k zs)[i]? = some ((zs.drop (32 * i)).take 32)
 | 0, zs, i, h => by omega
 | k + 1, zs, 0, h => by unfold ck32; simp
 | k + 1, zs, i + 1, h => by
  unfold ck32
  rw [List.getElem?_cons_succ, ck32_at k (zs.drop 32) i (by omega), List.drop_drop]
  congr 3
  omega
theorem ck32_32 {k : Nat} {zs : List Int} (h : zs.length = 32 * k) : ∀ b ∈ ck32 k zs, b.length = 32 := fun b hb => by
 obtain ⟨i, hi⟩ := List.getElem?_of_mem hb
 have hk : i < k := by have := (List.getElem?_eq_some_iff.1 hi).1; rwa [ck32_len] at this
 rw [ck32_at k zs i hk] at hi
 injection hi with hi
 rw [<- hi, List.length_take, List.length_drop]
 omega
theorem ck32_take : ∀ (k j : Nat) (zs : List Int), j <= k -> ((ck32 k zs).take j).flatten = zs.take (32 * j)
 | k, 0, zs, _ => by simp
 | 0, j + 1, zs, h => by omega
 | k + 1, j + 1, zs, h => by
  unfold ck32
  rw [List.take_succ_cons, List.flatten_cons, ck32_take k j (zs.drop 32) (by omega), show 32 * (j + 1) = 32 + 32 * j by omega, List.take_add]
def jrC (S : List Int -> Int) (r : List Int) : List (List Int) := ck32 (jrN r.length) (jrB S r)
theorem flat_len32 {l : List (List Int)} (h : ∀ b ∈ l, b.length = 32) : l.flatten.length = 32 * l.length := by
 induction l with
 | nil => rfl
 | cons b l ih => rw [List.flatten_cons, List.length_append, h b List.mem_cons_self, ih (fun x hx => h x (List.mem_cons_of_mem _ hx)), List.length_cons]; omega
theorem flat_take32 : ∀ (l : List (List Int)) (h : ∀ b ∈ l, b.length = 32) (k : Nat), (l.take k).flatten = l.flatten.take (32 * k)
 | [], _, k => by simp
 | b :: l, h, 0 => by simp
 | b :: l, h, k + 1 => by
  have hb := h b List.mem_cons_self
  rw [List.take_succ_cons, List.flatten_cons, List.flatten_cons, flat_take32 l (fun x hx => h x (List.mem_cons_of_mem _ hx)) k, show 32 * (k + 1) = b.length + 32 * k by omega, List.take_length_add_append]
def wsE : Dsk -> List (List Int) -> Int
 | _, [] => 0
 | D, b :: bs => if wrE22 D b = 0 then wsE (wrN22 D b) bs else wrE22 D b
def wsN : Dsk -> List (List Int) -> Dsk
 | D, [] => D
 | D, b :: bs => if wrE22 D b = 0 then wsN (wrN22 D b) bs else wrN22 D b
theorem wsN_ok : ∀ (bs : List (List Int)) {D : Dsk}, DskOk D -> DskOk (wsN D bs)
 | [], D, h => h
 | b :: bs, D, h => by
  unfold wsN
  split
  · exact wsN_ok bs (wrN_ok h b)
  · exact wrN_ok h b
theorem ws_what : ∀ (bs : List (List Int)) (D : Dsk), (∀ b ∈ bs, b.length = 32) -> D.l.length + bs.length <= 65536 -> ∃ j, j <= bs.length ∧ (wsN D bs).l = D.l ++ bs.take j ∧ (wsE D bs = 0 ∧ j = bs.length ∨ wsE D bs = 220 ∧ j < bs.length)
 | [], D, _, _ => ⟨0, Nat.le_refl _, by simp [wsN], .inl ⟨rfl, rfl⟩⟩
 | b :: bs, D, h, hl => by
  have hb := h b List.mem_cons_self
  rw [List.length_cons] at hl
  unfold wsN wsE
  by_cases hd : dieD D = true
  · have e : wrE22 D b = 220 := by unfold wrE22; rw [if_pos hb, if_pos hd]
    rw [if_neg (by omega), if_neg (by omega), e]
    refine ⟨0, Nat.zero_le _, ?_, .inr ⟨rfl, by simp⟩⟩
    unfold wrN22
    rw [if_neg (by omega), if_pos e]; simp
  · have e : wrE22 D b = 0 := by unfold wrE22; rw [if_pos hb, if_neg hd, if_neg (by omega)]
    have e2 : (wrN22 D b).l = D.l ++ [b] := by unfold wrN22; rw [if_pos e]; rfl
    rw [if_pos e, if_pos e]
    obtain ⟨j, h1, h2, h3⟩ := ws_what bs (wrN22 D b) (fun x hx => h x (List.mem_cons_of_mem _ hx)) (by rw [e2, List.length_append]; simp; omega)
    refine ⟨j + 1, by rw [List.length_cons]; omega, ?_, ?_⟩
    · rw [h2, e2, List.take_succ_cons, List.append_assoc]; rfl
    · rcases h3 with ⟨h4, h5⟩ | ⟨h4, h5⟩
      · exact .inl ⟨h4, by rw [List.length_cons]; omega⟩
      · exact .inr ⟨h4, by rw [List.length_cons]; omega⟩
end Go.Proofs.Ythialdipnhggnaa.Fld
