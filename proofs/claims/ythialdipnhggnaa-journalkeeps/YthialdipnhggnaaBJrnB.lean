import Derived.Test.YthialdipnhggnaaBJrnA
set_option linter.unusedVariables false
set_option linter.unusedSimpArgs false
set_option maxRecDepth 100000
set_option maxHeartbeats 4000000
namespace Go.Proofs.Ythialdipnhggnaa.Fld
section
variable (S : List Int -> Int)
def apE23 (D : Dsk) (r : List Int) : Int := if 1048576 < r.length then 4 else wsE D (jrC S r)
def apN23 (D : Dsk) (r : List Int) : Dsk := if 1048576 < r.length then D else wsN D (jrC S r)
def rdD (D : Dsk) : List (List Int) := jrR S D.l.length D.l.flatten
def opE23 (D : Dsk) : Int := if jrW (rdD S D) < D.l.length then tmE D (jrW (rdD S D) : Int) else 0
def opN23 (D : Dsk) : Dsk := if jrW (rdD S D) < D.l.length then tmN D (jrW (rdD S D) : Int) else D
def opR23 (D : Dsk) : List (List Int) := if opE23 S D = 0 then rdD S D else []
structure Jex (D : Dsk) (rs : List (List Int)) : Prop where
 flat : D.l.flatten = rs.flatMap (jrB S)
 len : ∀ r ∈ rs, r.length <= 1048576
 ok : DskOk D
structure Jkp (D : Dsk) (rs : List (List Int)) : Prop where
 flat : ∃ tl, D.l.flatten = rs.flatMap (jrB S) ++ tl ∧ jrH S tl = false
 len : ∀ r ∈ rs, r.length <= 1048576
 ok : DskOk D
end
section
variable {S : List Int -> Int}
theorem Jex.kp {D : Dsk} {rs : List (List Int)} (h : Jex S D rs) : Jkp S D rs := ⟨⟨[], by rw [h.flat, List.append_nil], rfl⟩, h.len, h.ok⟩
theorem jex_new : Jex S dk0 [] := ⟨rfl, fun r hr => (by cases hr), dk0_ok⟩
theorem Jkp.of_l {D E : Dsk} {rs : List (List Int)} (h : Jkp S D rs) (e : E.l = D.l) (ho : DskOk E) : Jkp S E rs := ⟨by rw [e]; exact h.flat, h.len, ho⟩
theorem Jex.of_l {D E : Dsk} {rs : List (List Int)} (h : Jex S D rs) (e : E.l = D.l) (ho : DskOk E) : Jex S E rs := ⟨by rw [e]; exact h.flat, h.len, ho⟩
theorem Jex.count {D : Dsk} {rs : List (List Int)} (h : Jex S D rs) : D.l.length = jrW rs := by
 have h1 := flat_len32 h.ok.blk
 rw [h.flat, jrB_flat] at h1
 omega
theorem Jkp.count {D : Dsk} {rs : List (List Int)} (h : Jkp S D rs) : jrW rs <= D.l.length := by
 obtain ⟨tl, h1, _⟩ := h.flat
 have h2 := flat_len32 h.ok.blk
 rw [h1, List.length_append, jrB_flat] at h2
 omega
theorem Jkp.read (hS : ∀ bs, 0 <= S bs ∧ S bs <= 18446744073709551615) {D : Dsk} {rs : List (List Int)} (h : Jkp S D rs) : rdD S D = rs := by
 obtain ⟨tl, h1, h2⟩ := h.flat
 unfold rdD
 rw [h1]
 exact jr_read hS rs h.len h2 _ (Nat.le_trans (jrW_ge rs) h.count)
theorem Jex.append {D : Dsk} {rs : List (List Int)} (h : Jex S D rs) {r : List Int} (hr : r.length <= 1048576) (hl : D.l.length + jrN r.length <= 65536) :
 (apE23 S D r = 0 ∧ Jex S (apN23 S D r) (rs ++ [r])) ∨ (apE23 S D r = 220 ∧ Jkp S (apN23 S D r) rs) := by
 have hB := jrB_len S r
 have hc : (jrC S r).length = jrN r.length := ck32_len _ _
 have h32 : ∀ b ∈ jrC S r, b.length = 32 := ck32_32 hB
 unfold apE23 apN23
 rw [if_neg (by omega), if_neg (by omega)]
 obtain ⟨j, h1, h2, h3⟩ := ws_what (jrC S r) D h32 (by rw [hc]; exact hl)
 have hf : (wsN D (jrC S r)).l.flatten = rs.flatMap (jrB S) ++ (jrB S r).take (32 * j) := by
  rw [h2, List.flatten_append, h.flat]
  congr 1
  exact ck32_take _ _ _ (by omega)
 have hok := wsN_ok (jrC S r) h.ok
 rcases h3 with ⟨e, hj⟩ | ⟨e, hj⟩
 · refine .inl ⟨e, ⟨?_, fun x hx => ?_, hok⟩⟩
   · rw [hf, hj, hc, <- hB, List.take_length, List.flatMap_append]; simp
   · rcases List.mem_append.1 hx with hx | hx
     · exact h.len x hx
     · rw [List.mem_singleton.1 hx]; exact hr
 · exact .inr ⟨e, ⟨⟨_, hf, jr_part hr (by omega)⟩, h.len, hok⟩⟩
theorem Jkp.open_ (hS : ∀ bs, 0 <= S bs ∧ S bs <= 18446744073709551615) {D : Dsk} {rs : List (List Int)} (h : Jkp S D rs) : Jkp S (opN23 S D) rs ∧ (dieD D = false -> opE23 S D = 0 ∧ opR23 S D = rs ∧ Jex S (opN23 S D) rs) := by
 have hr := h.read hS
 have hc := h.count
 unfold opN23 opR23 opE23
 rw [hr]
 by_cases hw : jrW rs < D.l.length
 · rw [if_pos hw, if_pos hw]
   have ht : (D.l.take (jrW rs)).flatten = rs.flatMap (jrB S) := by
    obtain ⟨tl, h1, _⟩ := h.flat
    rw [flat_take32 _ h.ok.blk, h1, List.take_left' (jrB_flat S rs)]
   have ok := tmN_ok h.ok (jrW rs : Int)
   cases hd : dieD D with
   | true =>
    have e : tmE D (jrW rs : Int) = 220 := by unfold tmE; rw [if_pos (by omega), if_pos hd]
    refine ⟨h.of_l ?_ ok, fun hc => by cases hc⟩
    unfold tmN
    rw [if_neg (by omega), if_pos e]
   | false =>
    have e : tmE D (jrW rs : Int) = 0 := by unfold tmE; rw [if_pos (by omega), if_neg (by rw [hd]; decide)]
    have el : (tmN D (jrW rs : Int)).l = D.l.take (jrW rs) := by unfold tmN; rw [if_pos e]; show D.l.take (Int.toNat _) = _; rw [Int.toNat_natCast]
    have hx : Jex S (tmN D (jrW rs : Int)) rs := ⟨by rw [el, ht], h.len, ok⟩
    exact ⟨hx.kp, fun _ => ⟨e, by rw [if_pos e], hx⟩⟩
 · rw [if_neg hw, if_neg hw, if_pos rfl]
   refine ⟨h, fun _ => ⟨rfl, rfl, ⟨?_, h.len, h.ok⟩⟩⟩
   obtain ⟨tl, h1, _⟩ := h.flat
   have h2 := flat_len32 h.ok.blk
   have h3 := congrArg List.length h1
   rw [List.length_append, jrB_flat] at h3
   have : tl = [] := List.length_eq_zero_iff.1 (by omega)
   rw [h1, this, List.append_nil]
theorem md_die (D : Dsk) : dieD (mdN D) = false := by simp [dieD, mdN]
end
end Go.Proofs.Ythialdipnhggnaa.Fld
