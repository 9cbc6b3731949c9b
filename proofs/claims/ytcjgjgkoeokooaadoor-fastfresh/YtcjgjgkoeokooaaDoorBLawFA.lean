/-
  What the statements of layer 4 take: the statements' own 'anchored'; the walks of FastMuls, FastTransforms and FastPowers.
-/
import Derived.Test.YtcjgjgkoeokooaaDoorBFasT
namespace Go.Proofs.YtcjgjgkoeokooaaDoor
open Go.RowKit Fld
set_option linter.unusedVariables false

theorem frow2 (w : World) (a b : Int) (ha : 0 ≤ a ∧ a ≤ 18446744073709551615) (hb : 0 ≤ b ∧ b ≤ 18446744073709551615) (T : TypeId) :
    Rw (w.alloc (.cells #[.int .u64 a, .int .u64 b] T)) (.slice (some ⟨w.heap.size, 0, none⟩) 2 2) [a, b] := ⟨row2 w a b ha hb T, _, _, _, rfl, Nat.le_refl _⟩
theorem frow3 (w : World) (a b c : Int) (ha : 0 ≤ a ∧ a ≤ 18446744073709551615) (hb : 0 ≤ b ∧ b ≤ 18446744073709551615) (hc : 0 ≤ c ∧ c ≤ 18446744073709551615) (T : TypeId) :
    Row (w.alloc (.cells #[.int .u64 a, .int .u64 b, .int .u64 c] T)) (.slice (some ⟨w.heap.size, 0, none⟩) 3 3) [a, b, c] :=
  ⟨_, _, rfl, by simp, by simp [ha, hb, hc], fun _ => ⟨_, _, rfl, by simp, fun i hi => by
    have : i = 0 ∨ i = 1 ∨ i = 2 := by simp at hi; omega
    rcases this with rfl | rfl | rfl <;> simp [go_sem]⟩⟩
theorem anc4_m : mulE 2 [1, 2] [3, 4] = 0 ∧ mulL 2 [1, 2] [3, 4] = [3, 10, 8] := by constructor <;> decide +kernel
theorem anc4_e : trE 1 [1, 2] = 0 ∧ trE 1 [] = 3 ∧ trL 1 [] = [] := by refine ⟨?_, ?_, ?_⟩ <;> decide +kernel
theorem anc4_f : tf 2013265921 2013265920 2 [1, 2] = [3, 2013265920] := by decide +kernel
theorem anc4_t : trL 1 [1, 2] = [3, 2013265920] := by
  have hB : Lb 1 2013265921 false 27 31 := .inl ⟨rfl, rfl, rfl, rfl, rfl⟩
  unfold trL
  rw [if_pos anc4_e.1, pOf_eq hB.fi, rtOf_eq hB (L := 1) (n := ([1, 2] : List Int).length) (by decide) rfl, rv1_small]
  exact anc4_f
theorem anc4_mul (w : World) (T : TypeId) (hT : Tb w) :
    Calls Tryd.prog 10 #[.int .u8 2, .slice (some ⟨w.heap.size, 0, none⟩) 2 2, .slice (some ⟨w.heap.size + 1, 0, none⟩) 2 2] ((w.alloc (.cells #[.int .u64 1, .int .u64 2] T)).alloc (.cells #[.int .u64 3, .int .u64 4] T))
      fun e w' => ∃ v', e = .returned (.tuple #[v', .int .i64 0]) ∧ Row w' v' [3, 10, 8] ∧ Below w.heap.size w w' := by
  have r1 := (frow2 w 1 2 (by decide) (by decide) T).below (alloc_below _ (.cells #[.int .u64 3, .int .u64 4] T))
  have r2 := frow2 (w.alloc (.cells #[.int .u64 1, .int .u64 2] T)) 3 4 (by decide) (by decide) T
  have h := fMul_any 2 _ _ [1, 2] [3, 4] _ r1 r2 ((hT.below (alloc_below _ _)).below (alloc_below _ _))
  unfold Gets at h
  have e2 : (w.alloc (.cells #[.int .u64 1, .int .u64 2] T)).heap.size = w.heap.size + 1 := by simp
  rw [e2] at h
  rw [anc4_m.1, anc4_m.2] at h
  exact h.mono fun e w' ⟨v', he, hr, hb⟩ => ⟨v', he, hr.1, below_one (below_one hb)⟩
theorem gv_row {w : World} {base n : Nat} {v : Value} {zs : List Int} (h : w.ownsRow base 39 1 v n (vals zs)) (hw : Wd zs) : Row w v zs := (hw.row h).1
theorem anc4_tr (w : World) (T : TypeId) (hT : Tb w) :
    Calls Tryd.prog 14 #[.int .u8 1, .slice (some ⟨w.heap.size, 0, none⟩) 2 2] (w.alloc (.cells #[.int .u64 1, .int .u64 2] T))
      fun e w' => ∃ v', e = .returned (.tuple #[v', .int .i64 0]) ∧ Row w' v' [3, 2013265920] ∧ Below w.heap.size w w' := by
  have h := fTransform_any 1 _ [1, 2] _ (frow2 w 1 2 (by decide) (by decide) T) (hT.below (alloc_below _ _))
  unfold Gives at h
  rw [anc4_e.1, anc4_t] at h
  exact h.mono fun e w' ⟨v', he, hO, hb⟩ => ⟨v', he, gv_row hO ⟨by simp, by simp⟩, below_one hb⟩
theorem anc4_no (w : World) (hT : Tb w) :
    Calls Tryd.prog 14 #[.int .u8 1, .slice none 0 0] w fun e w' => ∃ v', e = .returned (.tuple #[v', .int .i64 3]) ∧ Below w.heap.size w w' := by
  have h := fTransform_any 1 (.slice none 0 0) [] w (rw0 w) hT
  unfold Gives at h
  rw [anc4_e.2.1, anc4_e.2.2] at h
  exact h.mono fun e w' ⟨v', he, hO, hb⟩ => ⟨v', he, hb⟩

set_option maxRecDepth 100000 in
set_option maxHeartbeats 400000 in
theorem anch4 (w : World) (hT : Tb w) : Calls Tryd.prog 13 #[] w fun e w' => e = .returned (.bool true) ∧ Below w.heap.size w w' := by
  have hm := hide (fun T => anc4_mul w T hT)
  have ht := hide (fun W T (hb : Below w.heap.size w W) => anc4_tr W T (hT.below hb))
  have hn := hide (fun W (hb : Below w.heap.size w W) => anc4_no W (hT.below hb))
  have hr3 := hide (fun W T => frow3 W 3 10 8 (by decide) (by decide) (by decide) T)
  have hr2 := hide (fun W T => (frow2 W 3 2013265920 (by decide) (by decide) T).1)
  clear hT
  go_enter Tryd.func13, Tryd.ntmps13
  go_wp2_with fail
  refine (hm.out _).mono ?_; rintro e w1 ⟨u1, rfl, r1, hb1⟩
  have R1 := hide r1
  clear r1
  go_wp2_with fail
  refine (ht.out _ _ hb1).mono ?_; rintro e w2 ⟨u2, rfl, r2, hb⟩
  have R1 := hide (R1.out.below hb)
  have R2 := hide r2
  have hb2 := Below.next hb1 hb
  clear r2 hb hb1
  go_wp2_with fail
  refine (hn.out _ hb2).mono ?_; rintro e w3 ⟨u3, rfl, hb⟩
  have R1 := hide (R1.out.below hb)
  have R2 := hide (R2.out.below hb)
  have hb3 := Below.next hb2 hb
  clear hb hb2
  go_wp2_with fail
  refine (Same_yes u1 _ [3, 10, 8] _ (R1.out.below (alloc_below _ _)) (hr3.out _ _)).mono ?_; rintro e w4 ⟨rfl, hb⟩
  have hb4' := below_one hb
  have R2 := hide (R2.out.below hb4')
  have hb4 := Below.next hb3 hb4'
  clear hb hb3 hb4'
  go_wp2_with fail
  refine (Same_yes u2 _ [3, 2013265920] _ (R2.out.below (alloc_below _ _)) (hr2.out _ _)).mono ?_; rintro e w5 ⟨rfl, hb⟩
  have hb5 := Below.next hb4 (below_one hb)
  go_wp2
  go_ret
  exact ⟨rfl, hb5⟩

theorem trL_wd (f : Int) (xs : List Int) : Wd (trL f xs) := by
  unfold trL; split
  · rename_i he
    obtain ⟨p, wd, LL, gb, L, hB, hL, hl, i1⟩ := trE_zero he
    rw [pOf_eq hB.fi]
    exact wd_els (els_tf hB.fi.pos _ _ _) hB.fi.top (by rw [tf_len, hl]; have := pow_le12 hL; omega)
  · exact wd_nil
theorem bkL_wd (f : Int) (xs : List Int) : Wd (bkL f xs) := by
  unfold bkL; split
  · rename_i he
    obtain ⟨p, wd, LL, gb, L, hB, hL, hl, i1⟩ := trE_zero he
    rw [pOf_eq hB.fi]
    exact wd_els (els_bk hB.fi.pos _ _ _ _) hB.fi.top (by rw [bk_len, hl]; have := pow_le12 hL; omega)
  · exact wd_nil
theorem rdM_wd (f : Int) (xs ys : List Int) : Wd (rdM f xs ys) := by
  unfold rdM; split
  · rename_i he
    obtain ⟨p, wd, LL, gb, L, hB, hL, hl, _, i1, _⟩ := rdE_zero he
    rw [pOf_eq hB.fi]
    exact wd_els (els_rdL hB.fi.pos _ _ _) hB.fi.top (by rw [rdL_len, hl]; have := pow_le12 hL; omega)
  · exact wd_nil

set_option maxRecDepth 100000 in
set_option maxHeartbeats 400000 in
theorem fmuls_any (f : Int) (v1 v2 : Value) (xs ys : List Int) (w : World) (h1 : Rw w v1 xs) (h2 : Rw w v2 ys) (hT : Tb w) :
    Calls Tryd.prog 3 #[.int .u8 f, v1, v2] w fun e w' => e = .returned (.bool true) ∧ Below w.heap.size w w' := by
  have g1 := hide (fKara_any f v1 v2 xs ys w h1 h2)
  have g2 := hide (fun W (hb : Below w.heap.size w W) => fMul_any f v1 v2 xs ys W (h1.below hb) (h2.below hb) (hT.below hb))
  have g3 := hide (fun W (hb : Below w.heap.size w W) => dMul_any f v1 v2 xs ys W (h1.below hb) (h2.below hb))
  have ga := hide (fun W (hb : Below w.heap.size w W) => anch4 W (hT.below hb))
  unfold Gives at g1 g3
  unfold Gets at g2
  have d := hide (mulL_wd f xs ys)
  generalize mulL f xs ys = M at *
  generalize mulE f xs ys = e1 at *
  obtain ⟨a1, c1, rfl, _⟩ := h1.spell
  obtain ⟨a2, c2, rfl, _⟩ := h2.spell
  clear h1 h2 hT
  go_enter Tryd.func3, Tryd.ntmps3
  go_wp2_with fail
  refine g1.out.mono ?_; rintro e w1 ⟨u1, rfl, hO, hb1⟩
  have R1 := hide (d.out.row hO).1
  clear hO
  go_wp2_with fail
  refine (g2.out _ hb1).mono ?_; rintro e w2 ⟨u2, rfl, hr, hb⟩
  have R1 := hide (R1.out.below hb)
  have R2 := hide hr.1
  have hb2 := Below.next hb1 hb
  clear hr hb hb1
  go_wp2_with fail
  refine (g3.out _ hb2).mono ?_; rintro e w3 ⟨u3, rfl, hO, hb⟩
  have R1 := hide (R1.out.below hb)
  have R2 := hide (R2.out.below hb)
  have R3 := hide (d.out.row hO).1
  have hb3 := Below.next hb2 hb
  clear hO hb hb2
  go_wp2_with fail
  refine (Same_yes u1 u3 M _ R1.out R3.out).mono ?_; rintro e w4 ⟨rfl, hb⟩
  have R2 := hide (R2.out.below hb)
  have R3 := hide (R3.out.below hb)
  have hb4 := Below.next hb3 hb
  clear hb hb3
  go_wp2_with fail
  refine (Same_yes u2 u3 M _ R2.out R3.out).mono ?_; rintro e w5 ⟨rfl, hb⟩
  have hb5 := Below.next hb4 hb
  clear hb hb4
  go_wp2_with fail
  refine (ga.out _ hb5).mono ?_; rintro e w6 ⟨rfl, hb⟩
  have hb6 := Below.next hb5 hb
  go_wp2
  go_ret
  exact ⟨by simp, hb6⟩

end Go.Proofs.YtcjgjgkoeokooaaDoor
