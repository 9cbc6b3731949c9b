/-
  The statements of layer 10: what the document fixes; DegreeAll walked.
-/
import Derived.Test.YtfgokcphnkkgnaaBDgpF
import Derived.Test.YtfgokcphnkkgnaaBDgrB
import Derived.Test.YtfgokcphnkkgnaaBSlwD
namespace Go.Proofs.Ytfgokcphnkkgnaa
open Go.RowKit Fld Slp
set_option linter.unusedVariables false
set_option linter.unusedSimpArgs false

theorem own_lit {W : World} {b s n : Nat} {T : TypeId} (cs : List Value) (h : W.heap[b]? = some (.cells cs.toArray T (0, 0))) (hl : cs.length = n * s) (hn : n ≤ 1000) : W.ownsRow b T s (.slice (some ⟨b, 0, none⟩) n n) n cs :=
  ⟨hl, .inr ⟨b, n, cs.toArray, rfl, Nat.le_refl _, h, Nat.le_refl _, by unfold maxLen; omega, by simpa using hl, by simp [← hl]⟩⟩
/-- The program that the document fixes. -/
def anP : Pr := ⟨1, [⟨3, 0, 0, 0⟩, ⟨4, 0, 0, 5⟩, ⟨2, 1, 2, 0⟩], [3]⟩
theorem an_al : alE anP = 0 ∧ alL anP = [1, 2, 0, 2] := by decide +kernel
theorem an_of : ofE anP = 0 ∧ ofV anP = 2 := by decide +kernel
theorem an_pm {W : World} {b c : Nat} (h1 : W.heap[b]? = some (.cells (anP.ops.flatMap opw).toArray 52 (0, 0))) (h2 : W.heap[c]? = some (.cells (anP.outs.flatMap iw).toArray 3 (0, 0))) : Pm W (.agg #[.int .i64 1, .slice (some ⟨b, 0, none⟩) 3 3, .slice (some ⟨c, 0, none⟩) 1 1]) anP := by
  have o1 := own_lit (s := 4) (n := 3) (anP.ops.flatMap opw) h1 rfl (by decide)
  have o2 := own_lit (s := 1) (n := 1) (anP.outs.flatMap iw) h2 rfl (by decide)
  refine ⟨⟨_, _, rfl, lm_of_own opw_len (by decide) o1 (by decide), lm_of_own iw_len (by decide) o2 (by decide)⟩, by decide, ?_, ?_⟩
  · intro o ho
    have : o = ⟨3, 0, 0, 0⟩ ∨ o = ⟨4, 0, 0, 5⟩ ∨ o = ⟨2, 1, 2, 0⟩ := by simpa [anP] using ho
    rcases this with rfl | rfl | rfl <;> (unfold Ok4; decide)
  · intro x hx
    have : x = 3 := by simpa [anP] using hx
    subst this
    decide
def Anch10 (w : World) : Prop := Calls Try.prog 12 #[] w fun e w' => e = .returned (.bool true) ∧ Below w.heap.size w w'

set_option maxRecDepth 100000 in
set_option maxHeartbeats 400000 in
theorem anch10 (w : World) : Anch10 w := by
  unfold Anch10
  go_enter Try.func12, Try.ntmps12
  go_upto_region 2 with fail
  obtain ⟨n1, n2, n3, hB⟩ := alloc3 w (.cells (anP.ops.flatMap opw).toArray 52) (.cells (anP.outs.flatMap iw).toArray 3) (.cells #[.int .i64 1, .slice (some ⟨w.heap.size, 0, none⟩) 3 3, .slice (some ⟨w.heap.size + 1, 0, none⟩) 1 1] 25)
  have HP := hide (an_pm n1 n2)
  have e1 : (anP.ops.flatMap opw).toArray = #[.int .u8 3, .int .i64 0, .int .i64 0, .int .u64 0, .int .u8 4, .int .i64 0, .int .i64 0, .int .u64 5, .int .u8 2, .int .i64 1, .int .i64 2, .int .u64 0] := rfl
  have e2 : (anP.outs.flatMap iw).toArray = #[.int .i64 3] := rfl
  rw [e1, e2] at n1 n2 n3 hB HP
  clear e1 e2 n1 n2
  generalize ((w.alloc (.cells #[.int .u8 3, .int .i64 0, .int .i64 0, .int .u64 0, .int .u8 4, .int .i64 0, .int .i64 0, .int .u64 5, .int .u8 2, .int .i64 1, .int .i64 2, .int .u64 0] 52)).alloc (.cells #[.int .i64 3] 3)).alloc (.cells #[.int .i64 1, .slice (some ⟨w.heap.size, 0, none⟩) 3 3, .slice (some ⟨w.heap.size + 1, 0, none⟩) 1 1] 25) = w1 at *
  have HA := hide (fun W (hb : Below w1.heap.size w1 W) => gAll _ anP W (HP.out.below hb))
  have HF := hide (fun W (hb : Below w1.heap.size w1 W) => gOf _ anP W (HP.out.below hb))
  unfold GivesI at HA
  unfold IsOf at HF
  rw [an_al.1, an_al.2] at HA
  rw [an_of.1, an_of.2] at HF
  obtain ⟨p0, p1, p2⟩ := cell3 n3
  have HN := hide n3
  clear n3
  go_wp2_with (first
    | (go_at_call 7; refine (HA.out _ (Below.refl _ _)).mono ?_; rintro e w2 ⟨v2, rfl, ho2, hb2⟩; obtain ⟨a2, c2, rfl⟩ := own_slice ho2; have HL2 := hide (lm_of_own iw_len (by decide) ho2 (by decide)); clear p0 p1 p2 ho2; obtain ⟨p0, p1, p2⟩ := cell3 ((hb2.block _ (Array.getElem?_eq_some_iff.1 HN.out).1).trans HN.out))
    | (go_at_call 9; refine (HF.out _ hb2).mono ?_; rintro e w3 ⟨rfl, hb3⟩; have HL3 := hide ((HL2.out.below hb3).below (alloc_below w3 (.cells #[.int .i64 1, .int .i64 2, .int .i64 0, .int .i64 2] 3))); have HL4 : Hid (Lm iw 1 (w3.alloc (.cells #[.int .i64 1, .int .i64 2, .int .i64 0, .int .i64 2] 3)) (.slice (some ⟨w3.heap.size, 0, none⟩) 4 4) [1, 2, 0, 2]) := (lm_of_own iw_len (by decide) (own_lit (W := w3.alloc (.cells #[.int .i64 1, .int .i64 2, .int .i64 0, .int .i64 2] 3)) (s := 1) (n := 4) (([1, 2, 0, 2] : List Int).flatMap iw) (heap_alloc_last w3 _) rfl (by decide)) (by decide)))
    | (go_at_call 11; refine (dInts _ _ _ _ _ HL3.out HL4.out).mono ?_; rintro e w5 ⟨r5, rfl, hr5, hb5⟩; obtain rfl : r5 = true := hr5.2 rfl; clear hr5))
  go_ret
  exact ⟨rfl, Below.next (Below.next (Below.next (Below.next hB hb2) hb3) (alloc_below w3 _)) hb5⟩

set_option maxRecDepth 100000 in
set_option maxHeartbeats 1000000 in
theorem degAll_any (w : World) (vp : Value) (p : Pr) (hp : Pm w vp p) : Calls Try.prog 3 #[vp] w fun e w' => e = .returned (.bool true) ∧ Below w.heap.size w w' := by
  have HP := hide hp
  obtain ⟨vo, vu, rfl, ho, hu⟩ := hp.form
  obtain ⟨ao, co, rfl, _⟩ := ho.spell
  obtain ⟨au, cu, rfl, _⟩ := hu.spell
  clear hp ho hu
  have hA := alloc_below w (.cells #[.int .i64 p.inp, .slice ao p.ops.length co, .slice au p.outs.length cu] 25)
  have hN := heap_alloc_new w (.cells #[.int .i64 p.inp, .slice ao p.ops.length co, .slice au p.outs.length cu] 25)
  have HA := hide (fun W' (hb : Below w.heap.size w W') => gAll _ p W' (HP.out.below hb))
  have HB := hide (fun W' (hb : Below w.heap.size w W') => dAll _ p W' (HP.out.below hb))
  have HC := hide (fun W' (hb : Below w.heap.size w W') => gOf _ p W' (HP.out.below hb))
  have HD := hide (fun W' (hb : Below w.heap.size w W') => dOf _ p W' (HP.out.below hb))
  have HX := hide (fun W' => anch10 W')
  unfold GivesI at HA HB
  unfold IsOf at HC HD
  unfold Anch10 at HX
  have HLn : Hid ((alL p).length ≤ 140737488500000) := by
    show _ ≤ _
    unfold alL
    split
    · rename_i h
      have hm : mayB p = true := by
        unfold alE at h
        by_cases hm : mayB p = true
        · exact hm
        · rw [if_neg hm] at h; cases h
      obtain ⟨⟨i0, i1, l1, l2⟩, _, _⟩ := mayB_iff.1 hm
      rw [iz_len, cps_len]; omega
    · simp
  generalize alL p = l at *
  generalize alE p = er at *
  generalize ofV p = d at *
  generalize ofE p = g at *
  go_enter Try.func3, Try.ntmps3
  go_wp2_with (first
    | (go_at_call 7; refine (HA.out _ hA).mono ?_; rintro e w1 ⟨v1, rfl, ho1, hb1⟩; obtain ⟨a1, c1, rfl⟩ := own_slice ho1; have HL1 := hide (lm_of_own iw_len (by decide) ho1 HLn.out); have hB1 := Below.next hA hb1; have n1 := (hb1.block _ (Array.getElem?_eq_some_iff.1 hN).1).trans hN; obtain ⟨p0, p1, p2⟩ := cell3 n1; clear ho1)
    | (go_at_call 8; refine (HB.out _ hB1).mono ?_; rintro e w2 ⟨v2, rfl, ho2, hb2⟩; obtain ⟨a2, c2, rfl⟩ := own_slice ho2; have HL2 := hide (lm_of_own iw_len (by decide) ho2 HLn.out); have hB2 := Below.next hB1 hb2; have n2 := (hb2.block _ (Array.getElem?_eq_some_iff.1 n1).1).trans n1; clear p0 p1 p2; obtain ⟨p0, p1, p2⟩ := cell3 n2; clear ho2)
    | (go_at_call 9; refine (HC.out _ hB2).mono ?_; rintro e w3 ⟨rfl, hb3⟩; have hB3 := Below.next hB2 hb3; have n3 := (hb3.block _ (Array.getElem?_eq_some_iff.1 n2).1).trans n2; clear p0 p1 p2; obtain ⟨p0, p1, p2⟩ := cell3 n3)
    | (go_at_call 10; refine (HD.out _ hB3).mono ?_; rintro e w4 ⟨rfl, hb4⟩; have hB4 := Below.next hB3 hb4; have hb24 := Below.next hb3 hb4)
    | (go_at_call 11; refine (dInts _ _ _ _ _ ((HL1.out.below hb2).below hb24) (HL2.out.below hb24)).mono ?_; rintro e w5 ⟨r5, rfl, hr5, hb5⟩; obtain rfl : r5 = true := hr5.2 rfl; clear hr5; have hB5 := Below.next hB4 hb5)
    | (go_at_call 12; refine (HX.out _).mono ?_; rintro e w6 ⟨rfl, hb6⟩; have hB6 := Below.next hB5 hb6))
  go_ret
  exact ⟨rfl, hB6⟩

end Go.Proofs.Ytfgokcphnkkgnaa
