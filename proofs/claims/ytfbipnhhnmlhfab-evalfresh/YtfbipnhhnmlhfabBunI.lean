/- Texts laid together: LawVA. -/
import Derived.Test.YtfbipnhhnmlhfabBEvpD
import Derived.Test.YtfbipnhhnmlhfabBEvrA
import Derived.Test.YtfbipnhhnmlhfabBunW
namespace Go.Proofs.Ytfbipnhhnmlhfab
open Go.RowKit Fld Slp
set_option linter.unusedVariables false
set_option linter.unusedSimpArgs false

/-- The program that the document fixes. -/
def anQ : Pr := ⟨1, [⟨3, 0, 0, 0⟩, ⟨4, 0, 0, 5⟩, ⟨1, 1, 2, 0⟩], [3]⟩
theorem an_run : evE 1 anQ [3] = 0 ∧ ruL 1 anQ [3] = [14] ∧ evE 1 anQ [] = 3 ∧ ruL 1 anQ [] = [] := by decide +kernel
theorem anq_pm {W : World} {b c : Nat} (h1 : W.heap[b]? = some (.cells (anQ.ops.flatMap opw).toArray 67 (0, 0))) (h2 : W.heap[c]? = some (.cells (anQ.outs.flatMap iw).toArray 3 (0, 0))) : Pm W (.agg #[.int .i64 1, .slice (some ⟨b, 0, none⟩) 3 3, .slice (some ⟨c, 0, none⟩) 1 1]) anQ := by
  have o1 := own_lit (s := 4) (n := 3) (anQ.ops.flatMap opw) h1 rfl (by decide)
  have o2 := own_lit (s := 1) (n := 1) (anQ.outs.flatMap iw) h2 rfl (by decide)
  refine ⟨⟨_, _, rfl, lm_of_own opw_len (by decide) o1 (by decide), lm_of_own iw_len (by decide) o2 (by decide)⟩, by decide, ?_, ?_⟩
  · intro o ho
    have : o = ⟨3, 0, 0, 0⟩ ∨ o = ⟨4, 0, 0, 5⟩ ∨ o = ⟨1, 1, 2, 0⟩ := by simpa [anQ] using ho
    rcases this with rfl | rfl | rfl <;> (unfold Ok4; decide)
  · intro x hx
    have : x = 3 := by simpa [anQ] using hx
    subst this
    decide
def Anch11 (w : World) : Prop := Calls Try.prog 11 #[] w fun e w' => e = .returned (.bool true) ∧ Below w.heap.size w w'

set_option maxRecDepth 100000 in
set_option maxHeartbeats 400000 in
theorem anch11 (w : World) : Anch11 w := by
  unfold Anch11
  go_enter Try.func11, Try.ntmps11
  go_upto_region 2 with fail
  obtain ⟨n1, n2, n3, hB⟩ := alloc3 w (.cells (anQ.ops.flatMap opw).toArray 67) (.cells (anQ.outs.flatMap iw).toArray 3) (.cells #[.int .i64 1, .slice (some ⟨w.heap.size, 0, none⟩) 3 3, .slice (some ⟨w.heap.size + 1, 0, none⟩) 1 1] 25)
  have HP := hide (anq_pm n1 n2)
  have e1 : (anQ.ops.flatMap opw).toArray = #[.int .u8 3, .int .i64 0, .int .i64 0, .int .u64 0, .int .u8 4, .int .i64 0, .int .i64 0, .int .u64 5, .int .u8 1, .int .i64 1, .int .i64 2, .int .u64 0] := rfl
  have e2 : (anQ.outs.flatMap iw).toArray = #[.int .i64 3] := rfl
  rw [e1, e2] at n1 n2 n3 hB HP
  clear e1 e2 n1 n2
  generalize ((w.alloc (.cells #[.int .u8 3, .int .i64 0, .int .i64 0, .int .u64 0, .int .u8 4, .int .i64 0, .int .i64 0, .int .u64 5, .int .u8 1, .int .i64 1, .int .i64 2, .int .u64 0] 67)).alloc (.cells #[.int .i64 3] 3)).alloc (.cells #[.int .i64 1, .slice (some ⟨w.heap.size, 0, none⟩) 3 3, .slice (some ⟨w.heap.size + 1, 0, none⟩) 1 1] 25) = w1 at *
  have hA1 := alloc_below w1 (.cells #[.int .u64 3] 36)
  have HA := hide (eRun 1 anQ _ _ [3] _ (HP.out.below hA1) (rw1 w1 3 (by decide) 36))
  have HF := hide (fun W (hb : Below w1.heap.size w1 W) => eRun 1 anQ _ _ [] W (HP.out.below hb) (rw0 W))
  unfold Gives at HA HF
  rw [an_run.1, an_run.2.1] at HA
  rw [an_run.2.2.1, an_run.2.2.2] at HF
  obtain ⟨p0, p1, p2⟩ := cell3 n3
  have HN := hide n3
  clear n3
  go_wp2_with (first
    | (go_at_call 35; refine (HF.out _ hb2').mono ?_; rintro e w3 ⟨v3, rfl, ho3, hb3⟩; have HR3 := hide (HR2.out.below (Below.next hb3 (alloc_below w3 (.cells #[.int .u64 14] 36)))); have HR4 := hide (rw1 w3 14 (by decide) 36))
    | (go_at_call 35; refine HA.out.mono ?_; rintro e w2 ⟨v2, rfl, ho2, hb2⟩; have hb2' := Below.next hA1 hb2; have HR2 := hide (rw_of_own ho2 (by decide) (by decide)); clear p0 p1 p2; obtain ⟨p0, p1, p2⟩ := cell3 ((hb2'.block _ (Array.getElem?_eq_some_iff.1 HN.out).1).trans HN.out))
    | (go_at_call 9; refine (Same_yes _ _ _ _ HR3.out.1 HR4.out.1).mono ?_; rintro e w5 ⟨rfl, hb5⟩))
  go_ret
  exact ⟨rfl, Below.next (Below.next (Below.next (Below.next hB hb2') hb3) (alloc_below w3 _)) hb5⟩

end Go.Proofs.Ytfbipnhhnmlhfab

