/-
  The statements of layer 9: SlpMays walked.
-/
import Derived.Test.YtjkialmhajbcfaaDoorBSlwW
import Derived.Test.YtjkialmhajbcfaaDoorBSlwD
namespace Go.Proofs.YtjkialmhajbcfaaDoor
open Go.RowKit Fld Slp
set_option linter.unusedVariables false
set_option linter.unusedSimpArgs false

theorem bool_same {r t : Bool} {P : Prop} (h1 : r = true ↔ P) (h2 : t = true ↔ P) : t = r := by
  cases r <;> cases t <;> simp_all
/-- A program's three cells at a block. -/
def B3 (W : World) (b : Nat) (i : Int) (ao : Option Addr) (no co : Nat) (au : Option Addr) (nu cu : Nat) : Prop :=
  W.cell? ⟨b, 0, none⟩ = some (.int .i64 i) ∧ W.cell? ⟨b, 1, none⟩ = some (.slice ao no co) ∧ W.cell? ⟨b, 2, none⟩ = some (.slice au nu cu)
theorem b3_of {W : World} {b : Nat} {i : Int} {ao au : Option Addr} {no co nu cu : Nat} (h : W.heap[b]? = some (.cells #[.int .i64 i, .slice ao no co, .slice au nu cu] 25 (0, 0))) : B3 W b i ao no co au nu cu :=
  ⟨by rw [Lib.cell_of_heap h]; rfl, by rw [Lib.cell_of_heap h]; rfl, by rw [Lib.cell_of_heap h]; rfl⟩

set_option maxRecDepth 100000 in
set_option maxHeartbeats 1000000 in
theorem mays_any (w : World) (vp vq : Value) (p q : Pr) (hp : Pm w vp p) (hq : Pm w vq q) (hT : Tb9 w) : Calls Tryd.prog 3 #[vp, vq] w fun e w' => e = .returned (.bool true) ∧ Below w.heap.size w w' := by
  have HP := hide hp
  have HQ := hide hq
  have HT := hide hT
  clear hT
  obtain ⟨vo, vu, rfl, ho, hu⟩ := hp.form
  obtain ⟨xo, xu, rfl, go, gu⟩ := hq.form
  obtain ⟨ao, co, rfl, _⟩ := ho.spell
  obtain ⟨au, cu, rfl, _⟩ := hu.spell
  obtain ⟨bo, do_, rfl, _⟩ := go.spell
  obtain ⟨bu, du, rfl, _⟩ := gu.spell
  clear hp hq ho hu go gu
  obtain ⟨h1, h2, hB⟩ := alloc2 w (.cells #[.int .i64 p.inp, .slice ao p.ops.length co, .slice au p.outs.length cu] 25) (.cells #[.int .i64 q.inp, .slice bo q.ops.length do_, .slice bu q.outs.length du] 25)
  go_enter Tryd.func3, Tryd.ntmps3
  go_wp2
  generalize (w.alloc (.cells #[.int .i64 p.inp, .slice ao p.ops.length co, .slice au p.outs.length cu] 25)).alloc (.cells #[.int .i64 q.inp, .slice bo q.ops.length do_, .slice bu q.outs.length du] 25) = W at *
  have HS : Hid (∀ W', Below W.heap.size W W' → B3 W' w.heap.size p.inp ao p.ops.length co au p.outs.length cu ∧ B3 W' (w.heap.size + 1) q.inp bo q.ops.length do_ bu q.outs.length du) := fun W' hb =>
    ⟨b3_of ((hb.block _ (Array.getElem?_eq_some_iff.1 h1).1).trans h1), b3_of ((hb.block _ (Array.getElem?_eq_some_iff.1 h2).1).trans h2)⟩
  unfold B3 at HS
  have HA := hide (fun W' (hb : Below W.heap.size W W') => anch9 W' (HT.out.below (Below.next hB hb)))
  have H1 := hide (fun W' (hb : Below W.heap.size W W') => sMay _ p W' (HP.out.below (Below.next hB hb)))
  have H2 := hide (fun W' (hb : Below W.heap.size W W') => dMay _ p W' (HP.out.below (Below.next hB hb)))
  have H3 := hide (fun W' (hb : Below W.heap.size W W') => sSame _ _ p q W' (HP.out.below (Below.next hB hb)) (HQ.out.below (Below.next hB hb)))
  have H4 := hide (fun W' (hb : Below W.heap.size W W') => dSame _ _ p q W' (HP.out.below (Below.next hB hb)) (HQ.out.below (Below.next hB hb)))
  have H5 := hide (fun W' (hb : Below W.heap.size W W') => sSame _ _ p p W' (HP.out.below (Below.next hB hb)) (HP.out.below (Below.next hB hb)))
  unfold IsSame at H3 H4 H5
  unfold Anch9 at HA
  have hS0 := HS.out W.drew (Below.refl _ W).drew
  generalize mayB p = mb at *
  have HB := hide hB
  clear h1 h2 hB
  go_region_held3 (fun W' => (W'.cell? ⟨w.heap.size, 0, none⟩ = some (.int .i64 p.inp) ∧ W'.cell? ⟨w.heap.size, 1, none⟩ = some (.slice ao p.ops.length co) ∧ W'.cell? ⟨w.heap.size, 2, none⟩ = some (.slice au p.outs.length cu)) ∧ (W'.cell? ⟨w.heap.size + 1, 0, none⟩ = some (.int .i64 q.inp) ∧ W'.cell? ⟨w.heap.size + 1, 1, none⟩ = some (.slice bo q.ops.length do_) ∧ W'.cell? ⟨w.heap.size + 1, 2, none⟩ = some (.slice bu q.outs.length du))) (first | with_reducible exact hS6 | with_reducible exact hS5 | with_reducible exact hS4 | with_reducible exact hS3 | with_reducible exact hS2 | with_reducible exact hS1 | with_reducible exact hS0) (first
    | (go_at_call 9; refine (H1.out _ (Below.refl _ W).drew).mono ?_; rintro e w1 ⟨rfl, hb1⟩; have hB1 := Below.next (Below.refl _ W).drew hb1; have hS1 := HS.out w1 hB1)
    | (go_at_call 10; refine (H2.out _ hB1).mono ?_; rintro e w2 ⟨rfl, hb2⟩; have hB2 := Below.next hB1 hb2; have hS2 := HS.out w2 hB2)
    | (go_at_call 11; refine (H5.out _ hB4).mono ?_; rintro e w5 ⟨r5, rfl, hr5, hb5⟩; obtain rfl : r5 = true := (by simpa using hr5); clear hr5; have hB5 := Below.next hB4 hb5; have hS5 := HS.out w5 hB5)
    | (go_at_call 11; refine (H3.out _ hB2).mono ?_; rintro e w3 ⟨r3, rfl, hr3, hb3⟩; have HR3 := hide hr3; clear hr3; have hB3 := Below.next hB2 hb3; have hS3 := HS.out w3 hB3)
    | (go_at_call 12; refine (H4.out _ hB3).mono ?_; rintro e w4 ⟨r4, rfl, hr4, hb4⟩; obtain rfl := bool_same HR3.out hr4; clear hr4; have hB4 := Below.next hB3 hb4; have hS4 := HS.out w4 hB4)
    | (go_at_call 13; refine (HA.out _ hB5).mono ?_; rintro e w6 ⟨rfl, hb6⟩; have hB6 := Below.next hB5 hb6; have hS6 := HS.out w6 hB6))
  go_wp2
  go_ret
  exact ⟨rfl, Below.next HB.out hB6⟩

end Go.Proofs.YtjkialmhajbcfaaDoor
