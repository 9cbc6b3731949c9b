/-
  Layer 9: values read; words wanted; the first line: the program's calls.
-/
import Derived.Test.YtjkialmhajbcfaaDoorBunN
namespace Go.Proofs.YtjkialmhajbcfaaDoor
open Go.RowKit Fld Slp
set_option linter.unusedVariables false
set_option linter.unusedSimpArgs false

/-- A call that panics, in a walk that would go on behind it: what lies behind it is walked under a false premise. -/
theorem panics_mono {P : Program} {f : FuncId} {args : Array Value} {w : World} {ch : List PanicEntry} {X : World → Prop} {R' : Ending → World → Prop} (v : Value) (h : Calls P f args w fun e w' => e = .panicked ch ∧ X w') (h1 : ∀ w', X w' → R' (.panicked ch) w') (h2 : False → R' (.returned v) w) : Calls P f args w R' :=
  h.mono (fun e w' ⟨he, hx⟩ => by subst he; exact h1 w' hx)

set_option maxRecDepth 100000 in
set_option maxHeartbeats 400000 in
theorem sValue_ok (w : World) (rb n : Nat) (line : Int) (vo : Value) (ops : List O4) (vu : Value) (outs : List Int) (whole : Bool) (x : Tx) (v : Int) (hR : RdS w rb line (n : Int) vo ops vu outs whole) (hn : n ≤ 64) (ho : ops.length ≤ 256) (hv : valP n (n + ops.length) x = some v) (hl : x.length ≤ 281474976710656) :
    Calls Tryd.prog 76 #[.pointer (some ⟨rb, 0, none⟩), tx x] w fun e w' => e = .returned (.int .i64 v) ∧ Below w.heap.size w w' := by
  have c1 := hR.c1
  have c2 := hR.c2
  obtain ⟨ao, co, rfl⟩ := own_slice hR.ro
  clear hR
  rcases valP_cases n ops.length x with ⟨d, rfl, h⟩ | ⟨d, rfl, h⟩ | ⟨_, _, h⟩
  · rw [h] at hv
    obtain ⟨u, hu, hv'⟩ := Option.map_eq_some_iff.1 hv
    subst hv'
    have HP := hide (lPrefix 120 d w)
    have HN := hide (sBelow_ok rb d n u w hu (by omega) (by rw [List.length_cons] at hl; omega))
    clear h hv hu hl
    generalize tx (120 :: d) = T at *
    generalize tx d = T2 at *
    go_enter Tryd.func76, Tryd.ntmps76
    go_wp2_with (first
      | (go_at_call 86; refine HP.out.mono ?_; rintro e w1 ⟨rfl, hw1⟩; rw [hw1])
      | (go_at_call 62; refine HN.out.mono ?_; rintro e w2 ⟨rfl, hb⟩))
    go_ret
    exact ⟨rfl, hb⟩
  · rw [h] at hv
    obtain ⟨u, hu, hv'⟩ := Option.map_eq_some_iff.1 hv
    subst hv'
    have hlt := (nbl_some hu).2
    have HP0 := hide (lPrefix_no 120 (116 :: d) w (fun e h => by injection h with h _; exact absurd h (by decide)))
    have HP := hide (lPrefix 116 d w)
    have HN := hide (fun W => sBelow_ok rb d ops.length u W hu (by omega) (by rw [List.length_cons] at hl; omega))
    have hw : IntKind.i64.wrap ((n : Int) + (u : Int)) = ((n + u : Nat) : Int) := by rw [IntKind.wrap_i64]; omega
    clear h hv hu hl
    rw [← hw]
    generalize tx (116 :: d) = T at *
    generalize tx d = T2 at *
    go_enter Tryd.func76, Tryd.ntmps76
    go_wp2_with (first
      | (go_at_call 86; refine HP0.out.mono ?_; clear HP0; rintro e w1 ⟨rfl, hw1⟩; rw [hw1])
      | (go_at_call 86; refine HP.out.mono ?_; rintro e w1 ⟨rfl, hw1⟩; rw [hw1])
      | (go_at_call 50; refine (sWant_ok rb _).mono ?_; rintro e w2 ⟨rfl, hw2⟩; rw [hw2]))
    have hb0 := cell_in c1
    dsimp only at hb0
    have HS : Hid (∀ W' : World, Below w.heap.size w W' → W'.cell? ⟨rb, 1, none⟩ = some (.int .i64 (n : Int)) ∧ W'.cell? ⟨rb, 2, none⟩ = some (.slice ao ops.length co)) := fun W' hb => ⟨(hb.cell (cell_in c1)).trans c1, (hb.cell (cell_in c2)).trans c2⟩
    have hS0 := HS.out w.drew (Below.refl _ w).drew
    go_region_held3 (fun W' => W'.cell? ⟨rb, 1, none⟩ = some (.int .i64 (n : Int)) ∧ W'.cell? ⟨rb, 2, none⟩ = some (.slice ao ops.length co)) (first | with_reducible exact hS1 | with_reducible exact hS0) (first
      | (go_at_call 62; refine (HN.out _).mono ?_; rintro e w3 ⟨rfl, hb3⟩; have hB3 := Below.next (Below.refl w.heap.size w).drew hb3; have hS1 := HS.out w3 hB3))
    go_wp2
    go_ret
    exact ⟨by first | rfl | (rw [hw]; rfl), hB3⟩
  · rw [h] at hv; cases hv

set_option maxRecDepth 100000 in
set_option maxHeartbeats 400000 in
theorem sValue_no (w : World) (rb n : Nat) (line : Int) (vo : Value) (ops : List O4) (vu : Value) (outs : List Int) (whole : Bool) (x : Tx) (hR : RdS w rb line (n : Int) vo ops vu outs whole) (hn : n ≤ 64) (ho : ops.length ≤ 256) (hv : valP n (n + ops.length) x = none) (hl : x.length ≤ 281474976710656) (hT : Tb9 w) :
    Calls Tryd.prog 76 #[.pointer (some ⟨rb, 0, none⟩), tx x] w fun e w' => e = .panicked (pan line) ∧ Below w.heap.size w w' := by
  have c0 := hR.c0
  have c1 := hR.c1
  have c2 := hR.c2
  obtain ⟨ao, co, rfl⟩ := own_slice hR.ro
  clear hR
  rcases valP_cases n ops.length x with ⟨d, rfl, h⟩ | ⟨d, rfl, h⟩ | ⟨h1, h2, h⟩
  · rw [h] at hv
    have hu := Option.map_eq_none_iff.1 hv
    have HP := hide (lPrefix 120 d w)
    have HN := hide (sBelow_no rb d n line w hu (by omega) (by rw [List.length_cons] at hl; omega) c0 hT)
    clear h hv hu hl
    generalize tx (120 :: d) = T at *
    generalize tx d = T2 at *
    go_enter Tryd.func76, Tryd.ntmps76
    go_wp2_with (first
      | (go_at_call 86; refine HP.out.mono ?_; rintro e w1 ⟨rfl, hw1⟩; rw [hw1])
      | (go_at_call 62; refine HN.out.mono ?_; rintro e w2 ⟨rfl, hb⟩))
    exact ⟨rfl, rfl, hb⟩
  · rw [h] at hv
    have hu := Option.map_eq_none_iff.1 hv
    have HP0 := hide (lPrefix_no 120 (116 :: d) w (fun e h => by injection h with h _; exact absurd h (by decide)))
    have HP := hide (lPrefix 116 d w)
    have HN := hide (sBelow_no rb d ops.length line w.drew hu (by omega) (by rw [List.length_cons] at hl; omega) c0 (hT.below (Below.refl _ w).drew))
    clear h hv hu hl
    generalize tx (116 :: d) = T at *
    generalize tx d = T2 at *
    go_enter Tryd.func76, Tryd.ntmps76
    go_wp2_with (first
      | (go_at_call 86; refine HP0.out.mono ?_; clear HP0; rintro e w1 ⟨rfl, hw1⟩; rw [hw1])
      | (go_at_call 86; refine HP.out.mono ?_; rintro e w1 ⟨rfl, hw1⟩; rw [hw1])
      | (go_at_call 50; refine (sWant_ok rb _).mono ?_; rintro e w2 ⟨rfl, hw2⟩; rw [hw2]))
    go_region_with (go_at_call 62; refine panics_mono (.int .i64 0) HN.out (fun w3 hb3 => ⟨rfl, rfl, Below.next (Below.refl w.heap.size w).drew hb3⟩) ?_; intro hF; have HF := hide hF; clear hF; dsimp only)
    all_goals exact HF.out.elim
  · have HP0 := hide (lPrefix_no 120 x w h1)
    have HP := hide (lPrefix_no 116 x w h2)
    clear h hv hl h1 h2
    generalize tx x = T at *
    go_enter Tryd.func76, Tryd.ntmps76
    go_wp2_with (first
      | (go_at_call 86; refine HP0.out.mono ?_; clear HP0; rintro e w1 ⟨rfl, hw1⟩; rw [hw1])
      | (go_at_call 86; refine HP.out.mono ?_; rintro e w1 ⟨rfl, hw1⟩; rw [hw1])
      | (go_at_call 50; refine (sWant_no rb line _ c0).mono ?_; rintro e w2 ⟨rfl, hw2⟩; rw [hw2]))
    exact ⟨rfl, rfl, Below.refl _ _⟩

end Go.Proofs.YtjkialmhajbcfaaDoor
