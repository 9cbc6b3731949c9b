import Derived.Test.YtnapbdoalfbgnaaGreatBLocM
import Derived.Test.YtnapbdoalfbgnaaGreatBLodF
import Derived.Test.YtnapbdoalfbgnaaGreatBunM
import Derived.Test.YtnapbdoalfbgnaaGreatBunW
set_option linter.unusedVariables false
set_option linter.unusedSimpArgs false
set_option maxRecDepth 100000
set_option maxHeartbeats 4000000
namespace Go.Proofs.YtnapbdoalfbgnaaGreat
open Go.RowKit Fld
theorem rw_lit (W : World) (xs : List Int) (h : Wd xs) (hl : xs.length ≤ 1000) : Rw (W.alloc (.cells (vals xs).toArray 42)) (.slice (some ⟨W.heap.size, 0, none⟩) xs.length xs.length) xs :=
 rw_of_own (own_lit (vals xs) (heap_alloc_new W _) (by rw [vals_length, Nat.mul_one]) hl) h.1 h.2
theorem anc_dc : dcE 1 [0, 1, 2, 3] [1, 2, 3, 9] 1 1 = 0 := by decide +kernel
theorem anc_dec : Dec 2013265921 2 1 [0, 1, 2, 3] [1, 2, 3, 9] [1, 1] := by
 refine ⟨⟨fun x hx => ?_, by decide +kernel⟩, by decide, by decide +kernel⟩
 have : x = 1 := by simpa using hx
 rw [this]; exact ⟨by decide, by decide⟩
theorem anc_off : ofI 2013265921 [1, 1] [0, 1, 2, 3] [1, 2, 3, 9] = [3] := by decide +kernel
theorem anc_dcd {P a : List Int} {k : Bool} (h : Dcd 1 [0, 1, 2, 3] [1, 2, 3, 9] 1 1 P a k) : P = [1, 1] ∧ a = [3] ∧ k = true := by
 have h0 : Dcd 1 [0, 1, 2, 3] [1, 2, 3, 9] 1 1 [1, 1] [3] true := ⟨fun c => absurd anc_dc c, fun _ => .inl ⟨rfl, anc_dec, anc_off.symm⟩⟩
 exact h.only (by decide) (by decide) h0
theorem lm_own {w : World} {base n : Nat} {v : Value} {xs : List Int} (h : w.ownsRow base 3 1 v n (xs.flatMap iw)) (hl : xs.length ≤ 1000) : Lm iw 1 w v xs := lm_of_own iw_len (by decide) h (by omega)
theorem anch17 : Ans 9 #[] (.bool true) := by
 intro w
 have w4 : Wd [0, 1, 2, 3] := ⟨by decide, by decide⟩
 have w4' : Wd [1, 2, 3, 9] := ⟨by decide, by decide⟩
 have w2 : Wd [1, 1] := ⟨by decide, by decide⟩
 have R1 := (rw_lit w [0, 1, 2, 3] w4 (by decide)).below (alloc_below _ (.cells (vals [1, 2, 3, 9]).toArray 42))
 have R2 := rw_lit (w.alloc (.cells (vals [0, 1, 2, 3]).toArray 42)) [1, 2, 3, 9] w4' (by decide)
 have HD := hide (gDecode 1 _ _ [0, 1, 2, 3] [1, 2, 3, 9] 1 1 _ R1 R2 (by decide) (by decide))
 unfold GivesD at HD
 rw [anc_dc] at HD
 have B0 := hide (Below.next (alloc_below w (.cells (vals [0, 1, 2, 3]).toArray 42)) (alloc_below _ (.cells (vals [1, 2, 3, 9]).toArray 42)))
 have HR2 := hide (fun W => rw_lit W [1, 1] w2 (by decide))
 have HR3 := hide (fun W : World => lm_own (own_lit (W := W.alloc (.cells ([3].flatMap iw).toArray 3)) ([3].flatMap iw) (heap_alloc_new W _) rfl (by decide)) (by decide) (n := 1) (xs := [3]))
 rw [World.size_alloc] at HD
 clear R1 R2 w4 w4' w2
 simp only [vals, List.map_cons, List.map_nil, iw, List.flatMap_cons, List.flatMap_nil, List.append_nil, List.cons_append, List.nil_append, List.length_cons, List.length_nil, Nat.zero_add, Nat.reduceAdd] at HD B0 HR2 HR3
 go_enter Tryz.func9, Tryz.ntmps9
 go_wp2_with fail
 refine HD.out.mono ?_
 rintro e w1 ⟨vp, va, P, a, ok, rfl, hS, h1, h2, hb1⟩
 obtain ⟨rfl, rfl, rfl⟩ := anc_dcd hS
 obtain ⟨ap, cp, rfl⟩ := own_form h1
 obtain ⟨aa, ca, rfl⟩ := own_form h2
 have H1 := hide (rw_of_own h1 (by decide) (by decide))
 have H2 := hide (lm_own h2 (by decide))
 have hB1 := Below.next B0.out hb1
 clear h1 h2 hS hb1 HD
 rw [List.length_cons, List.length_cons, List.length_nil] at *
 go_wp2_with (first
  | (go_at_call 8; refine (Same_yes _ _ [1, 1] _ (H1.out.below (alloc_below _ _)).1 (HR2.out _).1).mono ?_; rintro e w2 ⟨rfl, hb2⟩; have hB2 := Below.next (Below.next (Below.refl w1.heap.size w1) (alloc_below w1 _)) hb2)
  | (go_at_call 23; refine (dInts _ _ [3] [3] _ ((H2.out.below hB2).below (alloc_below _ _)) (HR3.out _)).mono ?_; rintro e w3 ⟨r3, rfl, hr3, hb3⟩; obtain rfl : r3 = true := hr3.2 rfl; clear hr3; have hB3 := Below.next (Below.next hB2 (alloc_below w2 _)) hb3))
 go_ret
 exact ⟨rfl, Below.next hB1 hB3⟩
theorem pts_box (w : World) (c0 c1 : Value) (d k : Int) : (w.alloc (.cells #[c0, c1, .int .i64 d, .int .i64 k] 24)).heap[w.heap.size]? = some (.cells #[c0, c1, .int .i64 d, .int .i64 k] 24 (0, 0)) ∧ Below w.heap.size w (w.alloc (.cells #[c0, c1, .int .i64 d, .int .i64 k] 24)) := ⟨heap_alloc_new w _, alloc_below w _⟩
theorem cell_four {W : World} {g : Nat} {c0 c1 c2 c3 : Value} {T : TypeId} (h : W.heap[g]? = some (.cells #[c0, c1, c2, c3] T (0, 0))) : W.cell? ⟨g, 0, none⟩ = some c0 ∧ W.cell? ⟨g, 1, none⟩ = some c1 ∧ W.cell? ⟨g, 2, none⟩ = some c2 ∧ W.cell? ⟨g, 3, none⟩ = some c3 := by
 refine ⟨?_, ?_, ?_, ?_⟩ <;> simp [World.cell?, h]
theorem kept {W W' : World} {g : Nat} {o : Obj} (h : W.heap[g]? = some o) (hb : Below W.heap.size W W') : W'.heap[g]? = some o := (hb.block _ (Array.getElem?_eq_some_iff.1 h).1).trans h
end Go.Proofs.YtnapbdoalfbgnaaGreat
