import Derived.Test.YtnapbdoalfbgnaaBLocM
import Derived.Test.YtnapbdoalfbgnaaBLodF
import Derived.Test.YtnapbdoalfbgnaaBunM
import Derived.Test.YtnapbdoalfbgnaaBunW
set_option linter.unusedVariables false
set_option linter.unusedSimpArgs false
set_option maxRecDepth 100000
set_option maxHeartbeats 4000000
namespace Go.Proofs.Ytnapbdoalfbgnaa
open Go.RowKit Fld
theorem rw_lit (W : World) (xs : List Int) (h : Wd xs) (hl : xs.length ≤ 1000) : Rw (W.alloc (.cells (vals xs).toArray 40)) (.slice (some ⟨W.heap.size, 0, none⟩) xs.length xs.length) xs :=
 rw_of_own (own_lit (vals xs) (heap_alloc_new W _) (by rw [vals_length, Nat.mul_one]) hl) h.1 h.2
theorem anc_dc : dcE 1 [0, 1, 2, 3] [1, 2, 3, 9] 1 1 = 0 := by decide +kernel
theorem anc_dec : Dec 2013265921 2 1 [0, 1, 2, 3] [1, 2, 3, 9] [1, 1] := by
 refine ⟨⟨fun x hx => ?_, by decide +kernel⟩, by decide, by decide +kernel⟩
 have : x = 1 := by simpa using hx
 rw [this]; exact ⟨by decide, by decide⟩
theorem anc_off : ofI 2013265921 [1, 1] [0, 1, 2, 3] [1, 2, 3, 9] = [3] := by decide +kernel
theorem anc_dcd {P a : List Int} {k : Bool} (h : Dcd 1 [0, 1, 2, 3] [1, 2, 3, 9] 1 1 P a k) : P = [1, 1] ∧ a = [3] ∧ k = true := by
 have h0 : Dcd 1 [0, 1, 2, 3] [1, 2, 3, 9] 1 1 [1, 1] [3] true := ⟨fun c => absurd anc_dc c, fun _ => .inl ⟨rfl, anc_dec, anc_off.symm⟩⟩
 exact h.only (by decide) (by decide) h0
theorem lm_own {w : World} {base n : Nat} {v : Value} {xs : List Int} (h : w.ownsRow base 3 1 v n (xs.flatMap iw)) (hl : xs.length ≤ 1000) : Lm iw 1 w v xs := lm_of_own iw_len (by decide) h (by omega)
theorem anch17 : Ans 11 #[] (.bool true) := by
 intro w
 have w4 : Wd [0, 1, 2, 3] := ⟨by decide, by decide⟩
 have w4' : Wd [1, 2, 3, 9] := ⟨by decide, by decide⟩
 have w2 : Wd [1, 1] := ⟨by decide, by decide⟩
 have R1 := (rw_lit w [0, 1, 2, 3] w4 (by decide)).below (alloc_below _ (.cells (vals [1, 2, 3, 9]).toArray 40))
 have R2 := rw_lit (w.alloc (.cells (vals [0, 1, 2, 3]).toArray 40)) [1, 2, 3, 9] w4' (by decide)
 have HD := hide (gDecode 1 _ _ [0, 1, 2, 3] [1, 2, 3, 9] 1 1 _ R1 R2 (by decide) (by decide))
 unfold GivesD at HD
 rw [anc_dc] at HD
 have B0 := hide (Below.next (alloc_below w (.cells (vals [0, 1, 2, 3]).toArray 40)) (alloc_below _ (.cells (vals [1, 2, 3, 9]).toArray 40)))
 have HR2 := hide (fun W => rw_lit W [1, 1] w2 (by decide))
 have HR3 := hide (fun W : World => lm_own (own_lit (W := W.alloc (.cells ([3].flatMap iw).toArray 3)) ([3].flatMap iw) (heap_alloc_new W _) rfl (by decide)) (by decide) (n := 1) (xs := [3]))
 rw [World.size_alloc] at HD
 clear R1 R2 w4 w4' w2
 simp only [vals, List.map_cons, List.map_nil, iw, List.flatMap_cons, List.flatMap_nil, List.append_nil, List.cons_append, List.nil_append, List.length_cons, List.length_nil, Nat.zero_add, Nat.reduceAdd] at HD B0 HR2 HR3
 go_enter Try.func11, Try.ntmps11
 go_wp2_with fail
 refine HD.out.mono ?_
 rintro e w1 ⟨vp, va, P, a, ok, rfl, hS, h1, h2, hb1⟩
 obtain ⟨rfl, rfl, rfl⟩ := anc_dcd hS
 obtain ⟨ap, cp, rfl⟩ := own_form h1
 obtain ⟨aa, ca, rfl⟩ := own_form h2
 have H1 := hide (rw_of_own h1 (by decide) (by decide))
 have H2 := hide (lm_own h2 (by decide))
 have hB1 := Below.next B0.out hb1
 clear h1 h2 hS hb1 HD
 rw [List.length_cons, List.length_cons, List.length_nil] at *
 go_wp2_with (first
  | (go_at_call 9; refine (Same_yes _ _ [1, 1] _ (H1.out.below (alloc_below _ _)).1 (HR2.out _).1).mono ?_; rintro e w2 ⟨rfl, hb2⟩; have hB2 := Below.next (Below.next (Below.refl w1.heap.size w1) (alloc_below w1 _)) hb2)
  | (go_at_call 10; refine (dInts _ _ [3] [3] _ ((H2.out.below hB2).below (alloc_below _ _)) (HR3.out _)).mono ?_; rintro e w3 ⟨r3, rfl, hr3, hb3⟩; obtain rfl : r3 = true := hr3.2 rfl; clear hr3; have hB3 := Below.next (Below.next hB2 (alloc_below w2 _)) hb3))
 go_ret
 exact ⟨rfl, Below.next hB1 hB3⟩
theorem pts_box (w : World) (c0 c1 : Value) (d k : Int) : (w.alloc (.cells #[c0, c1, .int .i64 d, .int .i64 k] 24)).heap[w.heap.size]? = some (.cells #[c0, c1, .int .i64 d, .int .i64 k] 24 (0, 0)) ∧ Below w.heap.size w (w.alloc (.cells #[c0, c1, .int .i64 d, .int .i64 k] 24)) := ⟨heap_alloc_new w _, alloc_below w _⟩
theorem cell_four {W : World} {g : Nat} {c0 c1 c2 c3 : Value} {T : TypeId} (h : W.heap[g]? = some (.cells #[c0, c1, c2, c3] T (0, 0))) : W.cell? ⟨g, 0, none⟩ = some c0 ∧ W.cell? ⟨g, 1, none⟩ = some c1 ∧ W.cell? ⟨g, 2, none⟩ = some c2 ∧ W.cell? ⟨g, 3, none⟩ = some c3 := by
 refine ⟨?_, ?_, ?_, ?_⟩ <;> simp [World.cell?, h]
theorem kept {W W' : World} {g : Nat} {o : Obj} (h : W.heap[g]? = some o) (hb : Below W.heap.size W W') : W'.heap[g]? = some o := (hb.block _ (Array.getElem?_eq_some_iff.1 h).1).trans h
theorem locDecodes_any (f : Int) (v1 v2 : Value) (xs ys : List Int) (d k : Int) (w : World) (h1 : Rw w v1 xs) (h2 : Rw w v2 ys) (hd : -9223372036854775808 ≤ d ∧ d ≤ 9223372036854775807) (hk : -9223372036854775808 ≤ k ∧ k ≤ 9223372036854775807) :
 Calls Try.prog 3 #[.int .u8 f, .agg #[v1, v2, .int .i64 d, .int .i64 k]] w fun e w' => e = .returned (.bool true) ∧ Below w.heap.size w w' := by
 have HG := hide (fun W (hb : Below w.heap.size w W) => gDecode f v1 v2 xs ys d k W (h1.below hb) (h2.below hb) hd hk)
 have HD := hide (fun W (hb : Below w.heap.size w W) => dDecode f v1 v2 xs ys d k W (h1.below hb) (h2.below hb) hd hk)
 unfold GivesD at HG HD
 have HO := hide (fun P Q a b i j (hS : Dcd f xs ys d k P a i) (hT : Dcd f xs ys d k Q b j) => hS.only h1.words h2.words hT)
 have HL := hide (fun P a i (hS : Dcd f xs ys d k P a i) => hS.lens h1.words h2.words)
 obtain ⟨b0, B0'⟩ := pts_box w v1 v2 d k
 have K0 := hide b0
 have B0 := hide B0'
 obtain ⟨a1, c1, rfl, _⟩ := h1.spell
 obtain ⟨a2, c2, rfl, _⟩ := h2.spell
 obtain ⟨k0, k1, k2, k3⟩ := cell_four b0
 clear h1 h2 b0 B0'
 generalize dcE f xs ys d k = e0 at *
 generalize xs.length = nx at *
 generalize ys.length = ny at *
 go_enter Try.func3, Try.ntmps3
 go_wp2_with fail
 refine (HG.out _ B0.out).mono ?_
 rintro e w1 ⟨vp, va, P, a, ok, rfl, hS, o1, o2, hb1⟩
 have hB1 := Below.next B0.out hb1
 obtain ⟨m0, m1, m2, m3⟩ := cell_four (kept K0.out hb1)
 obtain ⟨ap, cp, rfl⟩ := own_form o1
 obtain ⟨aa, ca, rfl⟩ := own_form o2
 have O1 := hide o1
 have O2 := hide o2
 have HS := hide hS
 clear o1 o2 k0 k1 k2 k3 hS
 obtain ⟨lp, Hlp⟩ : ∃ n, Hid (P.length = n) := ⟨_, rfl⟩
 obtain ⟨la, Hla⟩ : ∃ n, Hid (a.length = n) := ⟨_, rfl⟩
 rw [Hlp.out] at O1 ⊢
 rw [Hla.out] at O2 ⊢
 go_wp2_with fail
 refine (HD.out _ hB1).mono ?_
 rintro e w2 ⟨vq, vb, Q, b, is, rfl, hT, o3, o4, hb2⟩
 have hB2 := Below.next hB1 hb2
 obtain ⟨rfl, rfl, rfl⟩ := HO.out _ _ _ _ _ _ HS.out hT
 obtain ⟨hl1, hl2, hl3, _⟩ := HL.out _ _ _ hT
 obtain ⟨aq, cq, rfl⟩ := own_form o3
 obtain ⟨ab, cb, rfl⟩ := own_form o4
 have R1 := hide (rw_of_own (own_below O1.out hb2) (by omega) hl1)
 have R3 := hide (rw_of_own o3 (by omega) hl1)
 have R2 := hide (lm_own (own_below O2.out hb2) (by omega))
 have R4 := hide (lm_own o4 (by omega))
 clear o3 o4 O1 O2 HS hT HG HD HO HL hl1 m0 m1 m2 m3 K0
 rw [Hlp.out] at R3 hl2 ⊢
 rw [Hla.out] at R4 hl3 ⊢
 have hii : (ok == ok) = true := by simp
 go_wp2_with (first
  | (go_at_call 9; refine (Same_yes _ _ P _ R1.out.1 R3.out.1).mono ?_; rintro e w3 ⟨rfl, hb3⟩; have hB3 := Below.next hB2 hb3)
  | (go_at_call 10; refine (dInts _ _ a a _ (R2.out.below hb3) (R4.out.below hb3)).mono ?_; rintro e w4 ⟨r4, rfl, hr4, hb4⟩; obtain rfl : r4 = true := hr4.2 rfl; clear hr4; have hB4 := Below.next hB3 hb4)
  | (go_at_call 11; refine (anch17 _).mono ?_; rintro e w5 ⟨rfl, hb5⟩; have hB5 := Below.next hB4 hb5))
 go_ret
 exact ⟨rfl, hB5⟩
end Go.Proofs.Ytnapbdoalfbgnaa
