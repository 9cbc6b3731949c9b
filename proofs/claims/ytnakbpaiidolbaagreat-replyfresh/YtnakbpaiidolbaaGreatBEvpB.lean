import Derived.Test.YtnakbpaiidolbaaGreatBEvpA
import Derived.RegionTactic
import Derived.Deep.RegionHeld3
import Derived.Test.YtnakbpaiidolbaaGreatBTkA
namespace Go.Proofs.YtnakbpaiidolbaaGreat
open Go.RowKit Fld Slp
set_option linter.unusedVariables false
set_option linter.unusedSimpArgs false
theorem kept4 {W w1 : World} {a1 a2 a3 a4 : Addr} {v1 v2 v3 v4 : Value} (hb : Below W.heap.size W w1) (h : W.cell? a1 = some v1 ∧ W.cell? a2 = some v2 ∧ W.cell? a3 = some v3 ∧ W.cell? a4 = some v4) :
 w1.cell? a1 = some v1 ∧ w1.cell? a2 = some v2 ∧ w1.cell? a3 = some v3 ∧ w1.cell? a4 = some v4 :=
 ⟨(hb.cell (World.block_lt_of_cell? _ _ h.1)).trans h.1, (hb.cell (World.block_lt_of_cell? _ _ h.2.1)).trans h.2.1, (hb.cell (World.block_lt_of_cell? _ _ h.2.2.1)).trans h.2.2.1, (hb.cell (World.block_lt_of_cell? _ _ h.2.2.2)).trans h.2.2.2⟩
theorem cells4 {W : World} {b : Nat} {x y z u : Value} {T : TypeId} {fz : Nat × Nat} (h : W.heap[b]? = some (.cells #[x, y, z, u] T fz)) : W.cell? ⟨b, 0, none⟩ = some x ∧ W.cell? ⟨b, 1, none⟩ = some y ∧ W.cell? ⟨b, 2, none⟩ = some z ∧ W.cell? ⟨b, 3, none⟩ = some u := by
 refine ⟨?_, ?_, ?_, ?_⟩ <;> (unfold World.cell?; simp [h])
set_option maxRecDepth 100000 in
set_option maxHeartbeats 400000 in
theorem eValueOf1 (f p : Int) (wd : Bool) (o : O4) (v : Value) (xs : List Int) (w : World) (h : Fi f p wd) (hr : Row w v xs) (hx : Els p xs) (hk : o.k = 1) (ha0 : 0 ≤ o.a) (hb0 : 0 ≤ o.b) (ha : o.a.toNat < xs.length) (hb : o.b.toNat < xs.length) :
 Calls Tryz.prog 115 #[elI f, opv o, v] w fun e w' => e = .returned (.int .u64 (rnS (Rf f) xs o)) ∧ Below w.heap.size w w' := by
 have hE : rnS (Rf f) xs o = add p (xs.getD o.a.toNat 0) (xs.getD o.b.toNat 0) := by
  unfold rnS; rw [if_pos hk]; show add (pOf f) _ _ = _; rw [pOf_eq h]; rfl
 rw [hE]
 obtain ⟨ao, cap, rfl, hl, hw, hc⟩ := hr
 obtain ⟨b, off, rfl, hbl, hcell⟩ := hc (by intro h0; rw [h0] at ha; simp at ha)
 have e1 := hx.co h.pos o.a.toNat
 have e2 := hx.co h.pos o.b.toNat
 have HX := hide (fun W => eSum f p _ _ wd W h e1 e2)
 obtain ⟨k, a, b', c⟩ := o
 dsimp only at *
 subst hk
 obtain ⟨i, rfl⟩ : ∃ i : Nat, a = i := ⟨a.toNat, by omega⟩
 obtain ⟨j, rfl⟩ : ∃ j : Nat, b' = j := ⟨b'.toNat, by omega⟩
 simp only [Int.toNat_natCast] at *
 unfold co at HX
 have c1 := hcell i ha
 have c2 := hcell j hb
 generalize xs.getD i 0 = x at *
 generalize xs.getD j 0 = y at *
 unfold elI opv
 clear hcell hc e1 e2 hE
 have hn := fun W => nil_sum f W
 have hm := fun W => met_sum f W
 have hA := alloc_below w (.cells #[.int .u8 1, .int .i64 i, .int .i64 j, .int .u64 c] 78)
 have hN := heap_alloc_new w (.cells #[.int .u8 1, .int .i64 i, .int .i64 j, .int .u64 c] 78)
 have d1 := (hA.cell (p := ⟨b, off + i, none⟩) hbl).trans c1
 have d2 := (hA.cell (p := ⟨b, off + j, none⟩) hbl).trans c2
 have i1 : (i : Int) < (xs.length : Int) := by omega
 have j1 : (j : Int) < (xs.length : Int) := by omega
 go_enter Tryz.func115, Tryz.ntmps115
 go_wp2
 generalize w.alloc (.cells #[.int .u8 1, .int .i64 i, .int .i64 j, .int .u64 c] 78) = w0 at *
 obtain ⟨b0, HB0⟩ : ∃ b0, Hid (w.heap.size = b0) := ⟨_, rfl⟩
 rw [HB0.out] at hN hA ⊢
 obtain ⟨p0, p1, p2, p3⟩ := cells4 hN
 have hS0 : w0.drew.cell? ⟨b, off + i, none⟩ = some (.int .u64 x) ∧ w0.drew.cell? ⟨b, off + j, none⟩ = some (.int .u64 y) ∧ w0.drew.cell? ⟨b0, 1, none⟩ = some (.int .i64 i) ∧ w0.drew.cell? ⟨b0, 2, none⟩ = some (.int .i64 j) := ⟨d1, d2, p1, p2⟩
 have hA2 : Below b0 w w0.drew := hA.drew
 refine wp_region_held_drew (S := (fun W' => W'.cell? ⟨b, off + i, none⟩ = some (.int .u64 x) ∧ W'.cell? ⟨b, off + j, none⟩ = some (.int .u64 y) ∧ W'.cell? ⟨b0, 1, none⟩ = some (.int .i64 i) ∧ W'.cell? ⟨b0, 2, none⟩ = some (.int .i64 j))) (by kernel_rfl) (by ((try dsimp only) <;> (first | with_reducible exact hS0 | with_reducible exact hS1))) (fun hHeld => ?_)
 (refine tkY 0 ?_; (try simp only [ly0, ly1, ly2, ly3, ly4, ly5, ly6, ly7]))
 (refine tkY 1 ?_; (try simp only [ly0, ly1, ly2, ly3, ly4, ly5, ly6, ly7]))
 (refine tkY 2 ?_; (try simp only [ly0, ly1, ly2, ly3, ly4, ly5, ly6, ly7]))
 (refine tkY 3 ?_; (try simp only [ly0, ly1, ly2, ly3, ly4, ly5, ly6, ly7]))
 (refine tkY 4 ?_; (try simp only [ly0, ly1, ly2, ly3, ly4, ly5, ly6, ly7]))
 (refine tkY 5 ?_; (try simp only [ly0, ly1, ly2, ly3, ly4, ly5, ly6, ly7]))
 (refine tkY 6 ?_; (try simp only [ly0, ly1, ly2, ly3, ly4, ly5, ly6, ly7]))
 (refine tkY 7 ?_; (try simp only [ly0, ly1, ly2, ly3, ly4, ly5, ly6, ly7]))
 (refine tkY 8 ?_; (try simp only [ly0, ly1, ly2, ly3, ly4, ly5, ly6, ly7]))
 (refine tkY 9 ?_; (try simp only [ly0, ly1, ly2, ly3, ly4, ly5, ly6, ly7]))
 (refine tkY 10 ?_; (try simp only [ly0, ly1, ly2, ly3, ly4, ly5, ly6, ly7]))
 (refine tkY 11 ?_; (try simp only [ly0, ly1, ly2, ly3, ly4, ly5, ly6, ly7]))
 (refine tkY 12 ?_; (try simp only [ly0, ly1, ly2, ly3, ly4, ly5, ly6, ly7]))
 (refine tkY 13 ?_; (try simp only [ly0, ly1, ly2, ly3, ly4, ly5, ly6, ly7]))
 refine rd1 14 (fun K hK => ?_)
 (try simp only [ly0, ly1, ly2, ly3, ly4, ly5, ly6, ly7])
 go_simp
 (first
  | (go_at_call 212; refine (HX.out _).mono ?_; rintro e w1 ⟨rfl, hb1⟩; have hS1 := kept4 hb1 hS0))
 first | (refine hK.out _ _ (by ((try dsimp only) <;> (first | with_reducible exact hS0 | with_reducible exact hS1))) (fun hHeld => ?_)) | (go_wp2_with fail; refine hK.out _ _ (by ((try dsimp only) <;> (first | with_reducible exact hS0 | with_reducible exact hS1))) (fun hHeld => ?_))
 clear hK K
 (try simp only [ly0, ly1, ly2, ly3, ly4, ly5, ly6, ly7])
 (refine tkY 15 ?_; (try simp only [ly0, ly1, ly2, ly3, ly4, ly5, ly6, ly7]))
 refine wpAnyH_done (by kernel_rfl) ?_ _
 go_wp2
 go_ret
 rw [← HB0.out] at hA2
 exact ⟨rfl, Below.next hA2 hb1⟩
set_option maxRecDepth 100000 in
set_option maxHeartbeats 400000 in
theorem eValueOf2 (f p : Int) (wd : Bool) (o : O4) (v : Value) (xs : List Int) (w : World) (h : Fi f p wd) (hr : Row w v xs) (hx : Els p xs) (hk : o.k = 2) (ha0 : 0 ≤ o.a) (hb0 : 0 ≤ o.b) (ha : o.a.toNat < xs.length) (hb : o.b.toNat < xs.length) :
 Calls Tryz.prog 115 #[elI f, opv o, v] w fun e w' => e = .returned (.int .u64 (rnS (Rf f) xs o)) ∧ Below w.heap.size w w' := by
 have hE : rnS (Rf f) xs o = sub p (xs.getD o.a.toNat 0) (xs.getD o.b.toNat 0) := by
  unfold rnS; rw [if_neg (by omega), if_pos hk]; show sub (pOf f) _ _ = _; rw [pOf_eq h]; rfl
 rw [hE]
 obtain ⟨ao, cap, rfl, hl, hw, hc⟩ := hr
 obtain ⟨b, off, rfl, hbl, hcell⟩ := hc (by intro h0; rw [h0] at ha; simp at ha)
 have e1 := hx.co h.pos o.a.toNat
 have e2 := hx.co h.pos o.b.toNat
 have HX := hide (fun W => eDif f p _ _ wd W h e1 e2)
 obtain ⟨k, a, b', c⟩ := o
 dsimp only at *
 subst hk
 obtain ⟨i, rfl⟩ : ∃ i : Nat, a = i := ⟨a.toNat, by omega⟩
 obtain ⟨j, rfl⟩ : ∃ j : Nat, b' = j := ⟨b'.toNat, by omega⟩
 simp only [Int.toNat_natCast] at *
 unfold co at HX
 have c1 := hcell i ha
 have c2 := hcell j hb
 generalize xs.getD i 0 = x at *
 generalize xs.getD j 0 = y at *
 unfold elI opv
 clear hcell hc e1 e2 hE
 have hn := fun W => nil_dif f W
 have hm := fun W => met_dif f W
 have hA := alloc_below w (.cells #[.int .u8 2, .int .i64 i, .int .i64 j, .int .u64 c] 78)
 have hN := heap_alloc_new w (.cells #[.int .u8 2, .int .i64 i, .int .i64 j, .int .u64 c] 78)
 have d1 := (hA.cell (p := ⟨b, off + i, none⟩) hbl).trans c1
 have d2 := (hA.cell (p := ⟨b, off + j, none⟩) hbl).trans c2
 have i1 : (i : Int) < (xs.length : Int) := by omega
 have j1 : (j : Int) < (xs.length : Int) := by omega
 go_enter Tryz.func115, Tryz.ntmps115
 go_wp2
 generalize w.alloc (.cells #[.int .u8 2, .int .i64 i, .int .i64 j, .int .u64 c] 78) = w0 at *
 obtain ⟨b0, HB0⟩ : ∃ b0, Hid (w.heap.size = b0) := ⟨_, rfl⟩
 rw [HB0.out] at hN hA ⊢
 obtain ⟨p0, p1, p2, p3⟩ := cells4 hN
 have hS0 : w0.drew.cell? ⟨b, off + i, none⟩ = some (.int .u64 x) ∧ w0.drew.cell? ⟨b, off + j, none⟩ = some (.int .u64 y) ∧ w0.drew.cell? ⟨b0, 1, none⟩ = some (.int .i64 i) ∧ w0.drew.cell? ⟨b0, 2, none⟩ = some (.int .i64 j) := ⟨d1, d2, p1, p2⟩
 have hA2 : Below b0 w w0.drew := hA.drew
 refine wp_region_held_drew (S := (fun W' => W'.cell? ⟨b, off + i, none⟩ = some (.int .u64 x) ∧ W'.cell? ⟨b, off + j, none⟩ = some (.int .u64 y) ∧ W'.cell? ⟨b0, 1, none⟩ = some (.int .i64 i) ∧ W'.cell? ⟨b0, 2, none⟩ = some (.int .i64 j))) (by kernel_rfl) (by ((try dsimp only) <;> (first | with_reducible exact hS0 | with_reducible exact hS1))) (fun hHeld => ?_)
 (refine tkY 0 ?_; (try simp only [ly0, ly1, ly2, ly3, ly4, ly5, ly6, ly7]))
 (refine tkY 1 ?_; (try simp only [ly0, ly1, ly2, ly3, ly4, ly5, ly6, ly7]))
 (refine tkY 2 ?_; (try simp only [ly0, ly1, ly2, ly3, ly4, ly5, ly6, ly7]))
 (refine tkY 3 ?_; (try simp only [ly0, ly1, ly2, ly3, ly4, ly5, ly6, ly7]))
 (refine tkY 4 ?_; (try simp only [ly0, ly1, ly2, ly3, ly4, ly5, ly6, ly7]))
 (refine tkY 5 ?_; (try simp only [ly0, ly1, ly2, ly3, ly4, ly5, ly6, ly7]))
 (refine tkY 6 ?_; (try simp only [ly0, ly1, ly2, ly3, ly4, ly5, ly6, ly7]))
 (refine tkY 7 ?_; (try simp only [ly0, ly1, ly2, ly3, ly4, ly5, ly6, ly7]))
 (refine tkY 8 ?_; (try simp only [ly0, ly1, ly2, ly3, ly4, ly5, ly6, ly7]))
 (refine tkY 9 ?_; (try simp only [ly0, ly1, ly2, ly3, ly4, ly5, ly6, ly7]))
 (refine tkY 10 ?_; (try simp only [ly0, ly1, ly2, ly3, ly4, ly5, ly6, ly7]))
 (refine tkY 11 ?_; (try simp only [ly0, ly1, ly2, ly3, ly4, ly5, ly6, ly7]))
 (refine tkY 12 ?_; (try simp only [ly0, ly1, ly2, ly3, ly4, ly5, ly6, ly7]))
 (refine tkY 13 ?_; (try simp only [ly0, ly1, ly2, ly3, ly4, ly5, ly6, ly7]))
 refine rd1 14 (fun K hK => ?_)
 (try simp only [ly0, ly1, ly2, ly3, ly4, ly5, ly6, ly7])
 go_simp
 (first
  | (go_at_call 210; refine (HX.out _).mono ?_; rintro e w1 ⟨rfl, hb1⟩; have hS1 := kept4 hb1 hS0))
 first | (refine hK.out _ _ (by ((try dsimp only) <;> (first | with_reducible exact hS0 | with_reducible exact hS1))) (fun hHeld => ?_)) | (go_wp2_with fail; refine hK.out _ _ (by ((try dsimp only) <;> (first | with_reducible exact hS0 | with_reducible exact hS1))) (fun hHeld => ?_))
 clear hK K
 (try simp only [ly0, ly1, ly2, ly3, ly4, ly5, ly6, ly7])
 (refine tkY 15 ?_; (try simp only [ly0, ly1, ly2, ly3, ly4, ly5, ly6, ly7]))
 refine wpAnyH_done (by kernel_rfl) ?_ _
 go_wp2
 go_ret
 rw [← HB0.out] at hA2
 exact ⟨rfl, Below.next hA2 hb1⟩
set_option maxRecDepth 100000 in
set_option maxHeartbeats 400000 in
theorem eValueOf3 (f p : Int) (wd : Bool) (o : O4) (v : Value) (xs : List Int) (w : World) (h : Fi f p wd) (hr : Row w v xs) (hx : Els p xs) (hk : o.k = 3) (ha0 : 0 ≤ o.a) (hb0 : 0 ≤ o.b) (ha : o.a.toNat < xs.length) (hb : o.b.toNat < xs.length) :
 Calls Tryz.prog 115 #[elI f, opv o, v] w fun e w' => e = .returned (.int .u64 (rnS (Rf f) xs o)) ∧ Below w.heap.size w w' := by
 have hE : rnS (Rf f) xs o = mul p (xs.getD o.a.toNat 0) (xs.getD o.b.toNat 0) := by
  unfold rnS; rw [if_neg (by omega), if_neg (by omega), if_pos hk]; show mul (pOf f) _ _ = _; rw [pOf_eq h]; rfl
 rw [hE]
 obtain ⟨ao, cap, rfl, hl, hw, hc⟩ := hr
 obtain ⟨b, off, rfl, hbl, hcell⟩ := hc (by intro h0; rw [h0] at ha; simp at ha)
 have e1 := hx.co h.pos o.a.toNat
 have e2 := hx.co h.pos o.b.toNat
 have HX := hide (fun W => ePrd f p _ _ wd W h e1 e2)
 obtain ⟨k, a, b', c⟩ := o
 dsimp only at *
 subst hk
 obtain ⟨i, rfl⟩ : ∃ i : Nat, a = i := ⟨a.toNat, by omega⟩
 obtain ⟨j, rfl⟩ : ∃ j : Nat, b' = j := ⟨b'.toNat, by omega⟩
 simp only [Int.toNat_natCast] at *
 unfold co at HX
 have c1 := hcell i ha
 have c2 := hcell j hb
 generalize xs.getD i 0 = x at *
 generalize xs.getD j 0 = y at *
 unfold elI opv
 clear hcell hc e1 e2 hE
 have hn := fun W => nil_prd f W
 have hm := fun W => met_prd f W
 have hA := alloc_below w (.cells #[.int .u8 3, .int .i64 i, .int .i64 j, .int .u64 c] 78)
 have hN := heap_alloc_new w (.cells #[.int .u8 3, .int .i64 i, .int .i64 j, .int .u64 c] 78)
 have d1 := (hA.cell (p := ⟨b, off + i, none⟩) hbl).trans c1
 have d2 := (hA.cell (p := ⟨b, off + j, none⟩) hbl).trans c2
 have i1 : (i : Int) < (xs.length : Int) := by omega
 have j1 : (j : Int) < (xs.length : Int) := by omega
 go_enter Tryz.func115, Tryz.ntmps115
 go_wp2
 generalize w.alloc (.cells #[.int .u8 3, .int .i64 i, .int .i64 j, .int .u64 c] 78) = w0 at *
 obtain ⟨b0, HB0⟩ : ∃ b0, Hid (w.heap.size = b0) := ⟨_, rfl⟩
 rw [HB0.out] at hN hA ⊢
 obtain ⟨p0, p1, p2, p3⟩ := cells4 hN
 have hS0 : w0.drew.cell? ⟨b, off + i, none⟩ = some (.int .u64 x) ∧ w0.drew.cell? ⟨b, off + j, none⟩ = some (.int .u64 y) ∧ w0.drew.cell? ⟨b0, 1, none⟩ = some (.int .i64 i) ∧ w0.drew.cell? ⟨b0, 2, none⟩ = some (.int .i64 j) := ⟨d1, d2, p1, p2⟩
 have hA2 : Below b0 w w0.drew := hA.drew
 refine wp_region_held_drew (S := (fun W' => W'.cell? ⟨b, off + i, none⟩ = some (.int .u64 x) ∧ W'.cell? ⟨b, off + j, none⟩ = some (.int .u64 y) ∧ W'.cell? ⟨b0, 1, none⟩ = some (.int .i64 i) ∧ W'.cell? ⟨b0, 2, none⟩ = some (.int .i64 j))) (by kernel_rfl) (by ((try dsimp only) <;> (first | with_reducible exact hS0 | with_reducible exact hS1))) (fun hHeld => ?_)
 (refine tkY 0 ?_; (try simp only [ly0, ly1, ly2, ly3, ly4, ly5, ly6, ly7]))
 (refine tkY 1 ?_; (try simp only [ly0, ly1, ly2, ly3, ly4, ly5, ly6, ly7]))
 (refine tkY 2 ?_; (try simp only [ly0, ly1, ly2, ly3, ly4, ly5, ly6, ly7]))
 (refine tkY 3 ?_; (try simp only [ly0, ly1, ly2, ly3, ly4, ly5, ly6, ly7]))
 (refine tkY 4 ?_; (try simp only [ly0, ly1, ly2, ly3, ly4, ly5, ly6, ly7]))
 (refine tkY 5 ?_; (try simp only [ly0, ly1, ly2, ly3, ly4, ly5, ly6, ly7]))
 (refine tkY 6 ?_; (try simp only [ly0, ly1, ly2, ly3, ly4, ly5, ly6, ly7]))
 (refine tkY 7 ?_; (try simp only [ly0, ly1, ly2, ly3, ly4, ly5, ly6, ly7]))
 (refine tkY 8 ?_; (try simp only [ly0, ly1, ly2, ly3, ly4, ly5, ly6, ly7]))
 (refine tkY 9 ?_; (try simp only [ly0, ly1, ly2, ly3, ly4, ly5, ly6, ly7]))
 (refine tkY 10 ?_; (try simp only [ly0, ly1, ly2, ly3, ly4, ly5, ly6, ly7]))
 (refine tkY 11 ?_; (try simp only [ly0, ly1, ly2, ly3, ly4, ly5, ly6, ly7]))
 (refine tkY 12 ?_; (try simp only [ly0, ly1, ly2, ly3, ly4, ly5, ly6, ly7]))
 (refine tkY 13 ?_; (try simp only [ly0, ly1, ly2, ly3, ly4, ly5, ly6, ly7]))
 refine rd1 14 (fun K hK => ?_)
 (try simp only [ly0, ly1, ly2, ly3, ly4, ly5, ly6, ly7])
 go_simp
 (first
  | (go_at_call 211; refine (HX.out _).mono ?_; rintro e w1 ⟨rfl, hb1⟩; have hS1 := kept4 hb1 hS0))
 first | (refine hK.out _ _ (by ((try dsimp only) <;> (first | with_reducible exact hS0 | with_reducible exact hS1))) (fun hHeld => ?_)) | (go_wp2_with fail; refine hK.out _ _ (by ((try dsimp only) <;> (first | with_reducible exact hS0 | with_reducible exact hS1))) (fun hHeld => ?_))
 clear hK K
 (try simp only [ly0, ly1, ly2, ly3, ly4, ly5, ly6, ly7])
 (refine tkY 15 ?_; (try simp only [ly0, ly1, ly2, ly3, ly4, ly5, ly6, ly7]))
 refine wpAnyH_done (by kernel_rfl) ?_ _
 go_wp2
 go_ret
 rw [← HB0.out] at hA2
 exact ⟨rfl, Below.next hA2 hb1⟩
set_option maxRecDepth 100000 in
set_option maxHeartbeats 400000 in
theorem eValueOf4 (f p : Int) (wd : Bool) (o : O4) (v : Value) (xs : List Int) (w : World) (h : Fi f p wd) (hr : Row w v xs) (hk : o.k = 4) (hc : 0 ≤ o.c) :
 Calls Tryz.prog 115 #[elI f, opv o, v] w fun e w' => e = .returned (.int .u64 (rnS (Rf f) xs o)) ∧ Below w.heap.size w w' := by
 have hE : rnS (Rf f) xs o = o.c % p := by
  unfold rnS; rw [if_neg (by omega), if_neg (by omega), if_neg (by omega)]; show o.c % pOf f = _; rw [pOf_eq h]
 rw [hE]
 obtain ⟨ao, cap, rfl, _⟩ := hr
 have HX := hide (fun W => eCst f p o.c wd W h hc)
 obtain ⟨k, a, b', c⟩ := o
 dsimp only at *
 subst hk
 unfold elI opv
 clear hE
 have hm := fun W => met_cst f W
 have hA := alloc_below w (.cells #[.int .u8 4, .int .i64 a, .int .i64 b', .int .u64 c] 78)
 go_enter Tryz.func115, Tryz.ntmps115
 go_wp2_with (go_at_call 209; refine (HX.out _).mono ?_; rintro e w1 ⟨rfl, hb1⟩)
 go_ret
 exact ⟨rfl, Below.next hA hb1⟩
theorem eValueOf (f p : Int) (wd : Bool) (o : O4) (v : Value) (xs : List Int) (w : World) (h : Fi f p wd) (hr : Row w v xs) (hx : Els p xs) (hk : o.k = 1 ∨ o.k = 2 ∨ o.k = 3 ∨ o.k = 4) (ha : ¬ o.k = 4 → (0 ≤ o.a ∧ 0 ≤ o.b) ∧ o.a.toNat < xs.length ∧ o.b.toNat < xs.length) (hc : 0 ≤ o.c) :
 Calls Tryz.prog 115 #[elI f, opv o, v] w fun e w' => e = .returned (.int .u64 (rnS (Rf f) xs o)) ∧ Below w.heap.size w w' := by
 rcases hk with k | k | k | k
 · obtain ⟨⟨a0, b0⟩, a1, b1⟩ := ha (by omega)
   exact eValueOf1 f p wd o v xs w h hr hx k a0 b0 a1 b1
 · obtain ⟨⟨a0, b0⟩, a1, b1⟩ := ha (by omega)
   exact eValueOf2 f p wd o v xs w h hr hx k a0 b0 a1 b1
 · obtain ⟨⟨a0, b0⟩, a1, b1⟩ := ha (by omega)
   exact eValueOf3 f p wd o v xs w h hr hx k a0 b0 a1 b1
 · exact eValueOf4 f p wd o v xs w h hr k hc
end Go.Proofs.YtnakbpaiidolbaaGreat
