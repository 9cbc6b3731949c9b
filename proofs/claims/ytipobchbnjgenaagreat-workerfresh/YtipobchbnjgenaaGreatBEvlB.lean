import Derived.Test.YtipobchbnjgenaaGreatBunS
import Derived.Test.YtipobchbnjgenaaGreatBTkA
set_option linter.unusedVariables false
set_option linter.unusedSimpArgs false
set_option maxRecDepth 100000
set_option maxHeartbeats 4000000
namespace Go.Proofs.YtipobchbnjgenaaGreat
open Go.RowKit Fld Slp
def Rf (f : Int) : Rg Int := ⟨0, add (pOf f), sub (pOf f), mul (pOf f), fun c => c % pOf f⟩
theorem el_all {f p : Int} {wd : Bool} (h : Fi f p wd) (os : List O4) (l : List Int) (hx : ∀ x ∈ l, El p x) : ∀ x ∈ rnL (Rf f) l os, El p x := by
 have hp := h.pos
 have hb := h.md.bounds
 refine rn_all (Rf f) (El p) ⟨by simp [Rf], by show (0 : Int) < p; exact hp⟩ (fun x y hx hy => ?_) (fun x y hx hy => ?_) (fun x y hx hy => ?_) (fun c => ?_) os l hx
 · show El p (add (pOf f) x y); rw [pOf_eq h]; exact add_el hp
 · show El p (sub (pOf f) x y); rw [pOf_eq h]; exact sub_el hp
 · show El p (mul (pOf f) x y); rw [pOf_eq h]; exact mul_el hp
 · show El p (c % pOf f); rw [pOf_eq h]; exact emod_el hp c
theorem op_kinds {p : Pr} (hm : mayB p = true) : ∀ o ∈ p.ops, o.k = 1 ∨ o.k = 2 ∨ o.k = 3 ∨ o.k = 4 := fun o ho => by
 obtain ⟨⟨i0, i1, l1, l3⟩, mo, mu⟩ := mayB_iff.1 hm
 obtain ⟨i, hi, rfl⟩ := List.mem_iff_getElem.1 ho
 have := opsM_get p.inp p.ops 0 i hi mo
 unfold opM at this
 split at this
 · rename_i h; omega
 · split at this
   · rename_i h; omega
   · cases this
def elv (f : Int) : Value := .agg #[.int .u8 f]
def elI (f : Int) : Value := .iface 238 (elv f)
theorem nil_sum (f : Int) (w : World) : (nilAhead 387 238 (elv f) "conclave/eval.sum").run Tryz.prog w = .ok (some false) w := by kernel_rfl
theorem met_sum (f : Int) (w : World) : (method 387 238 (elv f) "conclave/eval.sum").run Tryz.prog w = .ok (219, elv f) w := by kernel_rfl
theorem nil_dif (f : Int) (w : World) : (nilAhead 387 238 (elv f) "conclave/eval.difference").run Tryz.prog w = .ok (some false) w := by kernel_rfl
theorem met_dif (f : Int) (w : World) : (method 387 238 (elv f) "conclave/eval.difference").run Tryz.prog w = .ok (217, elv f) w := by kernel_rfl
theorem nil_prd (f : Int) (w : World) : (nilAhead 387 238 (elv f) "conclave/eval.product").run Tryz.prog w = .ok (some false) w := by kernel_rfl
theorem met_prd (f : Int) (w : World) : (method 387 238 (elv f) "conclave/eval.product").run Tryz.prog w = .ok (218, elv f) w := by kernel_rfl
theorem met_cst (f : Int) (w : World) : (method 387 238 (elv f) "conclave/eval.constant").run Tryz.prog w = .ok (216, elv f) w := by kernel_rfl
theorem eSum (f p a b : Int) (wd : Bool) (w : World) (h : Fi f p wd) (ha : El p a) (hb : El p b) : Calls Tryz.prog 219 #[elv f, .int .u64 a, .int .u64 b] w fun e w' => e = .returned (.int .u64 (add p a b)) ∧ Below w.heap.size w w' := by
 have HX := hide (fun W => Add_yes f p a b wd W h ha hb)
 clear h ha hb
 unfold elv
 go_enter Tryz.func219, Tryz.ntmps219
 go_wp2_with (go_at_call 223; refine (HX.out _).mono ?_; rintro e w1 ⟨rfl, hb⟩)
 go_ret
 exact ⟨rfl, below_one hb⟩
theorem eDif (f p a b : Int) (wd : Bool) (w : World) (h : Fi f p wd) (ha : El p a) (hb : El p b) : Calls Tryz.prog 217 #[elv f, .int .u64 a, .int .u64 b] w fun e w' => e = .returned (.int .u64 (sub p a b)) ∧ Below w.heap.size w w' := by
 have HX := hide (fun W => Sub_yes f p a b wd W h ha hb)
 clear h ha hb
 unfold elv
 go_enter Tryz.func217, Tryz.ntmps217
 go_wp2_with (go_at_call 221; refine (HX.out _).mono ?_; rintro e w1 ⟨rfl, hb⟩)
 go_ret
 exact ⟨rfl, below_one hb⟩
theorem ePrd (f p a b : Int) (wd : Bool) (w : World) (h : Fi f p wd) (ha : El p a) (hb : El p b) : Calls Tryz.prog 218 #[elv f, .int .u64 a, .int .u64 b] w fun e w' => e = .returned (.int .u64 (mul p a b)) ∧ Below w.heap.size w w' := by
 have HX := hide (fun W => Mul_yes f p a b wd W h ha hb)
 clear h ha hb
 unfold elv
 go_enter Tryz.func218, Tryz.ntmps218
 go_wp2_with (go_at_call 222; refine (HX.out _).mono ?_; rintro e w1 ⟨rfl, hb⟩)
 go_ret
 exact ⟨rfl, below_one hb⟩
theorem eCst (f p c : Int) (wd : Bool) (w : World) (h : Fi f p wd) (hc : 0 <= c) : Calls Tryz.prog 216 #[elv f, .int .u64 c] w fun e w' => e = .returned (.int .u64 (c % p)) ∧ Below w.heap.size w w' := by
 have HX := hide (fun W => Prime_yes f p wd W h)
 have hp0 := h.pos
 have hp : ¬ p = 0 := by omega
 clear h
 unfold elv
 go_enter Tryz.func216, Tryz.ntmps216
 go_wp2_with (go_at_call 220; refine (HX.out _).mono ?_; rintro e w1 ⟨rfl, hb⟩)
 go_ret
 exact ⟨rfl, below_one hb⟩
theorem kept4 {W w1 : World} {a1 a2 a3 a4 : Addr} {v1 v2 v3 v4 : Value} (hb : Below W.heap.size W w1) (h : W.cell? a1 = some v1 ∧ W.cell? a2 = some v2 ∧ W.cell? a3 = some v3 ∧ W.cell? a4 = some v4) :
 w1.cell? a1 = some v1 ∧ w1.cell? a2 = some v2 ∧ w1.cell? a3 = some v3 ∧ w1.cell? a4 = some v4 :=
 ⟨(hb.cell (World.block_lt_of_cell? _ _ h.1)).trans h.1, (hb.cell (World.block_lt_of_cell? _ _ h.2.1)).trans h.2.1, (hb.cell (World.block_lt_of_cell? _ _ h.2.2.1)).trans h.2.2.1, (hb.cell (World.block_lt_of_cell? _ _ h.2.2.2)).trans h.2.2.2⟩
theorem cells4 {W : World} {b : Nat} {x y z u : Value} {T : TypeId} {fz : Nat × Nat} (h : W.heap[b]? = some (.cells #[x, y, z, u] T fz)) : W.cell? ⟨b, 0, none⟩ = some x ∧ W.cell? ⟨b, 1, none⟩ = some y ∧ W.cell? ⟨b, 2, none⟩ = some z ∧ W.cell? ⟨b, 3, none⟩ = some u := by
 refine ⟨?_, ?_, ?_, ?_⟩ <;> (unfold World.cell?; simp [h])
theorem eValueOf1 (f p : Int) (wd : Bool) (o : O4) (v : Value) (xs : List Int) (w : World) (h : Fi f p wd) (hr : Row w v xs) (hx : Els p xs) (hk : o.k = 1) (ha0 : 0 <= o.a) (hb0 : 0 <= o.b) (ha : o.a.toNat < xs.length) (hb : o.b.toNat < xs.length) :
 Calls Tryz.prog 191 #[elI f, opv o, v] w fun e w' => e = .returned (.int .u64 (rnS (Rf f) xs o)) ∧ Below w.heap.size w w' := by
 have hE : rnS (Rf f) xs o = add p (xs.getD o.a.toNat 0) (xs.getD o.b.toNat 0) := by
  unfold rnS; rw [if_pos hk]; show add (pOf f) _ _ = _; rw [pOf_eq h]; rfl
 rw [hE]
 obtain ⟨ao, cap, rfl, hl, hw, hc⟩ := hr
 obtain ⟨b, off, rfl, hbl, hcell⟩ := hc (by intro h0; rw [h0] at ha; simp at ha)
 have e1 := hx.co h.pos o.a.toNat
 have e2 := hx.co h.pos o.b.toNat
 have HX := hide (fun W => eSum f p _ _ wd W h e1 e2)
 obtain ⟨k, a, b', c⟩ := o
 dsimp only at *
 subst hk
 obtain ⟨i, rfl⟩ : ∃ i : Nat, a = i := ⟨a.toNat, by omega⟩
 obtain ⟨j, rfl⟩ : ∃ j : Nat, b' = j := ⟨b'.toNat, by omega⟩
 simp only [Int.toNat_natCast] at *
 unfold co at HX
 have c1 := hcell i ha
 have c2 := hcell j hb
 generalize xs.getD i 0 = x at *
 generalize xs.getD j 0 = y at *
 unfold elI opv
 clear hcell hc e1 e2 hE
 have hn := fun W => nil_sum f W
 have hm := fun W => met_sum f W
 have hA := alloc_below w (.cells #[.int .u8 1, .int .i64 i, .int .i64 j, .int .u64 c] 85)
 have hN := heap_alloc_new w (.cells #[.int .u8 1, .int .i64 i, .int .i64 j, .int .u64 c] 85)
 have d1 := (hA.cell (p := ⟨b, off + i, none⟩) hbl).trans c1
 have d2 := (hA.cell (p := ⟨b, off + j, none⟩) hbl).trans c2
 have i1 : (i : Int) < (xs.length : Int) := by omega
 have j1 : (j : Int) < (xs.length : Int) := by omega
 go_enter Tryz.func191, Tryz.ntmps191
 go_wp2
 generalize w.alloc (.cells #[.int .u8 1, .int .i64 i, .int .i64 j, .int .u64 c] 85) = w0 at *
 obtain ⟨b0, HB0⟩ : ∃ b0, Hid (w.heap.size = b0) := ⟨_, rfl⟩
 rw [HB0.out] at hN hA ⊢
 obtain ⟨p0, p1, p2, p3⟩ := cells4 hN
 have hS0 : w0.drew.cell? ⟨b, off + i, none⟩ = some (.int .u64 x) ∧ w0.drew.cell? ⟨b, off + j, none⟩ = some (.int .u64 y) ∧ w0.drew.cell? ⟨b0, 1, none⟩ = some (.int .i64 i) ∧ w0.drew.cell? ⟨b0, 2, none⟩ = some (.int .i64 j) := ⟨d1, d2, p1, p2⟩
 have hA2 : Below b0 w w0.drew := hA.drew
 refine wp_region_held_drew (S := (fun W' => W'.cell? ⟨b, off + i, none⟩ = some (.int .u64 x) ∧ W'.cell? ⟨b, off + j, none⟩ = some (.int .u64 y) ∧ W'.cell? ⟨b0, 1, none⟩ = some (.int .i64 i) ∧ W'.cell? ⟨b0, 2, none⟩ = some (.int .i64 j))) (by kernel_rfl) (by ((try dsimp only) <;> (first | with_reducible exact hS0 | with_reducible exact hS1))) (fun hHeld => ?_)
 refine tkY 0 ?_
 refine tkY 1 ?_
 refine tkY 2 ?_
 refine tkY 3 ?_
 refine tkY 4 ?_
 refine tkY 5 ?_
 refine tkY 6 ?_
 refine tkY 7 ?_
 refine tkY 8 ?_
 refine tkY 9 ?_
 refine tkY 10 ?_
 refine tkY 11 ?_
 refine tkY 12 ?_
 refine tkY 13 ?_
 refine rd1 14 (fun K hK => ?_)
 (try simp only [ly0, ly1, ly2, ly3, ly4, ly5, ly6, ly7])
 go_simp
 (first
  | (go_at_call 219; refine (HX.out _).mono ?_; rintro e w1 ⟨rfl, hb1⟩; have hS1 := kept4 hb1 hS0))
 first | refine hK.out _ _ ?k3 (fun hHeld => ?_) | (go_wp2_with fail; refine hK.out _ _ ?k3 (fun hHeld => ?_))
 case k3 => ((try dsimp only) <;> (first | with_reducible exact hS0 | with_reducible exact hS1))
 clear hK K
 (try simp only [ly0, ly1, ly2, ly3, ly4, ly5, ly6, ly7])
 refine tkY 15 ?_
 refine wpAnyH_done (by kernel_rfl) ?_ _
 go_wp2
 go_ret
 rw [<- HB0.out] at hA2
 exact ⟨rfl, Below.next hA2 hb1⟩
theorem eValueOf2 (f p : Int) (wd : Bool) (o : O4) (v : Value) (xs : List Int) (w : World) (h : Fi f p wd) (hr : Row w v xs) (hx : Els p xs) (hk : o.k = 2) (ha0 : 0 <= o.a) (hb0 : 0 <= o.b) (ha : o.a.toNat < xs.length) (hb : o.b.toNat < xs.length) :
 Calls Tryz.prog 191 #[elI f, opv o, v] w fun e w' => e = .returned (.int .u64 (rnS (Rf f) xs o)) ∧ Below w.heap.size w w' := by
 have hE : rnS (Rf f) xs o = sub p (xs.getD o.a.toNat 0) (xs.getD o.b.toNat 0) := by
  unfold rnS; rw [if_neg (by omega), if_pos hk]; show sub (pOf f) _ _ = _; rw [pOf_eq h]; rfl
 rw [hE]
 obtain ⟨ao, cap, rfl, hl, hw, hc⟩ := hr
 obtain ⟨b, off, rfl, hbl, hcell⟩ := hc (by intro h0; rw [h0] at ha; simp at ha)
 have e1 := hx.co h.pos o.a.toNat
 have e2 := hx.co h.pos o.b.toNat
 have HX := hide (fun W => eDif f p _ _ wd W h e1 e2)
 obtain ⟨k, a, b', c⟩ := o
 dsimp only at *
 subst hk
 obtain ⟨i, rfl⟩ : ∃ i : Nat, a = i := ⟨a.toNat, by omega⟩
 obtain ⟨j, rfl⟩ : ∃ j : Nat, b' = j := ⟨b'.toNat, by omega⟩
 simp only [Int.toNat_natCast] at *
 unfold co at HX
 have c1 := hcell i ha
 have c2 := hcell j hb
 generalize xs.getD i 0 = x at *
 generalize xs.getD j 0 = y at *
 unfold elI opv
 clear hcell hc e1 e2 hE
 have hn := fun W => nil_dif f W
 have hm := fun W => met_dif f W
 have hA := alloc_below w (.cells #[.int .u8 2, .int .i64 i, .int .i64 j, .int .u64 c] 85)
 have hN := heap_alloc_new w (.cells #[.int .u8 2, .int .i64 i, .int .i64 j, .int .u64 c] 85)
 have d1 := (hA.cell (p := ⟨b, off + i, none⟩) hbl).trans c1
 have d2 := (hA.cell (p := ⟨b, off + j, none⟩) hbl).trans c2
 have i1 : (i : Int) < (xs.length : Int) := by omega
 have j1 : (j : Int) < (xs.length : Int) := by omega
 go_enter Tryz.func191, Tryz.ntmps191
 go_wp2
 generalize w.alloc (.cells #[.int .u8 2, .int .i64 i, .int .i64 j, .int .u64 c] 85) = w0 at *
 obtain ⟨b0, HB0⟩ : ∃ b0, Hid (w.heap.size = b0) := ⟨_, rfl⟩
 rw [HB0.out] at hN hA ⊢
 obtain ⟨p0, p1, p2, p3⟩ := cells4 hN
 have hS0 : w0.drew.cell? ⟨b, off + i, none⟩ = some (.int .u64 x) ∧ w0.drew.cell? ⟨b, off + j, none⟩ = some (.int .u64 y) ∧ w0.drew.cell? ⟨b0, 1, none⟩ = some (.int .i64 i) ∧ w0.drew.cell? ⟨b0, 2, none⟩ = some (.int .i64 j) := ⟨d1, d2, p1, p2⟩
 have hA2 : Below b0 w w0.drew := hA.drew
 refine wp_region_held_drew (S := (fun W' => W'.cell? ⟨b, off + i, none⟩ = some (.int .u64 x) ∧ W'.cell? ⟨b, off + j, none⟩ = some (.int .u64 y) ∧ W'.cell? ⟨b0, 1, none⟩ = some (.int .i64 i) ∧ W'.cell? ⟨b0, 2, none⟩ = some (.int .i64 j))) (by kernel_rfl) (by ((try dsimp only) <;> (first | with_reducible exact hS0 | with_reducible exact hS1))) (fun hHeld => ?_)
 refine tkY 0 ?_
 refine tkY 1 ?_
 refine tkY 2 ?_
 refine tkY 3 ?_
 refine tkY 4 ?_
 refine tkY 5 ?_
 refine tkY 6 ?_
 refine tkY 7 ?_
 refine tkY 8 ?_
 refine tkY 9 ?_
 refine tkY 10 ?_
 refine tkY 11 ?_
 refine tkY 12 ?_
 refine tkY 13 ?_
 refine rd1 14 (fun K hK => ?_)
 (try simp only [ly0, ly1, ly2, ly3, ly4, ly5, ly6, ly7])
 go_simp
 (first
  | (go_at_call 217; refine (HX.out _).mono ?_; rintro e w1 ⟨rfl, hb1⟩; have hS1 := kept4 hb1 hS0))
 first | refine hK.out _ _ ?k4 (fun hHeld => ?_) | (go_wp2_with fail; refine hK.out _ _ ?k4 (fun hHeld => ?_))
 case k4 => ((try dsimp only) <;> (first | with_reducible exact hS0 | with_reducible exact hS1))
 clear hK K
 (try simp only [ly0, ly1, ly2, ly3, ly4, ly5, ly6, ly7])
 refine tkY 15 ?_
 refine wpAnyH_done (by kernel_rfl) ?_ _
 go_wp2
 go_ret
 rw [<- HB0.out] at hA2
 exact ⟨rfl, Below.next hA2 hb1⟩
theorem eValueOf3 (f p : Int) (wd : Bool) (o : O4) (v : Value) (xs : List Int) (w : World) (h : Fi f p wd) (hr : Row w v xs) (hx : Els p xs) (hk : o.k = 3) (ha0 : 0 <= o.a) (hb0 : 0 <= o.b) (ha : o.a.toNat < xs.length) (hb : o.b.toNat < xs.length) :
 Calls Tryz.prog 191 #[elI f, opv o, v] w fun e w' => e = .returned (.int .u64 (rnS (Rf f) xs o)) ∧ Below w.heap.size w w' := by
 have hE : rnS (Rf f) xs o = mul p (xs.getD o.a.toNat 0) (xs.getD o.b.toNat 0) := by
  unfold rnS; rw [if_neg (by omega), if_neg (by omega), if_pos hk]; show mul (pOf f) _ _ = _; rw [pOf_eq h]; rfl
 rw [hE]
 obtain ⟨ao, cap, rfl, hl, hw, hc⟩ := hr
 obtain ⟨b, off, rfl, hbl, hcell⟩ := hc (by intro h0; rw [h0] at ha; simp at ha)
 have e1 := hx.co h.pos o.a.toNat
 have e2 := hx.co h.pos o.b.toNat
 have HX := hide (fun W => ePrd f p _ _ wd W h e1 e2)
 obtain ⟨k, a, b', c⟩ := o
 dsimp only at *
 subst hk
 obtain ⟨i, rfl⟩ : ∃ i : Nat, a = i := ⟨a.toNat, by omega⟩
 obtain ⟨j, rfl⟩ : ∃ j : Nat, b' = j := ⟨b'.toNat, by omega⟩
 simp only [Int.toNat_natCast] at *
 unfold co at HX
 have c1 := hcell i ha
 have c2 := hcell j hb
 generalize xs.getD i 0 = x at *
 generalize xs.getD j 0 = y at *
 unfold elI opv
 clear hcell hc e1 e2 hE
 have hn := fun W => nil_prd f W
 have hm := fun W => met_prd f W
 have hA := alloc_below w (.cells #[.int .u8 3, .int .i64 i, .int .i64 j, .int .u64 c] 85)
 have hN := heap_alloc_new w (.cells #[.int .u8 3, .int .i64 i, .int .i64 j, .int .u64 c] 85)
 have d1 := (hA.cell (p := ⟨b, off + i, none⟩) hbl).trans c1
 have d2 := (hA.cell (p := ⟨b, off + j, none⟩) hbl).trans c2
 have i1 : (i : Int) < (xs.length : Int) := by omega
 have j1 : (j : Int) < (xs.length : Int) := by omega
 go_enter Tryz.func191, Tryz.ntmps191
 go_wp2
 generalize w.alloc (.cells #[.int .u8 3, .int .i64 i, .int .i64 j, .int .u64 c] 85) = w0 at *
 obtain ⟨b0, HB0⟩ : ∃ b0, Hid (w.heap.size = b0) := ⟨_, rfl⟩
 rw [HB0.out] at hN hA ⊢
 obtain ⟨p0, p1, p2, p3⟩ := cells4 hN
 have hS0 : w0.drew.cell? ⟨b, off + i, none⟩ = some (.int .u64 x) ∧ w0.drew.cell? ⟨b, off + j, none⟩ = some (.int .u64 y) ∧ w0.drew.cell? ⟨b0, 1, none⟩ = some (.int .i64 i) ∧ w0.drew.cell? ⟨b0, 2, none⟩ = some (.int .i64 j) := ⟨d1, d2, p1, p2⟩
 have hA2 : Below b0 w w0.drew := hA.drew
 refine wp_region_held_drew (S := (fun W' => W'.cell? ⟨b, off + i, none⟩ = some (.int .u64 x) ∧ W'.cell? ⟨b, off + j, none⟩ = some (.int .u64 y) ∧ W'.cell? ⟨b0, 1, none⟩ = some (.int .i64 i) ∧ W'.cell? ⟨b0, 2, none⟩ = some (.int .i64 j))) (by kernel_rfl) (by ((try dsimp only) <;> (first | with_reducible exact hS0 | with_reducible exact hS1))) (fun hHeld => ?_)
 refine tkY 0 ?_
 refine tkY 1 ?_
 refine tkY 2 ?_
 refine tkY 3 ?_
 refine tkY 4 ?_
 refine tkY 5 ?_
 refine tkY 6 ?_
 refine tkY 7 ?_
 refine tkY 8 ?_
 refine tkY 9 ?_
 refine tkY 10 ?_
 refine tkY 11 ?_
 refine tkY 12 ?_
 refine tkY 13 ?_
 refine rd1 14 (fun K hK => ?_)
 (try simp only [ly0, ly1, ly2, ly3, ly4, ly5, ly6, ly7])
 go_simp
 (first
  | (go_at_call 218; refine (HX.out _).mono ?_; rintro e w1 ⟨rfl, hb1⟩; have hS1 := kept4 hb1 hS0))
 first | refine hK.out _ _ ?k5 (fun hHeld => ?_) | (go_wp2_with fail; refine hK.out _ _ ?k5 (fun hHeld => ?_))
 case k5 => ((try dsimp only) <;> (first | with_reducible exact hS0 | with_reducible exact hS1))
 clear hK K
 (try simp only [ly0, ly1, ly2, ly3, ly4, ly5, ly6, ly7])
 refine tkY 15 ?_
 refine wpAnyH_done (by kernel_rfl) ?_ _
 go_wp2
 go_ret
 rw [<- HB0.out] at hA2
 exact ⟨rfl, Below.next hA2 hb1⟩
theorem eValueOf4 (f p : Int) (wd : Bool) (o : O4) (v : Value) (xs : List Int) (w : World) (h : Fi f p wd) (hr : Row w v xs) (hk : o.k = 4) (hc : 0 <= o.c) :
 Calls Tryz.prog 191 #[elI f, opv o, v] w fun e w' => e = .returned (.int .u64 (rnS (Rf f) xs o)) ∧ Below w.heap.size w w' := by
 have hE : rnS (Rf f) xs o = o.c % p := by
  unfold rnS; rw [if_neg (by omega), if_neg (by omega), if_neg (by omega)]; show o.c % pOf f = _; rw [pOf_eq h]
 rw [hE]
 obtain ⟨ao, cap, rfl, _⟩ := hr
 have HX := hide (fun W => eCst f p o.c wd W h hc)
 obtain ⟨k, a, b', c⟩ := o
 dsimp only at *
 subst hk
 unfold elI opv
 clear hE
 have hm := fun W => met_cst f W
 have hA := alloc_below w (.cells #[.int .u8 4, .int .i64 a, .int .i64 b', .int .u64 c] 85)
 go_enter Tryz.func191, Tryz.ntmps191
 go_wp2_with (go_at_call 216; refine (HX.out _).mono ?_; rintro e w1 ⟨rfl, hb1⟩)
 go_ret
 exact ⟨rfl, Below.next hA hb1⟩
theorem eValueOf (f p : Int) (wd : Bool) (o : O4) (v : Value) (xs : List Int) (w : World) (h : Fi f p wd) (hr : Row w v xs) (hx : Els p xs) (hk : o.k = 1 ∨ o.k = 2 ∨ o.k = 3 ∨ o.k = 4) (ha : ¬ o.k = 4 -> (0 <= o.a ∧ 0 <= o.b) ∧ o.a.toNat < xs.length ∧ o.b.toNat < xs.length) (hc : 0 <= o.c) :
 Calls Tryz.prog 191 #[elI f, opv o, v] w fun e w' => e = .returned (.int .u64 (rnS (Rf f) xs o)) ∧ Below w.heap.size w w' := by
 rcases hk with k | k | k | k
 · obtain ⟨⟨a0, b0⟩, a1, b1⟩ := ha (by omega)
   exact eValueOf1 f p wd o v xs w h hr hx k a0 b0 a1 b1
 · obtain ⟨⟨a0, b0⟩, a1, b1⟩ := ha (by omega)
   exact eValueOf2 f p wd o v xs w h hr hx k a0 b0 a1 b1
 · obtain ⟨⟨a0, b0⟩, a1, b1⟩ := ha (by omega)
   exact eValueOf3 f p wd o v xs w h hr hx k a0 b0 a1 b1
 · exact eValueOf4 f p wd o v xs w h hr k hc
end Go.Proofs.YtipobchbnjgenaaGreat
