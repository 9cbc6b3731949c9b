import Derived.Test.YtnakbpaiidolbaaGreatBEvpD
import Derived.Test.YtnakbpaiidolbaaGreatBunK
import Derived.Test.YtnakbpaiidolbaaGreatBunO
import Derived.Test.YtnakbpaiidolbaaGreatBQMute
import Derived.Test.YtnakbpaiidolbaaGreatBTkA
import Derived.Test.YtnakbpaiidolbaaGreatBEvpB
import Derived.RegionTactic
import Derived.Deep.RegionHeld3
import Derived.Test.YtnakbpaiidolbaaGreatBEvpC
import Derived.Test.YtnakbpaiidolbaaGreatBunH
namespace Go.Proofs.YtnakbpaiidolbaaGreat
open Go.RowKit Fld Slp
set_option linter.unusedVariables false
set_option linter.unusedSimpArgs false
theorem sl_infoE : (Tryz.prog.info? 30).map (fun i => (i.zero, i.size, i.bytes)) = some (some (.slice none 0 0), 1, 24) := by kernel_rfl
theorem lss_here {w : World} {lo hi : Nat} {v : Value} {us : List Value} {xss : List (List Int)} (h : Lss w lo hi v us xss) : Lss w lo w.heap.size v us xss :=
 ⟨h.row, h.each, h.from_, fun i g hg => by
  by_cases hi' : i < xss.length
  · exact own_top (h.each i hi') g hg
  · have : us.getD i nov = nov := by
     rw [List.getD_eq_getElem?_getD, List.getElem?_eq_none (by have := h.len; omega)]; rfl
    rw [this] at hg; simp [nov, Value.ownBlock] at hg, h.up⟩
end Go.Proofs.YtnakbpaiidolbaaGreat
namespace Go.Proofs.YtnakbpaiidolbaaGreat
open Go.RowKit Fld Slp
set_option linter.unusedVariables false
set_option linter.unusedSimpArgs false
def GivesL11 (k : FuncId) (args : Array Value) (W : World) (xss : List (List Int)) (e0 : Int) : Prop :=
 Calls Tryz.prog k args W fun e w' => ∃ v' us, e = .returned (.tuple #[v', .int .i64 e0]) ∧ Lss w' W.heap.size w'.heap.size v' us xss ∧ Below W.heap.size W w'
theorem GivesL11.none {k : FuncId} {args : Array Value} {W : World} {e0 : Int} (h : Calls Tryz.prog k args W fun e w' => e = .returned (.tuple #[.slice none 0 0, .int .i64 e0]) ∧ Below W.heap.size W w') : GivesL11 k args W [] e0 :=
 h.mono fun e w' ⟨he, hb⟩ => ⟨_, [], he, Lss.nil _ _ _, hb⟩
theorem take_snocL (g : List Int → List Int) (xss : List (List Int)) {k : Nat} (hk : k < xss.length) : (xss.take k).map g ++ [g (xss.getD k [])] = (xss.take (k + 1)).map g := by
 rw [List.take_succ_eq_append_getElem hk, List.map_append, List.getD_eq_getElem?_getD, List.getElem?_eq_getElem hk]; rfl
theorem lss_lo {w : World} {lo lo' hi : Nat} {v : Value} {us : List Value} {xss : List (List Int)} (h : Lss w lo hi v us xss) (hl : lo' ≤ lo) : Lss w lo' hi v us xss :=
 ⟨own_mono h.row hl, fun i hi => own_mono (h.each i hi) hl, fun i g hg => Nat.le_trans hl (h.from_ i g hg), h.top, h.up⟩
end Go.Proofs.YtnakbpaiidolbaaGreat
namespace Go.Proofs.YtnakbpaiidolbaaGreat
open Go.RowKit Fld Slp
set_option linter.unusedVariables false
set_option linter.unusedSimpArgs false
theorem pnil_sum (f : Int) (w : World) : (nilAhead 340 114 (elv f) "conclave/eval.sum").run Tryz.prog w = .ok (some false) w := by kernel_rfl
theorem pmet_sum (f : Int) (w : World) : (method 340 114 (elv f) "conclave/eval.sum").run Tryz.prog w = .ok (208, elv f) w := by kernel_rfl
theorem pnil_dif (f : Int) (w : World) : (nilAhead 340 114 (elv f) "conclave/eval.difference").run Tryz.prog w = .ok (some false) w := by kernel_rfl
theorem pmet_dif (f : Int) (w : World) : (method 340 114 (elv f) "conclave/eval.difference").run Tryz.prog w = .ok (206, elv f) w := by kernel_rfl
theorem pnil_prd (f : Int) (w : World) : (nilAhead 340 114 (elv f) "conclave/eval.product").run Tryz.prog w = .ok (some false) w := by kernel_rfl
theorem pmet_prd (f : Int) (w : World) : (method 340 114 (elv f) "conclave/eval.product").run Tryz.prog w = .ok (207, elv f) w := by kernel_rfl
theorem pmet_cst (f : Int) (w : World) : (method 340 114 (elv f) "conclave/eval.constant").run Tryz.prog w = .ok (205, elv f) w := by kernel_rfl
def GivesO (k : FuncId) (args : Array Value) (W : World) (zs : List Int) : Prop :=
 Calls Tryz.prog k args W fun e w' => ∃ v', e = .returned v' ∧ w'.ownsRow W.heap.size 58 1 v' zs.length (vals zs) ∧ Below W.heap.size W w'
set_option maxHeartbeats 200000 in
theorem qSum (f : Int) (v1 v2 : Value) (xs ys : List Int) (w : World) (h1 : Rw w v1 xs) (h2 : Rw w v2 ys) : GivesO 208 #[elv f, v1, v2] w (addL f xs ys) := by
 have HX := hide (fun W (hb : Below w.heap.size w W) => pAdd_any f v1 v2 xs ys W (h1.below hb) (h2.below hb))
 unfold Gives at HX
 have hA := alloc_below w (.cells #[.int .u8 f] 114)
 obtain ⟨a1, c1, rfl, _⟩ := h1.spell
 obtain ⟨a2, c2, rfl, _⟩ := h2.spell
 clear h1 h2
 unfold elv GivesO
 go_enter Tryz.func208, Tryz.ntmps208
 go_wp2_with (go_at_call 127; refine (HX.out _ hA).mono ?_; rintro e w1 ⟨v, rfl, ho, hb⟩)
 go_ret
 exact ⟨_, rfl, own_mono ho hA.size, Below.next hA hb⟩
set_option maxHeartbeats 200000 in
theorem qDif (f : Int) (v1 v2 : Value) (xs ys : List Int) (w : World) (h1 : Rw w v1 xs) (h2 : Rw w v2 ys) : GivesO 206 #[elv f, v1, v2] w (subL f xs ys) := by
 have HX := hide (fun W (hb : Below w.heap.size w W) => pSub_any f v1 v2 xs ys W (h1.below hb) (h2.below hb))
 unfold Gives at HX
 have hA := alloc_below w (.cells #[.int .u8 f] 114)
 obtain ⟨a1, c1, rfl, _⟩ := h1.spell
 obtain ⟨a2, c2, rfl, _⟩ := h2.spell
 clear h1 h2
 unfold elv GivesO
 go_enter Tryz.func206, Tryz.ntmps206
 go_wp2_with (go_at_call 178; refine (HX.out _ hA).mono ?_; rintro e w1 ⟨v, rfl, ho, hb⟩)
 go_ret
 exact ⟨_, rfl, own_mono ho hA.size, Below.next hA hb⟩
set_option maxHeartbeats 200000 in
theorem qPrd (f : Int) (v1 v2 : Value) (xs ys : List Int) (w : World) (h1 : Rw w v1 xs) (h2 : Rw w v2 ys) : GivesO 207 #[elv f, v1, v2] w (mulL f xs ys) := by
 have HX := hide (fun W (hb : Below w.heap.size w W) => pMul_any f v1 v2 xs ys W (h1.below hb) (h2.below hb))
 unfold Gives at HX
 have hA := alloc_below w (.cells #[.int .u8 f] 114)
 obtain ⟨a1, c1, rfl, _⟩ := h1.spell
 obtain ⟨a2, c2, rfl, _⟩ := h2.spell
 clear h1 h2
 unfold elv GivesO
 go_enter Tryz.func207, Tryz.ntmps207
 go_wp2_with (go_at_call 162; refine (HX.out _ hA).mono ?_; rintro e w1 ⟨v, rfl, ho, hb⟩)
 go_ret
 exact ⟨_, rfl, own_mono ho hA.size, Below.next hA hb⟩
set_option maxHeartbeats 200000 in
theorem qCst (f p c : Int) (wd : Bool) (w : World) (h : Fi f p wd) (hc : 0 ≤ c) : GivesO 205 #[elv f, .int .u64 c] w [c % p] := by
 have HX := hide (fun W => eCst f p c wd W h hc)
 have hA := alloc_below w (.cells #[.int .u8 f] 114)
 clear h
 unfold elv GivesO
 unfold elv at HX
 go_enter Tryz.func205, Tryz.ntmps205
 go_wp2_with (go_at_call 209; refine (HX.out _).mono ?_; rintro e w1 ⟨rfl, hb⟩)
 have hB := Below.next hA hb
 go_ret
 refine ⟨_, rfl, own_mono (own_lit (s := 1) (n := 1) [.int .u64 (c % p)] (heap_alloc_new w1 _) rfl (by decide)) hB.size, Below.next hB (alloc_below w1 _)⟩
end Go.Proofs.YtnakbpaiidolbaaGreat
namespace Go.Proofs.YtnakbpaiidolbaaGreat
open Go.RowKit Fld Slp
set_option linter.unusedVariables false
set_option linter.unusedSimpArgs false
set_option maxRecDepth 100000 in
set_option maxHeartbeats 400000 in
theorem qValueOf1 (f : Int) (o : O4) (v : Value) (yss : List (List Int)) (w : World) (hr : Rws w v yss) (hk : o.k = 1) (ha0 : 0 ≤ o.a) (hb0 : 0 ≤ o.b) (ha : o.a.toNat < yss.length) (hb : o.b.toNat < yss.length) : GivesO 93 #[poI f, opv o, v] w (rnS (Rq f) yss o) := by
 have hE : rnS (Rq f) yss o = addL f (yss.getD o.a.toNat []) (yss.getD o.b.toNat []) := by
  unfold rnS; rw [if_pos hk]; rfl
 rw [hE]
 obtain ⟨ao, cap, rfl, hl, hw, hc⟩ := hr
 obtain ⟨b, off, rfl, hbl, hcell⟩ := hc (by intro h0; rw [h0] at ha; simp at ha)
 obtain ⟨k, a, b', c⟩ := o
 dsimp only at *
 subst hk
 obtain ⟨i, rfl⟩ : ∃ i : Nat, a = i := ⟨a.toNat, by omega⟩
 obtain ⟨j, rfl⟩ : ∃ j : Nat, b' = j := ⟨b'.toNat, by omega⟩
 simp only [Int.toNat_natCast] at *
 obtain ⟨x, c1, r1⟩ := hcell i ha
 obtain ⟨y, c2, r2⟩ := hcell j hb
 have HX := hide (fun W (hb : Below w.heap.size w W) => qSum f x y _ _ W (r1.below hb) (r2.below hb))
 obtain ⟨ax, cx, rfl, _⟩ := r1.spell
 obtain ⟨ay, cy, rfl, _⟩ := r2.spell
 generalize yss.getD i [] = xs at *
 generalize yss.getD j [] = ys at *
 unfold poI opv GivesO
 unfold GivesO at HX
 clear hcell hc hE r1 r2
 have hn := fun W => pnil_sum f W
 have hm := fun W => pmet_sum f W
 have hA := alloc_below w (.cells #[.int .u8 1, .int .i64 i, .int .i64 j, .int .u64 c] 78)
 have hN := heap_alloc_new w (.cells #[.int .u8 1, .int .i64 i, .int .i64 j, .int .u64 c] 78)
 have d1 := (hA.cell (p := ⟨b, off + i, none⟩) hbl).trans c1
 have d2 := (hA.cell (p := ⟨b, off + j, none⟩) hbl).trans c2
 have i1 : (i : Int) < (yss.length : Int) := by omega
 have j1 : (j : Int) < (yss.length : Int) := by omega
 go_enter Tryz.func93, Tryz.ntmps93
 go_wp2
 generalize w.alloc (.cells #[.int .u8 1, .int .i64 i, .int .i64 j, .int .u64 c] 78) = w0 at *
 obtain ⟨b0, HB0⟩ : ∃ b0, Hid (w.heap.size = b0) := ⟨_, rfl⟩
 have hA2 : Below w.heap.size w w0.drew := hA.drew
 rw [HB0.out] at hN ⊢
 obtain ⟨p0, p1, p2, p3⟩ := cells4 hN
 have hS0 : w0.drew.cell? ⟨b, off + i, none⟩ = some (.slice ax xs.length cx) ∧ w0.drew.cell? ⟨b, off + j, none⟩ = some (.slice ay ys.length cy) ∧ w0.drew.cell? ⟨b0, 1, none⟩ = some (.int .i64 i) ∧ w0.drew.cell? ⟨b0, 2, none⟩ = some (.int .i64 j) := ⟨d1, d2, p1, p2⟩
 refine wp_region_held_drew (S := (fun W' => W'.cell? ⟨b, off + i, none⟩ = some (.slice ax xs.length cx) ∧ W'.cell? ⟨b, off + j, none⟩ = some (.slice ay ys.length cy) ∧ W'.cell? ⟨b0, 1, none⟩ = some (.int .i64 i) ∧ W'.cell? ⟨b0, 2, none⟩ = some (.int .i64 j))) (by kernel_rfl) (by ((try dsimp only) <;> (first | with_reducible exact hS0 | with_reducible exact hS1))) (fun hHeld => ?_)
 (refine tkY 0 ?_; (try simp only [ly0, ly1, ly2, ly3, ly4, ly5, ly6, ly7]))
 (refine tkY 1 ?_; (try simp only [ly0, ly1, ly2, ly3, ly4, ly5, ly6, ly7]))
 (refine tkY 2 ?_; (try simp only [ly0, ly1, ly2, ly3, ly4, ly5, ly6, ly7]))
 (refine tkY 3 ?_; (try simp only [ly0, ly1, ly2, ly3, ly4, ly5, ly6, ly7]))
 (refine tkY 4 ?_; (try simp only [ly0, ly1, ly2, ly3, ly4, ly5, ly6, ly7]))
 (refine tkY 5 ?_; (try simp only [ly0, ly1, ly2, ly3, ly4, ly5, ly6, ly7]))
 (refine tkY 6 ?_; (try simp only [ly0, ly1, ly2, ly3, ly4, ly5, ly6, ly7]))
 (refine tkY 7 ?_; (try simp only [ly0, ly1, ly2, ly3, ly4, ly5, ly6, ly7]))
 (refine tkY 8 ?_; (try simp only [ly0, ly1, ly2, ly3, ly4, ly5, ly6, ly7]))
 (refine tkY 9 ?_; (try simp only [ly0, ly1, ly2, ly3, ly4, ly5, ly6, ly7]))
 (refine tkY 10 ?_; (try simp only [ly0, ly1, ly2, ly3, ly4, ly5, ly6, ly7]))
 (refine tkY 11 ?_; (try simp only [ly0, ly1, ly2, ly3, ly4, ly5, ly6, ly7]))
 (refine tkY 12 ?_; (try simp only [ly0, ly1, ly2, ly3, ly4, ly5, ly6, ly7]))
 (refine tkY 13 ?_; (try simp only [ly0, ly1, ly2, ly3, ly4, ly5, ly6, ly7]))
 refine rd1 14 (fun K hK => ?_)
 (try simp only [ly0, ly1, ly2, ly3, ly4, ly5, ly6, ly7])
 go_simp
 (first
  | (go_at_call 208; refine (HX.out _ hA2).mono ?_; rintro e w1 ⟨v1, rfl, ho1, hb1⟩; have hS1 := kept4 hb1 hS0))
 first | (refine hK.out _ _ (by ((try dsimp only) <;> (first | with_reducible exact hS0 | with_reducible exact hS1))) (fun hHeld => ?_)) | (go_wp2_with fail; refine hK.out _ _ (by ((try dsimp only) <;> (first | with_reducible exact hS0 | with_reducible exact hS1))) (fun hHeld => ?_))
 clear hK K
 (try simp only [ly0, ly1, ly2, ly3, ly4, ly5, ly6, ly7])
 (refine tkY 15 ?_; (try simp only [ly0, ly1, ly2, ly3, ly4, ly5, ly6, ly7]))
 refine wpAnyH_done (by kernel_rfl) ?_ _
 go_wp2
 go_ret
 exact ⟨_, rfl, own_mono ho1 hA2.size, Below.next hA2 hb1⟩
set_option maxRecDepth 100000 in
set_option maxHeartbeats 400000 in
theorem qValueOf2 (f : Int) (o : O4) (v : Value) (yss : List (List Int)) (w : World) (hr : Rws w v yss) (hk : o.k = 2) (ha0 : 0 ≤ o.a) (hb0 : 0 ≤ o.b) (ha : o.a.toNat < yss.length) (hb : o.b.toNat < yss.length) : GivesO 93 #[poI f, opv o, v] w (rnS (Rq f) yss o) := by
 have hE : rnS (Rq f) yss o = subL f (yss.getD o.a.toNat []) (yss.getD o.b.toNat []) := by
  unfold rnS; rw [if_neg (by omega), if_pos hk]; rfl
 rw [hE]
 obtain ⟨ao, cap, rfl, hl, hw, hc⟩ := hr
 obtain ⟨b, off, rfl, hbl, hcell⟩ := hc (by intro h0; rw [h0] at ha; simp at ha)
 obtain ⟨k, a, b', c⟩ := o
 dsimp only at *
 subst hk
 obtain ⟨i, rfl⟩ : ∃ i : Nat, a = i := ⟨a.toNat, by omega⟩
 obtain ⟨j, rfl⟩ : ∃ j : Nat, b' = j := ⟨b'.toNat, by omega⟩
 simp only [Int.toNat_natCast] at *
 obtain ⟨x, c1, r1⟩ := hcell i ha
 obtain ⟨y, c2, r2⟩ := hcell j hb
 have HX := hide (fun W (hb : Below w.heap.size w W) => qDif f x y _ _ W (r1.below hb) (r2.below hb))
 obtain ⟨ax, cx, rfl, _⟩ := r1.spell
 obtain ⟨ay, cy, rfl, _⟩ := r2.spell
 generalize yss.getD i [] = xs at *
 generalize yss.getD j [] = ys at *
 unfold poI opv GivesO
 unfold GivesO at HX
 clear hcell hc hE r1 r2
 have hn := fun W => pnil_dif f W
 have hm := fun W => pmet_dif f W
 have hA := alloc_below w (.cells #[.int .u8 2, .int .i64 i, .int .i64 j, .int .u64 c] 78)
 have hN := heap_alloc_new w (.cells #[.int .u8 2, .int .i64 i, .int .i64 j, .int .u64 c] 78)
 have d1 := (hA.cell (p := ⟨b, off + i, none⟩) hbl).trans c1
 have d2 := (hA.cell (p := ⟨b, off + j, none⟩) hbl).trans c2
 have i1 : (i : Int) < (yss.length : Int) := by omega
 have j1 : (j : Int) < (yss.length : Int) := by omega
 go_enter Tryz.func93, Tryz.ntmps93
 go_wp2
 generalize w.alloc (.cells #[.int .u8 2, .int .i64 i, .int .i64 j, .int .u64 c] 78) = w0 at *
 obtain ⟨b0, HB0⟩ : ∃ b0, Hid (w.heap.size = b0) := ⟨_, rfl⟩
 have hA2 : Below w.heap.size w w0.drew := hA.drew
 rw [HB0.out] at hN ⊢
 obtain ⟨p0, p1, p2, p3⟩ := cells4 hN
 have hS0 : w0.drew.cell? ⟨b, off + i, none⟩ = some (.slice ax xs.length cx) ∧ w0.drew.cell? ⟨b, off + j, none⟩ = some (.slice ay ys.length cy) ∧ w0.drew.cell? ⟨b0, 1, none⟩ = some (.int .i64 i) ∧ w0.drew.cell? ⟨b0, 2, none⟩ = some (.int .i64 j) := ⟨d1, d2, p1, p2⟩
 refine wp_region_held_drew (S := (fun W' => W'.cell? ⟨b, off + i, none⟩ = some (.slice ax xs.length cx) ∧ W'.cell? ⟨b, off + j, none⟩ = some (.slice ay ys.length cy) ∧ W'.cell? ⟨b0, 1, none⟩ = some (.int .i64 i) ∧ W'.cell? ⟨b0, 2, none⟩ = some (.int .i64 j))) (by kernel_rfl) (by ((try dsimp only) <;> (first | with_reducible exact hS0 | with_reducible exact hS1))) (fun hHeld => ?_)
 (refine tkY 0 ?_; (try simp only [ly0, ly1, ly2, ly3, ly4, ly5, ly6, ly7]))
 (refine tkY 1 ?_; (try simp only [ly0, ly1, ly2, ly3, ly4, ly5, ly6, ly7]))
 (refine tkY 2 ?_; (try simp only [ly0, ly1, ly2, ly3, ly4, ly5, ly6, ly7]))
 (refine tkY 3 ?_; (try simp only [ly0, ly1, ly2, ly3, ly4, ly5, ly6, ly7]))
 (refine tkY 4 ?_; (try simp only [ly0, ly1, ly2, ly3, ly4, ly5, ly6, ly7]))
 (refine tkY 5 ?_; (try simp only [ly0, ly1, ly2, ly3, ly4, ly5, ly6, ly7]))
 (refine tkY 6 ?_; (try simp only [ly0, ly1, ly2, ly3, ly4, ly5, ly6, ly7]))
 (refine tkY 7 ?_; (try simp only [ly0, ly1, ly2, ly3, ly4, ly5, ly6, ly7]))
 (refine tkY 8 ?_; (try simp only [ly0, ly1, ly2, ly3, ly4, ly5, ly6, ly7]))
 (refine tkY 9 ?_; (try simp only [ly0, ly1, ly2, ly3, ly4, ly5, ly6, ly7]))
 (refine tkY 10 ?_; (try simp only [ly0, ly1, ly2, ly3, ly4, ly5, ly6, ly7]))
 (refine tkY 11 ?_; (try simp only [ly0, ly1, ly2, ly3, ly4, ly5, ly6, ly7]))
 (refine tkY 12 ?_; (try simp only [ly0, ly1, ly2, ly3, ly4, ly5, ly6, ly7]))
 (refine tkY 13 ?_; (try simp only [ly0, ly1, ly2, ly3, ly4, ly5, ly6, ly7]))
 refine rd1 14 (fun K hK => ?_)
 (try simp only [ly0, ly1, ly2, ly3, ly4, ly5, ly6, ly7])
 go_simp
 (first
  | (go_at_call 206; refine (HX.out _ hA2).mono ?_; rintro e w1 ⟨v1, rfl, ho1, hb1⟩; have hS1 := kept4 hb1 hS0))
 first | (refine hK.out _ _ (by ((try dsimp only) <;> (first | with_reducible exact hS0 | with_reducible exact hS1))) (fun hHeld => ?_)) | (go_wp2_with fail; refine hK.out _ _ (by ((try dsimp only) <;> (first | with_reducible exact hS0 | with_reducible exact hS1))) (fun hHeld => ?_))
 clear hK K
 (try simp only [ly0, ly1, ly2, ly3, ly4, ly5, ly6, ly7])
 (refine tkY 15 ?_; (try simp only [ly0, ly1, ly2, ly3, ly4, ly5, ly6, ly7]))
 refine wpAnyH_done (by kernel_rfl) ?_ _
 go_wp2
 go_ret
 exact ⟨_, rfl, own_mono ho1 hA2.size, Below.next hA2 hb1⟩
set_option maxRecDepth 100000 in
set_option maxHeartbeats 400000 in
theorem qValueOf3 (f : Int) (o : O4) (v : Value) (yss : List (List Int)) (w : World) (hr : Rws w v yss) (hk : o.k = 3) (ha0 : 0 ≤ o.a) (hb0 : 0 ≤ o.b) (ha : o.a.toNat < yss.length) (hb : o.b.toNat < yss.length) : GivesO 93 #[poI f, opv o, v] w (rnS (Rq f) yss o) := by
 have hE : rnS (Rq f) yss o = mulL f (yss.getD o.a.toNat []) (yss.getD o.b.toNat []) := by
  unfold rnS; rw [if_neg (by omega), if_neg (by omega), if_pos hk]; rfl
 rw [hE]
 obtain ⟨ao, cap, rfl, hl, hw, hc⟩ := hr
 obtain ⟨b, off, rfl, hbl, hcell⟩ := hc (by intro h0; rw [h0] at ha; simp at ha)
 obtain ⟨k, a, b', c⟩ := o
 dsimp only at *
 subst hk
 obtain ⟨i, rfl⟩ : ∃ i : Nat, a = i := ⟨a.toNat, by omega⟩
 obtain ⟨j, rfl⟩ : ∃ j : Nat, b' = j := ⟨b'.toNat, by omega⟩
 simp only [Int.toNat_natCast] at *
 obtain ⟨x, c1, r1⟩ := hcell i ha
 obtain ⟨y, c2, r2⟩ := hcell j hb
 have HX := hide (fun W (hb : Below w.heap.size w W) => qPrd f x y _ _ W (r1.below hb) (r2.below hb))
 obtain ⟨ax, cx, rfl, _⟩ := r1.spell
 obtain ⟨ay, cy, rfl, _⟩ := r2.spell
 generalize yss.getD i [] = xs at *
 generalize yss.getD j [] = ys at *
 unfold poI opv GivesO
 unfold GivesO at HX
 clear hcell hc hE r1 r2
 have hn := fun W => pnil_prd f W
 have hm := fun W => pmet_prd f W
 have hA := alloc_below w (.cells #[.int .u8 3, .int .i64 i, .int .i64 j, .int .u64 c] 78)
 have hN := heap_alloc_new w (.cells #[.int .u8 3, .int .i64 i, .int .i64 j, .int .u64 c] 78)
 have d1 := (hA.cell (p := ⟨b, off + i, none⟩) hbl).trans c1
 have d2 := (hA.cell (p := ⟨b, off + j, none⟩) hbl).trans c2
 have i1 : (i : Int) < (yss.length : Int) := by omega
 have j1 : (j : Int) < (yss.length : Int) := by omega
 go_enter Tryz.func93, Tryz.ntmps93
 go_wp2
 generalize w.alloc (.cells #[.int .u8 3, .int .i64 i, .int .i64 j, .int .u64 c] 78) = w0 at *
 obtain ⟨b0, HB0⟩ : ∃ b0, Hid (w.heap.size = b0) := ⟨_, rfl⟩
 have hA2 : Below w.heap.size w w0.drew := hA.drew
 rw [HB0.out] at hN ⊢
 obtain ⟨p0, p1, p2, p3⟩ := cells4 hN
 have hS0 : w0.drew.cell? ⟨b, off + i, none⟩ = some (.slice ax xs.length cx) ∧ w0.drew.cell? ⟨b, off + j, none⟩ = some (.slice ay ys.length cy) ∧ w0.drew.cell? ⟨b0, 1, none⟩ = some (.int .i64 i) ∧ w0.drew.cell? ⟨b0, 2, none⟩ = some (.int .i64 j) := ⟨d1, d2, p1, p2⟩
 refine wp_region_held_drew (S := (fun W' => W'.cell? ⟨b, off + i, none⟩ = some (.slice ax xs.length cx) ∧ W'.cell? ⟨b, off + j, none⟩ = some (.slice ay ys.length cy) ∧ W'.cell? ⟨b0, 1, none⟩ = some (.int .i64 i) ∧ W'.cell? ⟨b0, 2, none⟩ = some (.int .i64 j))) (by kernel_rfl) (by ((try dsimp only) <;> (first | with_reducible exact hS0 | with_reducible exact hS1))) (fun hHeld => ?_)
 (refine tkY 0 ?_; (try simp only [ly0, ly1, ly2, ly3, ly4, ly5, ly6, ly7]))
 (refine tkY 1 ?_; (try simp only [ly0, ly1, ly2, ly3, ly4, ly5, ly6, ly7]))
 (refine tkY 2 ?_; (try simp only [ly0, ly1, ly2, ly3, ly4, ly5, ly6, ly7]))
 (refine tkY 3 ?_; (try simp only [ly0, ly1, ly2, ly3, ly4, ly5, ly6, ly7]))
 (refine tkY 4 ?_; (try simp only [ly0, ly1, ly2, ly3, ly4, ly5, ly6, ly7]))
 (refine tkY 5 ?_; (try simp only [ly0, ly1, ly2, ly3, ly4, ly5, ly6, ly7]))
 (refine tkY 6 ?_; (try simp only [ly0, ly1, ly2, ly3, ly4, ly5, ly6, ly7]))
 (refine tkY 7 ?_; (try simp only [ly0, ly1, ly2, ly3, ly4, ly5, ly6, ly7]))
 (refine tkY 8 ?_; (try simp only [ly0, ly1, ly2, ly3, ly4, ly5, ly6, ly7]))
 (refine tkY 9 ?_; (try simp only [ly0, ly1, ly2, ly3, ly4, ly5, ly6, ly7]))
 (refine tkY 10 ?_; (try simp only [ly0, ly1, ly2, ly3, ly4, ly5, ly6, ly7]))
 (refine tkY 11 ?_; (try simp only [ly0, ly1, ly2, ly3, ly4, ly5, ly6, ly7]))
 (refine tkY 12 ?_; (try simp only [ly0, ly1, ly2, ly3, ly4, ly5, ly6, ly7]))
 (refine tkY 13 ?_; (try simp only [ly0, ly1, ly2, ly3, ly4, ly5, ly6, ly7]))
 refine rd1 14 (fun K hK => ?_)
 (try simp only [ly0, ly1, ly2, ly3, ly4, ly5, ly6, ly7])
 go_simp
 (first
  | (go_at_call 207; refine (HX.out _ hA2).mono ?_; rintro e w1 ⟨v1, rfl, ho1, hb1⟩; have hS1 := kept4 hb1 hS0))
 first | (refine hK.out _ _ (by ((try dsimp only) <;> (first | with_reducible exact hS0 | with_reducible exact hS1))) (fun hHeld => ?_)) | (go_wp2_with fail; refine hK.out _ _ (by ((try dsimp only) <;> (first | with_reducible exact hS0 | with_reducible exact hS1))) (fun hHeld => ?_))
 clear hK K
 (try simp only [ly0, ly1, ly2, ly3, ly4, ly5, ly6, ly7])
 (refine tkY 15 ?_; (try simp only [ly0, ly1, ly2, ly3, ly4, ly5, ly6, ly7]))
 refine wpAnyH_done (by kernel_rfl) ?_ _
 go_wp2
 go_ret
 exact ⟨_, rfl, own_mono ho1 hA2.size, Below.next hA2 hb1⟩
set_option maxRecDepth 100000 in
set_option maxHeartbeats 400000 in
theorem qValueOf4 (f p : Int) (wd : Bool) (o : O4) (v : Value) (yss : List (List Int)) (w : World) (h : Fi f p wd) (hr : Rws w v yss) (hk : o.k = 4) (hc : 0 ≤ o.c) : GivesO 93 #[poI f, opv o, v] w (rnS (Rq f) yss o) := by
 have hE : rnS (Rq f) yss o = [o.c % p] := by
  unfold rnS; rw [if_neg (by omega), if_neg (by omega), if_neg (by omega)]; show [o.c % pOf f] = _; rw [pOf_eq h]
 rw [hE]
 obtain ⟨ao, cap, rfl, _⟩ := hr
 have HX := hide (fun W => qCst f p o.c wd W h hc)
 obtain ⟨k, a, b', c⟩ := o
 dsimp only at *
 subst hk
 unfold poI opv GivesO
 unfold GivesO at HX
 clear hE
 have hm := fun W => pmet_cst f W
 have hA := alloc_below w (.cells #[.int .u8 4, .int .i64 a, .int .i64 b', .int .u64 c] 78)
 go_enter Tryz.func93, Tryz.ntmps93
 go_wp2_with (go_at_call 205; refine (HX.out _).mono ?_; rintro e w1 ⟨v1, rfl, ho1, hb1⟩)
 go_ret
 exact ⟨_, rfl, own_mono ho1 hA.size, Below.next hA hb1⟩
theorem qValueOf (f p : Int) (wd : Bool) (o : O4) (v : Value) (yss : List (List Int)) (w : World) (h : Fi f p wd) (hr : Rws w v yss) (hk : o.k = 1 ∨ o.k = 2 ∨ o.k = 3 ∨ o.k = 4) (ha : ¬ o.k = 4 → (0 ≤ o.a ∧ 0 ≤ o.b) ∧ o.a.toNat < yss.length ∧ o.b.toNat < yss.length) (hc : 0 ≤ o.c) : GivesO 93 #[poI f, opv o, v] w (rnS (Rq f) yss o) := by
 rcases hk with k | k | k | k
 · obtain ⟨⟨a0, b0⟩, a1, b1⟩ := ha (by omega)
   exact qValueOf1 f o v yss w hr k a0 b0 a1 b1
 · obtain ⟨⟨a0, b0⟩, a1, b1⟩ := ha (by omega)
   exact qValueOf2 f o v yss w hr k a0 b0 a1 b1
 · obtain ⟨⟨a0, b0⟩, a1, b1⟩ := ha (by omega)
   exact qValueOf3 f o v yss w hr k a0 b0 a1 b1
 · exact qValueOf4 f p wd o v yss w h hr k hc
end Go.Proofs.YtnakbpaiidolbaaGreat
namespace Go.Proofs.YtnakbpaiidolbaaGreat
open Go.RowKit Fld Slp
set_option linter.unusedVariables false
set_option linter.unusedSimpArgs false
theorem rw_far {W W' : World} {u : Value} {xs : List Int} {r : Option Nat} (h : Rw W u xs) (hg : W.grownBy W' r) (hne : xs ≠ [] → ∀ b, u.ownBlock = some b → r ≠ some b) : Rw W' u xs := by
 refine ⟨?_, h.2⟩
 obtain ⟨ao, cap, rfl, h1, h2, h3⟩ := h.1
 refine ⟨ao, cap, rfl, h1, h2, fun hx => ?_⟩
 obtain ⟨b, off, rfl, hlt, hc⟩ := h3 hx
 refine ⟨b, off, rfl, Nat.lt_of_lt_of_le hlt hg.size, fun i hi => ?_⟩
 rw [World.cell?_of_block (w := W) (hg.block b hlt (hne hx b rfl).symm)]
 exact hc i hi
theorem Rw.blk {W : World} {u : Value} {xs : List Int} (h : Rw W u xs) (hx : xs ≠ []) : ∀ b, u.ownBlock = some b → b < W.heap.size := fun b hb => by
 obtain ⟨ao, cap, rfl, h1, h2, h3⟩ := h.1
 obtain ⟨b', off, rfl, hlt, hc⟩ := h3 hx
 have : b' = b := by simpa [Value.ownBlock] using hb
 omega
structure Ls (W : World) (lo : Nat) (v : Value) (us : List Value) (yss : List (List Int)) : Prop where
 row : W.ownsRow lo 30 1 v yss.length us
 each : ∀ i, i < yss.length → Rw W (us.getD i nov) (yss.getD i [])
 far : ∀ i, i < yss.length → yss.getD i [] ≠ [] → ∀ b, (us.getD i nov).ownBlock = some b → v.ownBlock ≠ some b
theorem Ls.len {W : World} {lo : Nat} {v : Value} {us : List Value} {yss : List (List Int)} (h : Ls W lo v us yss) : us.length = yss.length := by have := h.row.1; omega
theorem Ls.below {W W' : World} {lo : Nat} {v : Value} {us : List Value} {yss : List (List Int)} (h : Ls W lo v us yss) (hb : Below W.heap.size W W') : Ls W' lo v us yss := ⟨own_below h.row hb, fun i hi => (h.each i hi).below hb, h.far⟩
theorem Ls.rws {W : World} {lo : Nat} {v : Value} {us : List Value} {yss : List (List Int)} (h : Ls W lo v us yss) (hl : yss.length ≤ 5864062014700) : Rws W v yss := by
 rcases h.row.2 with ⟨rfl, h0⟩ | ⟨g, cap, cur, rfl, h2, h3, h4, h5, h6, h7⟩
 · have : yss = [] := List.length_eq_zero_iff.1 h0
   subst this
   exact rws_nil W
 · refine ⟨_, cap, rfl, hl, h4, fun hne => ⟨g, 0, rfl, own_top h.row g rfl, fun i hi => ⟨us.getD i nov, ?_, h.each i hi⟩⟩⟩
   have hlen := h.len
   have e1 : us[i]? = some (us.getD i nov) := by rw [List.getD_eq_getElem?_getD, List.getElem?_eq_getElem (by omega)]; rfl
   have e2 : cur.toList[i]? = some (us.getD i nov) := by
    rw [← e1, ← h7, List.getElem?_take, if_pos (by omega)]
   rw [Nat.zero_add]
   unfold World.cell?
   simp only [h3]
   simpa using e2
theorem Ls.push {W w3 : World} {lo g n cap : Nat} {v u : Value} {us : List Value} {yss : List (List Int)} {ys : List Int} {T : TypeId} (h : Ls W lo v us yss) (hu : Rw W u ys) (hub : ys ≠ [] → ∀ b, u.ownBlock = some b → v.ownBlock ≠ some b)
 (h3 : w3.ownsRow lo 30 1 (.slice (some ⟨g, 0, none⟩) n cap) (yss.length + 1) (us ++ [u])) (hg : (W.alloc (.cells #[u] T)).grownBy w3 v.ownBlock) (hat : v.ownBlock = some g ∨ g = W.heap.size + 1) : Ls w3 lo (.slice (some ⟨g, 0, none⟩) n cap) (us ++ [u]) (yss ++ [ys]) := by
 have hl := h.len
 have hal := alloc_below W (.cells #[u] T)
 refine ⟨by rw [List.length_append]; exact h3, fun i hi => ?_, fun i hi hne b hb => ?_⟩
 · rw [getD_snoc, getD_snoc, hl]
   by_cases hi2 : i < yss.length
   · rw [if_pos hi2, if_pos hi2]
     exact rw_far ((h.each i hi2).below hal) hg (h.far i hi2)
   · have : i = yss.length := by simp at hi; omega
     rw [if_neg hi2, if_neg hi2, if_pos this, if_pos this]
     exact rw_far (hu.below hal) hg hub
 · rw [getD_snoc] at hb hne
   rw [hl] at hb
   show some g ≠ some b
   by_cases hi2 : i < yss.length
   · rw [if_pos hi2] at hb hne
     rcases hat with h1 | h1
     · rw [← h1]; exact h.far i hi2 hne b hb
     · have := (h.each i hi2).blk hne b hb
       intro e; cases e; omega
   · have : i = yss.length := by simp at hi; omega
     rw [if_neg hi2, if_pos this] at hb hne
     rcases hat with h1 | h1
     · rw [← h1]; exact hub hne b hb
     · have := hu.blk hne b hb
       intro e; cases e; omega
def novs (n : Nat) : List Value := List.replicate n nov
theorem novs_len (n : Nat) : (novs n).length = n := by simp [novs]
theorem sl_size : (Tryz.prog.info? 30).map (·.size) = some 1 := by kernel_rfl
theorem makeS (n m : Nat) (hm : n + m ≤ 1000) (W : World) : (Instr.makeSlice 29 (.int .i64 (n : Int)) (.int .i64 ((n : Int) + (m : Int)))).run Tryz.prog W = .ok (.slice (some ⟨W.heap.size, 0, none⟩) n (n + m)) (W.alloc (.cells (novs (n + m)).toArray 30)) := by
 obtain ⟨i, hi, hz, hs, hb⟩ := info_parts sl_infoE
 have := run_make (P := Tryz.prog) W 29 30 i (.slice none 0 0) Tryz.underlying29 hi hz .i64 .i64 (n : Int) ((n : Int) + (m : Int)) (by omega) (by omega) (by rw [hb]; omega) (by omega)
 rw [this, hs, Int.toNat_natCast, show ((n : Int) + (m : Int)).toNat = n + m by omega]
 show Result.ok _ (W.alloc (.cells (madeCells #[.slice none 0 0] ((n + m) * 1)) 30)) = _
 rw [made_list]
 rfl
theorem makeS1 (n : Nat) (hm : n ≤ 1000) (W : World) : (Instr.makeSlice 29 (.int .i64 (n : Int)) (.int .i64 (n : Int))).run Tryz.prog W = .ok (.slice (some ⟨W.heap.size, 0, none⟩) n n) (W.alloc (.cells (novs n).toArray 30)) := by
 have := makeS n 0 (by omega) W
 rw [show (n : Int) + ((0 : Nat) : Int) = n by omega] at this
 exact this
theorem rws_vals {w : World} {v : Value} {xss : List (List Int)} (h : Rws w v xss) : ∃ us : List Value, us.length = xss.length ∧ (∀ i, i < xss.length → Rw w (us.getD i nov) (xss.getD i [])) ∧ (∀ u ∈ us, u.oneCell' = true) ∧ (0 < us.length → ∃ ad ln cap, v = .slice (some ad) ln cap ∧ ∀ j u, us[j]? = some u → w.cell? (ad.add j) = some u) := by
 obtain ⟨ao, cap, rfl, hl, hcap, hc⟩ := h
 by_cases hn : xss = []
 · subst hn
   exact ⟨[], rfl, (fun i hi => by simp at hi), (fun u hu => by simp at hu), (fun h => by simp at h)⟩
 · obtain ⟨b, off, rfl, hbl, hcell⟩ := hc hn
   obtain ⟨F, hF⟩ := Classical.axiomOfChoice (r := fun (i : Fin xss.length) (u : Value) => w.cell? ⟨b, off + i.1, none⟩ = some u ∧ Rw w u (xss.getD i.1 [])) (fun i => hcell i.1 i.2)
   refine ⟨List.ofFn F, by simp, fun i hi => ?_, fun u hu => ?_, fun _ => ⟨⟨b, off, none⟩, _, _, rfl, fun j u hj => ?_⟩⟩
   · rw [List.getD_eq_getElem?_getD, List.getElem?_ofFn, dif_pos hi]
     exact (hF ⟨i, hi⟩).2
   · obtain ⟨i, rfl⟩ := List.mem_ofFn.1 hu
     obtain ⟨a, c, e, _⟩ := (hF i).2.spell
     rw [e]; rfl
   · rw [List.getElem?_ofFn] at hj
     split at hj
     · rename_i hjl
       have := (hF ⟨j, hjl⟩).1
       cases hj
       rw [show (⟨b, off, none⟩ : Addr).add j = ⟨b, off + j, none⟩ by unfold Addr.add; split <;> simp_all]
       exact this
     · cases hj
theorem ls_start {W : World} {lo g n c : Nat} {us : List Value} {xss : List (List Int)} (hO : W.ownsRow lo 30 1 (.slice (some ⟨g, 0, none⟩) n c) n us) (hn : xss.length = n) (he : ∀ i, i < xss.length → Rw W (us.getD i nov) (xss.getD i [])) (hf : ∀ i, i < xss.length → xss.getD i [] ≠ [] → ∀ b, (us.getD i nov).ownBlock = some b → b < g) : Ls W lo (.slice (some ⟨g, 0, none⟩) n c) us xss :=
 ⟨by rw [hn]; exact hO, he, fun i hi hne b hb => by
  have := hf i hi hne b hb
  show some g ≠ some b
  intro e; cases e; omega⟩
set_option maxRecDepth 100000 in
set_option maxHeartbeats 400000 in
theorem qValues (f p : Int) (wd : Bool) (q : Pr) (vp vi : Value) (xss : List (List Int)) (w : World) (h : Fi f p wd) (hp : Pm w vp q) (hm : mayB q = true) (hr : Rws w vi xss) (hx : ∀ xs ∈ xss, Lim p xs) (hl : xss.length = q.inp.toNat) :
 Calls Tryz.prog 64 #[poI f, vp, vi] w fun e w' => ∃ v' us, e = .returned v' ∧ Ls w' w.heap.size v' us (rns (Rq f) q xss) ∧ Below w.heap.size w w' := by
 obtain ⟨i0, hi0, hz0, hz1, hz2⟩ := info_parts sl_infoE
 obtain ⟨⟨j0, j1, l1, l2⟩, mo, mu⟩ := mayB_iff.1 hm
 have hl64 : xss.length ≤ 64 := by omega
 have HAll := hide (fun k => lim_all h (q.ops.take k) xss hx)
 have HLen : Hid (∀ k, k ≤ q.ops.length → (rnL (Rq f) xss (q.ops.take k)).length = xss.length + k) := fun k hk => by rw [rnL_len, List.length_take, Nat.min_eq_left hk]
 have HOp : Hid (∀ j (hj : j < q.ops.length), (q.ops[j].k = 1 ∨ q.ops[j].k = 2 ∨ q.ops[j].k = 3 ∨ q.ops[j].k = 4) ∧ (¬ q.ops[j].k = 4 → (0 ≤ q.ops[j].a ∧ 0 ≤ q.ops[j].b) ∧ q.ops[j].a.toNat < xss.length + j ∧ q.ops[j].b.toNat < xss.length + j) ∧ Ok4 q.ops[j]) := fun j hj =>
  ⟨op_kinds hm _ (List.getElem_mem hj), fun h4 => by rw [hl]; exact may_args hm j hj h4, hp.okb _ (List.getElem_mem hj)⟩
 have HV := hide (fun o v yss W (hr : Rws W v yss) => qValueOf f p wd o v yss W h hr)
 have HStep : Hid (∀ k (hk : k < q.ops.length), Wd (rnS (Rq f) (rnL (Rq f) xss (q.ops.take k)) q.ops[k])) := fun k hk => by
  have h1 := lim_all h (q.ops.take (k + 1)) xss hx
  rw [rnL_next (Rq f) q.ops xss hk] at h1
  have h2 := h1 (rnS (Rq f) (rnL (Rq f) xss (q.ops.take k)) q.ops[k]) (by simp)
  exact ⟨by have := h2.2; omega, els_words h2.1 h.top⟩
 obtain ⟨us0, hul, hue, huo, hun⟩ := rws_vals hr
 have hu1 : Hid (∀ i, i < xss.length → xss.getD i [] ≠ [] → ∀ b, (us0.getD i nov).ownBlock = some b → b < w.heap.size) := fun i hi hne b hb => (hue i hi).blk hne b hb
 have HUe := hide hue
 have HUn := hide hun
 have HUo := hide huo
 obtain ⟨vo, vu, rfl, ho, hu⟩ := hp.form
 obtain ⟨ao, co, rfl, _⟩ := ho.spell
 obtain ⟨au, cu, rfl, _⟩ := hu.spell
 have HR := hide hr
 obtain ⟨ai, ci, rfl, hlen, hci, hcell⟩ := hr
 have HO := hide ho
 clear ho hu hp hm mo mu h hl j0 j1 hx hue hun huo hcell
 have HM := hide (fun W => makeS xss.length q.ops.length (by omega) W)
 go_enter Tryz.func64, Tryz.ntmps64
 have hmk := fun W => HM.out W
 go_upto_region 2 with fail
 obtain ⟨n1, n2, hB0⟩ := alloc2 w (.cells #[.int .i64 q.inp, .slice ao q.ops.length co, .slice au q.outs.length cu] 28) (.cells (novs (xss.length + q.ops.length)).toArray 30)
 generalize ((w.alloc (.cells #[.int .i64 q.inp, .slice ao q.ops.length co, .slice au q.outs.length cu] 28)).alloc (.cells (novs (xss.length + q.ops.length)).toArray 30)) = W0 at *
 clear hmk
 have hlv := novs_len (xss.length + q.ops.length)
 have HT := hide (splice_take (novs (xss.length + q.ops.length)) us0 (by rw [hlv, hul]; omega))
 rw [hul, hlv] at HT
 have HN : Hid (0 < us0.length → ∃ ad, ai = some ad ∧ ∀ j u, us0[j]? = some u → W0.cell? (ad.add j) = some u) := fun hp => by
  obtain ⟨ad, ln, cap, e, hc⟩ := HUn.out hp
  cases e
  exact ⟨ad, rfl, fun j u hu => (hB0.cell (World.block_lt_of_cell? _ _ (hc j u hu))).trans (hc j u hu)⟩
 go_upto_region 3 with (refine wpList_copy_splice rfl _ _ _ _ rfl 30 Tryz.underlying29 sl_size _ _ _ _ _ _ rfl rfl (w.heap.size + 1) 0 (novs (xss.length + q.ops.length)) 30 n2 us0 (by rw [hul]; simp) (fun hp => ⟨rfl, HN.out hp⟩) (by rw [hul, hlv]; omega) HUo.out (w.heap.size + 1) W0 (Below.refl _ _) (Nat.le_refl _) ?_; intro w1 HG hB1)
 have n3 := (hB1.block w.heap.size (by omega)).trans n1
 have hB2 : Below w.heap.size w w1 := hB0.trans (hB1.mono (by omega))
 have hO := own_room (base := w.heap.size) (n := xss.length) (by omega) HG.out HT.out.2 hul (by omega) (by omega) HT.out.1
 have hL := hide (ls_start hO rfl (fun i hi => (HUe.out i hi).below hB2) (fun i hi hne b hb => by have := hu1.out i hi hne b hb; omega))
 clear HT HN hlv n1 n2 HG HM hB1 hB0 hO
 obtain ⟨p0, p1, p2⟩ := cell3 n3
 go_wp2
 go_loopw [7, 25] (fun va vi wr => ∃ (j : Nat) (us : List Value), j ≤ q.ops.length ∧ vi = .int .i64 j ∧ Hid (Ls wr w.heap.size va us (rnL (Rq f) xss (q.ops.take j))) ∧ Below w.heap.size w wr) (fun _ vi _ => q.ops.length - (intOf vi).toNat)
 case atStart => exact ⟨0, us0, Nat.zero_le _, rfl, hL, hB2⟩
 case round =>
  obtain ⟨j, us, hj, rfl, HL, hB⟩ := hrel
  by_cases hlt : j < q.ops.length
  · obtain ⟨b, off, cp, heq, _, hbl⟩ := HO.out.form (by omega)
    cases heq
    obtain ⟨o0, o1, o2, o3⟩ := HO.out.op hB hlt
    obtain ⟨hk, ha, hok⟩ := HOp.out j hlt
    have HS : Hid (rnL (Rq f) xss (q.ops.take j) ++ [rnS (Rq f) (rnL (Rq f) xss (q.ops.take j)) q.ops[j]] = rnL (Rq f) xss (q.ops.take (j + 1))) := (rnL_next (Rq f) q.ops xss hlt).symm
    have hln := HLen.out j hj
    have HWd := hide (HStep.out j hlt)
    have hrow := HL.out.rws (by omega)
    have hbs := hB.size
    have k0 : (0 : Int) ≤ (j : Int) := by omega
    have k1 : (j : Int) < (q.ops.length : Int) := by omega
    obtain ⟨aw, cw, rfl⟩ := own_form HL.out.row
    rw [← hln] at ha
    have HC := hide (fun W (hb : Below wr.heap.size wr W) => HV.out q.ops[j] _ _ W (hrow.below hb) hk ha hok.2.2.2.1)
    unfold GivesO at HC
    have hA := alloc_below wr (.cells #[.int .u8 q.ops[j].k, .int .i64 q.ops[j].a, .int .i64 q.ops[j].b, .int .u64 q.ops[j].c] 78)
    unfold opv at HC
    have hyl : (rnL (Rq f) xss (q.ops.take j)).length ≤ 320 := by omega
    clear hln hrow hk ha
    generalize rnS (Rq f) (rnL (Rq f) xss (q.ops.take j)) q.ops[j] = y at *
    generalize rnL (Rq f) xss (q.ops.take j) = yss at *
    generalize q.ops[j] = o at *
    go_wp2_with (first
     | (go_at_call 93; refine (HC.out _ hA).mono ?_; rintro e w2 ⟨v2, rfl, ho2, hb⟩; obtain ⟨a2, c2, rfl⟩ := own_form ho2; have hb2 := Below.next hA hb; have HL2 := hide (HL.out.below hb2); have hB2 := Below.next hB hb2; have hsz2 := hB2.size)
     | (at_builtin; refine wpList_append_lies _ rfl _ _ _ rfl w.heap.size 30 i0 _ 1 24 Tryz.underlying29 hi0 hz0 hz1 hz2 rfl (by omega) (.slice aw yss.length cw) yss.length us rfl (HL2.out.row.alloc _) ⟨w2.heap.size, 0, none⟩ 1 1 [.slice a2 y.length c2] rfl rfl (World.news_of_block (cs := #[.slice a2 y.length c2]) (t := 30) (fr := (0, 0)) (heap_alloc_new w2 _)) (by simp [Value.oneCell']) (by omega) (by unfold maxLen; omega) (by omega) (by simp; omega) (w2.heap.size + 1) (by simp) ?_; intro gg cap2 w3 hown3 hgrow hat hltg))
    have hRu := HWd.out.row ho2
    have hvt := fun g hg => own_top HL.out.row g hg
    have R := hide (HL2.out.push hRu (fun _ b hb => by
     have h1 := own_base ho2 b hb
     intro e
     have h2 := hvt b e
     have h3 := hA.size
     omega) hown3 hgrow hat)
    have hB3 : Below w.heap.size w w3 := (hB2.alloc hB2.size _).grown hgrow (by simp; omega) (fun k hk => own_base HL2.out.row k hk)
    rw [HS.out] at R
    clear hown3 hgrow hat hltg hvt hRu
    go_roundw
    case rel => exact ⟨j + 1, _, by omega, by go_num, R, hB3⟩
    case measure => simp [intOf]; omega
  · obtain rfl : j = q.ops.length := by omega
    rw [List.take_length] at HL
    go_wp2
    go_ret
    exact ⟨u7, us, rfl, HL.out, hB⟩
end Go.Proofs.YtnakbpaiidolbaaGreat
namespace Go.Proofs.YtnakbpaiidolbaaGreat
open Go.RowKit Fld Slp
set_option linter.unusedVariables false
set_option linter.unusedSimpArgs false
theorem vfill_step {F : Nat → Value} {zs : List Value} {k : Nat} {x : Value} (h : ∀ j, j < k → zs.getD j nov = F j) (hk : k < zs.length) (hx : F k = x) : ∀ j, j < k + 1 → (zs.set k x).getD j nov = F j := fun j hj => by
 rw [List.getD_eq_getElem?_getD, List.getElem?_set]
 by_cases e : k = j
 · subst e
   rw [if_pos rfl, if_pos hk, hx]; rfl
 · rw [if_neg e, ← List.getD_eq_getElem?_getD]
   exact h j (by omega)
theorem vfill_end {F : Nat → Value} {zs : List Value} {us : List Int} (h : ∀ j, j < us.length → zs.getD j nov = F j) (hl : zs.length = us.length) (G : Int → Value) (hG : ∀ j (hj : j < us.length), F j = G us[j]) : zs = us.map G := by
 refine List.ext_getElem (by simpa using hl) (fun i h1 h2 => ?_)
 have h3 : i < us.length := by simpa using h2
 have := h i h3
 rw [List.getD_eq_getElem?_getD, List.getElem?_eq_getElem h1] at this
 rw [List.getElem_map, ← hG i h3, ← this]; rfl
set_option maxRecDepth 100000 in
set_option maxHeartbeats 400000 in
theorem qComing (q : Pr) (vp va : Value) (yss : List (List Int)) (w : World) (hp : Pm w vp q) (hm : mayB q = true) (hr : Rws w va yss) (hl : yss.length = q.inp.toNat + q.ops.length) :
 Calls Tryz.prog 63 #[vp, va] w fun e w' => ∃ g us, e = .returned (.slice (some ⟨g, 0, none⟩) q.outs.length q.outs.length) ∧ Ls w' w.heap.size (.slice (some ⟨g, 0, none⟩) q.outs.length q.outs.length) us (q.outs.map (fun v => yss.getD v.toNat [])) ∧ Below w.heap.size w w' := by
 obtain ⟨⟨j0, j1, l1, l2⟩, mo, mu⟩ := mayB_iff.1 hm
 have HOu : Hid (∀ j (hj : j < q.outs.length), 0 ≤ q.outs[j] ∧ q.outs[j].toNat < yss.length) := fun j hj => by
  have := may_out hm q.outs[j] (List.getElem_mem hj); rw [hl]; exact this
 obtain ⟨us0, hul, hue, huo, hun⟩ := rws_vals hr
 have HUe := hide hue
 have HUb : Hid (∀ i, i < yss.length → yss.getD i [] ≠ [] → ∀ b, (us0.getD i nov).ownBlock = some b → b < w.heap.size) := fun i hi hne b hb => (hue i hi).blk hne b hb
 obtain ⟨vo, vu, rfl, ho, hu⟩ := hp.form
 obtain ⟨ao, co', rfl, _⟩ := ho.spell
 obtain ⟨au, cu, rfl, _⟩ := hu.spell
 obtain ⟨ai, ci, rfl, hl2, hcap, hc⟩ := hr
 have HU := hide hu
 have HC : Hid (∀ i, i < yss.length → ∃ b off, ai = some ⟨b, off, none⟩ ∧ b < w.heap.size ∧ w.cell? ⟨b, off + i, none⟩ = some (us0.getD i nov) ∧ ∃ a n c, us0.getD i nov = .slice a n c) := fun i hi => by
  obtain ⟨ad, ln, cap, e, hcc⟩ := hun (by omega)
  obtain ⟨b, off, e2, hbl, _⟩ := hc (by intro h0; rw [h0] at hi; simp at hi)
  cases e
  cases e2
  have := hcc i (us0.getD i nov) (by rw [List.getD_eq_getElem?_getD, List.getElem?_eq_getElem (by omega)]; rfl)
  rw [show (⟨b, off, none⟩ : Addr).add i = ⟨b, off + i, none⟩ by unfold Addr.add; split <;> simp_all] at this
  obtain ⟨a, c, e3, _⟩ := (hue i hi).spell
  exact ⟨b, off, rfl, hbl, this, a, _, c, e3⟩
 clear ho hu hp hm mo mu hl j0 j1 hc hue hun huo
 obtain ⟨F, HF⟩ : ∃ F : Nat → Value, Hid ((fun j : Nat => us0.getD (q.outs.getD j 0).toNat nov) = F) := ⟨_, rfl⟩
 have hmk := fun W => makeS1 q.outs.length (by omega) W
 go_enter Tryz.func63, Tryz.ntmps63
 go_upto_region 2 with fail
 obtain ⟨n1, n2, hB0⟩ := alloc2 w (.cells #[.int .i64 q.inp, .slice ao q.ops.length co', .slice au q.outs.length cu] 28) (.cells (novs q.outs.length).toArray 30)
 generalize ((w.alloc (.cells #[.int .i64 q.inp, .slice ao q.ops.length co', .slice au q.outs.length cu] 28)).alloc (.cells (novs q.outs.length).toArray 30)) = W0 at *
 clear hmk
 obtain ⟨p0, p1, p2⟩ := cell3 n1
 have hO := own_room (base := w.heap.size + 1) (n := q.outs.length) (Nat.le_refl _) n2 (novs_len _) (novs_len _) (Nat.le_refl _) (by omega) (by rw [List.take_of_length_le (by rw [novs_len]; omega)])
 clear n2
 go_wp2
 go_loopw [15] (fun vi wr => ∃ (k : Nat) (zs : List Value), k ≤ q.outs.length ∧ vi = .int .i64 k ∧ zs.length = q.outs.length ∧ Hid (wr.ownsRow (w.heap.size + 1) 30 1 (.slice (some ⟨w.heap.size + 1, 0, none⟩) q.outs.length q.outs.length) q.outs.length zs) ∧ Hid (∀ j, j < k → zs.getD j nov = F j) ∧ Below w.heap.size w wr) (fun vi _ => q.outs.length - (intOf vi).toNat)
 case atStart => exact ⟨0, _, Nat.zero_le _, rfl, novs_len _, hO, fun j hj => by omega, hB0⟩
 case round =>
  obtain ⟨k, zs, hk, rfl, hzl, HOw, HY, hB⟩ := hrel
  by_cases hlt : k < q.outs.length
  · obtain ⟨b, off, cp, heq, _, hbl⟩ := HU.out.form (by omega)
    cases heq
    have hcu := HU.out.int hB hlt
    obtain ⟨ho0, ho1⟩ := HOu.out k hlt
    obtain ⟨b2, off2, rfl, hbl2, hcell, ax, nx, cx, hux⟩ := HC.out _ ho1
    have HS : Hid (F k = us0.getD q.outs[k].toNat nov) := by
     show _ = _
     rw [← HF.out]
     show us0.getD (q.outs.getD k 0).toNat nov = _
     rw [List.getD_eq_getElem?_getD (l := q.outs), List.getElem?_eq_getElem hlt]; rfl
    have hca := (hB.cell (p := ⟨b2, off2 + q.outs[k].toNat, none⟩) hbl2).trans hcell
    have HT2 := hide (vfill_step HY.out (by omega) HS.out)
    rw [hux] at hca HT2
    generalize q.outs[k] = o at *
    obtain ⟨i, rfl⟩ : ∃ i : Nat, o = i := ⟨o.toNat, by omega⟩
    simp only [Int.toNat_natCast] at *
    have k0 : (0 : Int) ≤ (k : Int) := by omega
    have k1 : (k : Int) < (q.outs.length : Int) := by omega
    have i1 : (i : Int) < (yss.length : Int) := by omega
    obtain ⟨z, hz⟩ : ∃ z, zs[k]? = some z := ⟨_, List.getElem?_eq_getElem (by omega)⟩
    have hoc := (HOw.out.cellAt k (by omega)).trans hz
    have hfr := HOw.out.frozenAt k
    have HR1 := hide (HOw.out.stored k (.slice ax nx cx)).1
    have R3 := hB.setCell (p := ⟨w.heap.size + 1, k, none⟩) (Nat.le_succ _) (.slice ax nx cx)
    clear hcell HS ho1 hux hz
    go_wp2
    go_roundw
    case rel => exact ⟨k + 1, _, by omega, by go_num, by simpa using hzl, HR1, HT2, R3⟩
    case measure => simp [intOf]; omega
  · obtain rfl : k = q.outs.length := by omega
    have HV : Hid (zs = q.outs.map (fun v => us0.getD v.toNat nov)) := vfill_end HY.out hzl _ (fun j hj => by
     rw [← HF.out]
     show us0.getD (q.outs.getD j 0).toNat nov = _
     rw [List.getD_eq_getElem?_getD (l := q.outs), List.getElem?_eq_getElem hj]; rfl)
    have hat : ∀ i (hi : i < q.outs.length), zs.getD i nov = us0.getD q.outs[i].toNat nov ∧ (q.outs.map (fun v => yss.getD v.toNat [])).getD i [] = yss.getD q.outs[i].toNat [] := fun i hi => by
     rw [HV.out]
     constructor
     · rw [List.getD_eq_getElem?_getD, List.getElem?_map, List.getElem?_eq_getElem hi]; rfl
     · rw [List.getD_eq_getElem?_getD, List.getElem?_map, List.getElem?_eq_getElem hi]; rfl
    have HL := hide (ls_start (xss := q.outs.map (fun v => yss.getD v.toNat [])) (own_mono HOw.out (Nat.le_succ w.heap.size)) (by simp) (fun i hi => by
     have hi' : i < q.outs.length := by simpa using hi
     rw [(hat i hi').1, (hat i hi').2]
     exact (HUe.out _ (HOu.out i hi').2).below hB) (fun i hi hne b hb => by
     have hi' : i < q.outs.length := by simpa using hi
     rw [(hat i hi').2] at hne
     rw [(hat i hi').1] at hb
     have := HUb.out _ (HOu.out i hi').2 hne b hb
     omega))
    clear hat
    go_wp2
    go_ret
    exact ⟨_, _, rfl, HL.out, hB⟩
end Go.Proofs.YtnakbpaiidolbaaGreat
namespace Go.Proofs.YtnakbpaiidolbaaGreat
open Go.RowKit Fld Slp
set_option linter.unusedVariables false
set_option linter.unusedSimpArgs false
set_option maxRecDepth 100000 in
set_option maxHeartbeats 400000 in
theorem qCheck (f : Int) (q : Pr) (vp vi : Value) (xss : List (List Int)) (w : World) (hp : Pm w vp q) (hm : mayB q = true) (hr : Rws w vi xss) : Calls Tryz.prog 61 #[.int .u8 f, vp, vi] w fun e w' => e = .returned (.int .i64 (cpE f q xss)) ∧ Below w.heap.size w w' := by
 have HI := hide (fun v xs W (hr : Rw W v xs) => In_any f v xs W hr.1)
 have HD := hide (fun v xs W (hr : Rw W v xs) => Degree_any v xs W hr)
 have HOf := hide (fun W (hb : Below w.heap.size w W) => gOf vp q W (hp.below hb))
 unfold IsOf at HOf
 have HOne := hide (of_one hm)
 have HLe := hide (fun h => of_le (q := q) h)
 obtain ⟨vo, vu, rfl, ho, hu⟩ := hp.form
 obtain ⟨ao, co', rfl, _⟩ := ho.spell
 obtain ⟨au, cu, rfl, _⟩ := hu.spell
 obtain ⟨ai, ci, rfl, hlen, hcap, hcell⟩ := hr
 have hA := alloc_below w (.cells #[.int .i64 q.inp, .slice ao q.ops.length co', .slice au q.outs.length cu] 28)
 have hN := heap_alloc_new w (.cells #[.int .i64 q.inp, .slice ao q.ops.length co', .slice au q.outs.length cu] 28)
 clear ho hu hp hm
 go_enter Tryz.func61, Tryz.ntmps61
 go_upto_region 1 with fail
 generalize w.alloc (.cells #[.int .i64 q.inp, .slice ao q.ops.length co', .slice au q.outs.length cu] 28) = w0 at *
 go_wp2
 go_loopw [16] (fun vi wr => ∃ k : Nat, k ≤ xss.length ∧ vi = .int .i64 k ∧ Hid (∀ i, i < k → inF f (xss.getD i []) = true) ∧ Below w0.heap.size w0 wr) (fun vi _ => xss.length - (intOf vi).toNat)
 case atStart => exact ⟨0, Nat.zero_le _, rfl, fun i hi => by omega, Below.refl _ _⟩
 case round =>
  obtain ⟨k, hk, rfl, HK, hB⟩ := hrel
  have hBw := Below.next hA hB
  have n1 := (hB.block _ (Array.getElem?_eq_some_iff.1 hN).1).trans hN
  by_cases hlt : k < xss.length
  · obtain ⟨b, off, rfl, hbl, hc⟩ := hcell (by intro e; rw [e] at hlt; simp at hlt)
    obtain ⟨u, hcu, hru⟩ := hc k hlt
    have hck := (hBw.cell (p := ⟨b, off + k, none⟩) hbl).trans hcu
    have HX := hide (HI.out u (xss.getD k []) wr (hru.below hBw))
    obtain ⟨au', cu', rfl, _⟩ := hru.spell
    have k0 : (0 : Int) ≤ (k : Int) := by omega
    have k1 : (k : Int) < (xss.length : Int) := by omega
    clear hc hcell hcu hru
    cases hi : inF f (xss.getD k []) with
    | false =>
     rw [hi] at HX
     have HE : Hid (cpE f q xss = 2) := by show _ = _; unfold cpE; rw [all_out hlt hi]; rfl
     clear hi
     generalize (xss.getD k []).length = ln at *
     go_wp2_with (go_at_call 90; refine HX.out.mono ?_; rintro e w3 ⟨rfl, hb3⟩)
     go_ret
     rw [HE.out]
     exact ⟨rfl, Below.next hBw hb3⟩
    | true =>
     rw [hi] at HX
     have HK2 : Hid (∀ i, i < k + 1 → inF f (xss.getD i []) = true) := fun i hi' => by
      by_cases e : i = k
      · rw [e]; exact hi
      · exact HK.out i (by omega)
     clear hi
     generalize (xss.getD k []).length = ln at *
     go_wp2_with (go_at_call 90; refine HX.out.mono ?_; rintro e w3 ⟨rfl, hb3⟩)
     have hB3 := Below.next hB hb3
     go_roundw
     case rel => exact ⟨k + 1, by omega, by go_num, HK2, hB3⟩
     case measure => simp [intOf]; omega
  · obtain rfl : k = xss.length := by omega
    have HAll : Hid (xss.all (inF f) = true) := all_in HK.out
    obtain ⟨p0, p1, p2⟩ := cell3 n1
    by_cases he : (xss.length : Int) = q.inp
    · have ht : ((xss.length : Int) != q.inp) = false := by simp [he]
      have HE : Hid (cpE f q xss = if lgB xss = true then 4 else if ofE q = 0 then (if 4096 ≤ ofV q * (top xss : Int) then 4 else 0) else ofE q) := by show _ = _; unfold cpE; rw [if_pos HAll.out, if_pos he]
      clear he HK
      obtain ⟨w9, rfl⟩ : ∃ w9, w9 = wr := ⟨wr, rfl⟩
      go_wp2
      go_loopw [9, 32] (fun vg vi wr => ∃ k : Nat, k ≤ xss.length ∧ vi = .int .i64 k ∧ vg = .int .i64 (grK xss k) ∧ Hid (∀ i, i < k → (xss.getD i []).length ≤ 4096) ∧ Below w9.heap.size w9 wr) (fun _ vi _ => xss.length - (intOf vi).toNat)
      case atStart => exact ⟨0, Nat.zero_le _, rfl, rfl, fun i hi => by omega, Below.refl _ _⟩
      case round =>
       clear p0 p1 p2
       obtain ⟨k, hk, rfl, rfl, HK, hB2⟩ := hrel
       have hBw2 := Below.next hBw hB2
       have n2 := (hB2.block _ (Array.getElem?_eq_some_iff.1 n1).1).trans n1
       by_cases hlt : k < xss.length
       · obtain ⟨b, off, rfl, hbl, hc⟩ := hcell (by intro e; rw [e] at hlt; simp at hlt)
         obtain ⟨u, hcu, hru⟩ := hc k hlt
         have hck := (hBw2.cell (p := ⟨b, off + k, none⟩) hbl).trans hcu
         have HX := hide (HD.out u (xss.getD k []) wr (hru.below hBw2))
         obtain ⟨au', cu', rfl, _⟩ := hru.spell
         have k0 : (0 : Int) ≤ (k : Int) := by omega
         have k1 : (k : Int) < (xss.length : Int) := by omega
         clear hc hcell hcu hru
         by_cases h4 : 4096 < (xss.getD k []).length
         · have HE4 : Hid (cpE f q xss = 4) := by show _ = _; rw [HE.out, if_pos (lg_yes hlt h4)]
           have h4' : (4096 : Int) < ((xss.getD k []).length : Int) := by omega
           clear h4
           generalize (xss.getD k []).length = ln at *
           go_wp2
           go_ret
           rw [HE4.out]
           exact ⟨rfl, hBw2⟩
         · have h4' : ((xss.getD k []).length : Int) ≤ 4096 := by omega
           have HK2 : Hid (∀ i, i < k + 1 → (xss.getD i []).length ≤ 4096) := fun i hi' => by
            by_cases e : i = k
            · rw [e]; omega
            · exact HK.out i (by omega)
           have HNx := hide (grK_next hlt)
           have hdl := tr_len (xss.getD k [])
           have hg1 := (gr_top xss k hk).2
           have hg2 := gr_le xss 4096 (by omega) k hk (fun i hi => by have h1 := HK.out i hi; have h2 := tr_len (xss.getD i []); omega)
           obtain ⟨dg, HDg⟩ : ∃ dg : Int, Hid (((tr (xss.getD k [])).length : Int) - 1 = dg) := ⟨_, rfl⟩
           have hd1 : -1 ≤ dg := by have := HDg.out; omega
           have hd2 : dg ≤ 4096 := by have := HDg.out; omega
           rw [HDg.out] at HX HNx
           obtain ⟨gk, HGk⟩ : ∃ gk : Int, Hid (grK xss k = gk) := ⟨_, rfl⟩
           rw [HGk.out] at HNx hg1 hg2 ⊢
           clear h4 hdl
           generalize (xss.getD k []).length = ln at *
           by_cases hmx : gk < dg
           · have HM : Hid (grK xss (k + 1) = dg) := by show _ = _; rw [HNx.out]; omega
             go_wp2_with (go_at_call 91; refine HX.out.mono ?_; rintro e w3 ⟨rfl, hb3⟩)
             have hB3 := Below.next hB2 hb3
             go_roundw
             case rel => exact ⟨k + 1, by omega, by go_num, by rw [HM.out], HK2, hB3⟩
             case measure => simp [intOf]; omega
           · have HM : Hid (grK xss (k + 1) = gk) := by show _ = _; rw [HNx.out]; omega
             go_wp2_with (go_at_call 91; refine HX.out.mono ?_; rintro e w3 ⟨rfl, hb3⟩)
             have hB3 := Below.next hB2 hb3
             go_roundw
             case rel => exact ⟨k + 1, by omega, by go_num, by rw [HM.out], HK2, hB3⟩
             case measure => simp [intOf]; omega
       · obtain rfl : k = xss.length := by omega
         have HLg : Hid (lgB xss = false) := lg_all HK.out
         rw [HLg.out] at HE
         have hT := gr_top xss xss.length (Nat.le_refl _)
         have hg2 := gr_le xss 4096 (by omega) xss.length (Nat.le_refl _) (fun i hi => by have h1 := HK.out i hi; have h2 := tr_len (xss.getD i []); omega)
         obtain ⟨p0, p1, p2⟩ := cell3 n2
         have HTop : Hid ((top xss : Int) = max (grK xss xss.length) 0) := hT.1
         have hg1 := hT.2
         clear hT HK hcell HI HD
         generalize grK xss xss.length = gk at *
         rcases HOne.out with h0 | h0
         · have v0 := (HLe.out h0).1
           have v1 := (HLe.out h0).2.1
           rw [h0] at HE HOf
           have HE2 : Hid (cpE f q xss = if 4096 ≤ ofV q * (top xss : Int) then 4 else 0) := by show _ = _; rw [HE.out]; rfl
           clear HE h0 HLe HOne
           generalize ofV q = n at *
           generalize (top xss : Int) = tp at *
           obtain ⟨D, hD⟩ : ∃ D, n * gk = D := ⟨_, rfl⟩
           have hD1 : -1024 ≤ D := by
            rw [← hD]
            have : n * (-1) ≤ n * gk := Int.mul_le_mul_of_nonneg_left hg1 v0
            omega
           have hD2 : D ≤ 4194304 := by
            rw [← hD]
            have h1 : n * gk ≤ n * 4096 := Int.mul_le_mul_of_nonneg_left hg2 v0
            omega
           have HIff : Hid (4096 ≤ n * tp ↔ 4096 ≤ D) := by
            show _ ↔ _
            rw [HTop.out, ← hD]
            rcases Int.le_total gk 0 with h | h
            · rw [Int.max_eq_right h, Int.mul_zero]
              have : n * gk ≤ n * 0 := Int.mul_le_mul_of_nonneg_left h v0
              rw [Int.mul_zero] at this
              omega
            · rw [Int.max_eq_left h]
           by_cases hc : 4096 ≤ D
           · have HE3 : Hid (cpE f q xss = 4) := by show _ = _; rw [HE2.out, if_pos (HIff.out.2 hc)]
             go_wp2_with (go_at_call 56; refine (HOf.out _ hBw2).mono ?_; rintro e w3 ⟨rfl, hb3⟩)
             go_ret
             rw [HE3.out]
             exact ⟨rfl, Below.next hBw2 hb3⟩
           · have HE3 : Hid (cpE f q xss = 0) := by show _ = _; rw [HE2.out, if_neg (fun h => hc (HIff.out.1 h))]
             go_wp2_with (go_at_call 56; refine (HOf.out _ hBw2).mono ?_; rintro e w3 ⟨rfl, hb3⟩)
             go_ret
             rw [HE3.out]
             exact ⟨rfl, Below.next hBw2 hb3⟩
         · rw [h0] at HE HOf
           have HE3 : Hid (cpE f q xss = 4) := by show _ = _; rw [HE.out]; rfl
           clear HE h0 HLe HOne
           go_wp2_with (go_at_call 56; refine (HOf.out _ hBw2).mono ?_; rintro e w3 ⟨rfl, hb3⟩)
           go_ret
           rw [HE3.out]
           exact ⟨rfl, Below.next hBw2 hb3⟩
    · have ht : ((xss.length : Int) != q.inp) = true := by simp [he]
      have HE : Hid (cpE f q xss = 3) := by show _ = _; unfold cpE; rw [if_pos HAll.out, if_neg he]
      clear he hcell
      go_wp2
      go_ret
      rw [HE.out]
      exact ⟨rfl, hBw⟩
end Go.Proofs.YtnakbpaiidolbaaGreat
