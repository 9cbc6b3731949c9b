import Derived.Test.YtcglbbglapomgaaBNetI
set_option linter.unusedVariables false
set_option linter.unusedSimpArgs false
set_option maxRecDepth 100000
set_option maxHeartbeats 4000000
namespace Go.Proofs.Ytcglbbglapomgaa
open Go.RowKit Fld
theorem own_none (w : World) (T : TypeId) (s : Nat) : (w.alloc (.cells #[] T)).ownsRow w.heap.size T s (.slice (some ⟨w.heap.size, 0, none⟩) 0 0) 0 [] :=
 World.ownsRow_made w #[] 0 (Nat.le_refl _) (Nat.zero_le _) (by simp)
theorem lClone (v : Value) (n base : Nat) (xs : List Value) (w : World) (h : w.ownsRow base 72 3 v n xs) (hn : n <= 4096) (h1 : ∀ u ∈ xs, u.oneCell' = true) :
 Calls Try.prog 39 #[v] w fun e w' => ∃ v', e = .returned v' ∧ w'.ownsRow w.heap.size 72 3 v' n xs ∧ Below w.heap.size w w' := by
 obtain ⟨i0, hi0, hz0, hz1, hz2⟩ := info_parts pkt_info
 rcases h.2 with ⟨rfl, rfl⟩ | ⟨g, cap, cur, rfl, hbg, hg, hnc, hcm, hcs, htake⟩
 · have hx : xs = [] := List.eq_nil_of_length_eq_zero (by simpa using h.1)
   subst hx
   have hq := Lib.run_eql_slice_nil (P := Try.prog) w 61 72 none 0 0 0 0 Try.underlying61
   clear h
   go_enter Try.func39, Try.ntmps39
   go_wp2
   go_ret
   exact ⟨_, rfl, World.ownsRow_nil _ _ _ _, Below.refl _ _⟩
 · have hq := Lib.run_eql_slice_nil (P := Try.prog) w 61 72 (some ⟨g, 0, none⟩) n cap 0 0 Try.underlying61
   have hown := own_none w 72 3
   have hB := alloc_below w (.cells #[] 72)
   have HL := hide h.1
   have HV := hide h1
   have HN : Hid (∀ j u, xs[j]? = some u -> (w.alloc (.cells #[] 72)).cell? ((⟨g, 0, none⟩ : Addr).add j) = some u) := fun j u hj => by
    have h2 := (own_below h hB).cells (g := g) rfl j u hj
    exact h2
   have HBr := hide (fun W r (hg : World.grownBy (w.alloc (.cells #[] 72)) W r) (hr : ∀ k, r = some k -> w.heap.size <= k) => hB.grown hg (by simp) hr)
   clear h h1 hg hcs htake
   go_enter Try.func39, Try.ntmps39
   go_wp2_with (at_builtin; refine wpList_append_own _ rfl _ _ _ rfl w.heap.size 72 i0 _ 3 32 Try.underlying61 hi0 hz0 hz1 hz2 rfl (by omega) _ 0 [] rfl hown ⟨g, 0, none⟩ n cap xs rfl HL.out HN.out HV.out (by unfold maxLen; omega) (by omega) (by simp) ?_; intro v' w1 hown1 hgrow _)
   go_ret
   refine ⟨_, rfl, by simpa using hown1, HBr.out _ _ hgrow (fun k hk => by cases hk; exact Nat.le_refl _)⟩
theorem flat_one {α : Type} {f : α -> List Value} (h1 : ∀ x, ∀ v ∈ f x, v.oneCell' = true) (xs : List α) : ∀ u ∈ xs.flatMap f, u.oneCell' = true := fun u hu => by
 obtain ⟨x, _, hx⟩ := List.mem_flatMap.1 hu
 exact h1 x u hx
theorem gCopy {w : World} {base g : Nat} {v : Value} {N : Nt} (h : Np w base g v N) :
 Calls Try.prog 19 #[.pointer (some ⟨g, 0, none⟩)] w fun e w' => ∃ g' v', e = .returned (.pointer (some ⟨g', 0, none⟩)) ∧ Np w' w.heap.size g' v' N ∧ Below w.heap.size w w' := by
 have H := hide (gIsThere h)
 obtain ⟨c0, c1, c2, c3⟩ := h.m.cells
 have HC := hide (lClone v N.l.length base (N.l.flatMap pkw) w.drew h.m.row h.o.ok.len (flat_one pkw_one N.l))
 have HO := hide h.o
 have HG := hide h.m.lt
 have HM := hide (fun W (hb : Below w.heap.size w W) => (h.below hb).m.cells)
 obtain ⟨ao, cap, rfl, _⟩ := h.m.spell
 have hS0 : w.drew.cell? ⟨g, 0, none⟩ = some (.int .i64 N.n) ∧ w.drew.cell? ⟨g, 1, none⟩ = some (.slice ao N.l.length cap) ∧ w.drew.cell? ⟨g, 3, none⟩ = some (.int .i64 (N.d : Int)) := ⟨c0, c1, c3⟩
 clear h c0 c1 c2 c3
 go_enter Try.func19, Try.ntmps19
 go_wp2_with (go_at_call 32; refine H.out.mono ?_; rintro e w1 ⟨rfl, rfl⟩)
 refine wp_region_held_drew (S := (fun V => V.cell? ⟨g, 0, none⟩ = some (.int .i64 N.n) ∧ V.cell? ⟨g, 1, none⟩ = some (.slice ao N.l.length cap) ∧ V.cell? ⟨g, 3, none⟩ = some (.int .i64 (N.d : Int)))) (by kernel_rfl) (by ((try dsimp only) <;> (first | with_reducible exact hS0 | with_reducible exact hS1 | with_reducible exact hS2))) (fun hHeld => ?_)
 refine tkY 0 ?_
 refine tkY 1 ?_
 refine tkY 2 ?_
 refine tkY 3 ?_
 refine tkY 4 ?_
 refine tkY 5 ?_
 refine tkY 6 ?_
 refine tkY 7 ?_
 refine tkY 9 ?_
 refine tkY 10 ?_
 refine tkY 11 ?_
 refine tkY 12 ?_
 refine rd1 8 (fun K hK => ?_)
 (try simp only [ly0, ly1, ly2, ly3, ly4, ly5, ly6, ly7])
 go_simp
 (go_at_call 39; refine HC.out.mono ?_; rintro e w2 ⟨v2, rfl, ho2, hb2⟩; obtain ⟨a2, k2, hv2, _⟩ := own_spellO ho2; subst hv2; have hb2' : Below w1.heap.size w1 w2 := Below.trans (Below.refl _ w1).drew hb2; have hc2 := HM.out _ hb2'; have hS1 := And.intro hc2.1 (And.intro hc2.2.1 hc2.2.2.2); have hb3 := Below.next hb2' (alloc_below w2 (.cells #[.int .i64 N.n, .slice a2 N.l.length k2, .int .i64 0, .int .i64 (N.d : Int)] 68)); have hc3 := HM.out _ hb3; have hS2 := And.intro hc3.1 (And.intro hc3.2.1 hc3.2.2.2))
 first | refine hK.out _ _ ?k1 (fun hHeld => ?_) | (go_wp2_with fail; refine hK.out _ _ ?k1 (fun hHeld => ?_))
 case k1 => ((try dsimp only) <;> (first | with_reducible exact hS0 | with_reducible exact hS1 | with_reducible exact hS2))
 clear hK K
 (try simp only [ly0, ly1, ly2, ly3, ly4, ly5, ly6, ly7])
 refine tkY 13 ?_
 refine rd1 14 (fun K hK => ?_)
 (try simp only [ly0, ly1, ly2, ly3, ly4, ly5, ly6, ly7])
 go_simp
 refine hK.out _ _ (by ((try dsimp only) <;> (first | with_reducible exact hS0 | with_reducible exact hS1 | with_reducible exact hS2))) (fun hHeld => ?_)
 clear hK K
 (try simp only [ly0, ly1, ly2, ly3, ly4, ly5, ly6, ly7])
 refine tkY 15 ?_
 refine wpAnyH_done (by kernel_rfl) ?_ _
 have hbA := hb3
 have hnet := heap_alloc_new w2 (.cells #[.int .i64 N.n, .slice a2 N.l.length k2, .int .i64 0, .int .i64 (N.d : Int)] 68)
 have hrow := ho2.alloc (.cells #[.int .i64 N.n, .slice a2 N.l.length k2, .int .i64 0, .int .i64 (N.d : Int)] 68)
 have hs2 : w2.heap.size < (w2.alloc (.cells #[.int .i64 N.n, .slice a2 N.l.length k2, .int .i64 0, .int .i64 (N.d : Int)] 68)).heap.size := by simp
 have hne2 : (Value.slice a2 N.l.length k2).ownBlock ≠ some w2.heap.size := fun e => by have := (ho2.lt _ e).2; omega
 have hzz := hb2'.size
 generalize w2.alloc (.cells #[.int .i64 N.n, .slice a2 N.l.length k2, .int .i64 0, .int .i64 (N.d : Int)] 68) = w3 at *
 generalize hg3 : w2.heap.size = g3 at *
 have HNet := hide hnet
 have HRow := hide hrow
 have HB3 := hide hbA
 have HC3 := hide hc3.2.2.1
 have HNe := hide hne2
 have HZ := hide hzz
 have hcg : w3.cell? ⟨g3, 2, none⟩ = some (.int .i64 0) := (Lib.cell_of_heap hnet 2).trans rfl
 have hfg : w3.frozen? ⟨g3, 2, none⟩ = false := Lib.frozen_of_heap hnet 2
 have HLd := hide (lLoad g 2 (N.s : Int) w3.drew hc3.2.2.1)
 have HSt := hide (lStore g3 2 (N.s : Int) (.int .i64 0) w3.drew hcg hfg)
 have hT0 : w3.drew.cell? ⟨g, 2, none⟩ = some (.int .i64 (N.s : Int)) := hc3.2.2.1
 have hgg : ¬ g3 = g := by have := HG.out; omega
 have hT1 : (w3.drew.setCell ⟨g3, 2, none⟩ (.int .i64 (N.s : Int))).cell? ⟨g, 2, none⟩ = some (.int .i64 (N.s : Int)) := by rw [World.cell?_setCell_far _ _ _ _ hgg]; exact hT0
 clear hS0 hS1 hS2 hc2 hc3 hb2 hb2' hb3 hbA hnet hrow hs2 hne2 hzz ho2 HC HM hcg hfg
 go_upto_region 4 with fail
 refine wp_region_held_drew (S := (fun V => V.cell? ⟨g, 2, none⟩ = some (.int .i64 (N.s : Int)))) (by kernel_rfl) (by ((try dsimp only) <;> (first | with_reducible exact hT0 | with_reducible exact hT1))) (fun hHeld => ?_)
 refine tkY 0 ?_
 refine tkY 1 ?_
 refine tkY 2 ?_
 refine tkY 3 ?_
 refine tkY 4 ?_
 refine tkY 5 ?_
 refine rd1 6 (fun K hK => ?_)
 (try simp only [ly0, ly1, ly2, ly3, ly4, ly5, ly6, ly7])
 go_simp
 (go_at_call 33; refine HLd.out.mono ?_; rintro e w4 ⟨rfl, hw4⟩; rw [hw4]; clear hw4)
 first | refine hK.out _ _ ?k2 (fun hHeld => ?_) | (go_wp2_with fail; refine hK.out _ _ ?k2 (fun hHeld => ?_))
 case k2 => ((try dsimp only) <;> (first | with_reducible exact hT0 | with_reducible exact hT1))
 clear hK K
 (try simp only [ly0, ly1, ly2, ly3, ly4, ly5, ly6, ly7])
 refine rd1 7 (fun K hK => ?_)
 (try simp only [ly0, ly1, ly2, ly3, ly4, ly5, ly6, ly7])
 go_simp
 (go_at_call 40; refine HSt.out.mono ?_; rintro e w5 ⟨rfl, hw5⟩; rw [hw5]; clear hw5)
 first | refine hK.out _ _ ?k3 (fun hHeld => ?_) | (go_wp2_with fail; refine hK.out _ _ ?k3 (fun hHeld => ?_))
 case k3 => ((try dsimp only) <;> (first | with_reducible exact hT0 | with_reducible exact hT1))
 clear hK K
 (try simp only [ly0, ly1, ly2, ly3, ly4, ly5, ly6, ly7])
 refine wpAnyH_done (by kernel_rfl) ?_ _
 go_wp2
 go_ret
 refine ⟨g3, .slice a2 N.l.length k2, rfl, ⟨⟨?_, ownsRow_setCell_other HRow.out HNe.out _, by have := HZ.out; exact this⟩, HO.out⟩, (Below.trans HB3.out (Below.refl _ w3).drew).setCell (by have := HZ.out; exact this) _⟩
 have h9 : w3.drew.heap[g3]? = _ := HNet.out
 rw [set_blk h9 2 _]; rfl
end Go.Proofs.Ytcglbbglapomgaa
