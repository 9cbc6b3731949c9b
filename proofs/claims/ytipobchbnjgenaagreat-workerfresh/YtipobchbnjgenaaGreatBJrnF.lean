import Derived.Test.YtipobchbnjgenaaGreatBJrnE
import Derived.Laws.EntriesVeiled
set_option linter.unusedVariables false
set_option linter.unusedSimpArgs false
set_option maxRecDepth 100000
set_option maxHeartbeats 4000000
namespace Go.Proofs.YtipobchbnjgenaaGreat
open Go.RowKit Go.Shelf Fld
attribute [local go_sem] Oper.semAt_some
theorem wrt_new {w W : World} {base g lo n : Nat} {v pv : Value} {zs : List Int} {D : Dsk} (h : Hd w base g v D) (hp : w.ownsRow lo 5 1 pv n (valb zs))
 (hW : (((w.alloc (.cells #[wrF g] 138)).alloc (.cells #[.int .i64 0] 40)).alloc (.cells #[keF (w.heap.size + 1)] 196)).alloc (.cells #[pv] 30) = W) :
 Wrt w base g v lo pv n zs D 0 W ∧ W.heap.size = w.heap.size + 1 + 1 + 1 + 1 := by
 obtain ⟨W0, hW0⟩ : ∃ W0, w.alloc (.cells #[wrF g] 138) = W0 := ⟨_, rfl⟩
 rw [hW0] at hW
 obtain ⟨W1, hW1⟩ : ∃ W1, W0.alloc (.cells #[.int .i64 0] 40) = W1 := ⟨_, rfl⟩
 rw [hW1] at hW
 obtain ⟨W2, hW2⟩ : ∃ W2, W1.alloc (.cells #[keF (w.heap.size + 1)] 196) = W2 := ⟨_, rfl⟩
 rw [hW2] at hW
 have z0 : W0.heap.size = w.heap.size + 1 := by rw [<- hW0]; simp
 have z1 : W1.heap.size = w.heap.size + 1 + 1 := by rw [<- hW1, World.size_alloc, z0]
 have z2 : W2.heap.size = w.heap.size + 1 + 1 + 1 := by rw [<- hW2, World.size_alloc, z1]
 have z3 : W.heap.size = w.heap.size + 1 + 1 + 1 + 1 := by rw [<- hW, World.size_alloc, z2]
 have a0 : Below w.heap.size w W0 := by rw [<- hW0]; exact alloc_below _ _
 have a1 : Below W0.heap.size W0 W1 := by rw [<- hW1]; exact alloc_below _ _
 have a2 : Below W1.heap.size W1 W2 := by rw [<- hW2]; exact alloc_below _ _
 have a3 : Below W2.heap.size W2 W := by rw [<- hW]; exact alloc_below _ _
 have x0 : W0.heap[w.heap.size]? = some (.cells #[wrF g] 138 (0, 0)) := by rw [<- hW0]; exact heap_alloc_new w _
 have x1 : W1.heap[W0.heap.size]? = some (.cells #[.int .i64 0] 40 (0, 0)) := by rw [<- hW1]; exact heap_alloc_new W0 _
 have x2 : W2.heap[W1.heap.size]? = some (.cells #[keF (w.heap.size + 1)] 196 (0, 0)) := by rw [<- hW2]; exact heap_alloc_new W1 _
 have x3 : W.heap[W2.heap.size]? = some (.cells #[pv] 30 (0, 0)) := by rw [<- hW]; exact heap_alloc_new W2 _
 have b := Below.next a0 (Below.next a1 (Below.next a2 a3))
 have b1 := Below.next a1 (Below.next a2 a3)
 have b2 := Below.next a2 a3
 refine ⟨⟨⟨v, h.below b, Mv.of_below g v b⟩, (b1.block _ (by omega)).trans x0, ?_, ?_, ?_, own_below hp b⟩, z3⟩
 · have := (b2.block W0.heap.size (by omega)).trans x1
   rw [z0] at this; exact this
 · have := (a3.block W1.heap.size (by omega)).trans x2
   rw [z1] at this; exact this
 · rw [z2] at x3; exact x3
theorem Wrt.boxes {w W : World} {base g lo n : Nat} {v pv : Value} {zs : List Int} {D : Dsk} {x : Int} (h : Wrt w base g v lo pv n zs D x W) : W.cell? ⟨w.heap.size + 1 + 1, 0, none⟩ = some (.func (.func 171) #[] #[.pointer (some ⟨w.heap.size + 1, 0, none⟩)]) ∧ W.cell? ⟨w.heap.size, 0, none⟩ = some (.func (.func 71) #[.pointer (some ⟨g, 0, none⟩)] #[]) :=
 ⟨(Lib.cell_of_heap h.b2 0).trans rfl, (Lib.cell_of_heap h.b0 0).trans rfl⟩
theorem gWriteAll {w : World} {base g : Nat} {v : Value} {D : Dsk} (h : Hd w base g v D) (hb : base <= w.heap.size) {lo n : Nat} {pv : Value} {zs : List Int} (hp : w.ownsRow lo 5 1 pv n (valb zs)) (hy : By zs) (h0 : 0 < n) (hz : zs.length <= 2000000) (hn : D.n + 100000 < 4611686018427387904) :
 Calls Tryz.prog 106 #[wrF g, pv] w fun e w' => ∃ v', e = .returned (.int .i64 (wsE D (bksP zs))) ∧ Hd w' base g v' (wsN D (bksP zs)) ∧ Mv w w' g v v' := by
 obtain ⟨p, c, hv, hlp, hnc⟩ : ∃ p c, pv = .slice (some ⟨p, 0, none⟩) n c ∧ lo <= p ∧ n <= c := by
  obtain ⟨ao, c, e, hc, hq⟩ := own_spellO hp
  obtain ⟨q, e2, hq2, _⟩ := hq h0
  subst e2
  exact ⟨q, c, e, hq2, hc⟩
 subst hv
 have HF := hide (fun W => gFirstJ W)
 have HB := hide (fun W => gBlocksOf (some ⟨p, 0, none⟩) n c W)
 unfold wrF
 refine (callsIn_wide (n := 5)).1 ?_
 refine callsIn_of_wp_marks Tryz.func106 rfl trivial ?_ rfl
 simp only [Tryz.ntmps106, List.size_toArray, List.length_cons, List.length_nil, Nat.reduceAdd, Nat.reduceSub, Array.replicate_succ, Array.replicate_zero, List.push_toArray, List.append_toArray, List.nil_append, List.cons_append]
 refine wpIn_wide.2 ?_
 have HNew := hide (fun W (hW : (((w.alloc (.cells #[wrF g] 138)).alloc (.cells #[.int .i64 0] 40)).alloc (.cells #[keF (w.heap.size + 1)] 196)).alloc (.cells #[.slice (some ⟨p, 0, none⟩) n c] 30) = W) => wrt_new h hp hW)
 unfold wrF keF at HNew
 go_wp2_with (first
  | (go_at_call 137; refine (HF.out _).mono ?_; rintro e w1 ⟨rfl, hw1⟩; rw [hw1]; clear hw1; unfold keF)
  | (go_at_call 138; refine (HB.out _).mono ?_; rintro e w2 ⟨rfl, hw2⟩; rw [hw2]; clear hw2))
 generalize hW : World.alloc (World.alloc (World.alloc (World.alloc w _) _) _) _ = W
 obtain ⟨hw4, hz4⟩ := HNew.out W hW
 have hU : Ub W p (.slice (some ⟨p, 0, none⟩) n c) zs := ub_of_own hw4.pc hy (by omega) (fun q hq => by simp [Value.ownBlock] at hq; exact hq.symm)
 have hb3 : W.cell? ⟨w.heap.size + 1 + 1 + 1, 0, none⟩ = some (.slice (some ⟨p, 0, none⟩) n c) := (Lib.cell_of_heap hw4.b3 0).trans rfl
 have hSw : ∀ j, Sj (w.heap.size + 1 + 1 + 1) p j -> j < W.heap.size := fun j hj => by
  rcases hj with rfl | rfl
  · exact hw4.lt
  · exact (hw4.pc.lt _ rfl).2
 have HSQ := hide (bl_stops 4 (by omega) (w.heap.size + 1 + 1 + 1) p _ zs _ rfl (by omega) (Sj (w.heap.size + 1 + 1 + 1) p) W (.inl rfl) (.inr rfl) hSw hU hb3)
 have HSw := hide hSw
 have HW4 := hide hw4
 have HBs := hide hb
 have HNn := hide hn
 have HYy := hide hy
 have HZ := hide hz
 clear hU hb3 hSw hw4 HNew hW hp h hb hn hy hz HF HB h0
 have hzW : w.heap.size <= W.heap.size := by omega
 refine (wpIn_wide (n := 5)).1 ?_
 refine wpIn_rangeD rfl (by omega) (gf := 172) (lb := #[.pointer (some ⟨w.heap.size + 1 + 1 + 1, 0, none⟩)]) rfl trivial (enters_of Tryz.func172 (by kernel_rfl) rfl)
  HSQ.out (fun h k => Kq.trans h k) (fun W' l o o' hl _ _ _ => ⟨rfl, rfl, rfl, by simp [World.putObj], fun j hj => World.putObj_heap_other (by have := HSw.out j hj; omega)⟩) (fun k x W' l o o' _ ho hc hG => hG.put ho hc) (Below.refl _ _) (fun _ => rfl)
  (fun k W' => Wrt w base g v lo (.slice (some ⟨p, 0, none⟩) n c) n zs (wsN D ((bksP zs).take k)) 0 W' ∧ wsE D ((bksP zs).take k) = 0)
  (fun c' k W' => Wrt w base g v lo (.slice (some ⟨p, 0, none⟩) n c) n zs (wsN D ((bksP zs).take (k + 1))) (wsE D ((bksP zs).take (k + 1))) W' ∧ c' = .exit 0 ∧ wsE D ((bksP zs).take (k + 1)) ≠ 0)
  ((Wrt.own hzW (fun k => wsN D ((bksP zs).take k)) (fun _ => 0)).and (fun _ _ _ _ h _ _ => h))
  (fun c' => (Wrt.own hzW (fun k => wsN D ((bksP zs).take (k + 1))) (fun k => wsE D ((bksP zs).take (k + 1)))).and (fun _ _ _ _ h _ _ => h))
  ⟨HW4.out, rfl⟩
  (fun x => { tmps := #[.func (.func 71) #[.pointer (some ⟨g, 0, none⟩)] #[], .slice (some ⟨p, 0, none⟩) n c, .pointer (some ⟨w.heap.size, 0, none⟩), undef, .int .i64 0, .pointer (some ⟨w.heap.size + 1 + 1, 0, none⟩), .slice (some ⟨x, 0, none⟩) 32 32, .func (.func 171) #[] #[.pointer (some ⟨w.heap.size + 1, 0, none⟩)], .slice (some ⟨p, 0, none⟩) n c, .func (.func 172) #[] #[.pointer (some ⟨w.heap.size + 1 + 1 + 1, 0, none⟩)], .slice (some ⟨x, 0, none⟩) 32 32, undef, undef, undef, undef, undef, undef, undef, undef], defers := [] }) ?assign ?body ?done ?stop
 case assign =>
  intro L x W' K hK
  unfold bkx
  gi_wp2
  exact hK
 case body =>
  intro L k x W1 hI hlt hG
  obtain ⟨hI, he⟩ := hI
  obtain ⟨sE, sN⟩ := ws_snoc hlt he
  have hq1 : (wsN D ((bksP zs).take k)).n < 4611686018427387904 := by
   have := wsN_n ((bksP zs).take k) D
   have h1 : ((bksP zs).take k).length <= 100000 := by rw [List.length_take, bksP_len]; have := HZ.out; omega
   have := HNn.out
   omega
  have hdr := (Below.refl W1.heap.size W1).drew
  have hI1 := Wrt.own (L := w.heap.size) (Nat.le_refl _) (fun _ : Unit => wsN D ((bksP zs).take k)) (fun _ => 0) () W1 W1.drew none hI (below_grownJ hdr) (fun r e => by cases e)
  obtain ⟨u, hd, hm⟩ := hI1.dsk
  have hsz1 : w.heap.size <= W1.drew.heap.size := by have := hI1.lt; omega
  have HWr := hide (gWrite22 hd (Nat.le_trans HBs.out hsz1) hq1 ((hG.rb HYy.out).below hdr))
  have HI1 := hide hI1
  have HD1 := hide hd
  have HM1 := hide hm
  have hS0 : W1.drew.cell? ⟨w.heap.size + 1 + 1, 0, none⟩ = some (.func (.func 171) #[] #[.pointer (some ⟨w.heap.size + 1, 0, none⟩)]) ∧ W1.drew.cell? ⟨w.heap.size, 0, none⟩ = some (.func (.func 71) #[.pointer (some ⟨g, 0, none⟩)] #[]) := ⟨(Lib.cell_of_heap hI1.b2 0).trans rfl, (Lib.cell_of_heap hI1.b0 0).trans rfl⟩
  have HQn : Hid (∀ W8, KeepsFrom W.heap.size W1 W8 -> Kq (Sj (w.heap.size + 1 + 1 + 1) p) W1 W8 -> Wrt w base g v lo (.slice (some ⟨p, 0, none⟩) n c) n zs (wsN D ((bksP zs).take (k + 1))) 0 W8 -> wsE D ((bksP zs).take (k + 1)) = 0 -> ∀ a', ownPostD W.heap.size (Kq (Sj (w.heap.size + 1 + 1 + 1) p)) (fun k W' => Wrt w base g v lo (.slice (some ⟨p, 0, none⟩) n c) n zs (wsN D ((bksP zs).take k)) 0 W' ∧ wsE D ((bksP zs).take k) = 0) (fun c' k W' => Wrt w base g v lo (.slice (some ⟨p, 0, none⟩) n c) n zs (wsN D ((bksP zs).take (k + 1))) (wsE D ((bksP zs).take (k + 1))) W' ∧ c' = .exit 0 ∧ wsE D ((bksP zs).take (k + 1)) ≠ 0) k W1 .normal a' W8) := fun W8 k1 k2 k3 k4 a' => ⟨k1, k2, k3, k4⟩
  have HQx : Hid (∀ W8, KeepsFrom W.heap.size W1 W8 -> Wrt w base g v lo (.slice (some ⟨p, 0, none⟩) n c) n zs (wsN D ((bksP zs).take (k + 1))) (wsE D ((bksP zs).take (k + 1))) W8 -> wsE D ((bksP zs).take (k + 1)) ≠ 0 -> ∀ a', ownPostD W.heap.size (Kq (Sj (w.heap.size + 1 + 1 + 1) p)) (fun k W' => Wrt w base g v lo (.slice (some ⟨p, 0, none⟩) n c) n zs (wsN D ((bksP zs).take k)) 0 W' ∧ wsE D ((bksP zs).take k) = 0) (fun c' k W' => Wrt w base g v lo (.slice (some ⟨p, 0, none⟩) n c) n zs (wsN D ((bksP zs).take (k + 1))) (wsE D ((bksP zs).take (k + 1))) W' ∧ c' = .exit 0 ∧ wsE D ((bksP zs).take (k + 1)) ≠ 0) k W1 (.exit 0) a' W8) := fun W8 k1 k2 k3 a' => ⟨k1, k2, rfl, k3⟩
  rw [sE, sN] at HQn HQx
  change (_ : Code).wpIn _ _ _ _ _ _
  generalize ownPostD W.heap.size (Kq (Sj (w.heap.size + 1 + 1 + 1) p)) (fun k W' => Wrt w base g v lo (.slice (some ⟨p, 0, none⟩) n c) n zs (wsN D ((bksP zs).take k)) 0 W' ∧ wsE D ((bksP zs).take k) = 0) (fun c' k W' => Wrt w base g v lo (.slice (some ⟨p, 0, none⟩) n c) n zs (wsN D ((bksP zs).take (k + 1))) (wsE D ((bksP zs).take (k + 1))) W' ∧ c' = .exit 0 ∧ wsE D ((bksP zs).take (k + 1)) ≠ 0) k W1 = QQ at HQn HQx ⊢
  have HK0 : Hid (KeepsFrom W.heap.size W1 W1.drew) := ⟨hdr.size, fun j o _ hj _ => (hdr.block j (Array.getElem?_eq_some_iff.1 hj).1).trans hj⟩
  have HP0 : Hid (Kq (Sj (w.heap.size + 1 + 1 + 1) p) W1 W1.drew) := Below.kq hdr (fun j hj => by
   rcases hj with rfl | rfl
   · exact hI.lt
   · exact (hI.pc.lt _ rfl).2)
  clear sE sN hdr hI hI1 hd hm hG hq1 HSQ HSw HW4 he
  generalize wsN D ((bksP zs).take k) = Dk at *
  generalize wrE22 Dk (blkP zs k) = er at *
  generalize wrN22 Dk (blkP zs k) = En at *
  gi_wp2
  refine region_round (S := (fun V => V.cell? ⟨w.heap.size + 1 + 1, 0, none⟩ = some (.func (.func 171) #[] #[.pointer (some ⟨w.heap.size + 1, 0, none⟩)]) ∧ V.cell? ⟨w.heap.size, 0, none⟩ = some (.func (.func 71) #[.pointer (some ⟨g, 0, none⟩)] #[]))) (by kernel_rfl) (by kernel_rfl) (by ((try dsimp only) <;> (first | with_reducible exact hS0 | with_reducible exact hS3 | with_reducible exact hS4))) (fun hHeld => ?_)
  refine tkY 0 ?_
  refine tkY 1 ?_
  refine tkY 2 ?_
  refine rd1 3 (fun K hK => ?_)
  (try simp only [ly0, ly1, ly2, ly3, ly4, ly5, ly6, ly7])
  go_simp
  (go_at_call 71; refine HWr.out.mono ?_; rintro e w3 ⟨u3, rfl, hn3, hm3⟩; have HT3 := hide (HI1.out.wrote HD1.out HM1.out hn3 hm3); have HK3 := hide (HK0.out.trans (HD1.out.keeps hm3)); have HP3 := hide (HP0.out.trans (HI1.out.kqw HD1.out hm3 rfl)); have hS3 := HT3.out.boxes; have HKp := hide (gKeep w3 (w.heap.size + 1) 0 er HT3.out.ke); clear hn3 hm3)
  first | refine hK.out _ _ ?k9 (fun hHeld => ?_) | (go_wp2_with fail; refine hK.out _ _ ?k9 (fun hHeld => ?_))
  case k9 => ((try dsimp only) <;> (first | with_reducible exact hS0 | with_reducible exact hS3 | with_reducible exact hS4))
  clear hK K
  (try simp only [ly0, ly1, ly2, ly3, ly4, ly5, ly6, ly7])
  refine rd1 4 (fun K hK => ?_)
  (try simp only [ly0, ly1, ly2, ly3, ly4, ly5, ly6, ly7])
  go_simp
  (go_at_call 171; refine HKp.out.mono ?_; rintro e w4 ⟨rfl, hk4, hw4⟩; rw [if_pos rfl] at hk4 ⊢; have HT4 := hide (HT3.out.kept hk4 hw4); have hS4 := HT4.out.boxes)
  first | refine hK.out _ _ ?k10 (fun hHeld => ?_) | (go_wp2_with fail; refine hK.out _ _ ?k10 (fun hHeld => ?_))
  case k10 => ((try dsimp only) <;> (first | with_reducible exact hS0 | with_reducible exact hS3 | with_reducible exact hS4))
  clear hK K
  (try simp only [ly0, ly1, ly2, ly3, ly4, ly5, ly6, ly7])
  refine tkY 5 ?_
  refine wpAnyH_done (by kernel_rfl) ?_ _
  clear hS0 hS3 hS4
  unfold onlyN
  dsimp only
  have HK4 := hide (HK3.out.trans (show KeepsFrom W.heap.size w3 w4 by
   rcases hw4 with rfl | rfl
   · exact KeepsFrom.refl _ _
   · exact (KeepsOthers.setCell _ _ _).from _))
  have HP4 := hide (HP3.out.trans (HT3.out.kqk hw4 rfl))
  clear hw4 hk4
  by_cases h0 : er = 0
  · subst h0
    gi_wp2
    exact HQn.out _ HK4.out HP4.out HT4.out (by first | trivial | rfl) _
  · have h1 : (er != 0) = true := bne_iff_ne.2 h0
    rw [h1]
    gi_wp2
    exact HQx.out _ HK4.out HT4.out h0 _
 case done =>
  rintro D7 W7 hD7 ⟨hI, he⟩ hK7
  have hbx := hI.boxes.1
  have eN : (bksP zs).take ((zs.length + 31) / 32) = bksP zs := List.take_of_length_le (by rw [bksP_len]; exact Nat.le_refl _)
  rw [eN] at hI he
  have HI7 := hide hI
  have hkp := gKeep W7 (w.heap.size + 1) 0 0 hI.ke
  rw [if_pos rfl] at hkp
  have HKp := hide hkp
  have HE := hide he
  clear hI he eN HSQ HSw HW4 hkp
  go_wp2_with (go_at_call 171; refine HKp.out.mono ?_; rintro e w8 ⟨rfl, hk8, hw8⟩)
  have hI8 := HI7.out.kept hk8 hw8
  have hK8 : w8.heap[D7]? = some (.deferred (some [])) := by
   rcases hw8 with rfl | rfl
   · exact hK7
   · exact (Below.heap_setCell _ _ _ _ (by show D7 ≠ w.heap.size + 1; omega)).trans hK7
  refine ⟨by simp, .inl ⟨_, _, rfl, run_takeDeferred hK8, ?_⟩⟩
  have hI9 := (Wrt.own hzW (fun _ : Unit => wsN D (bksP zs)) (fun _ => 0)).putObj (s := ()) (.deferred none) hI8 hD7 hK8 rfl
  obtain ⟨v9, hd9, hm9⟩ := hI9.dsk
  exact ⟨_, results_tmp rfl _ _ _, _, by rw [HE.out]; rfl, hd9, hm9⟩
 case stop =>
  rintro D7 c7 k W7 hD7 hk7 ⟨hI, hc7, he⟩ hK7
  subst hc7
  obtain ⟨e1, e2⟩ := ws_stop he
  have hbx := hI.boxes.1
  rw [<- e1, <- e2] at hI
  rw [<- e1] at he
  have HI7 := hide hI
  have hkp := gKeep W7 (w.heap.size + 1) _ 0 hI.ke
  rw [if_neg he] at hkp
  have HKp := hide hkp
  clear hI he e1 e2 HSQ HSw HW4 hkp
  gi_wp2
  go_wp2_with (go_at_call 171; refine HKp.out.mono ?_; rintro e w8 ⟨rfl, hk8, hw8⟩)
  have hI8 := HI7.out.kept hk8 hw8
  have hK8 : w8.heap[D7]? = some (.deferred (some [])) := by
   rcases hw8 with rfl | rfl
   · exact hK7
   · exact (Below.heap_setCell _ _ _ _ (by show D7 ≠ w.heap.size + 1; omega)).trans hK7
  refine ⟨by simp, .inl ⟨_, _, rfl, run_takeDeferred hK8, ?_⟩⟩
  have hI9 := (Wrt.own hzW (fun _ : Unit => wsN D (bksP zs)) (fun _ => wsE D (bksP zs))).putObj (s := ()) (.deferred none) hI8 hD7 hK8 rfl
  obtain ⟨v9, hd9, hm9⟩ := hI9.dsk
  exact ⟨_, results_tmp rfl _ _ _, _, rfl, hd9, hm9⟩
theorem ap23 (S : List Int -> Int) (D : Dsk) (r : List Int) : (r.length <= 1048576 -> apE23 S D r = wsE D (bksP (slF S r)) ∧ apN23 S D r = wsN D (bksP (slF S r))) ∧ (1048576 < r.length -> apE23 S D r = 4 ∧ apN23 S D r = D) := by
 unfold apE23 apN23
 rw [bksP_jrC]
 constructor
 · intro h; rw [if_neg (by omega), if_neg (by omega)]; exact ⟨rfl, rfl⟩
 · intro h; rw [if_pos h, if_pos h]; exact ⟨rfl, rfl⟩
theorem gAppend {w : World} {base g : Nat} {v : Value} {D : Dsk} (h : Hd w base g v D) (hb : base <= w.heap.size) (hn : D.n + 100000 < 4611686018427387904) {u : Value} {r : List Int} (hu : Rb w u r) :
 Calls Tryz.prog 81 #[.pointer (some ⟨g, 0, none⟩), u] w fun e w' => ∃ v', e = .returned (.int .i64 (apE23 sum8 D r)) ∧ Hd w' base g v' (apN23 sum8 D r) ∧ Mv w w' g v v' := by
 have H := hide (gThere h)
 have HS := hide (wSeal u r w hu)
 unfold GivesB at HS
 have HP := hide h
 have hy := hu.by
 obtain ⟨a1, a2⟩ := ap23 sum8 D r
 rcases slE_or r with ⟨hl, e1, e2⟩ | ⟨hl, e1, e2⟩
 · obtain ⟨b1, b2⟩ := a2 hl
   rw [b1, b2]
   rw [e1, e2] at HS
   obtain ⟨a, c, rfl, _⟩ := hu.spell
   clear a1 a2 b1 b2 e1 e2 hu hy hl h hb hn
   go_enter Tryz.func81, Tryz.ntmps81
   go_wp2_with (first
    | (go_at_call 74; refine H.out.mono ?_; rintro e w1 ⟨rfl, rfl⟩)
    | (go_at_call 105; refine HS.out.mono ?_; rintro e w2 ⟨v2, rfl, ho2, hb2⟩))
   go_ret
   exact ⟨_, rfl, HP.out.below hb2, Mv.of_below _ _ hb2⟩
 · obtain ⟨b1, b2⟩ := a1 hl
   rw [b1, b2]
   rw [e1, e2] at HS
   have hlen := slF_len sum8 r
   have HY := hide (slF_by sum8 hy)
   have HWr := hide (fun W pv (hB : Below w.heap.size w W) (ho : W.ownsRow w.heap.size 5 1 pv (slF sum8 r).length (valb (slF sum8 r))) => gWriteAll (h.below hB) (Nat.le_trans hb hB.size) ho (slF_by sum8 hy) (by rw [hlen]; omega) (by rw [hlen]; omega) hn)
   unfold wrF at HWr
   obtain ⟨a, c, rfl, _⟩ := hu.spell
   clear a1 a2 b1 b2 e1 e2 hu hy hl h hb hn hlen
   generalize slF sum8 r = zs at *
   obtain ⟨m, Hm⟩ : ∃ m, Hid (zs.length = m) := ⟨_, rfl⟩
   rw [Hm.out] at HS HWr
   go_enter Tryz.func81, Tryz.ntmps81
   go_wp2_with (first
    | (go_at_call 74; refine H.out.mono ?_; rintro e w1 ⟨rfl, rfl⟩)
    | (go_at_call 105; refine HS.out.mono ?_; rintro e w2 ⟨v2, rfl, ho2, hb2⟩; have HA := hide (HWr.out _ _ hb2 ho2); obtain ⟨a2, c2, hv2, _⟩ := own_spellO ho2; subst hv2)
    | (go_at_call 106; refine HA.out.mono ?_; rintro e w3 ⟨v3, rfl, hn3, hm3⟩))
   go_ret
   exact ⟨_, rfl, hn3, Mv.after hb2 hm3⟩
end Go.Proofs.YtipobchbnjgenaaGreat
