import Derived.Test.YtcglbbglapomgaaBNdtF
set_option linter.unusedVariables false
set_option linter.unusedSimpArgs false
set_option maxRecDepth 100000
set_option maxHeartbeats 4000000
namespace Go.Proofs.Ytcglbbglapomgaa
open Go.RowKit Fld
theorem dDeliver21 {w : World} {base g : Nat} {v : Value} {N : Nt} (hy : Ny w base g v N) (hb : base <= w.heap.size) (hk : NtOk N) (hs : N.s < 4611686018427387904) (i : Int) :
 Calls Try.prog 25 #[.pointer (some ⟨g, 0, none⟩), .int .i64 i] w fun e w' => ∃ v' u, e = .returned (.tuple #[.agg #[.int .i64 (dvP N i).f, .int .i64 (dvP N i).t, u], .int .i64 (plE N i)]) ∧ Rb w' u (dvP N i).b ∧ Ny w' base g v' (dvN N i) ∧ Mv w w' g v v' := by
 obtain ⟨es, h⟩ := hy
 obtain ⟨w0, hw0⟩ : ∃ w0, w.alloc (.cells #[.int .i64 0, .int .i64 0, .slice none 0 0] 40) = w0 := ⟨_, rfl⟩
 have hb0 : Below w.heap.size w w0 := by rw [<- hw0]; exact alloc_below _ _
 have hz0 : w0.heap.size = w.heap.size + 1 := by rw [<- hw0]; simp
 have hx : w0.heap[w.heap.size]? = some (.cells #[.int .i64 0, .int .i64 0, .slice none 0 0] 40 (0, 0)) := by rw [<- hw0]; exact heap_alloc_new w _
 have h0 := h.below hb0
 have H := hide (dHas21 h0 i)
 have HM0 := hide (Mv.of_below g v hb0)
 have hgl := h.lt
 have hol := h.pks.lt
 rcases pl_cases N i with ⟨k, rfl, hkl, hh, e⟩ | ⟨hh, e⟩
 · rw [hh] at H
   obtain ⟨x, hx1, hg⟩ := h.has_no hkl
   have e1 : dvP N (k : Int) = x.1 := by unfold dvP; rw [if_pos hh, hg]
   have e2 : dvN N (k : Int) = { N with l := N.l.eraseIdx k, d := N.d + 1 } := by unfold dvN; rw [if_pos hh, Int.toNat_natCast]
   rw [e, e1, e2]
   have hsum := hk.sum
   have hmem := List.mem_of_getElem? hx1
   have h1 := h0.set3_ (N.d + 1)
   have hT := dTake21 h1 (by simp [hz0]; omega) hk.len hx1
   have HM1 := hide (HM0.out.trans (mv_set w0 g 3 (.int .i64 ((N.d + 1 : Nat) : Int)) v))
   have HR := hide (fun w3 v3 (m : Mv (w0.setCell ⟨g, 3, none⟩ (.int .i64 ((N.d + 1 : Nat) : Int))) w3 g v v3) => h1.rb_mv m hmem)
   have HY := hide (h.pks.each x hmem).2
   have HUl := hide (fun j (hj : x.2.ownBlock = some j) => ((h.pks.each x hmem).1.lt j hj).2)
   have HEl := hide (fun e (he : e ∈ es) j (hj : e.2.ownBlock = some j) => ((h.pks.each e he).1.lt j hj).2)
   have hx2 : (w0.setCell ⟨g, 3, none⟩ (.int .i64 ((N.d + 1 : Nat) : Int))).heap[w.heap.size]? = w0.heap[w.heap.size]? := Below.heap_setCell _ _ _ _ (by show w.heap.size ≠ g; omega)
   have HX := hide (hx2.trans hx)
   have hzz : (w0.setCell ⟨g, 3, none⟩ (.int .i64 ((N.d + 1 : Nat) : Int))).heap.size = w.heap.size + 1 := by simp [hz0]
   have HZZ := hide hzz
   have HT := hide hT
   obtain ⟨uo, uc, hu, _⟩ := own_spellO (h.pks.each x hmem).1
   have c3 := h0.cells.2.2.2.1
   have f3 := h0.free 3
   have hd : (N.d : Int) + 1 = ((N.d + 1 : Nat) : Int) := by omega
   have hd3 : N.d + 1 < 4611686018427387905 := by omega
   rw [hu] at HT
   have HUv := hide hu
   clear hu
   clear e e1 e2 hh hkl h h0 h1 hsum hmem hx1 hg hT hx2 hzz hx hz0 hb0
   dsimp only at HT
   generalize ((N.d + 1 : Nat) : Int) = d1 at *
   generalize hW1 : w0.setCell ⟨g, 3, none⟩ (.int .i64 d1) = w1 at *
   go_enter Try.func25, Try.ntmps25
   go_wp2_with (first
    | (go_at_call 42; refine H.out.mono ?_; rintro e w2 ⟨rfl, hw2⟩; rw [hw2]; clear hw2)
    | (go_at_call 43; go_loud (refine HT.out.mono ?_; rintro e w3 ⟨rfl, r', c', hn3, hm3⟩; have hx4 := hide ((hm3.block (j := w.heap.size) (by have := HZZ.out; omega) (by omega) (fun e => by have := (hol _ e).2; omega)).trans HX.out); have x0 : w3.cell? ⟨w.heap.size, 0, none⟩ = some (.int .i64 0) := (Lib.cell_of_heap hx4.out 0).trans rfl; have x1 : w3.cell? ⟨w.heap.size, 1, none⟩ = some (.int .i64 0) := (Lib.cell_of_heap hx4.out 1).trans rfl; have x2 : w3.cell? ⟨w.heap.size, 2, none⟩ = some (.slice none 0 0) := (Lib.cell_of_heap hx4.out 2).trans rfl; have xf : ∀ k, w3.frozen? ⟨w.heap.size, k, none⟩ = false := fun k => Lib.frozen_of_heap hx4.out k)))
   have hgz : ¬ g = w.heap.size := by omega
   have hr3 := HR.out w3 _ hm3
   have hKq : Kq (fun j => j ≠ w.heap.size) w3 (((w3.setCell ⟨w.heap.size, 0, none⟩ (.int .i64 x.1.f)).setCell ⟨w.heap.size, 1, none⟩ (.int .i64 x.1.t)).setCell ⟨w.heap.size, 2, none⟩ (.slice uo x.1.b.length uc)) := ⟨rfl, rfl, rfl, by simp, fun j hj => by rw [Below.heap_setCell _ _ _ j hj, Below.heap_setCell _ _ _ j hj, Below.heap_setCell _ _ _ j hj]⟩
   have hrb := hKq.own hr3 (fun j hj => by have := HUl.out j hj; omega)
   rw [HUv.out] at hrb
   refine bodyPost_ret (res_ct (a := 4) (b := 5) rfl rfl rfl (load_pka (blk_set3 hx4.out))) rfl ⟨_, _, rfl, rb_of_own hrb HY.out.1 (by have := HY.out.2; omega), ⟨_, hn3.kept hKq hgz (fun j hj => ?_) (fun e he j hj => ?_)⟩, (((HM1.out.trans hm3).set_new (Nat.le_refl _) _ _).set_new (Nat.le_refl _) _ _).set_new (Nat.le_refl _) _ _⟩
   · rcases hm3.new j hj with e2 | e2
     · have := (hol _ e2).2; omega
     · have := HZZ.out; omega
   · have := HEl.out e (List.mem_of_mem_eraseIdx he) j hj; omega
 · rw [hh] at H
   have e1 : dvP N i = pk0 := by unfold dvP; rw [if_neg (by rw [hh]; decide)]
   have e2 : dvN N i = N := by unfold dvN; rw [if_neg (by rw [hh]; decide)]
   rw [e, e1, e2]
   have x0 : w0.cell? ⟨w.heap.size, 0, none⟩ = some (.int .i64 0) := (Lib.cell_of_heap hx 0).trans rfl
   have x1 : w0.cell? ⟨w.heap.size, 1, none⟩ = some (.int .i64 0) := (Lib.cell_of_heap hx 1).trans rfl
   have x2 : w0.cell? ⟨w.heap.size, 2, none⟩ = some (.slice none 0 0) := (Lib.cell_of_heap hx 2).trans rfl
   have xf : ∀ k, w0.frozen? ⟨w.heap.size, k, none⟩ = false := fun k => Lib.frozen_of_heap hx k
   have HX := hide hx
   have H0 := hide h0
   have hgz : ¬ g = w.heap.size := by omega
   have HEl := hide (fun e (he : e ∈ es) j (hj : e.2.ownBlock = some j) => ((h.pks.each e he).1.lt j hj).2)
   clear e e1 e2 hh h h0 hx hz0 hb0
   go_enter Try.func25, Try.ntmps25
   go_wp2_with (go_at_call 42; refine H.out.mono ?_; rintro e w1 ⟨rfl, hw1⟩; rw [hw1]; clear hw1)
   refine bodyPost_ret (res_ct (a := 4) (b := 5) rfl rfl rfl (load_pka (blk_set3 HX.out))) rfl ⟨_, _, rfl, rb_nil _, ⟨_, H0.out.kept (S := fun j => j ≠ w.heap.size) ⟨rfl, rfl, rfl, by simp, fun j hj => by rw [Below.heap_setCell _ _ _ j hj, Below.heap_setCell _ _ _ j hj, Below.heap_setCell _ _ _ j hj]⟩ hgz (fun j hj => by have := (hol _ hj).2; omega) (fun e he j hj => by have := HEl.out e he j hj; omega)⟩, ((HM0.out.set_new (Nat.le_refl _) _ _).set_new (Nat.le_refl _) _ _).set_new (Nat.le_refl _) _ _⟩
theorem mv_map {es : List Dk} {l : List Pk} {i j : Nat} {e : Dk} (h : es.map (·.1) = l) : ((es.eraseIdx i).take j ++ [e] ++ (es.eraseIdx i).drop j).map (·.1) = mvL l i j e.1 := by
 unfold mvL
 rw [<- h, List.map_append, List.map_append, List.map_take, List.map_drop]
 have : (es.eraseIdx i).map (·.1) = (es.map (·.1)).eraseIdx i := by rw [<- take_drop_erase, <- take_drop_erase, List.map_append, List.map_take, List.map_drop]
 rw [this]; simp
theorem move_mem {w1 : World} {base g r1 c1 : Nat} {N : Nt} {es1 : List Dk} {e : Dk} (h : Nd w1 base g (.slice (some ⟨r1, 0, none⟩) es1.length c1) N es1) (hb : base <= w1.heap.size) (hu : w1.ownsRow base 5 1 e.2 e.1.b.length (valb e.1.b) ∧ By e.1.b ∧ e.1.b.length <= 1048576) {j o2 k2 : Nat} (hj : j <= es1.length) (hl : es1.length <= 4096) (ho2 : j < es1.length -> o2 = j * 3)
 {a b : Value} {uo : Option Addr} {uc : Nat} (hea : dkc e = [a, b, .slice uo e.1.b.length uc]) :
 ∃ (r4 k4 : Nat) (w4 : World), (Builtin.append_ #[27, 27] 27 #[.slice (some ⟨w1.heap.size + 1, 0, none⟩) 0 0, .slice (some ⟨r1, 0, none⟩) j c1]).run Try.prog ((w1.alloc (.cells #[a, b, .slice uo e.1.b.length uc] 40)).alloc (.cells #[] 40)) = .ok (.slice (some ⟨r4, 0, none⟩) j k4) w4 ∧ w4.heap[w1.heap.size]? = some (.cells #[a, b, .slice uo e.1.b.length uc] 40 (0, 0)) ∧ w4.cell? ⟨g, 1, none⟩ = some (.slice (some ⟨r1, 0, none⟩) es1.length c1) ∧
 ∃ (r5 k5 : Nat) (w5 : World), (Builtin.append_ #[27, 27] 27 #[.slice (some ⟨r4, 0, none⟩) j k4, .slice (some ⟨w4.heap.size, 0, none⟩) 1 1]).run Try.prog (w4.alloc (.cells #[a, b, .slice uo e.1.b.length uc] 40)).drew = .ok (.slice (some ⟨r5, 0, none⟩) (j + 1) k5) w5 ∧ (w4.alloc (.cells #[a, b, .slice uo e.1.b.length uc] 40)).drew.heap[w1.heap.size]? = w4.heap[w1.heap.size]? ∧ w5.heap[w1.heap.size]? = w4.heap[w1.heap.size]? ∧ (w4.alloc (.cells #[a, b, .slice uo e.1.b.length uc] 40)).drew.cell? ⟨g, 1, none⟩ = some (.slice (some ⟨r1, 0, none⟩) es1.length c1) ∧ w5.cell? ⟨g, 1, none⟩ = some (.slice (some ⟨r1, 0, none⟩) es1.length c1) ∧
 ∃ (r6 k6 : Nat) (w6 : World), (Builtin.append_ #[27, 27] 27 #[.slice (some ⟨r5, 0, none⟩) (j + 1) k5, .slice (some ⟨r1, o2, none⟩) (es1.length - j) k2]).run Try.prog w5 = .ok (.slice (some ⟨r6, 0, none⟩) (j + 1 + (es1.length - j)) k6) w6 ∧ w6.heap[w1.heap.size]? = w4.heap[w1.heap.size]? ∧ w6.cell? ⟨g, 1, none⟩ = some (.slice (some ⟨r1, 0, none⟩) es1.length c1) ∧ w6.frozen? ⟨g, 1, none⟩ = false ∧
  Hid (Nd (w6.setCell ⟨g, 1, none⟩ (.slice (some ⟨r6, 0, none⟩) (j + 1 + (es1.length - j)) k6)) base g (.slice (some ⟨r6, 0, none⟩) (j + 1 + (es1.length - j)) k6) { N with l := (es1.take j ++ [e] ++ es1.drop j).map (·.1) } (es1.take j ++ [e] ++ es1.drop j)) ∧
  Hid (Mv w1 (w6.setCell ⟨g, 1, none⟩ (.slice (some ⟨r6, 0, none⟩) (j + 1 + (es1.length - j)) k6)) g (.slice (some ⟨r1, 0, none⟩) es1.length c1) (.slice (some ⟨r6, 0, none⟩) (j + 1 + (es1.length - j)) k6)) := by
 have hone := dkc_one h.pks
 have hoe : ∀ x ∈ dkc e, x.oneCell' = true := fun x hx => by
  simp only [dkc, List.mem_cons, List.not_mem_nil, or_false] at hx
  rcases hx with rfl | rfl | rfl
  · rfl
  · rfl
  · obtain ⟨ao, cap, hv, _⟩ := own_spellO hu.1
    rw [hv]; rfl
 have hb2 := alloc_below w1 (.cells #[a, b, .slice uo e.1.b.length uc] 40)
 have hbx := heap_alloc_new w1 (.cells #[a, b, .slice uo e.1.b.length uc] 40)
 have hz2 : (w1.alloc (.cells #[a, b, .slice uo e.1.b.length uc] 40)).heap.size = w1.heap.size + 1 := by simp
 have h2 := h.below hb2
 generalize w1.alloc (.cells #[a, b, .slice uo e.1.b.length uc] 40) = w2 at *
 have hb3 := alloc_below w2 (.cells #[] 40)
 have h3 := h2.below hb3
 have hown := own_none w2 40 3
 rw [hz2] at hown
 have hz3 : (w2.alloc (.cells #[] 40)).heap.size = w1.heap.size + 1 + 1 := by simp [hz2]
 obtain ⟨a4, k4, w4, hr4, ho4, hg4, hat4, hnn4⟩ := app_dk (c := c1) (es1 := []) (ps := (es1.drop 0).take j) (m := j) (ad := ⟨r1, 0, none⟩) hown (by rw [List.length_take, List.drop_zero]; omega) (h3.pks.news 0 j 0 (by omega) (fun _ => by omega)) (fun e' he' => hone e' (List.mem_of_mem_drop (List.mem_of_mem_take he'))) (by omega) (by omega)
 obtain ⟨r4, rfl⟩ := hnn4 (by simp)
 rw [Nat.zero_add] at hr4 ho4 hat4
 rw [List.nil_append, List.drop_zero] at ho4
 have hK4 : Kq (fun x => x < w1.heap.size + 1) w2 w4 := (Below.kq hb3 (fun x hx => by omega)).trans (grown_kq hg4 (fun x hx => by omega) (fun x hx hs => by simp [Value.ownBlock] at hx; omega))
 have hlow4 : ∀ x, (Value.slice (some ⟨r4, 0, none⟩) j k4).ownBlock = some x -> w1.heap.size + 1 <= x := fun x hx => (ho4.lt x hx).1
 have hin : ∀ x, (x < w1.heap.size -> x < w1.heap.size + 1) := fun x hx => by omega
 have keep : ∀ (W : World), Kq (fun x => x < w1.heap.size + 1) w2 W -> Nd W base g (.slice (some ⟨r1, 0, none⟩) es1.length c1) N es1 := fun W hk => h2.kept hk (hin _ h.lt) (fun x hx => hin _ (h.pks.lt x hx).2) (fun e he x hx => hin _ ((h.pks.each e he).1.lt x hx).2)
 have h4 := keep w4 hK4
 have hblk4 := (hK4.block w1.heap.size (by show _ < _; omega)).trans hbx
 have hb5 : Below w4.heap.size w4 (w4.alloc (.cells #[a, b, .slice uo e.1.b.length uc] 40)).drew := (alloc_below w4 _).drew
 have hs4 := hK4.size
 have hK5 : Kq (fun x => x < w1.heap.size + 1) w2 (w4.alloc (.cells #[a, b, .slice uo e.1.b.length uc] 40)).drew := hK4.trans (Below.kq hb5 (fun x hx => by omega))
 have h5 := keep _ hK5
 have ho5 := own_below ho4 hb5
 have hnew : ∀ q u, (([e] : List Dk).flatMap dkc)[q]? = some u -> (w4.alloc (.cells #[a, b, .slice uo e.1.b.length uc] 40)).drew.cell? ((⟨w4.heap.size, 0, none⟩ : Addr).add q) = some u := by
  have := World.news_of_block (cs := #[a, b, .slice uo e.1.b.length uc]) (t := 40) (fr := (0, 0)) (heap_alloc_new w4 (.cells #[a, b, .slice uo e.1.b.length uc] 40))
  intro q u hq
  rw [List.flatMap_cons, List.flatMap_nil, List.append_nil, hea] at hq
  exact this q u hq
 obtain ⟨a5, k5, w5, hr5, ho5', hg5, hat5, hnn5⟩ := app_dk (c := 1) (es1 := es1.take j) (ps := [e]) (m := 1) (ad := ⟨w4.heap.size, 0, none⟩) ho5 rfl hnew (fun e' he' => by rw [List.mem_singleton.1 he']; exact hoe) (by omega) (by have := hb5.size; omega)
 obtain ⟨r5, rfl⟩ := hnn5 (by simp)
 have hlow5 : ∀ x, (Value.slice (some ⟨r5, 0, none⟩) (j + 1) k5).ownBlock = some x -> w1.heap.size + 1 <= x := fun x hx => (ho5'.lt x hx).1
 have hK6 : Kq (fun x => x < w1.heap.size + 1) w2 w5 := hK5.trans (grown_kq hg5 (fun x hx => by have := hb5.size; omega) (fun x hx hs => by have := hlow4 x hx; omega))
 have h6 := keep w5 hK6
 obtain ⟨a6, k6, w6, hr6, ho6, hg6, hat6, hnn6⟩ := app_dk (c := k2) (ps := (es1.drop j).take (es1.length - j)) (m := es1.length - j) (ad := ⟨r1, o2, none⟩) ho5' (by rw [List.length_take, List.length_drop]; omega) (h6.pks.news j (es1.length - j) o2 (by omega) (fun _ => ho2 (by omega))) (fun e' he' => hone e' (List.mem_of_mem_drop (List.mem_of_mem_take he'))) (by omega) (by have := hK6.size; omega)
 obtain ⟨r6, rfl⟩ := hnn6 (by simp)
 rw [drop_all] at ho6
 have hlow6 : ∀ x, (Value.slice (some ⟨r6, 0, none⟩) (j + 1 + (es1.length - j)) k6).ownBlock = some x -> w1.heap.size + 1 <= x := fun x hx => (ho6.lt x hx).1
 have hK7 : Kq (fun x => x < w1.heap.size + 1) w2 w6 := hK6.trans (grown_kq hg6 (fun x hx => by have := hK6.size; omega) (fun x hx hs => by have := hlow5 x hx; omega))
 have h7 := keep w6 hK7
 have hlen : j + 1 + (es1.length - j) = (es1.take j ++ [e] ++ es1.drop j).length := by simp; omega
 have hu2 := own_below hu.1 hb2
 have hu6 := hK7.own hu2 (fun x hx => hin _ (hu.1.lt x hx).2)
 refine ⟨r4, k4, w4, hr4, hblk4, h4.cells.2.1, r5, k5, w5, hr5, hb5.block _ (by omega), (hK6.block w1.heap.size (by show _ < _; omega)).trans (hbx.trans hblk4.symm), h5.cells.2.1, h6.cells.2.1, r6, k6, w6, hr6, (hK7.block w1.heap.size (by show _ < _; omega)).trans (hbx.trans hblk4.symm), h7.cells.2.1, h7.free 1, ⟨?_, ⟨?_, fun e' he' => ?_⟩, rfl, h.low⟩, ?_⟩
 · rw [set_blk h7.net 1 _]; rfl
 · rw [<- hlen]
   exact ownsRow_setCell_other (own_mono ho6 (by omega)) (fun e2 => by have : w1.heap.size + 1 <= g := hlow6 g e2; have := h.lt; omega) _
 · have hcase : e' ∈ es1 ∨ e' = e := by
    rcases List.mem_append.1 he' with h1 | h1
    · rcases List.mem_append.1 h1 with h1 | h1
      · exact .inl (List.mem_of_mem_take h1)
      · exact .inr (List.mem_singleton.1 h1)
    · exact .inl (List.mem_of_mem_drop h1)
   rcases hcase with h1 | rfl
   · exact ⟨ownsRow_setCell_other (h7.pks.each e' h1).1 (h7.une h1) _, (h7.pks.each e' h1).2⟩
   · exact ⟨ownsRow_setCell_other hu6 (own_notO hu6 h7.net (by decide)) _, hu.2⟩
 · exact ((Mv.of_below g (.slice (some ⟨r1, 0, none⟩) es1.length c1) hb2).trans (c := w6) (x := .slice (some ⟨r6, 0, none⟩) (j + 1 + (es1.length - j)) k6) ⟨hK7.mono (fun x hx => by have := hx.1; omega), fun x hx => .inr (by have := hlow6 x hx; omega)⟩).trans (mv_set w6 g 1 _ _)
end Go.Proofs.Ytcglbbglapomgaa
