import Derived.Test.YtjhididlcdepdaaGreatBRgdH
import Derived.Test.YtjhididlcdepdaaGreatBRgnP
set_option linter.unusedVariables false
set_option linter.unusedSimpArgs false
set_option maxRecDepth 100000
set_option maxHeartbeats 4000000
namespace Go.Proofs.YtjhididlcdepdaaGreat
open Go.RowKit Fld Pln Slp Shr
theorem hnA_eq {p : Pn} {q : Pr} {dl pl : List (List Int)} (w1 : ∀ b ∈ dl, Wd b) (w2 : ∀ b ∈ pl, Wd b) (hf : fitQ p q = true) (hz : bkE p dl pl [] = 0) : hnA p q dl pl = hsL p q dl pl := by
 obtain ⟨hm, hmb, _, hin, _⟩ := fit_facts hf
 obtain ⟨_, _, _, _, _, _, v0, v1⟩ := may_facts hm
 obtain ⟨_, ⟨r, wd, hr, _⟩, _⟩ := bk_zero hz
 unfold hnA hsL allL
 rw [if_pos hz, List.map_map]
 refine List.map_congr_left (fun x hx => ?_)
 have e1 : evE p.f q (shr (pOf p.f) (innL p) p.w.toNat (dl ++ pl) x) = 0 := by
  unfold evE rwE
  rw [if_pos hmb, inF_yes hr, pOf_eq hr, if_pos (allIn_of (shr_els hr.pos _ _ _ _)), if_pos (by rw [shr_len, hin]; omega)]
 have e2 : rpE p q (shr (pOf p.f) (innL p) p.w.toNat (dl ++ pl) x) = 0 := by unfold rpE; rw [if_pos hf]; exact e1
 show rpL p q _ = _
 unfold rpL
 rw [if_pos e2]
theorem hsL_in {p : Pn} {q : Pr} {dl pl : List (List Int)} (w1 : ∀ b ∈ dl, Wd b) (w2 : ∀ b ∈ pl, Wd b) (ha : acc p) (hf : fitQ p q = true) (hz : bkE p dl pl [] = 0) : ∀ b ∈ hsL p q dl pl, Wd b ∧ inF p.f b = true := fun b hb => by
 refine ⟨by rw [<- hnA_eq w1 w2 hf hz] at hb; exact (hnA_wd w1 w2).1 b hb, ?_⟩
 obtain ⟨hm, hmb, hoe, hin, hov⟩ := fit_facts hf
 have hmf := may_facts hm
 have hdg := dg_bound hm
 have hneed := acc_need ha
 have hc : cmE p q dl pl = 0 := by
  rcases cm_four w1 w2 hf hz with h | ⟨_, h⟩
  · exact h
  · exfalso
    unfold need at hneed
    unfold dg at hneed hdg
    omega
 obtain ⟨r, wd, hr, _, _, _, hwrk⟩ := cm_facts w1 w2 hf hz hc
 unfold hsL at hb
 obtain ⟨x, _, rfl⟩ := List.mem_map.1 hb
 rw [inF_yes hr, pOf_eq hr, <- hwrk x]
 refine allIn_of (fun y hy => ?_)
 obtain ⟨z, _, rfl⟩ := List.mem_map.1 hy
 exact vl_el hr.pos x z
theorem flat_set2 (u : Value) (vs : List Int) : ∀ (ws : List Rq) (k : Nat), k < ws.length -> (ws.flatMap rpw).set (k * 2 + 1) u = (ws.set k ((ws.getD k zRq).1, u, vs)).flatMap rpw
 | [], k, h => by simp at h
 | x :: ws, 0, h => by simp [rpw]
 | x :: ws, k + 1, h => by
  have ih := flat_set2 u vs ws k (by simpa using h)
  have e : ∀ (l : List Value) (j : Nat) (v : Value), ([Value.int .i64 x.1, x.2.1] ++ l).set (2 + j) v = [Value.int .i64 x.1, x.2.1] ++ l.set j v := fun l j v => by
   rw [Nat.add_comm]; rfl
  show ([Value.int .i64 x.1, x.2.1] ++ ws.flatMap rpw).set ((k + 1) * 2 + 1) u = [Value.int .i64 x.1, x.2.1] ++ (ws.set k ((ws.getD k zRq).1, u, vs)).flatMap rpw
  rw [show (k + 1) * 2 + 1 = 2 + (k * 2 + 1) by omega, e, ih]
theorem Rown.put {base : Nat} {w : World} {g n cap k : Nat} {ws : List Rq} {u : Value} {vs : List Int} (h : Rown base w (.slice (some ⟨g, 0, none⟩) n cap) ws) (hn : ws.length = n) (hk : k < n) (hv : w.ownsRow base 64 1 u vs.length (vals vs)) (hw : Wd vs) :
 Rown base (w.setCell ⟨g, k * 2 + 1, none⟩ u) (.slice (some ⟨g, 0, none⟩) n cap) (ws.set k ((ws.getD k zRq).1, u, vs)) := by
 have hr := h.row
 rw [hn] at hr
 have hin : ∀ y ∈ ws.set k ((ws.getD k zRq).1, u, vs), y ∈ ws ∨ y = ((ws.getD k zRq).1, u, vs) := fun y hy => List.mem_or_eq_of_mem_set hy
 refine ⟨?_, fun y hy => ?_, fun y hy => ?_, fun y hy => ?_⟩
 · rw [List.length_set, hn, <- flat_set2 u vs ws k (by omega)]
   refine ⟨by rw [List.length_set]; exact hr.1, ?_⟩
   rcases hr.2 with ⟨e, _⟩ | ⟨g', cap', cur, e, h2, h3, h4, h5, h6, h7⟩
   · cases e
   · cases e
     refine .inr ⟨g, cap, cur.setIfInBounds (k * 2 + 1) u, rfl, h2, set_blk h3 _ u, h4, h5, by rw [Array.size_setIfInBounds]; exact h6, ?_⟩
     rw [Array.toList_setIfInBounds, <- h7, List.take_set]
 · rcases hin y hy with hy | rfl
   · exact own_other (h.each y hy) (fun e2 => own_kind h.row (h.each y hy) ne_kindsR g rfl e2)
   · exact own_other hv (fun e2 => own_kind h.row hv ne_kindsR g rfl e2)
 · rcases hin y hy with hy | rfl
   · exact h.wd y hy
   · exact hw
 · rcases hin y hy with hy | rfl
   · exact h.num y hy
   · have := h.num (ws.getD k zRq) (getD_inQ (us := ws) (i := k) (by omega))
     exact this
theorem rps_set (ws : List Rq) (k : Nat) (x : Rq) : rps (ws.set k x) = (rps ws).set k (rpO x) := by unfold rps; rw [List.map_set]
theorem rpsN_set {L : List (List Int)} {k : Nat} (hk : k < L.length) (vs : List Int) : rpsN (L.set k vs) = (rpsN L).set k ⟨(k : Int), vs⟩ := by
 refine List.ext_getElem (by rw [rpsN_len, List.length_set, List.length_set, rpsN_len]) (fun i hi hi2 => ?_)
 have hi3 : i < L.length := by rw [rpsN_len, List.length_set] at hi; exact hi
 have hi4 : i < (rpsN L).length := by rw [rpsN_len]; exact hi3
 have e1 := rpsN_at (l := L.set k vs) (i := i) (by rw [List.length_set]; exact hi3)
 have e2 := rpsN_at (l := L) (i := i) hi3
 rw [List.getD_eq_getElem?_getD, List.getElem?_eq_getElem hi] at e1
 rw [List.getD_eq_getElem?_getD, List.getElem?_eq_getElem hi4] at e2
 have e1' : (rpsN (L.set k vs))[i] = ⟨(i : Int), (L.set k vs).getD i []⟩ := e1
 have e2' : (rpsN L)[i] = ⟨(i : Int), L.getD i []⟩ := e2
 rw [e1', List.getElem_set]
 by_cases e : k = i
 · subst e
   rw [if_pos rfl, List.getD_eq_getElem?_getD, List.getElem?_set_self hk]; rfl
 · rw [if_neg e, e2', List.getD_eq_getElem?_getD, List.getElem?_set_ne e, <- List.getD_eq_getElem?_getD]
def wrR (hs : List (List Int)) (l : List Rp) (k : Nat) : List Int := ((List.range k).filter (fun i => decide ((l.getD i nrp).vs ≠ hs.getD i []))).map (fun (i : Nat) => (i : Int))
theorem wrR_all (p : Pn) (hs : List (List Int)) (l : List Rp) : wrR hs l p.n.toNat = (wrN p hs l).map (fun (i : Nat) => (i : Int)) := rfl
theorem wrR_len (hs : List (List Int)) (l : List Rp) (k : Nat) : (wrR hs l k).length <= k := by
 unfold wrR
 rw [List.length_map]
 have := List.length_filter_le (fun i => decide ((l.getD i nrp).vs ≠ hs.getD i [])) (List.range k)
 rw [List.length_range] at this
 exact this
theorem wrR_yes {hs : List (List Int)} {l : List Rp} {k : Nat} (h : (l.getD k nrp).vs = hs.getD k []) : wrR hs l (k + 1) = wrR hs l k := by
 unfold wrR
 have e : List.filter (fun i => decide ((l.getD i nrp).vs ≠ hs.getD i [])) [k] = [] := by
  rw [List.filter_cons, if_neg (by rw [decide_eq_true_iff]; exact fun c => c h), List.filter_nil]
 rw [List.range_succ, List.filter_append, e, List.append_nil]
theorem wrR_no {hs : List (List Int)} {l : List Rp} {k : Nat} (h : ¬ (l.getD k nrp).vs = hs.getD k []) : wrR hs l (k + 1) = wrR hs l k ++ [(k : Int)] := by
 unfold wrR
 have e : List.filter (fun i => decide ((l.getD i nrp).vs ≠ hs.getD i [])) [k] = [k] := by
  rw [List.filter_cons, if_pos (decide_eq_true h), List.filter_nil]
 rw [List.range_succ, List.filter_append, e, List.map_append]; rfl
theorem rnd_box (w : World) (p : Pn) (n : Int) (vo vu vd vp : Value) (T1 T2 : TypeId) : ∃ W1, (w.alloc (.cells #[.int .u8 p.f, .int .i64 p.n, .int .i64 p.k, .int .i64 p.t, .int .i64 p.s, .int .i64 p.e, .int .i64 p.d, .int .i64 p.w] T1)).alloc (.cells #[.int .i64 n, vo, vu, vd, vp] T2) = W1 ∧ Below w.heap.size w W1 ∧ ∀ W, Below W1.heap.size W1 W -> (W.cell? ⟨w.heap.size, 0, none⟩ = some (.int .u8 p.f) ∧ W.cell? ⟨w.heap.size, 1, none⟩ = some (.int .i64 p.n) ∧ W.cell? ⟨w.heap.size, 2, none⟩ = some (.int .i64 p.k) ∧ W.cell? ⟨w.heap.size, 3, none⟩ = some (.int .i64 p.t) ∧ W.cell? ⟨w.heap.size, 4, none⟩ = some (.int .i64 p.s) ∧ W.cell? ⟨w.heap.size, 5, none⟩ = some (.int .i64 p.e) ∧ W.cell? ⟨w.heap.size, 6, none⟩ = some (.int .i64 p.d) ∧ W.cell? ⟨w.heap.size, 7, none⟩ = some (.int .i64 p.w)) ∧ W.cell? ⟨w.heap.size + 1, 0, none⟩ = some (.int .i64 n) ∧ W.cell? ⟨w.heap.size + 1, 1, none⟩ = some vo ∧ W.cell? ⟨w.heap.size + 1, 2, none⟩ = some vu ∧ W.cell? ⟨w.heap.size + 1, 3, none⟩ = some vd ∧ W.cell? ⟨w.heap.size + 1, 4, none⟩ = some vp := by
 have n1 := heap_alloc_new w (.cells #[.int .u8 p.f, .int .i64 p.n, .int .i64 p.k, .int .i64 p.t, .int .i64 p.s, .int .i64 p.e, .int .i64 p.d, .int .i64 p.w] T1)
 have b1 := alloc_below w (.cells #[.int .u8 p.f, .int .i64 p.n, .int .i64 p.k, .int .i64 p.t, .int .i64 p.s, .int .i64 p.e, .int .i64 p.d, .int .i64 p.w] T1)
 have s1 : (w.alloc (.cells #[.int .u8 p.f, .int .i64 p.n, .int .i64 p.k, .int .i64 p.t, .int .i64 p.s, .int .i64 p.e, .int .i64 p.d, .int .i64 p.w] T1)).heap.size = w.heap.size + 1 := by simp
 generalize w.alloc (.cells #[.int .u8 p.f, .int .i64 p.n, .int .i64 p.k, .int .i64 p.t, .int .i64 p.s, .int .i64 p.e, .int .i64 p.d, .int .i64 p.w] T1) = V1 at *
 have n2 := heap_alloc_new V1 (.cells #[.int .i64 n, vo, vu, vd, vp] T2)
 have b2 := alloc_below V1 (.cells #[.int .i64 n, vo, vu, vd, vp] T2)
 rw [s1] at n2
 have m1 := blk8 n1 b2
 refine ⟨_, rfl, Below.next b1 b2, fun W hb => ?_⟩
 have h1 := blk8 m1 hb
 have h2 := blk8 n2 hb
 exact ⟨⟨cell_at h1 rfl, cell_at h1 rfl, cell_at h1 rfl, cell_at h1 rfl, cell_at h1 rfl, cell_at h1 rfl, cell_at h1 rfl, cell_at h1 rfl⟩, cell_at h2 rfl, cell_at h2 rfl, cell_at h2 rfl, cell_at h2 rfl, cell_at h2 rfl⟩
end Go.Proofs.YtjhididlcdepdaaGreat
namespace Go.Proofs.YtjhididlcdepdaaGreat
open Go.RowKit Fld Pln
theorem dMayReply (p : Pn) (n : Int) (i : Int) (v : Value) (vs : List Int) (w : World) (hp : Ok8p p) (h : Rw w v vs) : Calls Tryz.prog 11 #[plv p, .int .i64 n, .agg #[.int .i64 i, v]] w fun e w' => e = .returned (.bool (mrB p n ⟨i, vs⟩)) ∧ Below w.heap.size w w' := by
 have HM := hide (fun W => dMayP p hp W)
 have HI := hide (fun W (hb : Below w.heap.size w W) => rIn_any p.f v vs W (h.below hb).1)
 obtain ⟨pb, hA⟩ := pb_box (w := w) p
 obtain ⟨d0, d1, hD⟩ := rp_box (w.alloc (.cells #[.int .u8 p.f, .int .i64 p.n, .int .i64 p.k, .int .i64 p.t, .int .i64 p.s, .int .i64 p.e, .int .i64 p.d, .int .i64 p.w] 24)) i v
 have pb2 := pb.below hD
 have hA2 := Below.next hA hD
 obtain ⟨ao, cap, rfl, _⟩ := h.spell
 have hsz : (w.alloc (.cells #[.int .u8 p.f, .int .i64 p.n, .int .i64 p.k, .int .i64 p.t, .int .i64 p.s, .int .i64 p.e, .int .i64 p.d, .int .i64 p.w] 24)).heap.size = w.heap.size + 1 := by simp
 rw [hsz] at d0 d1
 clear h pb hD hA hsz
 unfold mrB asB isW
 dsimp only
 generalize mayP p = b0 at *
 generalize inF p.f vs = b3 at *
 generalize vs.length = m at *
 have HC : Hid (∀ W', Below ((w.alloc (.cells #[.int .u8 p.f, .int .i64 p.n, .int .i64 p.k, .int .i64 p.t, .int .i64 p.s, .int .i64 p.e, .int .i64 p.d, .int .i64 p.w] 24)).alloc (.cells #[.int .i64 i, .slice ao m cap] 38)).heap.size ((w.alloc (.cells #[.int .u8 p.f, .int .i64 p.n, .int .i64 p.k, .int .i64 p.t, .int .i64 p.s, .int .i64 p.e, .int .i64 p.d, .int .i64 p.w] 24)).alloc (.cells #[.int .i64 i, .slice ao m cap] 38)) W' -> Pb W' w.heap.size p ∧ W'.cell? ⟨w.heap.size + 1, 0, none⟩ = some (.int .i64 i) ∧ W'.cell? ⟨w.heap.size + 1, 1, none⟩ = some (.slice ao m cap)) := fun W' hb => ⟨pb2.below hb, (hb.cell (p := ⟨w.heap.size + 1, 0, none⟩) (cell_in d0)).trans d0, (hb.cell (p := ⟨w.heap.size + 1, 1, none⟩) (cell_in d1)).trans d1⟩
 obtain ⟨c0, c1, c2, c3, c4, c5, c6, c7⟩ := pb2.cells
 clear pb2
 unfold plv plw at *
 have hcs : b0 = false ∨ (b0 = true ∧ ¬ 0 <= n) ∨ (b0 = true ∧ 0 <= n ∧ ¬ n <= 64) ∨ (b0 = true ∧ 0 <= n ∧ n <= 64 ∧ ¬ 0 <= i) ∨ (b0 = true ∧ 0 <= n ∧ n <= 64 ∧ 0 <= i ∧ ¬ i < p.n) ∨ (b0 = true ∧ 0 <= n ∧ n <= 64 ∧ 0 <= i ∧ i < p.n ∧ ¬ (m : Int) = n) ∨ (b0 = true ∧ 0 <= n ∧ n <= 64 ∧ 0 <= i ∧ i < p.n ∧ (m : Int) = n) := by
  cases b0
  · simp
  · simp; omega
 rcases hcs with rfl | ⟨rfl, n0⟩ | ⟨rfl, n0, n1⟩ | ⟨rfl, n0, n1, i0⟩ | ⟨rfl, n0, n1, i0, i1⟩ | ⟨rfl, n0, n1, i0, i1, e⟩ | ⟨rfl, n0, n1, i0, i1, e⟩
 all_goals
  go_enter Tryz.func11, Tryz.ntmps11
  go_upto_region 1 with fail
  generalize (w.alloc (.cells #[.int .u8 p.f, .int .i64 p.n, .int .i64 p.k, .int .i64 p.t, .int .i64 p.s, .int .i64 p.e, .int .i64 p.d, .int .i64 p.w] 24)).alloc (.cells #[.int .i64 i, .slice ao m cap] 38) = W0 at *
  go_wp2_with (first
   | (go_at_call 39; refine (HM.out _).mono ?_; rintro e w1 ⟨rfl, hb1⟩; obtain ⟨pb1, d10, d11⟩ := HC.out _ hb1; clear c0 c1 c2 c3 c4 c5 c6 c7 d0 d1; obtain ⟨c0, c1, c2, c3, c4, c5, c6, c7⟩ := pb1.cells)
   | (go_at_call 40; refine (HI.out _ (Below.next hA2 hb1)).mono ?_; rintro e w2 ⟨rfl, hw⟩; rw [hw]; clear hw))
  go_ret
 · exact ⟨by simp, Below.next hA2 hb1⟩
 · exact ⟨by simp; omega, Below.next hA2 hb1⟩
 · exact ⟨by simp; omega, Below.next hA2 hb1⟩
 · exact ⟨by simp; omega, Below.next hA2 hb1⟩
 · exact ⟨by simp; omega, Below.next hA2 hb1⟩
 · exact ⟨by simp [e], Below.next hA2 hb1⟩
 · exact ⟨by simp [n0, n1, i0, i1, e], Below.next hA2 hb1⟩
end Go.Proofs.YtjhididlcdepdaaGreat
namespace Go.Proofs.YtjhididlcdepdaaGreat
open Go.RowKit Fld Pln Slp Shr
theorem rs_of_bk8 {p : Pn} {q : Pr} {dl pl : List (List Int)} (hf : fitQ p q = true) (hz : bkE p dl pl [] = 0) : rsE p q dl = 0 := by
 unfold bkE at hz
 split at hz
 · rename_i h1
   split at hz
   · rename_i h2
     simp only [Bool.and_eq_true] at h1 h2
     unfold rsE
     rw [if_pos hf, if_pos h1.1.1.2, if_pos h2.1]
   · cases hz
 · cases hz
theorem regTells_any (p : Pn) (t0 t1 t2 vd vp vl : Value) (q : Pr) (dl pl : List (List Int)) (us : List Rq) (w : World) (hp : Ok8p p) (hq : Pm w (.agg #[t0, t1, t2]) q) (h1 : Rws w vd dl) (h2 : Rws w vp pl) (h3 : Rpl w vl us) :
 Calls Tryz.prog 5 #[plv p, .agg #[t0, t1, t2, vd, vp], vl] w fun e w' => e = .returned (.bool true) ∧ Below w.heap.size w w' := by
 obtain ⟨vo, vu, he, ho, hu⟩ := hq.form
 obtain ⟨ao, ca, rfl, _⟩ := ho.spell
 obtain ⟨au, cu, rfl, _⟩ := hu.spell
 obtain ⟨rfl, rfl, rfl⟩ : t0 = .int .i64 q.inp ∧ t1 = .slice ao q.ops.length ca ∧ t2 = .slice au q.outs.length cu := by simpa using he
 have HAc := hide (dAccept p hp)
 have HF := hide (fun W (hb : Below w.heap.size w W) => dFits16 p q _ W hp (hq.below hb))
 have HBd := hide (fun W (hb : Below w.heap.size w W) => dBad14 p vd vp dl pl W hp (h1.below hb) (h2.below hb))
 have HAl := hide (fun W (hb : Below w.heap.size w W) => dAll16 p q _ vd vp dl pl W hp (hq.below hb) (h1.below hb) (h2.below hb))
 have HRs := hide (fun W (hb : Below w.heap.size w W) => dResults16 p q _ vd dl W hp (hq.below hb) (h1.below hb))
 have HG := hide (fun W v (ws : List Rq) (hR : Rpl W v ws) => gRecover p q.outs.length v ws W hp hR)
 unfold GivesL11 at HRs
 unfold Ans at HAc
 have HX := hide anch18
 unfold Ans at HX
 have W1' := h1.wordsH
 have W2' := h2.wordsH
 have hlw := h3.wd
 obtain ⟨q3, q4⟩ := rs_wd p q h1.wordsL
 have WD2 : Hid (∀ W lo hi v us, Lss W lo hi v us (rsL p q dl) -> Rws W v (rsL p q dl)) := fun W lo hi v us h => h.rws q4 (by omega)
 have HMr : Hid (∀ k, k < us.length -> ∀ W, Below w.heap.size w W -> Calls Tryz.prog 11 #[plv p, .int .i64 q.outs.length, .agg #[.int .i64 (us.getD k zRq).1, (us.getD k zRq).2.1]] W fun e w' => e = .returned (.bool (mrB p q.outs.length ((rps us).getD k nrp))) ∧ Below W.heap.size W w') := fun k hk W hb => by
  rw [rps_at]
  exact dMayReply p q.outs.length _ _ _ W hp ((h3.row _ (getD_inQ hk)).below hb)
 have HCpL := hide (fun k (hk : k < us.length) W (hb : Below w.heap.size w W) => Copy_any (us.getD k zRq).2.1 (us.getD k zRq).2.2 W ((h3.row _ (getD_inQ hk)).below hb).1)
 have HL := hide h3
 have hlen := h3.big
 obtain ⟨ad, cd, rfl, _, _, _⟩ := h1
 obtain ⟨ap, cp, rfl, _, _, _⟩ := h2
 obtain ⟨al, cl, rfl, _⟩ := h3.spell
 obtain ⟨W1, hW, hA, hS⟩ := rnd_box w p q.inp (.slice ao q.ops.length ca) (.slice au q.outs.length cu) (.slice ad dl.length cd) (.slice ap pl.length cp) 24 51
 have HW := hide hW
 have HS := hide hS
 clear hW hS ho hu hq hp h3 q3 q4 he
 have HPe := hide (plan_eq8 (p := p))
 obtain ⟨⟨c0, c1, c2, c3, c4, c5, c6, c7⟩, d0, d1, d2, d3, d4⟩ := HS.out _ (Below.refl _ _)
 by_cases e1 : acE p = 0
 · obtain ⟨hm, ha⟩ := acE_zero.1 e1
   rw [e1] at HAc
   cases hf : fitQ p q with
   | false =>
    rw [ftQ_no hf] at HF
    clear HBd HAl HRs HG WD2 HMr HCpL HL e1 hf hm ha W1' W2' hlw
    rw [plan_eq8] at *
    generalize dl.length = nd at *
    generalize pl.length = np at *
    go_enter Tryz.func5, Tryz.ntmps5
    go_upto_region 1 with fail
    rw [HW.out]
    go_wp2_with (first
     | (go_at_call 16; refine (HAc.out _).mono ?_; rintro e w1 ⟨rfl, hb1⟩; have hB1 := Below.next hA hb1; clear c0 c1 c2 c3 c4 c5 c6 c7 d0 d1 d2 d3 d4; obtain ⟨⟨c0, c1, c2, c3, c4, c5, c6, c7⟩, d0, d1, d2, d3, d4⟩ := HS.out _ hb1)
     | (go_at_call 17; refine (HF.out _ hB1).mono ?_; rintro e w2 ⟨rfl, hb2⟩; have hB2 := Below.next hB1 hb2; clear c0 c1 c2 c3 c4 c5 c6 c7 d0 d1 d2 d3 d4)
     | (go_at_call 13; refine (HX.out _).mono ?_; rintro e w9 ⟨rfl, hb9⟩; have hB9 := Below.next hB2 hb9))
    go_ret
    exact ⟨rfl, hB9⟩
   | true =>
    rw [ftQ_yes hf] at HF
    by_cases hz : bkE p dl pl [] = 0
    · have HTl : Hid (∀ k, k <= us.length -> (k : Int) <= p.e -> rcE p q.outs.length (rpsN (lieL p q.outs.length (hsL p q dl pl) (rps us) k)) = 0 ∧ rcR p q.outs.length (rpsN (lieL p q.outs.length (hsL p q dl pl) (rps us) k)) = rsL p q dl ∧ rcW p q.outs.length (rpsN (lieL p q.outs.length (hsL p q dl pl) (rps us) k)) = wrR (hsL p q dl pl) (rpsN (lieL p q.outs.length (hsL p q dl pl) (rps us) k)) p.n.toNat) := fun k hk hke => by
       have := tells_lies W1' W2' ha hf hz hlw (hsL_in W1' W2' ha hf hz) (k := k) (by rw [rps_len]; exact hk) hke
       rw [wrR_all]
       have e : rsL p q dl = dl.map (rnO (Rf p.f) q) := if_pos (rs_of_bk8 hf hz)
       rw [e]
       exact this
      rw [hz] at HBd
      rw [hnA_eq W1' W2' hf hz] at HAl
      rw [rs_of_bk8 hf hz] at HRs
      have hhl := hsL_len p q dl pl
      have hmf := may_facts hm
      have HIw := hide (fun b hb => (hsL_in W1' W2' ha hf hz b hb).1)
      obtain ⟨NN, hNN⟩ : ∃ NN : Nat, p.n = (NN : Int) := ⟨p.n.toNat, by omega⟩
      have hN64 : NN <= 64 := by omega
      have hN1 : 1 <= NN := by omega
      have hNt : p.n.toNat = NN := by omega
      have he0 : 0 <= p.e := by omega
      have HNN : Hid (p.n = (NN : Int)) := hNN
      rw [hNt] at hhl HTl
      have HMrb : Hid (∀ r : Rp, mrB p q.outs.length r = true -> 0 <= r.w ∧ r.w < (NN : Int)) := fun r hr => by
       have := (mrB_iff.1 hr).2.1
       unfold isW at this
       exact ⟨by have := this.1; omega, by have := this.2; omega⟩
      generalize hsL p q dl pl = hs at *
      clear hm ha hf hz hmf hNN hNt e1 W1' W2'
      rw [plan_eq8] at HAc HF HBd HAl HRs HMr ⊢
      generalize dl.length = nd at *
      generalize pl.length = np at *
      go_enter Tryz.func5, Tryz.ntmps5
      go_upto_region 1 with fail
      rw [HW.out]
      go_upto_region 4 with (first
       | (go_at_call 16; refine (HAc.out _).mono ?_; rintro e w1 ⟨rfl, hb1⟩; have hB1 := Below.next hA hb1; clear c0 c1 c2 c3 c4 c5 c6 c7 d0 d1 d2 d3 d4; obtain ⟨⟨c0, c1, c2, c3, c4, c5, c6, c7⟩, d0, d1, d2, d3, d4⟩ := HS.out _ hb1)
       | (go_at_call 17; refine (HF.out _ hB1).mono ?_; rintro e w2 ⟨rfl, hb2⟩; have hC2 := Below.next hb1 hb2; have hB2 := Below.next hA hC2; clear c0 c1 c2 c3 c4 c5 c6 c7 d0 d1 d2 d3 d4; obtain ⟨⟨c0, c1, c2, c3, c4, c5, c6, c7⟩, d0, d1, d2, d3, d4⟩ := HS.out _ hC2)
       | (go_at_call 18; refine (HBd.out _ hB2).mono ?_; rintro e w3 ⟨rfl, hb3⟩; have hC3 := Below.next hC2 hb3; have hB3 := Below.next hA hC3; clear c0 c1 c2 c3 c4 c5 c6 c7 d0 d1 d2 d3 d4; obtain ⟨⟨c0, c1, c2, c3, c4, c5, c6, c7⟩, d0, d1, d2, d3, d4⟩ := HS.out _ hC3)
       | (go_at_call 19; refine (HAl.out _ hB3).mono ?_; rintro e w5 ⟨vh, rfl, hH, hb4⟩; have hC5 := Below.next hC3 hb4; have hA5 := Below.next hA hC5; clear c0 c1 c2 c3 c4 c5 c6 c7 d0 d1 d2 d3 d4))
      have HS5 := hide (fun V (hb : Below w5.heap.size w5 V) => HS.out V (Below.next hC5 hb))
      have HH := hide hH
      obtain ⟨ah, ch, rfl, _, hcah, hch⟩ := hH
      rw [hhl]
      clear HW HS HAc HF HBd HAl hb1 hb2 hb3 hb4 hB1 hB2 hB3 hC2 hC3 hC5 hA
      obtain ⟨⟨c0, c1, c2, c3, c4, c5, c6, c7⟩, d0, d1, d2, d3, d4⟩ := HS5.out _ (Below.refl _ _)
      go_wp2_with fail
      go_loopw [8, 9] (fun vl vi wv => ∃ (k : Nat) (la : Option Addr) (lc : Nat) (ws : List Rq), k <= NN ∧ vi = .int .i64 k ∧ vl = .slice la k lc ∧ ws.length = k ∧ Hid (rps ws = (rpsN hs).take k) ∧ Hid (Rown w5.heap.size wv (.slice la k lc) ws) ∧ Below w5.heap.size w5 wv) (fun _ vi _ => NN - (intOf vi).toNat)
      case atStart => exact ⟨0, none, 0, [], Nat.zero_le _, rfl, rfl, rfl, rfl, Rown.nil _ _, Below.refl _ _⟩
      case round =>
       clear c0 c1 c2 c3 c4 c5 c6 c7 d0 d1 d2 d3 d4
       obtain ⟨k, la, lc, ws, hk, rfl, rfl, hwl, HE, HO, hB⟩ := hrel
       obtain ⟨⟨c0, c1, c2, c3, c4, c5, c6, c7⟩, d0, d1, d2, d3, d4⟩ := HS5.out _ hB
       by_cases hlt : k < NN
       · obtain ⟨b, off, rfl, hbl, hcell⟩ := hch (by intro h; rw [h] at hhl; simp at hhl; omega)
         obtain ⟨u, hu, hR⟩ := hcell k (by omega)
         have hck := (hB.cell (p := ⟨b, off + k, none⟩) hbl).trans hu
         have HCp := hide (Copy_any u (hs.getD k []) wr (hR.below hB).1)
         have HWk : Hid (Wd (hs.getD k [])) := ⟨hR.len, hR.words⟩
         have HEn : Hid ((rpsN hs).take (k + 1) = (rpsN hs).take k ++ [⟨(k : Int), hs.getD k []⟩]) := by
          show _ = _
          have hl : k < (rpsN hs).length := by rw [rpsN_len]; omega
          have e := rpsN_at (l := hs) (i := k) (by omega)
          rw [List.getD_eq_getElem?_getD, List.getElem?_eq_getElem hl] at e
          rw [List.take_succ_eq_append_getElem hl]
          exact congrArg (fun z => (rpsN hs).take k ++ [z]) e
         obtain ⟨a8, c8, rfl, _⟩ := hR.spell
         have k0 : (0 : Int) <= (k : Int) := by omega
         have k1 : (k : Int) < (NN : Int) := by omega
         have k2 : (k : Int) < p.n := by rw [HNN.out]; exact k1
         clear hcell hch hR hu HG HX HRs HTl HMr HCpL HL
         generalize hs.getD k [] = l9 at *
         go_wp2_with (first
          | (go_at_call 20; refine HCp.out.mono ?_; rintro e w6 ⟨v6, rfl, o6, hb6⟩; obtain ⟨a6, c6', rfl⟩ := own_form o6; have hB6 := Below.next hB hb6; have hal := alloc_below w6 (.cells #[.int .i64 (k : Int), .slice a6 l9.length c6'] 38); obtain ⟨f0, f1, _⟩ := rp_box w6 (k : Int) (.slice a6 l9.length c6'); have HO6 := hide ((HO.out.below hb6).below hal); obtain ⟨a7, c7', w7, hr, ho7, hb7, hg7, _⟩ := appR1 (w6.alloc (.cells #[.int .i64 (k : Int), .slice a6 l9.length c6'] 38)) w5.heap.size (.slice la k lc) ws ⟨w6.heap.size, 0, none⟩ ((k : Int), .slice a6 l9.length c6', l9) HO6.out.row f0 f1 ⟨_, _, _, rfl⟩ (by omega) (Nat.le_trans hB6.size hal.size); have HO7 := hide (HO6.out.push (x := ((k : Int), .slice a6 l9.length c6', l9)) (own_below (own_mono o6 hB.size) hal) HWk.out ⟨by show (_ : Int) <= (k : Int); omega, by show (k : Int) <= _; omega⟩ ho7 hg7); rw [hwl] at hr HO7; have hB7 := (Below.next hB6 hal).trans hb7; clear ho7 hb7 hg7 HO6 o6 f0 f1)
          | (at_builtin; refine Lib.wpList_append_run _ rfl _ _ _ _ rfl _ _ rfl rfl _ _ hr ?_))
         have HE7 : Hid (rps (ws ++ [((k : Int), .slice a6 l9.length c6', l9)]) = (rpsN hs).take (k + 1)) := by
          show _ = _
          rw [HEn.out, <- HE.out]
          unfold rps
          rw [List.map_append]; rfl
         have hl7 : (ws ++ [(((k : Int), .slice a6 l9.length c6', l9) : Rq)]).length = k + 1 := by rw [List.length_append, hwl]; rfl
         clear HE HEn HO
         go_roundw
         case rel => exact ⟨k + 1, a7, c7', _, by omega, by go_num, rfl, hl7, HE7, HO7, hB7⟩
         case measure => simp [intOf]; omega
       · obtain rfl : NN = k := by omega
         have k2 : ¬ (NN : Int) < p.n := by rw [HNN.out]; omega
         have hE0 := HE.out
         rw [<- hhl, <- rpsN_len, List.take_length] at hE0
         have HE0 : Hid (rps ws = rpsN hs) := hE0
         obtain ⟨g, cg, hla, hg0, _⟩ := HO.out.row.form (by omega)
         injection hla with hla hl9 hlc
         subst hla
         clear HE hE0 hlc hl9
         go_wp2_with fail
         go_loopw [12] (fun vi wv => ∃ (k : Nat) (ws : List Rq), k <= us.length ∧ (k : Int) <= p.e ∧ vi = .int .i64 k ∧ ws.length = NN ∧ Hid (rps ws = rpsN (lieL p q.outs.length hs (rps us) k)) ∧ Hid (Rown w5.heap.size wv (.slice (some ⟨g, 0, none⟩) NN lc) ws) ∧ Below w5.heap.size w5 wv) (fun vi _ => us.length - (intOf vi).toNat)
         case atStart => exact ⟨0, ws, Nat.zero_le _, he0, rfl, hwl, by rw [lieL_zero]; exact HE0, HO, hB⟩
         case round =>
          clear c0 c1 c2 c3 c4 c5 c6 c7 d0 d1 d2 d3 d4 HE0 HO hB hwl k2
          obtain ⟨k, ws, hk, hke, rfl, hwl, HE, HO, hB⟩ := hrel
          obtain ⟨⟨c0, c1, c2, c3, c4, c5, c6, c7⟩, d0, d1, d2, d3, d4⟩ := HS5.out _ hB
          by_cases hlt : k < us.length
          · by_cases hle : (k : Int) < p.e
            · obtain ⟨b, off, cp', heq, _, _⟩ := HL.out.lm.form (by omega)
              cases heq
              have hBw := Below.next hA5 hB
              have HCl := hide (fun V (hb : Below wr.heap.size wr V) => HL.out.cell (Below.next hBw hb) hlt)
              obtain ⟨a9, c9, h9⟩ := HL.out.one hlt
              have HI := hide (fun V (hb : Below wr.heap.size wr V) => HMr.out k hlt V (Below.next hBw hb))
              have HCp := hide (fun V (hb : Below wr.heap.size wr V) => HCpL.out k hlt V (Below.next hBw hb))
              have HNx := hide (lieL_next p q.outs.length hs (lies := rps us) (k := k) (by rw [rps_len]; exact hlt))
              have HWk : Hid (Wd (us.getD k zRq).2.2) := ⟨(HL.out.row _ (getD_inQ hlt)).len, (HL.out.row _ (getD_inQ hlt)).words⟩
              rw [rps_at] at HNx HI
              rw [h9] at HCl HI HCp
              have hdr : Below wr.heap.size wr wr.drew := (Below.refl _ wr).drew
              have k0 : (0 : Int) <= (k : Int) := by omega
              have k1 : (k : Int) < (us.length : Int) := by omega
              cases hbm : mrB p q.outs.length (rpO (us.getD k zRq)) with
              | false =>
               have HE2 : Hid (rps ws = rpsN (lieL p q.outs.length hs (rps us) (k + 1))) := by
                show _ = _
                rw [HNx.out, HE.out]
                unfold lieS
                rw [hbm]; rfl
               rw [hbm] at HI
               clear hbm HNx HWk HCp h9 HG HX HRs HTl HMr HCpL HL HE
               generalize (us.getD k zRq).1 = i9 at *
               generalize (us.getD k zRq).2.2.length = m9 at *
               have HSs : Hid (∀ V, Below wr.heap.size wr V -> (V.cell? ⟨w.heap.size, 0, none⟩ = some (.int .u8 p.f) ∧ V.cell? ⟨w.heap.size, 1, none⟩ = some (.int .i64 p.n) ∧ V.cell? ⟨w.heap.size, 2, none⟩ = some (.int .i64 p.k) ∧ V.cell? ⟨w.heap.size, 3, none⟩ = some (.int .i64 p.t) ∧ V.cell? ⟨w.heap.size, 4, none⟩ = some (.int .i64 p.s) ∧ V.cell? ⟨w.heap.size, 5, none⟩ = some (.int .i64 p.e) ∧ V.cell? ⟨w.heap.size, 6, none⟩ = some (.int .i64 p.d) ∧ V.cell? ⟨w.heap.size, 7, none⟩ = some (.int .i64 p.w)) ∧ V.cell? ⟨b, off + k * 2, none⟩ = some (.int .i64 i9) ∧ V.cell? ⟨b, off + k * 2 + 1, none⟩ = some (.slice a9 m9 c9)) := fun V hb => ⟨(HS5.out V (Below.next hB hb)).1, (HCl.out V hb).1, (HCl.out V hb).2.1⟩
               have hS0 := HSs.out _ hdr
               obtain ⟨_, s0, s1⟩ := HSs.out _ (Below.refl _ _)
               go_upto_region 15 with fail
               refine wp_region_held_drew (S := (fun V => (V.cell? ⟨w.heap.size, 0, none⟩ = some (.int .u8 p.f) ∧ V.cell? ⟨w.heap.size, 1, none⟩ = some (.int .i64 p.n) ∧ V.cell? ⟨w.heap.size, 2, none⟩ = some (.int .i64 p.k) ∧ V.cell? ⟨w.heap.size, 3, none⟩ = some (.int .i64 p.t) ∧ V.cell? ⟨w.heap.size, 4, none⟩ = some (.int .i64 p.s) ∧ V.cell? ⟨w.heap.size, 5, none⟩ = some (.int .i64 p.e) ∧ V.cell? ⟨w.heap.size, 6, none⟩ = some (.int .i64 p.d) ∧ V.cell? ⟨w.heap.size, 7, none⟩ = some (.int .i64 p.w)) ∧ V.cell? ⟨b, off + k * 2, none⟩ = some (.int .i64 i9) ∧ V.cell? ⟨b, off + k * 2 + 1, none⟩ = some (.slice a9 m9 c9))) (by kernel_rfl) (by ((try dsimp only) <;> (first | with_reducible exact hS1 | with_reducible exact hS0))) (fun hHeld => ?_)
               refine tkY 0 ?_
               refine tkY 1 ?_
               refine tkY 2 ?_
               refine tkY 3 ?_
               refine tkY 4 ?_
               refine tkY 5 ?_
               refine rd1 6 (fun K hK => ?_)
               (try simp only [ly0, ly1, ly2, ly3, ly4, ly5, ly6, ly7])
               go_simp
               (go_at_call 11; refine (HI.out _ hdr).mono ?_; rintro e w6 ⟨rfl, hb6⟩; have hC6 := Below.next hdr hb6; have hS1 := HSs.out _ hC6)
               first | refine hK.out _ _ ?k19 (fun hHeld => ?_) | (go_wp2_with fail; refine hK.out _ _ ?k19 (fun hHeld => ?_))
               case k19 => ((try dsimp only) <;> (first | with_reducible exact hS1 | with_reducible exact hS0))
               clear hK K
               (try simp only [ly0, ly1, ly2, ly3, ly4, ly5, ly6, ly7])
               refine wpAnyH_done (by kernel_rfl) ?_ _
               have hB6 := Below.next hB hC6
               have HO6 := hide (HO.out.below hC6)
               clear hS0 hS1 HSs HI s0 s1 HO c0 c1 c2 c3 c4 c5 c6 c7 d0 d1 d2 d3 d4
               go_wp2_with fail
               go_roundw
               case rel => exact ⟨k + 1, ws, by omega, by omega, by go_num, hwl, HE2, HO6, hB6⟩
               case measure => simp [intOf]; omega
              | true =>
               obtain ⟨J, hJ, hJN⟩ : ∃ J : Nat, (us.getD k zRq).1 = (J : Int) ∧ J < NN := by
                obtain ⟨j0, j1⟩ := HMrb.out _ hbm
                change 0 <= (us.getD k zRq).1 at j0
                change (us.getD k zRq).1 < (NN : Int) at j1
                exact ⟨(us.getD k zRq).1.toNat, by omega, by omega⟩
               have hwJ : (ws.getD J zRq).1 = (J : Int) := by
                have h8 := rps_at ws J
                rw [HE.out, rpsN_at (by rw [lieL_len, hhl]; exact hJN)] at h8
                unfold rpO at h8
                injection h8 with h8 _
                exact h8.symm
               have HE2 : Hid (∀ u, rps (ws.set J ((ws.getD J zRq).1, u, (us.getD k zRq).2.2)) = rpsN (lieL p q.outs.length hs (rps us) (k + 1))) := fun u => by
                have hlt' : J < (lieL p q.outs.length hs (rps us) k).length := by rw [lieL_len, hhl]; exact hJN
                rw [HNx.out, rps_set, HE.out]
                unfold lieS
                rw [if_pos hbm]
                have e : (rpO (us.getD k zRq)).w.toNat = J := by show (us.getD k zRq).1.toNat = J; omega
                rw [e, rpsN_set hlt', hwJ]
                rfl
               rw [hbm] at HI
               rw [hJ] at HCl HI
               obtain ⟨a7, c7', h7⟩ := (HO.out.rpl (by omega)).one (i := J) (by omega)
               have HPt : Hid (∀ V, Below wr.heap.size wr V -> V.cell? ⟨g, J * 2 + 1, none⟩ = some (.slice a7 (ws.getD J zRq).2.2.length c7') ∧ V.frozen? ⟨g, J * 2 + 1, none⟩ = false) := fun V hb => by
                have hO' := HO.out.below hb
                have hc' := ((hO'.rpl (by omega)).cell (Below.refl _ _) (k := J) (by omega)).2.1
                rw [h7, Nat.zero_add] at hc'
                refine ⟨hc', ?_⟩
                rcases hO'.row.2 with ⟨e, _⟩ | ⟨g', cap', cur, e, _, h3', _⟩
                · cases e
                · cases e
                  simp [World.frozen?, h3']
               have HNw : Hid (∀ V u, Below wr.heap.size wr V -> V.ownsRow w5.heap.size 64 1 u (us.getD k zRq).2.2.length (vals (us.getD k zRq).2.2) -> Rown w5.heap.size (V.setCell ⟨g, J * 2 + 1, none⟩ u) (.slice (some ⟨g, 0, none⟩) NN lc) (ws.set J ((ws.getD J zRq).1, u, (us.getD k zRq).2.2)) ∧ Below w5.heap.size w5 (V.setCell ⟨g, J * 2 + 1, none⟩ u)) := fun V u hb hv => ⟨(HO.out.below hb).put hwl hJN hv HWk.out, (Below.next hB hb).setCell (p := ⟨g, J * 2 + 1, none⟩) hg0 _⟩
               have hsw := hB.size
               clear hbm HNx HWk h9 HG HX HRs HTl HMr HCpL HL HE hJ h7
               generalize (us.getD k zRq).2.2 = l9 at *
               generalize (ws.getD J zRq).2.2.length = m7 at *
               have HSs : Hid (∀ V, Below wr.heap.size wr V -> (V.cell? ⟨w.heap.size, 0, none⟩ = some (.int .u8 p.f) ∧ V.cell? ⟨w.heap.size, 1, none⟩ = some (.int .i64 p.n) ∧ V.cell? ⟨w.heap.size, 2, none⟩ = some (.int .i64 p.k) ∧ V.cell? ⟨w.heap.size, 3, none⟩ = some (.int .i64 p.t) ∧ V.cell? ⟨w.heap.size, 4, none⟩ = some (.int .i64 p.s) ∧ V.cell? ⟨w.heap.size, 5, none⟩ = some (.int .i64 p.e) ∧ V.cell? ⟨w.heap.size, 6, none⟩ = some (.int .i64 p.d) ∧ V.cell? ⟨w.heap.size, 7, none⟩ = some (.int .i64 p.w)) ∧ V.cell? ⟨b, off + k * 2, none⟩ = some (.int .i64 (J : Int)) ∧ V.cell? ⟨b, off + k * 2 + 1, none⟩ = some (.slice a9 l9.length c9)) := fun V hb => ⟨(HS5.out V (Below.next hB hb)).1, (HCl.out V hb).1, (HCl.out V hb).2.1⟩
               have hS0 := HSs.out _ hdr
               obtain ⟨_, s0, s1⟩ := HSs.out _ (Below.refl _ _)
               have J0 : (0 : Int) <= (J : Int) := by omega
               have J1 : (J : Int) < (NN : Int) := by omega
               go_upto_region 15 with fail
               refine wp_region_held_drew (S := (fun V => (V.cell? ⟨w.heap.size, 0, none⟩ = some (.int .u8 p.f) ∧ V.cell? ⟨w.heap.size, 1, none⟩ = some (.int .i64 p.n) ∧ V.cell? ⟨w.heap.size, 2, none⟩ = some (.int .i64 p.k) ∧ V.cell? ⟨w.heap.size, 3, none⟩ = some (.int .i64 p.t) ∧ V.cell? ⟨w.heap.size, 4, none⟩ = some (.int .i64 p.s) ∧ V.cell? ⟨w.heap.size, 5, none⟩ = some (.int .i64 p.e) ∧ V.cell? ⟨w.heap.size, 6, none⟩ = some (.int .i64 p.d) ∧ V.cell? ⟨w.heap.size, 7, none⟩ = some (.int .i64 p.w)) ∧ V.cell? ⟨b, off + k * 2, none⟩ = some (.int .i64 (J : Int)) ∧ V.cell? ⟨b, off + k * 2 + 1, none⟩ = some (.slice a9 l9.length c9))) (by kernel_rfl) (by ((try dsimp only) <;> (first | with_reducible exact hS1 | with_reducible exact hS0))) (fun hHeld => ?_)
               refine tkY 0 ?_
               refine tkY 1 ?_
               refine tkY 2 ?_
               refine tkY 3 ?_
               refine tkY 4 ?_
               refine tkY 5 ?_
               refine rd1 6 (fun K hK => ?_)
               (try simp only [ly0, ly1, ly2, ly3, ly4, ly5, ly6, ly7])
               go_simp
               (go_at_call 11; refine (HI.out _ hdr).mono ?_; rintro e w6 ⟨rfl, hb6⟩; have hC6 := Below.next hdr hb6; have hS1 := HSs.out _ hC6)
               first | refine hK.out _ _ ?k20 (fun hHeld => ?_) | (go_wp2_with fail; refine hK.out _ _ ?k20 (fun hHeld => ?_))
               case k20 => ((try dsimp only) <;> (first | with_reducible exact hS1 | with_reducible exact hS0))
               clear hK K
               (try simp only [ly0, ly1, ly2, ly3, ly4, ly5, ly6, ly7])
               refine wpAnyH_done (by kernel_rfl) ?_ _
               clear hS0 hS1 s0 s1 c0 c1 c2 c3 c4 c5 c6 c7 d0 d1 d2 d3 d4 HO
               obtain ⟨_, s0, s1⟩ := HSs.out _ hC6
               clear HSs HI
               go_wp2_with (go_at_call 20; refine (HCp.out _ hC6).mono ?_; rintro e w7 ⟨v7, rfl, o7, hb7⟩; obtain ⟨a6, c6', rfl⟩ := own_form o7; have hC7 := Below.next hC6 hb7; obtain ⟨s2, s3⟩ := HPt.out _ hC7; have HNw7 := hide (HNw.out _ _ hC7 (own_mono o7 (Nat.le_trans hsw hC6.size))); clear o7)
               have HO8 := hide HNw7.out.1
               have hB8 := HNw7.out.2
               clear HNw7 HNw HPt HCp
               go_roundw
               case rel => exact ⟨k + 1, _, by omega, by omega, by go_num, by rw [List.length_set]; exact hwl, HE2.out _, HO8, hB8⟩
               case measure => simp [intOf]; omega
            · clear c0 c1 c2 c3 c4 c5 c6 c7 d0 d1 d2 d3 d4
              have HLw : Hid (rcE p q.outs.length (rps ws) = 0 ∧ rcR p q.outs.length (rps ws) = rsL p q dl ∧ rcW p q.outs.length (rps ws) = wrR hs (rps ws) NN) := by
               show _ ∧ _
               rw [HE.out]
               exact HTl.out k hk hke
              have HRl := hide (HO.out.rpl (by omega))
              have HGw : Hid (∀ V, Below wr.heap.size wr V -> GivesRc 8 #[plv p, .int .i64 q.outs.length, .slice (some ⟨g, 0, none⟩) NN lc] V (rsL p q dl) (rcP p q.outs.length (rps ws)) (wrR hs (rps ws) NN) 0) := fun V hb => by
               have := HG.out V _ ws (HRl.out.below hb)
               rw [HLw.out.1, HLw.out.2.1, HLw.out.2.2] at this
               exact this
              have HWd : Hid (Rcw (rsL p q dl) (rcP p q.outs.length (rps ws)) (wrR hs (rps ws) NN)) := by
               have := rc_wd p q.outs.length HRl.out.wd
               rw [HLw.out.2.1, HLw.out.2.2] at this
               exact this
              unfold GivesRc at HGw
              rw [plan_eq8] at HGw
              generalize rcP p q.outs.length (rps ws) = cP at *
              clear HLw HG HTl HCpL HMr HE HL
              have HSt := hide (fun V (hb : Below wr.heap.size wr V) => HS5.out V (Below.next hB hb))
              obtain ⟨⟨c0, c1, c2, c3, c4, c5, c6, c7⟩, d0, d1, d2, d3, d4⟩ := HSt.out _ (Below.refl _ _)
              go_wp2_with fail
              go_loopw [10, 14] (fun va vi wv => ∃ (k3 : Nat) (la : Option Addr) (lc2 : Nat), k3 <= NN ∧ vi = .int .i64 k3 ∧ va = .slice la (wrR hs (rps ws) k3).length lc2 ∧ Hid (wv.ownsRow wr.heap.size 3 1 (.slice la (wrR hs (rps ws) k3).length lc2) (wrR hs (rps ws) k3).length ((wrR hs (rps ws) k3).flatMap iw)) ∧ Below wr.heap.size wr wv) (fun _ vi _ => NN - (intOf vi).toNat)
              case atStart => exact ⟨0, none, 0, Nat.zero_le _, rfl, rfl, World.ownsRow_nil _ _ _ _, Below.refl _ _⟩
              case round =>
               clear c0 c1 c2 c3 c4 c5 c6 c7 d0 d1 d2 d3 d4
               obtain ⟨k3, la, lc2, hk3, rfl, rfl, HO3, hB3⟩ := hrel
               obtain ⟨⟨c0, c1, c2, c3, c4, c5, c6, c7⟩, d0, d1, d2, d3, d4⟩ := HSt.out _ hB3
               by_cases hlt : k3 < NN
               · obtain ⟨b, off, rfl, hbl, hcell⟩ := hch (by intro h; rw [h] at hhl; simp at hhl; omega)
                 obtain ⟨u, hu, hR⟩ := hcell k3 (by rw [hhl]; exact hlt)
                 have hR1 := HRl.out.row _ (getD_inQ (us := ws) (i := k3) (by omega))
                 have HSm := hide (fun V (hb : Below wr.heap.size wr V) => Same_dec (ws.getD k3 zRq).2.1 u (ws.getD k3 zRq).2.2 (hs.getD k3 []) V (hR1.below (Below.next hB3 hb)).1 (hR.below (Below.next hB (Below.next hB3 hb))).1)
                 have HCc : Hid (∀ V, Below wr.heap.size wr V -> V.cell? ⟨g, k3 * 2 + 1, none⟩ = some (ws.getD k3 zRq).2.1 ∧ V.cell? ⟨b, off + k3, none⟩ = some u) := fun V hb => ⟨by have := (HRl.out.cell (Below.next hB3 hb) (k := k3) (by omega)).2.1; rw [Nat.zero_add] at this; exact this, ((Below.next hB (Below.next hB3 hb)).cell (p := ⟨b, off + k3, none⟩) hbl).trans hu⟩
                 obtain ⟨a9, c9, h9⟩ := HRl.out.one (i := k3) (by omega)
                 obtain ⟨a8, c8, rfl, _⟩ := hR.spell
                 have HRs3 := hide (rps_at ws k3)
                 rw [h9] at HSm HCc
                 have hdr : Below wr.heap.size wr wr.drew := (Below.refl _ wr).drew
                 have hS0 := HCc.out _ hdr
                 have k30 : (0 : Int) <= (k3 : Int) := by omega
                 have k31 : (k3 : Int) < (NN : Int) := by omega
                 have k32 : (k3 : Int) < p.n := by rw [HNN.out]; exact k31
                 have hw3 := wrR_len hs (rps ws) k3
                 by_cases hsm : (ws.getD k3 zRq).2.2 = hs.getD k3 []
                 · have HY := hide (wrR_yes (hs := hs) (l := rps ws) (k := k3) (by rw [HRs3.out]; exact hsm))
                   rw [decide_eq_true hsm] at HSm
                   clear hsm hcell hch hR hR1 hu h9 HGw HWd HRs HX HRs3
                   generalize (ws.getD k3 zRq).2.2.length = m9 at *
                   generalize (hs.getD k3 []).length = m8 at *
                   go_upto_region 20 with fail
                   refine wp_region_held_drew (S := (fun V => V.cell? ⟨g, k3 * 2 + 1, none⟩ = some (.slice a9 m9 c9) ∧ V.cell? ⟨b, off + k3, none⟩ = some (.slice a8 m8 c8))) (by kernel_rfl) (by ((try dsimp only) <;> (first | with_reducible exact hS1 | with_reducible exact hS0))) (fun hHeld => ?_)
                   refine tkY 0 ?_
                   refine tkY 1 ?_
                   refine tkY 2 ?_
                   refine tkY 3 ?_
                   refine tkY 4 ?_
                   refine tkY 5 ?_
                   refine tkY 6 ?_
                   refine tkY 7 ?_
                   refine tkY 8 ?_
                   refine rd1 9 (fun K hK => ?_)
                   (try simp only [ly0, ly1, ly2, ly3, ly4, ly5, ly6, ly7])
                   go_simp
                   (go_at_call 21; refine (HSm.out _ hdr).mono ?_; rintro e w6 ⟨rfl, m6, hw6⟩; have hb6 : Below wr.drew.heap.size wr.drew w6 := (by rw [hw6]; exact below_drewN (Below.refl _ _) m6); clear hw6; have hC6 := Below.next hdr hb6; have hS1 := HCc.out _ hC6)
                   first | refine hK.out _ _ ?k21 (fun hHeld => ?_) | (go_wp2_with fail; refine hK.out _ _ ?k21 (fun hHeld => ?_))
                   case k21 => ((try dsimp only) <;> (first | with_reducible exact hS1 | with_reducible exact hS0))
                   clear hK K
                   (try simp only [ly0, ly1, ly2, ly3, ly4, ly5, ly6, ly7])
                   refine tkY 10 ?_
                   refine wpAnyH_done (by kernel_rfl) ?_ _
                   have hD6 := Below.next hB3 hC6
                   have HO6 := hide (own_below HO3.out hC6)
                   clear hS0 hS1 HCc HSm HO3
                   rw [<- HY.out] at HO6 ⊢
                   go_wp2_with fail
                   go_roundw
                   case rel => exact ⟨k3 + 1, la, lc2, by omega, by go_num, rfl, HO6, hD6⟩
                   case measure => simp [intOf]; omega
                 · have HY := hide (wrR_no (hs := hs) (l := rps ws) (k := k3) (by rw [HRs3.out]; exact hsm))
                   rw [decide_eq_false hsm] at HSm
                   clear hsm hcell hch hR hR1 hu h9 HGw HWd HRs HX HRs3
                   generalize (ws.getD k3 zRq).2.2.length = m9 at *
                   generalize (hs.getD k3 []).length = m8 at *
                   go_upto_region 20 with fail
                   refine wp_region_held_drew (S := (fun V => V.cell? ⟨g, k3 * 2 + 1, none⟩ = some (.slice a9 m9 c9) ∧ V.cell? ⟨b, off + k3, none⟩ = some (.slice a8 m8 c8))) (by kernel_rfl) (by ((try dsimp only) <;> (first | with_reducible exact hS1 | with_reducible exact hS0))) (fun hHeld => ?_)
                   refine tkY 0 ?_
                   refine tkY 1 ?_
                   refine tkY 2 ?_
                   refine tkY 3 ?_
                   refine tkY 4 ?_
                   refine tkY 5 ?_
                   refine tkY 6 ?_
                   refine tkY 7 ?_
                   refine tkY 8 ?_
                   refine rd1 9 (fun K hK => ?_)
                   (try simp only [ly0, ly1, ly2, ly3, ly4, ly5, ly6, ly7])
                   go_simp
                   (go_at_call 21; refine (HSm.out _ hdr).mono ?_; rintro e w6 ⟨rfl, m6, hw6⟩; have hb6 : Below wr.drew.heap.size wr.drew w6 := (by rw [hw6]; exact below_drewN (Below.refl _ _) m6); clear hw6; have hC6 := Below.next hdr hb6; have hS1 := HCc.out _ hC6)
                   first | refine hK.out _ _ ?k22 (fun hHeld => ?_) | (go_wp2_with fail; refine hK.out _ _ ?k22 (fun hHeld => ?_))
                   case k22 => ((try dsimp only) <;> (first | with_reducible exact hS1 | with_reducible exact hS0))
                   clear hK K
                   (try simp only [ly0, ly1, ly2, ly3, ly4, ly5, ly6, ly7])
                   refine tkY 10 ?_
                   refine wpAnyH_done (by kernel_rfl) ?_ _
                   have hD6 := Below.next hB3 hC6
                   have hal := alloc_below w6 (.cells #[.int .i64 (k3 : Int)] 3)
                   obtain ⟨a4, c4', w7, hr, ho7, hb7, _, _⟩ := appI1 (w6.alloc (.cells #[.int .i64 (k3 : Int)] 3)) _ (.slice la (wrR hs (rps ws) k3).length lc2) (wrR hs (rps ws) k3) ⟨w6.heap.size, 0, none⟩ (k3 : Int) (own_below (own_below HO3.out hC6) hal) (by simp [go_sem]) (by omega) (Nat.le_trans hD6.size hal.size)
                   have HO7 := hide ho7
                   have hB7 := (Below.next hD6 hal).trans hb7
                   have hl7 : (wrR hs (rps ws) (k3 + 1)).length = (wrR hs (rps ws) k3).length + 1 := by rw [HY.out, List.length_append]; rfl
                   rw [<- HY.out] at HO7
                   rw [<- hl7] at hr HO7
                   clear hS0 hS1 HCc HSm HO3 ho7 hb7 hl7
                   go_wp2_with (at_builtin; refine Lib.wpList_append_run _ rfl _ _ _ _ rfl _ _ rfl rfl _ _ hr ?_)
                   go_roundw
                   case rel => exact ⟨k3 + 1, a4, c4', by omega, by go_num, rfl, HO7, hB7⟩
                   case measure => simp [intOf]; omega
               · obtain rfl : k3 = NN := by omega
                 have k33 : ¬ (k3 : Int) < p.n := by rw [HNN.out]; omega
                 have hBw := Below.next hB hB3
                 clear hch HNN
                 go_upto_region 23 with (go_at_call 8; refine (HGw.out _ hB3).mono ?_; rintro e w6 ⟨vr, vq, va, rfl, hRc, hb6⟩; obtain ⟨x1, y1, x2, y2, x3, y3, rfl, rfl, rfl⟩ := hRc.form)
                 have ha6 := alloc_below w6 (.cells #[.slice x1 (rsL p q dl).length y1, .slice x2 cP.length y2, .slice x3 (wrR hs (rps ws) k3).length y3] 29)
                 have n6 := heap_alloc_new w6 (.cells #[.slice x1 (rsL p q dl).length y1, .slice x2 cP.length y2, .slice x3 (wrR hs (rps ws) k3).length y3] 29)
                 generalize w6.alloc (.cells #[.slice x1 (rsL p q dl).length y1, .slice x2 cP.length y2, .slice x3 (wrR hs (rps ws) k3).length y3] 29) = W6 at *
                 obtain ⟨r1, _, r3⟩ := (hRc.below ha6).reads8 HWd.out
                 have R1 := hide r1
                 have R3 := hide r3
                 have HN6 := hide n6
                 have hb36 := Below.next hb6 ha6
                 have hC6 := Below.next hB3 hb36
                 have R4 := hide (lm_of_own iw_len (by decide) (own_below HO3.out hb36) (by have := wrR_len hs (rps ws) k3; omega))
                 generalize w6.heap.size = g6 at *
                 clear hRc n6 ha6 hb6 c0 c1 c2 c3 c4 c5 c6 c7 d0 d1 d2 d3 d4 HGw HWd r1 r3 HO3
                 obtain ⟨⟨c0, c1, c2, c3, c4, c5, c6, c7⟩, d0, d1, d2, d3, d4⟩ := HSt.out _ hC6
                 go_upto_region 24 with (go_at_call 22; refine (HRs.out _ (Below.next hA5 (Below.next hB hC6))).mono ?_; rintro e w7 ⟨v7, us7, rfl, x7, hb7⟩; have R7 := hide (WD2.out _ _ _ _ _ x7); obtain ⟨a7, k7, rfl⟩ := own_form x7.row; clear x7)
                 have hC7 := Below.next hC6 hb7
                 obtain ⟨z0, z1, z2⟩ := cell3 (blk8 HN6.out hb7)
                 clear c0 c1 c2 c3 c4 c5 c6 c7 d0 d1 d2 d3 d4
                 have HRw := hide (Rows_h _ _ _ _ (R1.out.below hb7) R7.out)
                 generalize (rsL p q dl).length = m7 at *
                 obtain ⟨wl, Hwl⟩ : ∃ wl, Hid (wrR hs (rps ws) k3 = wl) := ⟨_, rfl⟩
                 have hwl64 : wl.length <= 64 := by rw [<- Hwl.out]; have := wrR_len hs (rps ws) k3; omega
                 rw [Hwl.out] at R3 R4 HN6 z2 ⊢
                 go_upto_region 26 with (go_at_call 23; refine HRw.out.mono ?_; rintro e w8 ⟨rfl, hb8⟩; clear z0 z1 z2; obtain ⟨z0, z1, z2⟩ := cell3 (blk8 (blk8 HN6.out hb7) hb8))
                 have hb78 := Below.next hb7 hb8
                 have hC8 := Below.next hC6 hb78
                 have Q3 := hide (R3.out.below hb78)
                 have Q4 := hide (R4.out.below hb78)
                 have HN8 := hide (blk8 HN6.out hb78)
                 clear z0 z1 z2 R1 R7 R3 R4 HRw HN6 HRs WD2
                 go_wp2_with fail
                 go_loopw [19] (fun vi wv => ∃ k4 : Nat, k4 <= wl.length ∧ vi = .int .i64 k4 ∧ Below w8.heap.size w8 wv) (fun vi _ => wl.length - (intOf vi).toNat)
                 case atStart => exact ⟨0, Nat.zero_le _, rfl, Below.refl _ _⟩
                 case round =>
                  obtain ⟨k4, hk4, rfl, hB4⟩ := hrel
                  by_cases hlk : k4 < wl.length
                  · obtain ⟨b1, o1, c1', hv1, _, _⟩ := Q3.out.form (by omega)
                    injection hv1 with hv1 hx1 hcv1
                    subst hv1 hcv1
                    clear hx1
                    obtain ⟨b2, o2, c2', hv2, _, _⟩ := Q4.out.form (by omega)
                    injection hv2 with hv2 hx2 hcv2
                    subst hv2 hcv2
                    clear hx2
                    have d1 := (lmi_cell Q3.out hB4 (k := k4) hlk).2
                    have d2 := (lmi_cell Q4.out hB4 (k := k4) hlk).2
                    obtain ⟨z0, z1, z2⟩ := cell3 (blk8 HN8.out hB4)
                    have k0 : (0 : Int) <= (k4 : Int) := by omega
                    have k1 : (k4 : Int) < (wl.length : Int) := by omega
                    clear Q3 Q4 HX
                    generalize wl.getD k4 0 = x at d1 d2
                    go_wp2_with fail
                    go_quiet (fail)
                    have hB2 := below_drewN hB4 nq
                    clear hB4
                    go_wp2
                    go_roundw
                    case rel => exact ⟨k4 + 1, by omega, by go_num, hB2⟩
                    case measure => simp [intOf]; omega
                  · go_wp2_with (go_at_call 13; refine (HX.out _).mono ?_; rintro e w9 ⟨rfl, hb9⟩)
                    go_ret
                    exact ⟨rfl, Below.next hA5 (Below.next hB (Below.next hC8 (Below.next hB4 hb9)))⟩
          · clear c0 c1 c2 c3 c4 c5 c6 c7 d0 d1 d2 d3 d4
            have HLw : Hid (rcE p q.outs.length (rps ws) = 0 ∧ rcR p q.outs.length (rps ws) = rsL p q dl ∧ rcW p q.outs.length (rps ws) = wrR hs (rps ws) NN) := by
             show _ ∧ _
             rw [HE.out]
             exact HTl.out k hk hke
            have HRl := hide (HO.out.rpl (by omega))
            have HGw : Hid (∀ V, Below wr.heap.size wr V -> GivesRc 8 #[plv p, .int .i64 q.outs.length, .slice (some ⟨g, 0, none⟩) NN lc] V (rsL p q dl) (rcP p q.outs.length (rps ws)) (wrR hs (rps ws) NN) 0) := fun V hb => by
             have := HG.out V _ ws (HRl.out.below hb)
             rw [HLw.out.1, HLw.out.2.1, HLw.out.2.2] at this
             exact this
            have HWd : Hid (Rcw (rsL p q dl) (rcP p q.outs.length (rps ws)) (wrR hs (rps ws) NN)) := by
             have := rc_wd p q.outs.length HRl.out.wd
             rw [HLw.out.2.1, HLw.out.2.2] at this
             exact this
            unfold GivesRc at HGw
            rw [plan_eq8] at HGw
            generalize rcP p q.outs.length (rps ws) = cP at *
            clear HLw HG HTl HCpL HMr HE HL
            have HSt := hide (fun V (hb : Below wr.heap.size wr V) => HS5.out V (Below.next hB hb))
            obtain ⟨⟨c0, c1, c2, c3, c4, c5, c6, c7⟩, d0, d1, d2, d3, d4⟩ := HSt.out _ (Below.refl _ _)
            go_wp2_with fail
            go_loopw [10, 14] (fun va vi wv => ∃ (k3 : Nat) (la : Option Addr) (lc2 : Nat), k3 <= NN ∧ vi = .int .i64 k3 ∧ va = .slice la (wrR hs (rps ws) k3).length lc2 ∧ Hid (wv.ownsRow wr.heap.size 3 1 (.slice la (wrR hs (rps ws) k3).length lc2) (wrR hs (rps ws) k3).length ((wrR hs (rps ws) k3).flatMap iw)) ∧ Below wr.heap.size wr wv) (fun _ vi _ => NN - (intOf vi).toNat)
            case atStart => exact ⟨0, none, 0, Nat.zero_le _, rfl, rfl, World.ownsRow_nil _ _ _ _, Below.refl _ _⟩
            case round =>
             clear c0 c1 c2 c3 c4 c5 c6 c7 d0 d1 d2 d3 d4
             obtain ⟨k3, la, lc2, hk3, rfl, rfl, HO3, hB3⟩ := hrel
             obtain ⟨⟨c0, c1, c2, c3, c4, c5, c6, c7⟩, d0, d1, d2, d3, d4⟩ := HSt.out _ hB3
             by_cases hlt : k3 < NN
             · obtain ⟨b, off, rfl, hbl, hcell⟩ := hch (by intro h; rw [h] at hhl; simp at hhl; omega)
               obtain ⟨u, hu, hR⟩ := hcell k3 (by rw [hhl]; exact hlt)
               have hR1 := HRl.out.row _ (getD_inQ (us := ws) (i := k3) (by omega))
               have HSm := hide (fun V (hb : Below wr.heap.size wr V) => Same_dec (ws.getD k3 zRq).2.1 u (ws.getD k3 zRq).2.2 (hs.getD k3 []) V (hR1.below (Below.next hB3 hb)).1 (hR.below (Below.next hB (Below.next hB3 hb))).1)
               have HCc : Hid (∀ V, Below wr.heap.size wr V -> V.cell? ⟨g, k3 * 2 + 1, none⟩ = some (ws.getD k3 zRq).2.1 ∧ V.cell? ⟨b, off + k3, none⟩ = some u) := fun V hb => ⟨by have := (HRl.out.cell (Below.next hB3 hb) (k := k3) (by omega)).2.1; rw [Nat.zero_add] at this; exact this, ((Below.next hB (Below.next hB3 hb)).cell (p := ⟨b, off + k3, none⟩) hbl).trans hu⟩
               obtain ⟨a9, c9, h9⟩ := HRl.out.one (i := k3) (by omega)
               obtain ⟨a8, c8, rfl, _⟩ := hR.spell
               have HRs3 := hide (rps_at ws k3)
               rw [h9] at HSm HCc
               have hdr : Below wr.heap.size wr wr.drew := (Below.refl _ wr).drew
               have hS0 := HCc.out _ hdr
               have k30 : (0 : Int) <= (k3 : Int) := by omega
               have k31 : (k3 : Int) < (NN : Int) := by omega
               have k32 : (k3 : Int) < p.n := by rw [HNN.out]; exact k31
               have hw3 := wrR_len hs (rps ws) k3
               by_cases hsm : (ws.getD k3 zRq).2.2 = hs.getD k3 []
               · have HY := hide (wrR_yes (hs := hs) (l := rps ws) (k := k3) (by rw [HRs3.out]; exact hsm))
                 rw [decide_eq_true hsm] at HSm
                 clear hsm hcell hch hR hR1 hu h9 HGw HWd HRs HX HRs3
                 generalize (ws.getD k3 zRq).2.2.length = m9 at *
                 generalize (hs.getD k3 []).length = m8 at *
                 go_upto_region 20 with fail
                 refine wp_region_held_drew (S := (fun V => V.cell? ⟨g, k3 * 2 + 1, none⟩ = some (.slice a9 m9 c9) ∧ V.cell? ⟨b, off + k3, none⟩ = some (.slice a8 m8 c8))) (by kernel_rfl) (by ((try dsimp only) <;> (first | with_reducible exact hS1 | with_reducible exact hS0))) (fun hHeld => ?_)
                 refine tkY 0 ?_
                 refine tkY 1 ?_
                 refine tkY 2 ?_
                 refine tkY 3 ?_
                 refine tkY 4 ?_
                 refine tkY 5 ?_
                 refine tkY 6 ?_
                 refine tkY 7 ?_
                 refine tkY 8 ?_
                 refine rd1 9 (fun K hK => ?_)
                 (try simp only [ly0, ly1, ly2, ly3, ly4, ly5, ly6, ly7])
                 go_simp
                 (go_at_call 21; refine (HSm.out _ hdr).mono ?_; rintro e w6 ⟨rfl, m6, hw6⟩; have hb6 : Below wr.drew.heap.size wr.drew w6 := (by rw [hw6]; exact below_drewN (Below.refl _ _) m6); clear hw6; have hC6 := Below.next hdr hb6; have hS1 := HCc.out _ hC6)
                 first | refine hK.out _ _ ?k23 (fun hHeld => ?_) | (go_wp2_with fail; refine hK.out _ _ ?k23 (fun hHeld => ?_))
                 case k23 => ((try dsimp only) <;> (first | with_reducible exact hS1 | with_reducible exact hS0))
                 clear hK K
                 (try simp only [ly0, ly1, ly2, ly3, ly4, ly5, ly6, ly7])
                 refine tkY 10 ?_
                 refine wpAnyH_done (by kernel_rfl) ?_ _
                 have hD6 := Below.next hB3 hC6
                 have HO6 := hide (own_below HO3.out hC6)
                 clear hS0 hS1 HCc HSm HO3
                 rw [<- HY.out] at HO6 ⊢
                 go_wp2_with fail
                 go_roundw
                 case rel => exact ⟨k3 + 1, la, lc2, by omega, by go_num, rfl, HO6, hD6⟩
                 case measure => simp [intOf]; omega
               · have HY := hide (wrR_no (hs := hs) (l := rps ws) (k := k3) (by rw [HRs3.out]; exact hsm))
                 rw [decide_eq_false hsm] at HSm
                 clear hsm hcell hch hR hR1 hu h9 HGw HWd HRs HX HRs3
                 generalize (ws.getD k3 zRq).2.2.length = m9 at *
                 generalize (hs.getD k3 []).length = m8 at *
                 go_upto_region 20 with fail
                 refine wp_region_held_drew (S := (fun V => V.cell? ⟨g, k3 * 2 + 1, none⟩ = some (.slice a9 m9 c9) ∧ V.cell? ⟨b, off + k3, none⟩ = some (.slice a8 m8 c8))) (by kernel_rfl) (by ((try dsimp only) <;> (first | with_reducible exact hS1 | with_reducible exact hS0))) (fun hHeld => ?_)
                 refine tkY 0 ?_
                 refine tkY 1 ?_
                 refine tkY 2 ?_
                 refine tkY 3 ?_
                 refine tkY 4 ?_
                 refine tkY 5 ?_
                 refine tkY 6 ?_
                 refine tkY 7 ?_
                 refine tkY 8 ?_
                 refine rd1 9 (fun K hK => ?_)
                 (try simp only [ly0, ly1, ly2, ly3, ly4, ly5, ly6, ly7])
                 go_simp
                 (go_at_call 21; refine (HSm.out _ hdr).mono ?_; rintro e w6 ⟨rfl, m6, hw6⟩; have hb6 : Below wr.drew.heap.size wr.drew w6 := (by rw [hw6]; exact below_drewN (Below.refl _ _) m6); clear hw6; have hC6 := Below.next hdr hb6; have hS1 := HCc.out _ hC6)
                 first | refine hK.out _ _ ?k24 (fun hHeld => ?_) | (go_wp2_with fail; refine hK.out _ _ ?k24 (fun hHeld => ?_))
                 case k24 => ((try dsimp only) <;> (first | with_reducible exact hS1 | with_reducible exact hS0))
                 clear hK K
                 (try simp only [ly0, ly1, ly2, ly3, ly4, ly5, ly6, ly7])
                 refine tkY 10 ?_
                 refine wpAnyH_done (by kernel_rfl) ?_ _
                 have hD6 := Below.next hB3 hC6
                 have hal := alloc_below w6 (.cells #[.int .i64 (k3 : Int)] 3)
                 obtain ⟨a4, c4', w7, hr, ho7, hb7, _, _⟩ := appI1 (w6.alloc (.cells #[.int .i64 (k3 : Int)] 3)) _ (.slice la (wrR hs (rps ws) k3).length lc2) (wrR hs (rps ws) k3) ⟨w6.heap.size, 0, none⟩ (k3 : Int) (own_below (own_below HO3.out hC6) hal) (by simp [go_sem]) (by omega) (Nat.le_trans hD6.size hal.size)
                 have HO7 := hide ho7
                 have hB7 := (Below.next hD6 hal).trans hb7
                 have hl7 : (wrR hs (rps ws) (k3 + 1)).length = (wrR hs (rps ws) k3).length + 1 := by rw [HY.out, List.length_append]; rfl
                 rw [<- HY.out] at HO7
                 rw [<- hl7] at hr HO7
                 clear hS0 hS1 HCc HSm HO3 ho7 hb7 hl7
                 go_wp2_with (at_builtin; refine Lib.wpList_append_run _ rfl _ _ _ _ rfl _ _ rfl rfl _ _ hr ?_)
                 go_roundw
                 case rel => exact ⟨k3 + 1, a4, c4', by omega, by go_num, rfl, HO7, hB7⟩
                 case measure => simp [intOf]; omega
             · obtain rfl : k3 = NN := by omega
               have k33 : ¬ (k3 : Int) < p.n := by rw [HNN.out]; omega
               have hBw := Below.next hB hB3
               clear hch HNN
               go_upto_region 23 with (go_at_call 8; refine (HGw.out _ hB3).mono ?_; rintro e w6 ⟨vr, vq, va, rfl, hRc, hb6⟩; obtain ⟨x1, y1, x2, y2, x3, y3, rfl, rfl, rfl⟩ := hRc.form)
               have ha6 := alloc_below w6 (.cells #[.slice x1 (rsL p q dl).length y1, .slice x2 cP.length y2, .slice x3 (wrR hs (rps ws) k3).length y3] 29)
               have n6 := heap_alloc_new w6 (.cells #[.slice x1 (rsL p q dl).length y1, .slice x2 cP.length y2, .slice x3 (wrR hs (rps ws) k3).length y3] 29)
               generalize w6.alloc (.cells #[.slice x1 (rsL p q dl).length y1, .slice x2 cP.length y2, .slice x3 (wrR hs (rps ws) k3).length y3] 29) = W6 at *
               obtain ⟨r1, _, r3⟩ := (hRc.below ha6).reads8 HWd.out
               have R1 := hide r1
               have R3 := hide r3
               have HN6 := hide n6
               have hb36 := Below.next hb6 ha6
               have hC6 := Below.next hB3 hb36
               have R4 := hide (lm_of_own iw_len (by decide) (own_below HO3.out hb36) (by have := wrR_len hs (rps ws) k3; omega))
               generalize w6.heap.size = g6 at *
               clear hRc n6 ha6 hb6 c0 c1 c2 c3 c4 c5 c6 c7 d0 d1 d2 d3 d4 HGw HWd r1 r3 HO3
               obtain ⟨⟨c0, c1, c2, c3, c4, c5, c6, c7⟩, d0, d1, d2, d3, d4⟩ := HSt.out _ hC6
               go_upto_region 24 with (go_at_call 22; refine (HRs.out _ (Below.next hA5 (Below.next hB hC6))).mono ?_; rintro e w7 ⟨v7, us7, rfl, x7, hb7⟩; have R7 := hide (WD2.out _ _ _ _ _ x7); obtain ⟨a7, k7, rfl⟩ := own_form x7.row; clear x7)
               have hC7 := Below.next hC6 hb7
               obtain ⟨z0, z1, z2⟩ := cell3 (blk8 HN6.out hb7)
               clear c0 c1 c2 c3 c4 c5 c6 c7 d0 d1 d2 d3 d4
               have HRw := hide (Rows_h _ _ _ _ (R1.out.below hb7) R7.out)
               generalize (rsL p q dl).length = m7 at *
               obtain ⟨wl, Hwl⟩ : ∃ wl, Hid (wrR hs (rps ws) k3 = wl) := ⟨_, rfl⟩
               have hwl64 : wl.length <= 64 := by rw [<- Hwl.out]; have := wrR_len hs (rps ws) k3; omega
               rw [Hwl.out] at R3 R4 HN6 z2 ⊢
               go_upto_region 26 with (go_at_call 23; refine HRw.out.mono ?_; rintro e w8 ⟨rfl, hb8⟩; clear z0 z1 z2; obtain ⟨z0, z1, z2⟩ := cell3 (blk8 (blk8 HN6.out hb7) hb8))
               have hb78 := Below.next hb7 hb8
               have hC8 := Below.next hC6 hb78
               have Q3 := hide (R3.out.below hb78)
               have Q4 := hide (R4.out.below hb78)
               have HN8 := hide (blk8 HN6.out hb78)
               clear z0 z1 z2 R1 R7 R3 R4 HRw HN6 HRs WD2
               go_wp2_with fail
               go_loopw [19] (fun vi wv => ∃ k4 : Nat, k4 <= wl.length ∧ vi = .int .i64 k4 ∧ Below w8.heap.size w8 wv) (fun vi _ => wl.length - (intOf vi).toNat)
               case atStart => exact ⟨0, Nat.zero_le _, rfl, Below.refl _ _⟩
               case round =>
                obtain ⟨k4, hk4, rfl, hB4⟩ := hrel
                by_cases hlk : k4 < wl.length
                · obtain ⟨b1, o1, c1', hv1, _, _⟩ := Q3.out.form (by omega)
                  injection hv1 with hv1 hx1 hcv1
                  subst hv1 hcv1
                  clear hx1
                  obtain ⟨b2, o2, c2', hv2, _, _⟩ := Q4.out.form (by omega)
                  injection hv2 with hv2 hx2 hcv2
                  subst hv2 hcv2
                  clear hx2
                  have d1 := (lmi_cell Q3.out hB4 (k := k4) hlk).2
                  have d2 := (lmi_cell Q4.out hB4 (k := k4) hlk).2
                  obtain ⟨z0, z1, z2⟩ := cell3 (blk8 HN8.out hB4)
                  have k0 : (0 : Int) <= (k4 : Int) := by omega
                  have k1 : (k4 : Int) < (wl.length : Int) := by omega
                  clear Q3 Q4 HX
                  generalize wl.getD k4 0 = x at d1 d2
                  go_wp2_with fail
                  go_quiet (fail)
                  have hB2 := below_drewN hB4 nq
                  clear hB4
                  go_wp2
                  go_roundw
                  case rel => exact ⟨k4 + 1, by omega, by go_num, hB2⟩
                  case measure => simp [intOf]; omega
                · go_wp2_with (go_at_call 13; refine (HX.out _).mono ?_; rintro e w9 ⟨rfl, hb9⟩)
                  go_ret
                  exact ⟨rfl, Below.next hA5 (Below.next hB (Below.next hC8 (Below.next hB4 hb9)))⟩
    · clear HAl HRs HG WD2 HMr HCpL HL e1 hf hm ha W1' W2' hlw
      generalize bkE p dl pl [] = eb at *
      rw [plan_eq8] at *
      generalize dl.length = nd at *
      generalize pl.length = np at *
      go_enter Tryz.func5, Tryz.ntmps5
      go_upto_region 1 with fail
      rw [HW.out]
      go_wp2_with (first
       | (go_at_call 16; refine (HAc.out _).mono ?_; rintro e w1 ⟨rfl, hb1⟩; have hB1 := Below.next hA hb1; clear c0 c1 c2 c3 c4 c5 c6 c7 d0 d1 d2 d3 d4; obtain ⟨⟨c0, c1, c2, c3, c4, c5, c6, c7⟩, d0, d1, d2, d3, d4⟩ := HS.out _ hb1)
       | (go_at_call 17; refine (HF.out _ hB1).mono ?_; rintro e w2 ⟨rfl, hb2⟩; have hC2 := Below.next hb1 hb2; have hB2 := Below.next hA hC2; clear c0 c1 c2 c3 c4 c5 c6 c7 d0 d1 d2 d3 d4; obtain ⟨⟨c0, c1, c2, c3, c4, c5, c6, c7⟩, d0, d1, d2, d3, d4⟩ := HS.out _ hC2)
       | (go_at_call 18; refine (HBd.out _ hB2).mono ?_; rintro e w3 ⟨rfl, hb3⟩; have hB3 := Below.next hB2 hb3; clear c0 c1 c2 c3 c4 c5 c6 c7 d0 d1 d2 d3 d4)
       | (go_at_call 13; refine (HX.out _).mono ?_; rintro e w9 ⟨rfl, hb9⟩; have hB9 := Below.next hB3 hb9))
      go_ret
      exact ⟨rfl, hB9⟩
 · clear HF HBd HAl HRs HG WD2 HMr HCpL HL W1' W2' hlw
   generalize acE p = ea at *
   rw [plan_eq8] at *
   generalize dl.length = nd at *
   generalize pl.length = np at *
   go_enter Tryz.func5, Tryz.ntmps5
   go_upto_region 1 with fail
   rw [HW.out]
   go_wp2_with (first
    | (go_at_call 16; refine (HAc.out _).mono ?_; rintro e w1 ⟨rfl, hb1⟩; have hB1 := Below.next hA hb1; clear c0 c1 c2 c3 c4 c5 c6 c7 d0 d1 d2 d3 d4)
    | (go_at_call 13; refine (HX.out _).mono ?_; rintro e w9 ⟨rfl, hb9⟩; have hB9 := Below.next hB1 hb9))
   go_ret
   exact ⟨rfl, hB9⟩
end Go.Proofs.YtjhididlcdepdaaGreat
