import Derived.Test.YtjhididlcdepdaaGreatBRgdH
import Derived.Test.YtjhididlcdepdaaGreatBRgnP
import Derived.Test.YtjhididlcdepdaaGreatBPlrB
set_option linter.unusedVariables false
set_option linter.unusedSimpArgs false
set_option maxRecDepth 100000
set_option maxHeartbeats 4000000
namespace Go.Proofs.YtjhididlcdepdaaGreat
open Go.RowKit Fld Pln Slp Shr
theorem hnA_eq {p : Pn} {q : Pr} {dl pl : List (List Int)} (w1 : ∀ b ∈ dl, Wd b) (w2 : ∀ b ∈ pl, Wd b) (hf : fitQ p q = true) (hz : bkE p dl pl [] = 0) : hnA p q dl pl = hsL p q dl pl := by
 obtain ⟨hm, hmb, _, hin, _⟩ := fit_facts hf
 obtain ⟨_, _, _, _, _, _, v0, v1⟩ := may_facts hm
 obtain ⟨_, ⟨r, wd, hr, _⟩, _⟩ := bk_zero hz
 unfold hnA hsL allL
 rw [if_pos hz, List.map_map]
 refine List.map_congr_left (fun x hx => ?_)
 have e1 : evE p.f q (shr (pOf p.f) (innL p) p.w.toNat (dl ++ pl) x) = 0 := by
  unfold evE rwE
  rw [if_pos hmb, inF_yes hr, pOf_eq hr, if_pos (allIn_of (shr_els hr.pos _ _ _ _)), if_pos (by rw [shr_len, hin]; omega)]
 have e2 : rpE p q (shr (pOf p.f) (innL p) p.w.toNat (dl ++ pl) x) = 0 := by unfold rpE; rw [if_pos hf]; exact e1
 show rpL p q _ = _
 unfold rpL
 rw [if_pos e2]
theorem hsL_in {p : Pn} {q : Pr} {dl pl : List (List Int)} (w1 : ∀ b ∈ dl, Wd b) (w2 : ∀ b ∈ pl, Wd b) (ha : acc p) (hf : fitQ p q = true) (hz : bkE p dl pl [] = 0) : ∀ b ∈ hsL p q dl pl, Wd b ∧ inF p.f b = true := fun b hb => by
 refine ⟨by rw [← hnA_eq w1 w2 hf hz] at hb; exact (hnA_wd w1 w2).1 b hb, ?_⟩
 obtain ⟨hm, hmb, hoe, hin, hov⟩ := fit_facts hf
 have hmf := may_facts hm
 have hdg := dg_bound hm
 have hneed := acc_need ha
 have hc : cmE p q dl pl = 0 := by
  rcases cm_four w1 w2 hf hz with h | ⟨_, h⟩
  · exact h
  · exfalso
    unfold need at hneed
    unfold dg at hneed hdg
    omega
 obtain ⟨r, wd, hr, _, _, _, hwrk⟩ := cm_facts w1 w2 hf hz hc
 unfold hsL at hb
 obtain ⟨x, _, rfl⟩ := List.mem_map.1 hb
 rw [inF_yes hr, pOf_eq hr, ← hwrk x]
 refine allIn_of (fun y hy => ?_)
 obtain ⟨z, _, rfl⟩ := List.mem_map.1 hy
 exact vl_el hr.pos x z
theorem flat_set2 (u : Value) (vs : List Int) : ∀ (ws : List Rq) (k : Nat), k < ws.length → (ws.flatMap rpw).set (k * 2 + 1) u = (ws.set k ((ws.getD k zRq).1, u, vs)).flatMap rpw
 | [], k, h => by simp at h
 | x :: ws, 0, h => by simp [rpw]
 | x :: ws, k + 1, h => by
  have ih := flat_set2 u vs ws k (by simpa using h)
  have e : ∀ (l : List Value) (j : Nat) (v : Value), ([Value.int .i64 x.1, x.2.1] ++ l).set (2 + j) v = [Value.int .i64 x.1, x.2.1] ++ l.set j v := fun l j v => by
   rw [Nat.add_comm]; rfl
  show ([Value.int .i64 x.1, x.2.1] ++ ws.flatMap rpw).set ((k + 1) * 2 + 1) u = [Value.int .i64 x.1, x.2.1] ++ (ws.set k ((ws.getD k zRq).1, u, vs)).flatMap rpw
  rw [show (k + 1) * 2 + 1 = 2 + (k * 2 + 1) by omega, e, ih]
theorem Rown.put {base : Nat} {w : World} {g n cap k : Nat} {ws : List Rq} {u : Value} {vs : List Int} (h : Rown base w (.slice (some ⟨g, 0, none⟩) n cap) ws) (hn : ws.length = n) (hk : k < n) (hv : w.ownsRow base 64 1 u vs.length (vals vs)) (hw : Wd vs) :
 Rown base (w.setCell ⟨g, k * 2 + 1, none⟩ u) (.slice (some ⟨g, 0, none⟩) n cap) (ws.set k ((ws.getD k zRq).1, u, vs)) := by
 have hr := h.row
 rw [hn] at hr
 have hin : ∀ y ∈ ws.set k ((ws.getD k zRq).1, u, vs), y ∈ ws ∨ y = ((ws.getD k zRq).1, u, vs) := fun y hy => List.mem_or_eq_of_mem_set hy
 refine ⟨?_, fun y hy => ?_, fun y hy => ?_, fun y hy => ?_⟩
 · rw [List.length_set, hn, ← flat_set2 u vs ws k (by omega)]
   refine ⟨by rw [List.length_set]; exact hr.1, ?_⟩
   rcases hr.2 with ⟨e, _⟩ | ⟨g', cap', cur, e, h2, h3, h4, h5, h6, h7⟩
   · cases e
   · cases e
     refine .inr ⟨g, cap, cur.setIfInBounds (k * 2 + 1) u, rfl, h2, set_blk h3 _ u, h4, h5, by rw [Array.size_setIfInBounds]; exact h6, ?_⟩
     rw [Array.toList_setIfInBounds, ← h7, List.take_set]
 · rcases hin y hy with hy | rfl
   · exact own_other (h.each y hy) (fun e2 => own_kind h.row (h.each y hy) ne_kindsR g rfl e2)
   · exact own_other hv (fun e2 => own_kind h.row hv ne_kindsR g rfl e2)
 · rcases hin y hy with hy | rfl
   · exact h.wd y hy
   · exact hw
 · rcases hin y hy with hy | rfl
   · exact h.num y hy
   · have := h.num (ws.getD k zRq) (getD_inQ (us := ws) (i := k) (by omega))
     exact this
theorem rps_set (ws : List Rq) (k : Nat) (x : Rq) : rps (ws.set k x) = (rps ws).set k (rpO x) := by unfold rps; rw [List.map_set]
theorem rpsN_set {L : List (List Int)} {k : Nat} (hk : k < L.length) (vs : List Int) : rpsN (L.set k vs) = (rpsN L).set k ⟨(k : Int), vs⟩ := by
 refine List.ext_getElem (by rw [rpsN_len, List.length_set, List.length_set, rpsN_len]) (fun i hi hi2 => ?_)
 have hi3 : i < L.length := by rw [rpsN_len, List.length_set] at hi; exact hi
 have hi4 : i < (rpsN L).length := by rw [rpsN_len]; exact hi3
 have e1 := rpsN_at (l := L.set k vs) (i := i) (by rw [List.length_set]; exact hi3)
 have e2 := rpsN_at (l := L) (i := i) hi3
 rw [List.getD_eq_getElem?_getD, List.getElem?_eq_getElem hi] at e1
 rw [List.getD_eq_getElem?_getD, List.getElem?_eq_getElem hi4] at e2
 have e1' : (rpsN (L.set k vs))[i] = ⟨(i : Int), (L.set k vs).getD i []⟩ := e1
 have e2' : (rpsN L)[i] = ⟨(i : Int), L.getD i []⟩ := e2
 rw [e1', List.getElem_set]
 by_cases e : k = i
 · subst e
   rw [if_pos rfl, List.getD_eq_getElem?_getD, List.getElem?_set_self hk]; rfl
 · rw [if_neg e, e2', List.getD_eq_getElem?_getD, List.getElem?_set_ne e, ← List.getD_eq_getElem?_getD]
def wrR (hs : List (List Int)) (l : List Rp) (k : Nat) : List Int := ((List.range k).filter (fun i => decide ((l.getD i nrp).vs ≠ hs.getD i []))).map (fun (i : Nat) => (i : Int))
theorem wrR_all (p : Pn) (hs : List (List Int)) (l : List Rp) : wrR hs l p.n.toNat = (wrN p hs l).map (fun (i : Nat) => (i : Int)) := rfl
theorem wrR_len (hs : List (List Int)) (l : List Rp) (k : Nat) : (wrR hs l k).length ≤ k := by
 unfold wrR
 rw [List.length_map]
 have := List.length_filter_le (fun i => decide ((l.getD i nrp).vs ≠ hs.getD i [])) (List.range k)
 rw [List.length_range] at this
 exact this
theorem wrR_yes {hs : List (List Int)} {l : List Rp} {k : Nat} (h : (l.getD k nrp).vs = hs.getD k []) : wrR hs l (k + 1) = wrR hs l k := by
 unfold wrR
 have e : List.filter (fun i => decide ((l.getD i nrp).vs ≠ hs.getD i [])) [k] = [] := by
  rw [List.filter_cons, if_neg (by rw [decide_eq_true_iff]; exact fun c => c h), List.filter_nil]
 rw [List.range_succ, List.filter_append, e, List.append_nil]
theorem wrR_no {hs : List (List Int)} {l : List Rp} {k : Nat} (h : ¬ (l.getD k nrp).vs = hs.getD k []) : wrR hs l (k + 1) = wrR hs l k ++ [(k : Int)] := by
 unfold wrR
 have e : List.filter (fun i => decide ((l.getD i nrp).vs ≠ hs.getD i [])) [k] = [k] := by
  rw [List.filter_cons, if_pos (decide_eq_true h), List.filter_nil]
 rw [List.range_succ, List.filter_append, e, List.map_append]; rfl
theorem rnd_box (w : World) (p : Pn) (n : Int) (vo vu vd vp : Value) (T1 T2 : TypeId) : ∃ W1, (w.alloc (.cells #[.int .u8 p.f, .int .i64 p.n, .int .i64 p.k, .int .i64 p.t, .int .i64 p.s, .int .i64 p.e, .int .i64 p.d, .int .i64 p.w] T1)).alloc (.cells #[.int .i64 n, vo, vu, vd, vp] T2) = W1 ∧ Below w.heap.size w W1 ∧ ∀ W, Below W1.heap.size W1 W → (W.cell? ⟨w.heap.size, 0, none⟩ = some (.int .u8 p.f) ∧ W.cell? ⟨w.heap.size, 1, none⟩ = some (.int .i64 p.n) ∧ W.cell? ⟨w.heap.size, 2, none⟩ = some (.int .i64 p.k) ∧ W.cell? ⟨w.heap.size, 3, none⟩ = some (.int .i64 p.t) ∧ W.cell? ⟨w.heap.size, 4, none⟩ = some (.int .i64 p.s) ∧ W.cell? ⟨w.heap.size, 5, none⟩ = some (.int .i64 p.e) ∧ W.cell? ⟨w.heap.size, 6, none⟩ = some (.int .i64 p.d) ∧ W.cell? ⟨w.heap.size, 7, none⟩ = some (.int .i64 p.w)) ∧ W.cell? ⟨w.heap.size + 1, 0, none⟩ = some (.int .i64 n) ∧ W.cell? ⟨w.heap.size + 1, 1, none⟩ = some vo ∧ W.cell? ⟨w.heap.size + 1, 2, none⟩ = some vu ∧ W.cell? ⟨w.heap.size + 1, 3, none⟩ = some vd ∧ W.cell? ⟨w.heap.size + 1, 4, none⟩ = some vp := by
 have n1 := heap_alloc_new w (.cells #[.int .u8 p.f, .int .i64 p.n, .int .i64 p.k, .int .i64 p.t, .int .i64 p.s, .int .i64 p.e, .int .i64 p.d, .int .i64 p.w] T1)
 have b1 := alloc_below w (.cells #[.int .u8 p.f, .int .i64 p.n, .int .i64 p.k, .int .i64 p.t, .int .i64 p.s, .int .i64 p.e, .int .i64 p.d, .int .i64 p.w] T1)
 have s1 : (w.alloc (.cells #[.int .u8 p.f, .int .i64 p.n, .int .i64 p.k, .int .i64 p.t, .int .i64 p.s, .int .i64 p.e, .int .i64 p.d, .int .i64 p.w] T1)).heap.size = w.heap.size + 1 := by simp
 generalize w.alloc (.cells #[.int .u8 p.f, .int .i64 p.n, .int .i64 p.k, .int .i64 p.t, .int .i64 p.s, .int .i64 p.e, .int .i64 p.d, .int .i64 p.w] T1) = V1 at *
 have n2 := heap_alloc_new V1 (.cells #[.int .i64 n, vo, vu, vd, vp] T2)
 have b2 := alloc_below V1 (.cells #[.int .i64 n, vo, vu, vd, vp] T2)
 rw [s1] at n2
 have m1 := blk8 n1 b2
 refine ⟨_, rfl, Below.next b1 b2, fun W hb => ?_⟩
 have h1 := blk8 m1 hb
 have h2 := blk8 n2 hb
 exact ⟨⟨cell_at h1 rfl, cell_at h1 rfl, cell_at h1 rfl, cell_at h1 rfl, cell_at h1 rfl, cell_at h1 rfl, cell_at h1 rfl, cell_at h1 rfl⟩, cell_at h2 rfl, cell_at h2 rfl, cell_at h2 rfl, cell_at h2 rfl, cell_at h2 rfl⟩
end Go.Proofs.YtjhididlcdepdaaGreat
