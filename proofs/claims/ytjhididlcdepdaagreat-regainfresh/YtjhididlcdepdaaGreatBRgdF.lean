import Derived.Test.YtjhididlcdepdaaGreatBRgdD
import Derived.Test.YtjhididlcdepdaaGreatBLodF
set_option linter.unusedVariables false
set_option linter.unusedSimpArgs false
set_option maxRecDepth 100000
set_option maxHeartbeats 4000000
namespace Go.Proofs.YtjhididlcdepdaaGreat
open Go.RowKit Fld Pln Shr
def GivesRd (k : FuncId) (args : Array Value) (W : World) (Rs Ps : List (List Int)) (Ws : List Int) (e0 : Int) : Prop :=
 Calls Tryz.prog k args W fun e w' => ∃ vr vq va, e = .returned (.tuple #[.agg #[vr, vq, va], .int .i64 e0]) ∧ (Rws w' vr Rs ∧ Rws w' vq Ps ∧ Lm iw 1 w' va Ws) ∧ Below W.heap.size W w'
theorem vals_snoc8 (xs : List Int) (x : Int) : vals (xs ++ [x]) = vals xs ++ [.int .u64 x] := by unfold vals; rw [List.map_append]; rfl
theorem take_snocW {l : List Int} {k : Nat} (hk : k < l.length) : vals (l.take (k + 1)) = vals (l.take k) ++ [.int .u64 (co l k)] := by
 rw [take_snoc8 hk, vals_snoc8]; rfl
noncomputable def rwo (p : Pn) (l : List Rp) (q : Int) (K o k : Nat) : List (List Int) := mkl K (fun x => (plL p l (if x < k then o + 1 else o)).map (vl q (x : Int)))
theorem rwo_len (p : Pn) (l : List Rp) (q : Int) (K o k : Nat) : (rwo p l q K o k).length = K := mkl_len _ _
theorem rwo_at (p : Pn) (l : List Rp) (q : Int) {K o k : Nat} (h : k < K) : (rwo p l q K o k).getD k [] = (plL p l o).map (vl q (k : Int)) := by
 unfold rwo; rw [mkl_at _ h, if_neg (by omega)]
theorem rwo_at0 (p : Pn) (l : List Rp) (q : Int) {K o i : Nat} (h : i < K) : (rwo p l q K o 0).getD i [] = (plL p l o).map (vl q (i : Int)) := by
 unfold rwo; rw [mkl_at _ h, if_neg (by omega)]
theorem plL_succ (p : Pn) (l : List Rp) (o : Nat) : plL p l (o + 1) = plL p l o ++ [dcL p l o] := by unfold plL; rw [List.range_succ, List.map_append]; rfl
theorem rwo_set (p : Pn) (l : List Rp) (q : Int) {K o k : Nat} (h : k < K) : (rwo p l q K o k).set k ((plL p l o).map (vl q (k : Int)) ++ [vl q (k : Int) (dcL p l o)]) = rwo p l q K o (k + 1) := by
 unfold rwo
 rw [mkl_set _ h]
 refine mkl_congr (fun t ht => ?_)
 by_cases e : t = k
 · subst e
   rw [if_pos rfl, if_pos (by omega), plL_succ, List.map_append]; rfl
 · rw [if_neg e]
   by_cases e2 : t < k
   · rw [if_pos e2, if_pos (by omega)]
   · rw [if_neg e2, if_neg (by omega)]
theorem rwo_end (p : Pn) (l : List Rp) (q : Int) (K o : Nat) : rwo p l q K o K = rwo p l q K (o + 1) 0 := mkl_congr (fun t ht => by rw [if_pos ht, if_neg (by omega)])
theorem rwo_all (p : Pn) (l : List Rp) (q : Int) (o : Nat) (hm : mayP p = true) : rwo p l q p.k.toNat o 0 = (datL p).map (rwR q (plL p l o)) := by
 unfold rwo mkl datL pts rwR
 rw [if_pos hm, List.map_map]
 refine List.map_congr_left (fun t ht => ?_)
 rw [if_neg (by omega)]
 show _ = (plL p l o).map (vl q (0 + (t : Int)))
 rw [Int.zero_add]
theorem rwo_zero (p : Pn) (l : List Rp) (q : Int) (K : Nat) : rwo p l q K 0 0 = mkl K (fun _ => []) := mkl_congr (fun t ht => rfl)
theorem nvs_getD (n i : Nat) : (nvs n).getD i nov = nov := nvs_at n i
theorem rdt_new {w0 W : World} {K N : Nat} {vx : Value} {xs : List Int} (hB : Below w0.heap.size w0 W) (hx : W.ownsRow w0.heap.size 64 1 vx xs.length (vals xs)) (hK : K <= 64) :
 Rdt w0 w0.heap.size (((W.alloc (.cells (nvs K).toArray 36)).alloc (.cells #[.slice (some ⟨W.heap.size, 0, none⟩) K K, .slice none 0 0, .slice none 0 0] 29)).alloc (.cells ((List.replicate N false).map Value.bool).toArray 4)).heap.size (W.heap.size + 1) W.heap.size (W.heap.size + 2) K N vx xs (mkl K (fun _ => [])) [] (fun _ => false) (.slice none 0 0) (.slice none 0 0) nov [] (((W.alloc (.cells (nvs K).toArray 36)).alloc (.cells #[.slice (some ⟨W.heap.size, 0, none⟩) K K, .slice none 0 0, .slice none 0 0] 29)).alloc (.cells ((List.replicate N false).map Value.bool).toArray 4)) := by
 have b1 := alloc_below W (.cells (nvs K).toArray 36)
 have o1 : (W.alloc (.cells (nvs K).toArray 36)).ownsRow w0.heap.size 36 1 (.slice (some ⟨W.heap.size, 0, none⟩) K K) K (nvs K) := own_new hB.size (nvs_len K) (by omega)
 have s1 : (W.alloc (.cells (nvs K).toArray 36)).heap.size = W.heap.size + 1 := by simp
 generalize W.alloc (.cells (nvs K).toArray 36) = W1 at *
 have b2 := alloc_below W1 (.cells #[.slice (some ⟨W.heap.size, 0, none⟩) K K, .slice none 0 0, .slice none 0 0] 29)
 have n2 := heap_alloc_new W1 (.cells #[.slice (some ⟨W.heap.size, 0, none⟩) K K, .slice none 0 0, .slice none 0 0] 29)
 have s2 : (W1.alloc (.cells #[.slice (some ⟨W.heap.size, 0, none⟩) K K, .slice none 0 0, .slice none 0 0] 29)).heap.size = W.heap.size + 2 := by rw [World.size_alloc, s1]
 rw [s1] at n2
 generalize W1.alloc (.cells #[.slice (some ⟨W.heap.size, 0, none⟩) K K, .slice none 0 0, .slice none 0 0] 29) = W2 at *
 have b3 := alloc_below W2 (.cells ((List.replicate N false).map Value.bool).toArray 4)
 have n3 := heap_alloc_new W2 (.cells ((List.replicate N false).map Value.bool).toArray 4)
 have s3 : (W2.alloc (.cells ((List.replicate N false).map Value.bool).toArray 4)).heap.size = W.heap.size + 3 := by rw [World.size_alloc, s2]
 rw [s2] at n3
 generalize W2.alloc (.cells ((List.replicate N false).map Value.bool).toArray 4) = W3 at *
 have hsz := hB.size
 have hb := Below.next (Below.next b1 b2) b3
 have hF : Fam W3 w0.heap.size (vx :: (nvs K ++ [])) (xs :: (mkl K (fun _ => []) ++ [])) := by
  have hg : ∀ i, (vx :: (nvs K ++ [])).getD (i + 1) nov = nov := fun i => by
   show (nvs K ++ []).getD i nov = nov
   rw [List.append_nil]; exact nvs_getD K i
  have hg2 : ∀ i, (xs :: (mkl K (fun _ => []) ++ [])).getD (i + 1) ([] : List Int) = [] := fun i => by
   show (mkl K (fun _ => []) ++ []).getD i [] = []
   rw [List.append_nil]
   by_cases hi : i < K
   · exact mkl_at _ hi
   · rw [List.getD_eq_getElem?_getD, List.getElem?_eq_none (by rw [mkl_len]; omega)]; rfl
  refine ⟨by simp [mkl_len, nvs_len], fun i hi => ?_, fun i j g hi hj hne e1 e2 => ?_⟩
  · rcases i with _ | i
    · exact own_below hx hb
    · rw [hg, hg2]; exact World.ownsRow_nil _ _ _ _
  · rcases i with _ | i
    · rcases j with _ | j
      · exact hne rfl
      · rw [hg] at e2; simp [nov, Value.ownBlock] at e2
    · rw [hg] at e1; simp [nov, Value.ownBlock] at e1
 refine ⟨Below.next hB hb, ⟨Nat.le_refl _, by omega, by omega, by omega, by omega, Nat.le_refl _⟩, blk8 n2 b3, ?_, ⟨nvs K, [], own_below (own_below o1 b2) b3, World.ownsRow_nil _ _ _ _, hF, fun i g hi hg => hF.top hi hg, nvs_len K, mkl_len _ _, rfl, fun h0 => by simp at h0⟩, World.ownsRow_nil _ _ _ _, fun g hg => by simp [Value.ownBlock] at hg⟩
 show W3.heap[W.heap.size + 2]? = _
 rw [n3]
 congr 3
 rw [List.map_const', List.length_range]
theorem mkj_all {b : Nat -> Bool} {n : Nat} (hn : n <= 64) (hb : ∀ j, n <= j -> b j = false) : mkj b n = mkd b := by
 unfold mkj mkd
 congr 1
 have e : (64 : Nat) = n + (64 - n) := by omega
 have e2 : (List.map (fun x => n + x) (List.range (64 - n))).filter b = [] := List.filter_eq_nil_iff.2 (fun j hj => by
  obtain ⟨i, _, rfl⟩ := List.mem_map.1 hj
  rw [hb _ (by omega)]; decide)
 rw [e, List.range_add, List.filter_append, e2, List.append_nil]
theorem wrB_far {p : Pn} {n : Int} {l : List Rp} {q : Int} {wd : Bool} (h : Rvf p n l q wd) (m : Nat) {j : Nat} (hj : p.n <= (j : Int)) : wrB p l m j = false := by
 cases hc : wrB p l m j with
 | false => rfl
 | true =>
  obtain ⟨o, _, r, hr, hw, _⟩ := wrB_iff.1 hc
  have := h.wk r hr
  omega
theorem dRecover (p : Pn) (n : Int) (v : Value) (us : List Rq) (w : World) (hp : Ok8p p) (h : Rpl w v us) :
 GivesRd 9 #[plv p, .int .i64 n, v] w (rcR p n (rps us)) (rcP p n (rps us)) (rcW p n (rps us)) (rcE p n (rps us)) := by
 unfold GivesRd
 have HK := hide (fun W (hb : Below w.heap.size w W) => dBad18 p n v us W hp (h.below hb))
 obtain ⟨pb, hA⟩ := pb_box (w := w) p
 have a1 := alloc_below (w.alloc (.cells #[.int .u8 p.f, .int .i64 p.n, .int .i64 p.k, .int .i64 p.t, .int .i64 p.s, .int .i64 p.e, .int .i64 p.d, .int .i64 p.w] 24)) (.cells #[.slice none 0 0, .slice none 0 0, .slice none 0 0] 29)
 have n1 := heap_alloc_new (w.alloc (.cells #[.int .u8 p.f, .int .i64 p.n, .int .i64 p.k, .int .i64 p.t, .int .i64 p.s, .int .i64 p.e, .int .i64 p.d, .int .i64 p.w] 24)) (.cells #[.slice none 0 0, .slice none 0 0, .slice none 0 0] 29)
 have hsz : (w.alloc (.cells #[.int .u8 p.f, .int .i64 p.n, .int .i64 p.k, .int .i64 p.t, .int .i64 p.s, .int .i64 p.e, .int .i64 p.d, .int .i64 p.w] 24)).heap.size = w.heap.size + 1 := by simp
 rw [hsz] at n1
 clear hsz
 have HPb := hide (pb.below a1)
 have hA1 := Below.next hA a1
 obtain ⟨c0, c1, c2, c3, c4, c5, c6, c7⟩ := HPb.out.cells
 have HN1 := hide n1
 by_cases hz : rvE p n (rps us) = 0
 · obtain ⟨q, wd, hR⟩ := rv_facts h.wd hz
   have hlo := hR.lo
   have hhi := hR.hi
   obtain ⟨N, rfl⟩ := Int.eq_ofNat_of_zero_le hlo
   obtain ⟨⟨m0, m1⟩, ⟨t0, t1⟩, ⟨u0, u1⟩, _, ⟨e0, e1⟩, _⟩ := may_facts hR.may
   obtain ⟨Kd, hK⟩ := Int.eq_ofNat_of_zero_le (show 0 <= p.k by omega)
   obtain ⟨NN, hNN⟩ := Int.eq_ofNat_of_zero_le (show 0 <= p.n by omega)
   have hdg := dg_bound hR.may
   have hfew := hR.few
   rw [rps_len] at hfew
   have HOu := hide (fun W => dOuter p W hR.may)
   have hol : (outL p).length = NN := by rw [show (outL p).length = p.n.toNat from pts_len _ _]; omega
   have HX : Hid (∀ k, k < us.length -> ∃ J : Nat, (us.getD k zRq).1 = (J : Int) ∧ J < NN ∧ (outL p).getD J 0 = co (xsR p (rps us)) k ∧ ((rps us).getD k nrp).w = (J : Int)) := fun k hk => by
    have h1 := hR.wk _ (getD_inR (l := rps us) (i := k) (by rw [rps_len]; exact hk))
    rw [rps_at] at h1
    have e : (rpO (us.getD k zRq)).w = (us.getD k zRq).1 := rfl
    refine ⟨((us.getD k zRq).1).toNat, by omega, by omega, ?_, ?_⟩
    · rw [xsR_at p (by rw [rps_len]; exact hk), rps_at]
      unfold outL
      rw [pts_at _ (by omega)]
      omega
    · rw [rps_at]; omega
   have HD : Hid (∀ W o vx vy, Rw W vx (xsR p (rps us)) -> Rw W vy (ysR o (rps us)) -> GivesD 33 #[.int .u8 p.f, vx, vy, .int .i64 (dg p), .int .i64 p.e] W (Dcd p.f (xsR p (rps us)) (ysR o (rps us)) (dg p) p.e) 0) := fun W o vx vy hx hy => by
    have := dDecode p.f vx vy (xsR p (rps us)) (ysR o (rps us)) (dg p) p.e W hx hy ⟨by omega, by omega⟩ ⟨by omega, by omega⟩
    rw [hR.dc o] at this
    exact this
   unfold GivesD at HD
   have HDg := hide (fun W => dD p hR.may W)
   have HYv : Hid (∀ W k o, Rpl W v us -> k < us.length -> o < N -> ∃ b off cp, (us.getD k zRq).2.1 = .slice (some ⟨b, off, none⟩) (us.getD k zRq).2.2.length cp ∧ o < (us.getD k zRq).2.2.length ∧ ∀ V, Below W.heap.size W V -> V.cell? ⟨b, off + o, none⟩ = some (.int .u64 (co (ysR o (rps us)) k))) := fun W k o hRp hk ho => by
    have h1 := (hR.vl (rpO (us.getD k zRq)) (List.mem_map.2 ⟨_, getD_inQ hk, rfl⟩)).1
    have h1' : ((us.getD k zRq).2.2.length : Int) = (N : Int) := h1
    have h2 := hRp.row _ (getD_inQ hk)
    rw [ysR_at o (by rw [rps_len]; exact hk), rps_at]
    show ∃ b off cp, _ ∧ _ ∧ ∀ V, Below W.heap.size W V -> V.cell? ⟨b, off + o, none⟩ = some (.int .u64 (co (us.getD k zRq).2.2 o))
    obtain ⟨b, off, cp, e, hc⟩ := rw_some8 h2 (by omega)
    exact ⟨b, off, cp, e, by omega, fun V hb => hc V hb o (by omega)⟩
   have HYw := hide (fun o => ysR_wd hR o)
   have HEv : Hid (∀ W o k u, k < Kd -> Rw W u (dcL p (rps us) o) -> Calls Tryz.prog 35 #[.int .u8 p.f, u, .int .u64 (k : Int)] W fun e w' => ∃ e0, e = .returned (.tuple #[.int .u64 (vl q (k : Int) (dcL p (rps us) o)), .int .i64 e0]) ∧ Below W.heap.size W w') := fun W o k u hk hRw => by
    obtain ⟨g1, g2⟩ := dec_els hR o
    have hb := hR.fld.big
    have := dEval_any p.f (k : Int) u _ W ⟨by omega, by omega⟩ hRw
    have e : er p.f (dcL p (rps us) o) [(k : Int)] = 0 := er_yes hR.fld (allIn_of g1) (allIn_of (fun y hy => by rw [List.mem_singleton.1 hy]; exact ⟨by omega, by omega⟩)) (by omega) (by simp)
    have e2 : valE p.f (k : Int) (dcL p (rps us) o) = vl q (k : Int) (dcL p (rps us) o) := by unfold valE; rw [e, if_pos rfl, pOf_eq hR.fld]
    rw [e2] at this
    exact this.mono fun e w' ⟨he, hb⟩ => ⟨_, he, hb⟩
   have HPw := hide (fun o => (plL_facts hR (o + 1) (dcL p (rps us) o) (List.mem_map.2 ⟨o, List.mem_range.2 (by omega), rfl⟩)).2)
   have HRv := hide hR
   rw [hz] at HK
   have HY := hide (fun hf => rc_yes (n := (N : Int)) hz hf)
   have HNo : Hid (∀ hf : ¬ Fine p (rps us) N, rcE p (N : Int) (rps us) = 180 ∧ rcP p (N : Int) (rps us) = [] ∧ rcR p (N : Int) (rps us) = [] ∧ rcW p (N : Int) (rps us) = []) := fun hf => by
    have e := rc_many (n := (N : Int)) hz hf
    exact ⟨e, rc_err (by rw [e]; decide)⟩
   rw [Int.toNat_natCast] at HY
   have HL := hide h
   have HFm := hide (fun k (hk : k < us.length) => h.one hk)
   obtain ⟨ao, cap, rfl, _⟩ := h.spell
   generalize rcE p (N : Int) (rps us) = ce at *
   generalize rcP p (N : Int) (rps us) = cP at *
   generalize rcR p (N : Int) (rps us) = cR at *
   generalize rcW p (N : Int) (rps us) = cW at *
   have hxl : (xsR p (rps us)).length = us.length := by rw [xsR_len, rps_len]
   have Hxw := hide (xsR_wd hR)
   have HKk := hide hK
   have HNn := hide hNN
   have Hol := hide hol
   have hK64 : Kd <= 64 := by omega
   have hN64 : NN <= 64 := by omega
   have hN0 : 0 < NN := by omega
   clear h hR hp pb hA a1 n1 hz hK hNN hol
   rw [plan_eq8] at *
   obtain ⟨i0, hi0, hy0, hy1, hy2⟩ := info_parts u64_info
   go_enter Tryz.func9, Tryz.ntmps9
   go_upto_region 1 with fail
   generalize (w.alloc (.cells #[.int .u8 p.f, .int .i64 p.n, .int .i64 p.k, .int .i64 p.t, .int .i64 p.s, .int .i64 p.e, .int .i64 p.d, .int .i64 p.w] 24)).alloc (.cells #[.slice none 0 0, .slice none 0 0, .slice none 0 0] 29) = W1 at *
   go_upto_region 4 with (go_at_call 31; refine (HK.out _ hA1).mono ?_; rintro e w2 ⟨rfl, hb2⟩)
   have hA2 := Below.next hA1 hb2
   have HP2 := hide (HPb.out.below hb2)
   have HN2 := hide (blk8 HN1.out hb2)
   have HL2 := hide (HL.out.below hA2)
   clear c0 c1 c2 c3 c4 c5 c6 c7 HK HPb HN1 HL hb2 hA1
   go_wp2_with fail
   obtain ⟨xl, Hxl⟩ : ∃ xl, Hid (xsR p (rps us) = xl) := ⟨_, rfl⟩
   rw [Hxl.out] at hxl HX Hxw HD
   go_loopw [9, 10] (fun vl vi wr => ∃ (j : Nat) (la : Option Addr) (lc : Nat), j <= us.length ∧ vi = .int .i64 j ∧ vl = .slice la j lc ∧ Hid (wr.ownsRow w2.heap.size 64 1 (.slice la j lc) j (vals (xl.take j))) ∧ Below w2.heap.size w2 wr) (fun _ vi _ => us.length - (intOf vi).toNat)
   case atStart => exact ⟨0, none, 0, Nat.zero_le _, rfl, rfl, World.ownsRow_nil _ _ _ _, Below.refl _ _⟩
   case round =>
    obtain ⟨j, la, lc, hj, rfl, rfl, HO, hB⟩ := hrel
    by_cases hlt : j < us.length
    · obtain ⟨b, off, cp', heq, _, _⟩ := HL2.out.lm.form (by omega)
      cases heq
      obtain ⟨J, hJ, hJN, hJo, _⟩ := HX.out j hlt
      obtain ⟨d0, _, _⟩ := HL2.out.cell hB hlt
      rw [hJ] at d0
      have HSn := hide (take_snocW (l := xl) (k := j) (by omega))
      have hdr : Below wr.heap.size wr wr.drew := (Below.refl _ wr).drew
      have HSs : Hid (∀ V, Below wr.heap.size wr V -> (V.cell? ⟨w.heap.size, 0, none⟩ = some (.int .u8 p.f) ∧ V.cell? ⟨w.heap.size, 1, none⟩ = some (.int .i64 p.n) ∧ V.cell? ⟨w.heap.size, 2, none⟩ = some (.int .i64 p.k) ∧ V.cell? ⟨w.heap.size, 3, none⟩ = some (.int .i64 p.t) ∧ V.cell? ⟨w.heap.size, 4, none⟩ = some (.int .i64 p.s) ∧ V.cell? ⟨w.heap.size, 5, none⟩ = some (.int .i64 p.e) ∧ V.cell? ⟨w.heap.size, 6, none⟩ = some (.int .i64 p.d) ∧ V.cell? ⟨w.heap.size, 7, none⟩ = some (.int .i64 p.w)) ∧ V.cell? ⟨b, off + j * 2, none⟩ = some (.int .i64 (J : Int))) := fun V hb => ⟨(HP2.out.below (Below.next hB hb)).cells, (hb.cell (cell_in d0)).trans d0⟩
      have HSb : Hid (∀ V, Below w2.heap.size w2 V -> wr.heap.size <= V.heap.size -> (V.cell? ⟨w.heap.size, 0, none⟩ = some (.int .u8 p.f) ∧ V.cell? ⟨w.heap.size, 1, none⟩ = some (.int .i64 p.n) ∧ V.cell? ⟨w.heap.size, 2, none⟩ = some (.int .i64 p.k) ∧ V.cell? ⟨w.heap.size, 3, none⟩ = some (.int .i64 p.t) ∧ V.cell? ⟨w.heap.size, 4, none⟩ = some (.int .i64 p.s) ∧ V.cell? ⟨w.heap.size, 5, none⟩ = some (.int .i64 p.e) ∧ V.cell? ⟨w.heap.size, 6, none⟩ = some (.int .i64 p.d) ∧ V.cell? ⟨w.heap.size, 7, none⟩ = some (.int .i64 p.w)) ∧ V.cell? ⟨b, off + j * 2, none⟩ = some (.int .i64 (J : Int))) := fun V hb _ => ⟨(HP2.out.below hb).cells, by rw [<- hJ]; exact (HL2.out.cell hb hlt).1⟩
      have hS0 := HSs.out _ hdr
      have j0 : (0 : Int) <= (j : Int) := by omega
      have j1 : (j : Int) < (us.length : Int) := by omega
      have J0 : (0 : Int) <= (J : Int) := by omega
      have J1 : (J : Int) < (NN : Int) := by omega
      have hsw := hB.size
      generalize hxk : co xl j = y at *
      clear HD HDg HY HNo HFm HX hJ HN2 hxk d0
      go_upto_region 8 with fail
      refine wp_region_held_drew (S := (fun V => (V.cell? ⟨w.heap.size, 0, none⟩ = some (.int .u8 p.f) ∧ V.cell? ⟨w.heap.size, 1, none⟩ = some (.int .i64 p.n) ∧ V.cell? ⟨w.heap.size, 2, none⟩ = some (.int .i64 p.k) ∧ V.cell? ⟨w.heap.size, 3, none⟩ = some (.int .i64 p.t) ∧ V.cell? ⟨w.heap.size, 4, none⟩ = some (.int .i64 p.s) ∧ V.cell? ⟨w.heap.size, 5, none⟩ = some (.int .i64 p.e) ∧ V.cell? ⟨w.heap.size, 6, none⟩ = some (.int .i64 p.d) ∧ V.cell? ⟨w.heap.size, 7, none⟩ = some (.int .i64 p.w)) ∧ V.cell? ⟨b, off + j * 2, none⟩ = some (.int .i64 (J : Int)))) (by kernel_rfl) (by ((try dsimp only) <;> (first | with_reducible exact hS3 | with_reducible exact hS2 _ | with_reducible exact hS1 | with_reducible exact hS0))) (fun hHeld => ?_)
      refine tkY 0 ?_
      refine tkY 1 ?_
      refine tkY 3 ?_
      refine tkY 4 ?_
      refine tkY 5 ?_
      refine tkY 6 ?_
      refine tkY 7 ?_
      refine rd1 2 (fun K hK => ?_)
      (try simp only [ly0, ly1, ly2, ly3, ly4, ly5, ly6, ly7])
      go_simp
      (first
       | (go_at_call 32; refine (HOu.out _).mono ?_; rintro e w4 ⟨v4, rfl, o4, hb4⟩; have hD4 := Below.next hdr hb4; have hS1 := HSs.out _ hD4; have hS2 := fun ob => HSs.out (w4.alloc ob) (Below.next hD4 (alloc_below w4 ob)); have hsz4 := hD4.size; rw [Hol.out] at o4; obtain ⟨g4, cg4, rfl, _, _⟩ := o4.form (by omega); have hcJ : w4.cell? ⟨g4, J, none⟩ = some (.int .u64 y) := (by have := own_cell o4 Hol.out hJN; rw [hJo] at this; exact this); have HRow : Hid (∀ ob, World.ownsRow (w4.alloc ob) w2.heap.size 64 1 (.slice la j lc) j (vals (xl.take j))) := fun ob => (own_below HO.out hD4).alloc ob; clear o4)
       | (refine step_append_lies _ (by rfl) _ _ _ (by rfl) w2.heap.size 64 i0 _ 1 8 Tryz.underlying36 hi0 hy0 hy1 hy2 rfl (by omega) (.slice la j lc) j (vals (xl.take j)) (by rfl) (HRow.out _) ⟨w4.heap.size, 0, none⟩ 1 1 [.int .u64 y] (by rfl) (by rfl) (World.news_of_block (cs := #[.int .u64 y]) (t := 64) (fr := (0, 0)) (heap_alloc_new w4 _)) (by simp [Value.oneCell']) (by omega) (by unfold maxLen; omega) (by omega) (by simp; omega) (w4.heap.size + 1) (by simp) ?_; intro gg cap2 w5 hown5 hgrow hat hltg; have hB5 : Below w2.heap.size w2 w5 := ((Below.next hB hD4).alloc (by omega) _).grown hgrow (by simp; omega) (fun i e => own_base (HRow.out (.cells #[] 0)) i e); have hS3 := HSb.out _ hB5 (by have := hgrow.size; simp at this; omega)))
      first | refine hK.out _ _ ?k11 (fun hHeld => ?_) | (go_wp2_with fail; refine hK.out _ _ ?k11 (fun hHeld => ?_))
      case k11 => ((try dsimp only) <;> (first | with_reducible exact hS3 | with_reducible exact hS2 _ | with_reducible exact hS1 | with_reducible exact hS0))
      clear hK K
      (try simp only [ly0, ly1, ly2, ly3, ly4, ly5, ly6, ly7])
      refine tkY 8 ?_
      refine rd1 9 (fun K hK => ?_)
      (try simp only [ly0, ly1, ly2, ly3, ly4, ly5, ly6, ly7])
      go_simp
      refine hK.out _ _ (by ((try dsimp only) <;> (first | with_reducible exact hS3 | with_reducible exact hS2 _ | with_reducible exact hS1 | with_reducible exact hS0))) (fun hHeld => ?_)
      clear hK K
      (try simp only [ly0, ly1, ly2, ly3, ly4, ly5, ly6, ly7])
      refine rd1 10 (fun K hK => ?_)
      (try simp only [ly0, ly1, ly2, ly3, ly4, ly5, ly6, ly7])
      go_simp
      refine hK.out _ _ (by ((try dsimp only) <;> (first | with_reducible exact hS3 | with_reducible exact hS2 _ | with_reducible exact hS1 | with_reducible exact hS0))) (fun hHeld => ?_)
      clear hK K
      (try simp only [ly0, ly1, ly2, ly3, ly4, ly5, ly6, ly7])
      refine rd1 11 (fun K hK => ?_)
      (first
       | (go_at_call 32; refine (HOu.out _).mono ?_; rintro e w4 ⟨v4, rfl, o4, hb4⟩; have hD4 := Below.next hdr hb4; have hS1 := HSs.out _ hD4; have hS2 := fun ob => HSs.out (w4.alloc ob) (Below.next hD4 (alloc_below w4 ob)); have hsz4 := hD4.size; rw [Hol.out] at o4; obtain ⟨g4, cg4, rfl, _, _⟩ := o4.form (by omega); have hcJ : w4.cell? ⟨g4, J, none⟩ = some (.int .u64 y) := (by have := own_cell o4 Hol.out hJN; rw [hJo] at this; exact this); have HRow : Hid (∀ ob, World.ownsRow (w4.alloc ob) w2.heap.size 64 1 (.slice la j lc) j (vals (xl.take j))) := fun ob => (own_below HO.out hD4).alloc ob; clear o4)
       | (refine step_append_lies _ (by rfl) _ _ _ (by rfl) w2.heap.size 64 i0 _ 1 8 Tryz.underlying36 hi0 hy0 hy1 hy2 rfl (by omega) (.slice la j lc) j (vals (xl.take j)) (by rfl) (HRow.out _) ⟨w4.heap.size, 0, none⟩ 1 1 [.int .u64 y] (by rfl) (by rfl) (World.news_of_block (cs := #[.int .u64 y]) (t := 64) (fr := (0, 0)) (heap_alloc_new w4 _)) (by simp [Value.oneCell']) (by omega) (by unfold maxLen; omega) (by omega) (by simp; omega) (w4.heap.size + 1) (by simp) ?_; intro gg cap2 w5 hown5 hgrow hat hltg; have hB5 : Below w2.heap.size w2 w5 := ((Below.next hB hD4).alloc (by omega) _).grown hgrow (by simp; omega) (fun i e => own_base (HRow.out (.cells #[] 0)) i e); have hS3 := HSb.out _ hB5 (by have := hgrow.size; simp at this; omega)))
      refine hK.out _ _ (by ((try dsimp only) <;> (first | with_reducible exact hS3 | with_reducible exact hS2 _ | with_reducible exact hS1 | with_reducible exact hS0))) (fun hHeld => ?_)
      clear hK K
      (try simp only [ly0, ly1, ly2, ly3, ly4, ly5, ly6, ly7])
      refine tkY 12 ?_
      refine wpAnyH_done (by kernel_rfl) ?_ _
      have HO5 : Hid (w5.ownsRow w2.heap.size 64 1 (.slice (some ⟨gg, 0, none⟩) (j + 1) cap2) (j + 1) (vals (xl.take (j + 1)))) := by
       show World.ownsRow _ _ _ _ _ _ _
       rw [HSn.out]
       exact hown5
      clear hown5 hgrow hat hltg hS0 hS1 hS2 hS3 HRow hcJ HSs HSb HSn HO
      go_wp2
      go_roundw
      case rel => exact ⟨j + 1, some ⟨gg, 0, none⟩, cap2, by omega, by go_num, rfl, HO5, hB5⟩
      case measure => simp [intOf]; omega
    · obtain rfl : j = us.length := by omega
      have hxt : xl.take us.length = xl := by rw [<- hxl]; exact List.take_length
      rw [hxt] at HO
      have HO2 : Hid (wr.ownsRow w2.heap.size 64 1 (.slice la us.length lc) xl.length (vals xl)) := by rw [hxl]; exact HO
      have hmk1 : ∀ W : World, (Instr.makeSlice 26 (.int .i64 p.k) (.int .i64 p.k)).run Tryz.prog W = .ok (.slice (some ⟨W.heap.size, 0, none⟩) Kd Kd) (W.alloc (.cells (nvs Kd).toArray 36)) := fun W => by rw [HKk.out]; exact makeN Kd (by omega) W
      have hmk2 : ∀ W : World, (Instr.makeSlice 76 (.int .i64 p.n) (.int .i64 p.n)).run Tryz.prog W = .ok (.slice (some ⟨W.heap.size, 0, none⟩) NN NN) (W.alloc (.cells ((List.replicate NN false).map Value.bool).toArray 4)) := fun W => by rw [HNn.out]; exact makeB NN (by omega) W
      have HT0 := hide (rdt_new (N := NN) (K := Kd) hB HO2.out hK64)
      have eAr : ((List.replicate NN false).map Value.bool).toArray = Array.replicate NN (Value.bool false) := by simp
      rw [eAr] at HT0 hmk2
      have hpw := HP2.out.below hB
      obtain ⟨c0, c1, c2, c3, c4, c5, c6, c7⟩ := hpw.cells
      have hbV := Below.next (alloc_below wr (.cells (nvs Kd).toArray 36)) (alloc_below (wr.alloc (.cells (nvs Kd).toArray 36)) (.cells #[.slice (some ⟨wr.heap.size, 0, none⟩) Kd Kd, .slice none 0 0, .slice none 0 0] 29))
      have HpV := hide (hpw.below hbV)
      have hsV : ((wr.alloc (.cells (nvs Kd).toArray 36)).alloc (.cells #[.slice (some ⟨wr.heap.size, 0, none⟩) Kd Kd, .slice none 0 0, .slice none 0 0] 29)).heap.size = wr.heap.size + 2 := by simp
      clear HO HO2 HOu hpw
      go_upto_region 10 with fail
      generalize (wr.alloc (.cells (nvs Kd).toArray 36)).alloc (.cells #[.slice (some ⟨wr.heap.size, 0, none⟩) Kd Kd, .slice none 0 0, .slice none 0 0] 29) = WV at *
      clear c0 c1 c2 c3 c4 c5 c6 c7 hmk1
      obtain ⟨c0, c1, c2, c3, c4, c5, c6, c7⟩ := HpV.out.cells
      go_upto_region 11 with fail
      rw [<- rwo_zero p (rps us) q Kd] at HT0
      have HT1 : Hid (Rdt w2 w2.heap.size (WV.alloc (.cells (Array.replicate NN (Value.bool false)) 4)).heap.size (wr.heap.size + 1) wr.heap.size (wr.heap.size + 2) Kd NN (.slice la us.length lc) xl (rwo p (rps us) q Kd 0 0) (plL p (rps us) 0) (wrB p (rps us) 0) (.slice none 0 0) (.slice none 0 0) nov [] (WV.alloc (.cells (Array.replicate NN (Value.bool false)) 4))) := ⟨HT0.out.bel, HT0.out.low, HT0.out.box, HT0.out.ms.congr (fun j _ => (wrB_zero p (rps us) j).symm), HT0.out.all, HT0.out.wr, HT0.out.gp⟩
      generalize WV.alloc (.cells (Array.replicate NN (Value.bool false)) 4) = W3 at *
      have HZ : Hid (∀ o, o < 0 -> (dcP p (rps us) o).isSome = true) := fun o ho => by omega
      clear c0 c1 c2 c3 c4 c5 c6 c7 hmk2 HT0 HpV hbV hsV hB
      generalize hgR : wr.heap.size + 1 = gR at *
      generalize hgB : wr.heap.size + 2 = gB at *
      generalize wr.heap.size = G at *
      go_wp2_with fail
      go_loopw [13] (fun vi wq => ∃ (o H : Nat) (aP : Option Addr) (kP : Nat) (vL : Value), o <= N ∧ vi = .int .i64 o ∧ Hid (Rdt w2 w2.heap.size H gR G gB Kd NN (.slice la us.length lc) xl (rwo p (rps us) q Kd o 0) (plL p (rps us) o) (wrB p (rps us) o) (.slice aP o kP) (.slice none 0 0) vL [] wq) ∧ Hid (∀ o', o' < o -> (dcP p (rps us) o').isSome = true)) (fun vi _ => N - (intOf vi).toNat)
      case atStart => exact ⟨0, _, none, 0, nov, Nat.zero_le _, rfl, HT1, HZ⟩
      case round =>
       clear HT1 HZ
       obtain ⟨o, H, aP, kP, vL, ho, rfl, HT, HS⟩ := hrel
       by_cases hol : o < N
       · have o0 : (0 : Int) <= (o : Int) := by omega
         have o1 : (o : Int) < (N : Int) := by omega
         have HTr := hide HT.out.raise
         have HLq := hide (HL2.out.below HT.out.bel)
         have HPq := hide (HP2.out.below HT.out.bel)
         have HYo := hide (fun W k hRp hk => HYv.out W k o hRp hk hol)
         have hyl : (ysR o (rps us)).length = us.length := by rw [ysR_len, rps_len]
         have HYwo := hide (HYw.out o)
         have HDo := hide (fun W vx vy => HD.out W o vx vy)
         have HTold := hide (fun P a k hD => HRv.out.told (o := o) (P := P) (a := a) (k := k) hD)
         rw [Hxl.out] at HTold
         obtain ⟨yl, Hyl⟩ : ∃ yl, Hid (ysR o (rps us) = yl) := ⟨_, rfl⟩
         rw [Hyl.out] at HYo hyl HYwo HDo HTold
         go_wp2_with fail
         generalize wr = wo at *
         go_loopw [14, 15] (fun vl vi wq => ∃ (j : Nat) (lb : Option Addr) (kb : Nat), j <= us.length ∧ vi = .int .i64 j ∧ vl = .slice lb j kb ∧ Hid (wq.ownsRow wo.heap.size 64 1 (.slice lb j kb) j (vals (yl.take j))) ∧ Below wo.heap.size wo wq) (fun _ vi _ => us.length - (intOf vi).toNat)
         case atStart => exact ⟨0, none, 0, Nat.zero_le _, rfl, rfl, World.ownsRow_nil _ _ _ _, Below.refl _ _⟩
         case round =>
          obtain ⟨j, lb, kb, hj, rfl, rfl, HO, hB⟩ := hrel
          by_cases hlt : j < us.length
          · obtain ⟨b, off, cp', heq, _, _⟩ := HLq.out.lm.form (by omega)
            injection heq with heq _ hcp
            subst heq hcp
            obtain ⟨_, d1, _⟩ := HLq.out.cell hB hlt
            obtain ⟨b9, o9, c9, h9, hol9, hc9⟩ := HYo.out wo j HLq.out hlt
            rw [h9] at d1
            have d2 := hc9 _ hB
            have HSn := hide (take_snocW (l := yl) (k := j) (by omega))
            have htl : (yl.take j).length = j := by rw [List.length_take]; omega
            have hA4 := alloc_below wr (.cells #[.int .u64 (co yl j)] 64)
            obtain ⟨a4, k4, w4, hr, ho4, hb4, hg4, _⟩ := appW1 (wr.alloc (.cells #[.int .u64 (co yl j)] 64)) wo.heap.size (.slice lb j kb) (yl.take j) ⟨wr.heap.size, 0, none⟩ (co yl j) (by rw [htl]; exact own_below HO.out hA4) (by simp [go_sem]) (by omega) (Nat.le_trans hB.size hA4.size)
            have htl2 : (yl.take j ++ [co yl j]).length = j + 1 := by rw [List.length_append, htl]; rfl
            rw [htl2, htl, vals_snoc8, <- HSn.out] at ho4
            rw [htl] at hr
            have HO4 := hide ho4
            have hB4 : Below wo.heap.size wo w4 := (Below.next hB hA4).trans hb4
            have j0 : (0 : Int) <= (j : Int) := by omega
            have j1 : (j : Int) < (us.length : Int) := by omega
            have o2 : (o : Int) < ((us.getD j zRq).2.2.length : Int) := by omega
            clear ho4 hb4 hg4 HO h9 HSn hA4 hc9 htl htl2 HT HTr HS HD HDg HYv HYo HY HNo HX HDo HTold HYwo HLq HPq HL2 HP2 HN2 HRv Hyl Hxl HYw
            generalize (us.getD j zRq).2.2.length = m9 at *
            generalize co yl j = y at *
            go_wp2_with (at_builtin; refine Lib.wpList_append_run _ rfl _ _ _ _ rfl _ _ rfl rfl _ _ hr ?_)
            go_roundw
            case rel => exact ⟨j + 1, a4, k4, by omega, by go_num, rfl, HO4, hB4⟩
            case measure => simp [intOf]; omega
          · obtain rfl : j = us.length := by omega
            have hyt : yl.take us.length = yl := by rw [<- hyl]; exact List.take_length
            rw [hyt] at HO
            have HTw := hide (HTr.out.below hB)
            have HPx := hide (HPq.out.below hB)
            have HYr := hide (HYwo.out.row HO.out)
            have HXr : Hid (∀ V, Below wr.heap.size wr V -> Rw V (.slice la us.length lc) xl) := fun V hb => by
             obtain ⟨ur, up, _, _, hF, _⟩ := (HTw.out.below hb).all
             exact Hxw.out.row (hF.each 0 (by simp))
            have hdr : Below wr.heap.size wr wr.drew := (Below.refl _ wr).drew
            have HSs : Hid (∀ V, Below wr.heap.size wr V -> (V.cell? ⟨w.heap.size, 0, none⟩ = some (.int .u8 p.f) ∧ V.cell? ⟨w.heap.size, 1, none⟩ = some (.int .i64 p.n) ∧ V.cell? ⟨w.heap.size, 2, none⟩ = some (.int .i64 p.k) ∧ V.cell? ⟨w.heap.size, 3, none⟩ = some (.int .i64 p.t) ∧ V.cell? ⟨w.heap.size, 4, none⟩ = some (.int .i64 p.s) ∧ V.cell? ⟨w.heap.size, 5, none⟩ = some (.int .i64 p.e) ∧ V.cell? ⟨w.heap.size, 6, none⟩ = some (.int .i64 p.d) ∧ V.cell? ⟨w.heap.size, 7, none⟩ = some (.int .i64 p.w))) := fun V hb => (HPx.out.below hb).cells
            have hS0 := HSs.out _ hdr
            have HDg2 := hide HDg.out
            obtain ⟨D, HDD⟩ : ∃ D, Hid (dg p = D) := ⟨_, rfl⟩
            rw [HDD.out] at HDg2 HDo
            clear HT HTr HD HDg HYv HYo HYwo HO HLq HYw
            go_upto_region 19 with fail
            refine wp_region_held_drew (S := (fun V => V.cell? ⟨w.heap.size, 0, none⟩ = some (.int .u8 p.f) ∧ V.cell? ⟨w.heap.size, 1, none⟩ = some (.int .i64 p.n) ∧ V.cell? ⟨w.heap.size, 2, none⟩ = some (.int .i64 p.k) ∧ V.cell? ⟨w.heap.size, 3, none⟩ = some (.int .i64 p.t) ∧ V.cell? ⟨w.heap.size, 4, none⟩ = some (.int .i64 p.s) ∧ V.cell? ⟨w.heap.size, 5, none⟩ = some (.int .i64 p.e) ∧ V.cell? ⟨w.heap.size, 6, none⟩ = some (.int .i64 p.d) ∧ V.cell? ⟨w.heap.size, 7, none⟩ = some (.int .i64 p.w))) (by kernel_rfl) (by ((try dsimp only) <;> (first | with_reducible exact hS2 | with_reducible exact hS1 | with_reducible exact hS0))) (fun hHeld => ?_)
            refine tkY 0 ?_
            refine tkY 1 ?_
            refine tkY 2 ?_
            refine tkY 3 ?_
            refine tkY 4 ?_
            refine tkY 6 ?_
            refine tkY 7 ?_
            refine rd1 5 (fun K hK => ?_)
            (try simp only [ly0, ly1, ly2, ly3, ly4, ly5, ly6, ly7])
            go_simp
            (go_at_call 34; refine (HDg2.out _).mono ?_; rintro e w4 ⟨rfl, hb4⟩; have hD4 := Below.next hdr hb4; have hS1 := HSs.out _ hD4)
            first | refine hK.out _ _ ?k12 (fun hHeld => ?_) | (go_wp2_with fail; refine hK.out _ _ ?k12 (fun hHeld => ?_))
            case k12 => ((try dsimp only) <;> (first | with_reducible exact hS2 | with_reducible exact hS1 | with_reducible exact hS0))
            clear hK K
            (try simp only [ly0, ly1, ly2, ly3, ly4, ly5, ly6, ly7])
            refine rd1 8 (fun K hK => ?_)
            (try simp only [ly0, ly1, ly2, ly3, ly4, ly5, ly6, ly7])
            go_simp
            (go_at_call 33; refine (HDo.out _ _ _ (HXr.out _ hD4) (HYr.out.below hD4)).mono ?_; rintro e w5 ⟨vq, va, P, a, ok, rfl, hDc, hOP, hOa, hb5⟩; have hD5 := Below.next hD4 hb5; have hS2 := HSs.out _ hD5; obtain ⟨aq, cq, rfl⟩ := own_form hOP; obtain ⟨aa, ca, rfl⟩ := own_form hOa; have HOP := hide hOP; have HOa := hide hOa; have HDc := hide hDc; clear hOP hOa hDc)
            first | refine hK.out _ _ ?k13 (fun hHeld => ?_) | (go_wp2_with fail; refine hK.out _ _ ?k13 (fun hHeld => ?_))
            case k13 => ((try dsimp only) <;> (first | with_reducible exact hS2 | with_reducible exact hS1 | with_reducible exact hS0))
            clear hK K
            (try simp only [ly0, ly1, ly2, ly3, ly4, ly5, ly6, ly7])
            refine tkY 9 ?_
            refine tkY 10 ?_
            refine tkY 11 ?_
            refine tkY 12 ?_
            refine tkY 13 ?_
            refine tkY 14 ?_
            refine tkY 15 ?_
            refine tkY 16 ?_
            refine tkY 17 ?_
            refine wpAnyH_done (by kernel_rfl) ?_ _
            rw [<- HDD.out] at HDc
            have hT := HTold.out _ _ _ HDc.out
            have hBw5 := Below.next hB hD5
            have HT5 := hide (HTw.out.below hD5)
            have hsz4 := hD4.size
            have hszo := hB.size
            clear HDo HTold HDc HDg2 HXr HYr HSs hS0 hS1 hS2 HTw HPx
            rcases hT with ⟨rfl, hso, rfl, rfl⟩ | ⟨rfl, hno, rfl, rfl⟩
            · obtain ⟨al, Hal⟩ : ∃ al, Hid (ofI (pOf p.f) (dcL p (rps us) o) xl yl = al) := ⟨_, rfl⟩
              have HEn : Hid (∀ j, mkm p (rps us) o al j = wrB p (rps us) (o + 1) j) := fun j => by
               rw [<- Hal.out, <- Hxl.out, <- Hyl.out]; exact mkm_end p (rps us) o j
              have HXa : Hid (∀ i, i < al.length -> ∃ (I J : Nat), al.getD i 0 = (I : Int) ∧ I < us.length ∧ (us.getD I zRq).1 = (J : Int) ∧ J < NN ∧ ((rps us).getD ((I : Int)).toNat nrp).w = (J : Int)) := fun i hi => by
               rw [<- Hal.out] at hi ⊢
               obtain ⟨I, hI, hIe⟩ := List.mem_map.1 (getD_in8 (0 : Int) hi)
               have hIl := (offp_mem.1 hI).1
               rw [hxl] at hIl
               obtain ⟨J, h1, h2, _, h4⟩ := HX.out I hIl
               exact ⟨I, J, hIe.symm, hIl, h1, h2, by rw [Int.toNat_natCast]; exact h4⟩
              have hal : al.length <= 64 := by
               rw [<- Hal.out, ofI_len]
               have := offp_len (pOf p.f) (dcL p (rps us) o) xl yl
               omega
              rw [Hal.out] at HOa ⊢
              have HNx : Hid (∀ (i I J : Nat), i < al.length -> al.getD i 0 = (I : Int) -> ((rps us).getD ((I : Int)).toNat nrp).w = (J : Int) -> ∀ j, (mkm p (rps us) o (al.take i) j || decide (j = J)) = mkm p (rps us) o (al.take (i + 1)) j) := fun i I J hi h1 h2 j => by
               rw [take_snoc8 hi, h1]; exact mkm_next h2 j
              have HM0 : Hid (Rdt w2 w2.heap.size wo.heap.size gR G gB Kd NN (.slice la us.length lc) xl (rwo p (rps us) q Kd o 0) (plL p (rps us) o) (mkm p (rps us) o (al.take 0)) (.slice aP o kP) (.slice none 0 0) vL [] w5) := ⟨HT5.out.bel, HT5.out.low, HT5.out.box, HT5.out.ms.congr (fun j _ => (mkm_zero p (rps us) o j).symm), HT5.out.all, HT5.out.wr, HT5.out.gp⟩
              have hgB : gB < wo.heap.size ∨ True := .inr trivial
              have hmsb : w5.heap[gB]? = some (.cells (mkn NN (wrB p (rps us) o)) 4 (0, 0)) := HT5.out.ms
              have HOk : Hid (∀ V, Kq (fun j => j ≠ gB) w5 V -> V.ownsRow w4.heap.size 64 1 (.slice aq (dcL p (rps us) o).length cq) (dcL p (rps us) o).length (vals (dcL p (rps us) o)) ∧ V.ownsRow w4.heap.size 3 1 (.slice aa al.length ca) al.length (al.flatMap iw)) := fun V hk => ⟨hk.own HOP.out (fun g hg e => own_apart HOP.out hmsb (by decide) (by rw [hg, e])), hk.own HOa.out (fun g hg e => own_apart HOa.out hmsb (by decide) (by rw [hg, e]))⟩
              have HSo := hide hso
              clear HT5 HOP HOa hmsb hgB hso Hal HX HPq
              go_wp2_with fail
              go_loopw [20] (fun vi wq => ∃ i : Nat, i <= al.length ∧ vi = .int .i64 i ∧ Hid (Rdt w2 w2.heap.size wo.heap.size gR G gB Kd NN (.slice la us.length lc) xl (rwo p (rps us) q Kd o 0) (plL p (rps us) o) (mkm p (rps us) o (al.take i)) (.slice aP o kP) (.slice none 0 0) vL [] wq) ∧ Hid (Kq (fun j => j ≠ gB) w5 wq)) (fun vi _ => al.length - (intOf vi).toNat)
              case atStart => exact ⟨0, Nat.zero_le _, rfl, HM0, Kq.refl _ _⟩
              case round =>
               clear HM0
               obtain ⟨i, hi, rfl, HM, HKq⟩ := hrel
               by_cases hil : i < al.length
               · obtain ⟨I, J, hI, hIm, hJ, hJN, hJr⟩ := HXa.out i hil
                 have hM4 := HM.out.mark hJN
                 have HM4 : Hid (Rdt w2 w2.heap.size wo.heap.size gR G gB Kd NN (.slice la us.length lc) xl (rwo p (rps us) q Kd o 0) (plL p (rps us) o) (mkm p (rps us) o (al.take (i + 1))) (.slice aP o kP) (.slice none 0 0) vL [] (wr.setCell ⟨gB, J, none⟩ (.bool true))) := ⟨hM4.bel, hM4.low, hM4.box, hM4.ms.congr (fun j _ => HNx.out i I J hil hI hJr j), hM4.all, hM4.wr, hM4.gp⟩
                 have HK4 : Hid (Kq (fun j => j ≠ gB) w5 (wr.setCell ⟨gB, J, none⟩ (.bool true))) := Kq.trans HKq.out (kq_set8 (fun hS => hS rfl))
                 have hOa := (HOk.out _ HKq.out).2
                 obtain ⟨ga, cga, hva, _, _⟩ := hOa.form (by omega)
                 injection hva with hva _ hcg
                 subst hva hcg
                 have cA := own_int8 (W := wr) hOa hil
                 rw [hI] at cA
                 obtain ⟨b, off, cp', heq, _, _⟩ := HL2.out.lm.form (by omega)
                 injection heq with heq _ hcp
                 subst heq hcp
                 obtain ⟨d0, _, _⟩ := HL2.out.cell HM.out.bel hIm
                 rw [hJ] at d0
                 have cM := HM.out.ms.cell hJN
                 have fM := HM.out.ms.free J
                 have i0 : (0 : Int) <= (i : Int) := by omega
                 have i1 : (i : Int) < (al.length : Int) := by omega
                 have I0 : (0 : Int) <= (I : Int) := by omega
                 have I1 : (I : Int) < (us.length : Int) := by omega
                 have J0 : (0 : Int) <= (J : Int) := by omega
                 have J1 : (J : Int) < (NN : Int) := by omega
                 clear HXa HNx HEn HM HKq HOk HSo hM4 hOa hJr hI hJ HS HY HNo HL2 HP2 HN2 HRv Hxl Hyl Hxw HFm HDD
                 generalize mkm p (rps us) o (al.take i) J = old at *
                 go_wp2_with fail
                 go_roundw
                 case rel => exact ⟨i + 1, by omega, by go_num, HM4, HK4⟩
                 case measure => simp [intOf]; omega
               · obtain rfl : i = al.length := by omega
                 rw [List.take_length] at HM
                 have HM5 : Hid (Rdt w2 w2.heap.size wo.heap.size gR G gB Kd NN (.slice la us.length lc) xl (rwo p (rps us) q Kd o 0) (plL p (rps us) o) (wrB p (rps us) (o + 1)) (.slice aP o kP) (.slice none 0 0) vL [] wr) := ⟨HM.out.bel, HM.out.low, HM.out.box, HM.out.ms.congr (fun j _ => HEn.out j), HM.out.all, HM.out.wr, HM.out.gp⟩
                 have hOP := (HOk.out _ HKq.out).1
                 have HOP := hide (own_mono hOP (show wo.heap.size <= w4.heap.size by omega))
                 clear HXa HNx HEn HM HOk hOP HL2
                 obtain ⟨ur, up, _, h2u, _⟩ := HM5.out.all
                 have hpl := plL_len p (rps us) o
                 rw [hpl] at h2u
                 have hAu := alloc_below wr (.cells #[.slice aq (dcL p (rps us) o).length cq] 36)
                 obtain ⟨a6, k6, w6, hr6, ho6, hb6, hg6, hk6⟩ := appL1 (wr.alloc (.cells #[.slice aq (dcL p (rps us) o).length cq] 36)) w2.heap.size (.slice aP o kP) up o ⟨wr.heap.size, 0, none⟩ (.slice aq (dcL p (rps us) o).length cq) (own_below h2u hAu) (by simp [go_sem]) ⟨_, _, _, rfl⟩ (by omega) (by have h9 := HM5.out.low; have := hAu.size; omega)
                 have hT6 := HM5.out.poly (v' := .slice a6 (o + 1) k6) HOP.out (fun {up'} h' => by
                  rw [hpl] at h' ⊢
                  obtain rfl := own_uniq h' h2u
                  rw [World.size_alloc] at hk6
                  exact ⟨hg6, ho6, hk6⟩)
                 rw [<- plL_succ] at hT6
                 have hbx6 := blk_grown (blk8 HM5.out.box hAu) (own_below h2u hAu) (by decide) hg6
                 obtain ⟨x0, x1, x2⟩ := cell3 HM5.out.box
                 obtain ⟨z0, z1, z2⟩ := cell3 hbx6
                 have fz : w6.frozen? ⟨gR, 1, none⟩ = false := by simp [World.frozen?, hbx6]
                 have xA : (wr.alloc (.cells #[.slice aq (dcL p (rps us) o).length cq] 36)).cell? ⟨gR, 1, none⟩ = some (.slice aP o kP) := (hAu.cell (cell_in x1)).trans x1
                 have HT6 := hide hT6
                 have HEv2 := hide (fun W k hk hR => HEv.out W o k (.slice aq (dcL p (rps us) o).length cq) hk hR)
                 have HPwo := hide (HPw.out o)
                 clear h2u ho6 hb6 hg6 hk6 hT6 hbx6 HM5 HOP HKq hAu HEv HPw x0 x2 z0 z2
                 generalize hlq : (dcL p (rps us) o).length = lq at *
                 go_upto_region 27 with (at_builtin; refine Lib.wpList_append_run _ rfl _ _ _ _ rfl _ _ rfl rfl _ _ hr6 ?_)
                 generalize w6.setCell ⟨gR, 1, none⟩ (.slice a6 (o + 1) k6) = W7 at *
                 generalize w6.heap.size = H7 at *
                 clear z1 fz xA x1 hr6
                 go_wp2_with fail
                 go_loopw [21] (fun vi wq => ∃ (k H8 : Nat), k <= Kd ∧ vi = .int .i64 k ∧ Hid (Rdt w2 w2.heap.size H8 gR G gB Kd NN (.slice la us.length lc) xl (rwo p (rps us) q Kd o k) (plL p (rps us) (o + 1)) (wrB p (rps us) (o + 1)) (.slice a6 (o + 1) k6) (.slice none 0 0) (.slice aq lq cq) [] wq)) (fun vi _ => Kd - (intOf vi).toNat)
                 case atStart => exact ⟨0, _, Nat.zero_le _, rfl, HT6⟩
                 case round =>
                  clear HT6
                  obtain ⟨k, H8, hk, rfl, HT8⟩ := hrel
                  have hPb8 := HP2.out.below HT8.out.bel
                  obtain ⟨c0, c1, c2, c3, c4, c5, c6, c7⟩ := hPb8.cells
                  have HPb8 := hide hPb8
                  clear hPb8
                  by_cases hkl : k < Kd
                  · have kk : (k : Int) < p.k := by rw [HKk.out]; omega
                    have k0 : (0 : Int) <= (k : Int) := by omega
                    have k64 : (k : Int) < 64 := by omega
                    have hlast := HT8.out.last (by rw [plL_len]; omega)
                    rw [plL_len, Nat.add_sub_cancel] at hlast
                    have e9 : (plL p (rps us) (o + 1)).getD o [] = dcL p (rps us) o := by
                     rw [plL_succ, getD_snoc, plL_len, if_neg (by omega), if_pos rfl]
                    rw [e9] at hlast
                    have HRl := hide (HPwo.out.row hlast)
                    have HC := hide (HEv2.out wr k hkl HRl.out)
                    clear hlast e9 HRl HEv2
                    go_upto_region 31 with (go_at_call 35; refine HC.out.mono ?_; rintro e w9 ⟨e9, rfl, hb9⟩)
                    have hdr : Below w9.heap.size w9 w9.drew := (Below.refl _ w9).drew
                    have hR9 := HT8.out.below (Below.next hb9 hdr)
                    obtain ⟨uk, hu9, hc9, hf9⟩ := hR9.rowk hkl
                    rw [rwo_at p (rps us) q hkl, List.length_map, plL_len] at hu9
                    obtain ⟨a8, c8, rfl⟩ := own_form hu9
                    have x0 := (cell3 hR9.box).1
                    have hS0 : w9.drew.cell? ⟨gR, 0, none⟩ = some (.slice (some ⟨G, 0, none⟩) Kd Kd) ∧ w9.drew.cell? ⟨G, k, none⟩ = some (.slice a8 o c8) := ⟨x0, hc9⟩
                    have hS1 : ∀ ob, (w9.alloc ob).drew.cell? ⟨gR, 0, none⟩ = some (.slice (some ⟨G, 0, none⟩) Kd Kd) ∧ (w9.alloc ob).drew.cell? ⟨G, k, none⟩ = some (.slice a8 o c8) := fun ob => ⟨((alloc_below w9.drew ob).cell (cell_in x0)).trans x0, ((alloc_below w9.drew ob).cell (cell_in hc9)).trans hc9⟩
                    have HR9 := hide hR9
                    have HU9 := hide hu9
                    have HC9 := hide hc9
                    have hloW : w2.heap.size <= w9.heap.size := by have h1 := hR9.low; have h2 : w9.drew.heap.size = w9.heap.size := rfl; omega
                    have k1 : (k : Int) < (Kd : Int) := by omega
                    clear HT8 hb9 hR9 hu9 hc9 x0 HC c0 c1 c2 c3 c4 c5 c6 c7 HPb8
                    have HSt : Hid (∀ (W' : World) (v' : Value), (w9.alloc (.cells #[.int .u64 (vl q (k : Int) (dcL p (rps us) o))] 64)).drew.grownBy W' (Value.slice a8 o c8).ownBlock -> W'.ownsRow w2.heap.size 64 1 v' (o + 1) (vals ((plL p (rps us) o).map (vl q (k : Int))) ++ [.int .u64 (vl q (k : Int) (dcL p (rps us) o))]) -> (v'.ownBlock = (Value.slice a8 o c8).ownBlock ∨ v'.ownBlock = some (w9.heap.size + 1)) -> Rdt w2 w2.heap.size W'.heap.size gR G gB Kd NN (.slice la us.length lc) xl (rwo p (rps us) q Kd o (k + 1)) (plL p (rps us) (o + 1)) (wrB p (rps us) (o + 1)) (.slice a6 (o + 1) k6) (.slice none 0 0) (.slice aq lq cq) [] (W'.setCell ⟨G, k, none⟩ v')) := fun W' v' g1 g2 g3 => by
                     have := HR9.out.row (v' := v') (y := vl q (k : Int) (dcL p (rps us) o)) hkl (W' := W') (fun {uk'} _ hc' => by
                      rw [HC9.out] at hc'
                      injection hc' with hc'
                      subst hc'
                      rw [rwo_at p (rps us) q hkl, List.length_map, plL_len, vals_snoc8]
                      exact ⟨g1, g2, g3⟩)
                     rw [rwo_at p (rps us) q hkl, rwo_set p (rps us) q hkl] at this
                     exact this
                    have HSS : Hid (∀ (W' : World) (ob : Obj), (w9.alloc ob).drew.grownBy W' (Value.slice a8 o c8).ownBlock -> W'.cell? ⟨gR, 0, none⟩ = some (.slice (some ⟨G, 0, none⟩) Kd Kd) ∧ W'.cell? ⟨G, k, none⟩ = some (.slice a8 o c8) ∧ W'.frozen? ⟨G, k, none⟩ = false) := fun W' ob hg => HR9.out.rowS (ob := ob) hkl (by rw [rwo_at p (rps us) q hkl, List.length_map, plL_len]; exact HU9.out) HC9.out hg
                    generalize vl q (k : Int) (dcL p (rps us) o) = y at *
                    generalize (plL p (rps us) o).map (vl q (k : Int)) = rk at *
                    have HUA : Hid ((w9.alloc (.cells #[.int .u64 y] 64)).drew.ownsRow w2.heap.size 64 1 (.slice a8 o c8) o (vals rk)) := HU9.out.alloc _
                    have hNw : (w9.alloc (.cells #[.int .u64 y] 64)).drew.heap[w9.heap.size]? = some (.cells #[.int .u64 y] 64 (0, 0)) := heap_alloc_new w9 _
                    have hsA : (w9.alloc (.cells #[.int .u64 y] 64)).drew.heap.size = w9.heap.size + 1 := World.size_alloc _ _
                    have HNw := hide (World.news_of_block (cs := #[.int .u64 y]) (t := 64) (fr := (0, 0)) hNw)
                    clear hNw
                    refine wp_region_mute (S := (fun V => V.cell? ⟨gR, 0, none⟩ = some (.slice (some ⟨G, 0, none⟩) Kd Kd) ∧ V.cell? ⟨G, k, none⟩ = some (.slice a8 o c8))) (by kernel_rfl) (by kernel_rfl) rfl (by ((try dsimp only) <;> (first | with_reducible exact hS2 | with_reducible exact hS1 _ | with_reducible exact hS0))) (fun hHeld => ?_)
                    simp only [muteL, mute]
                    refine tkY 0 ?_
                    refine tkY 1 ?_
                    refine tkY 2 ?_
                    refine tkY 3 ?_
                    refine tkY 4 ?_
                    refine tkY 5 ?_
                    refine tkY 6 ?_
                    refine tkY 7 ?_
                    refine tkY 8 ?_
                    refine rd1 9 (fun K hK => ?_)
                    (try simp only [ly0, ly1, ly2, ly3, ly4, ly5, ly6, ly7])
                    go_simp
                    refine hK.out _ _ (by ((try dsimp only) <;> (first | with_reducible exact hS2 | with_reducible exact hS1 _ | with_reducible exact hS0))) (fun hHeld => ?_)
                    clear hK K
                    (try simp only [ly0, ly1, ly2, ly3, ly4, ly5, ly6, ly7])
                    refine rd1 10 (fun K hK => ?_)
                    (first
                     | (refine step_append_lies _ (by rfl) _ _ _ (by rfl) w2.heap.size 64 i0 _ 1 8 Tryz.underlying36 hi0 hy0 hy1 hy2 rfl (by omega) (.slice a8 o c8) o (vals rk) (by rfl) HUA.out ⟨w9.heap.size, 0, none⟩ 1 1 [.int .u64 y] (by rfl) (by rfl) HNw.out (by simp [Value.oneCell']) (by omega) (by unfold maxLen; omega) (by omega) (by rw [hsA]; omega) (w9.heap.size + 1) hsA ?_; intro gg cap2 w10 hown10 hgrow hat hltg; have hS2 := (And.intro (HSS.out _ _ hgrow).1 (HSS.out _ _ hgrow).2.1); have hfz := (HSS.out _ _ hgrow).2.2))
                    refine hK.out _ _ (by ((try dsimp only) <;> (first | with_reducible exact hS2 | with_reducible exact hS1 _ | with_reducible exact hS0))) (fun hHeld => ?_)
                    clear hK K
                    (try simp only [ly0, ly1, ly2, ly3, ly4, ly5, ly6, ly7])
                    refine tkY 11 ?_
                    refine tkY 12 ?_
                    refine wpAnyH_done (by kernel_rfl) ?_ _
                    simp only [muteQ]
                    have hat2 : (Value.slice (some ⟨gg, 0, none⟩) (o + 1) cap2).ownBlock = (Value.slice a8 o c8).ownBlock ∨ (Value.slice (some ⟨gg, 0, none⟩) (o + 1) cap2).ownBlock = some (w9.heap.size + 1) := by
                     rcases hat with e | e
                     · exact .inl e.symm
                     · exact .inr (by rw [e]; rfl)
                    have HT10 := hide (HSt.out w10 (.slice (some ⟨gg, 0, none⟩) (o + 1) cap2) hgrow hown10 hat2)
                    have hc10 := hS2.2
                    clear HSt HSS hS0 hS1 hS2 hown10 hgrow hat hat2 hltg HUA HNw hsA HR9 HU9 HC9
                    go_wp2_with fail
                    go_roundw
                    case rel => exact ⟨k + 1, _, by omega, by go_num, HT10⟩
                    case measure => simp [intOf]; omega
                  · obtain rfl : k = Kd := by omega
                    have kk : ¬ (k : Int) < p.k := by rw [HKk.out]; omega
                    have HT9 := HT8
                    rw [rwo_end] at HT9
                    have HS9 : Hid (∀ o', o' < o + 1 -> (dcP p (rps us) o').isSome = true) := fun o' ho' => by
                     by_cases e : o' < o
                     · exact HS.out o' e
                     · obtain rfl : o' = o := by omega
                       exact HSo.out
                    clear HT8 HEv2 HPb8
                    go_wp2_with fail
                    go_roundw
                    case rel => exact ⟨o + 1, H8, a6, k6, .slice aq lq cq, by omega, by go_num, HT9, HS9⟩
                    case measure => simp [intOf]; omega
            · have hnf : ¬ Fine p (rps us) N := fun hF => by
               have := hF.1 o hol
               rw [hno] at this
               cases this
              obtain ⟨q1, q2, q3, q4⟩ := HNo.out hnf
              have n5 : w5.heap[w.heap.size + 1]? = some (.cells #[.slice none 0 0, .slice none 0 0, .slice none 0 0] 29 (0, 0)) := (HT5.out.bel.block _ (Array.getElem?_eq_some_iff.1 HN2.out).1).trans HN2.out
              obtain ⟨r0, r1, r2⟩ := cell3 n5
              have f5 : w5.frozen? ⟨w.heap.size + 1, 0, none⟩ = false ∧ w5.frozen? ⟨w.heap.size + 1, 1, none⟩ = false ∧ w5.frozen? ⟨w.heap.size + 1, 2, none⟩ = false := by simp [World.frozen?, n5]
              obtain ⟨f50, f51, f52⟩ := f5
              have hld := res_load (st3_blk n5 (.slice none 0 0) (.slice none 0 0) (.slice none 0 0))
              have hB6 := st3_below (Below.next hA2 HT5.out.bel) (show w.heap.size <= w.heap.size + 1 by omega) (.slice none 0 0) (.slice none 0 0) (.slice none 0 0)
              unfold st3 at hld hB6
              clear HT5 HOP HOa HNo HY HN2 hno hnf HRv HL2 Hxw HFm
              go_wp2_with fail
              refine bodyPost_ret (res_ct (a := 6) (b := 7) (v := .agg #[.slice none 0 0, .slice none 0 0, .slice none 0 0]) (u := .int .i64 180) rfl rfl rfl hld) rfl ?_
              exact ⟨.slice none 0 0, .slice none 0 0, .slice none 0 0, by first | rfl | rw [q1], ⟨by first | exact rws_nil _ | (rw [q3]; exact rws_nil _), by first | exact rws_nil _ | (rw [q2]; exact rws_nil _), by first | exact lm_nil iw 1 _ | (rw [q4]; exact lm_nil iw 1 _)⟩, hB6⟩
       · obtain rfl : o = N := by omega
         have HMa : Hid (mkj (wrB p (rps us) o) NN = wrL p (rps us) o) := mkj_all hN64 (fun j hj => wrB_far HRv.out o (by rw [HNn.out]; omega))
         have HT0 : Hid (Rdt w2 w2.heap.size H gR G gB Kd NN (.slice la us.length lc) xl (rwo p (rps us) q Kd o 0) (plL p (rps us) o) (wrB p (rps us) o) (.slice aP o kP) (.slice none 0 0) vL (mkj (wrB p (rps us) o) 0) wr) := HT
         have Hrw : Hid (rwo p (rps us) q Kd o 0 = (datL p).map (rwR q (plL p (rps us) o))) := by
          have := rwo_all p (rps us) q o HRv.out.may
          rw [show p.k.toNat = Kd by rw [HKk.out]; exact Int.toNat_natCast Kd] at this
          exact this
         have HWr : Hid (∀ i, Wd ((rwo p (rps us) q Kd o 0).getD i [])) := fun i => by
          by_cases hi : i < Kd
          · rw [rwo_at0 p (rps us) q hi]
            exact wd_els (p := q) (fun y hy => by
             obtain ⟨P, _, rfl⟩ := List.mem_map.1 hy
             exact vl_el HRv.out.fld.pos _ P) HRv.out.fld.top (by rw [List.length_map, plL_len]; omega)
          · rw [List.getD_eq_getElem?_getD, List.getElem?_eq_none (by rw [rwo_len]; omega)]; exact wd_nil
         have HWp : Hid (∀ i, Wd ((plL p (rps us) o).getD i [])) := fun i => by
          by_cases hi : i < (plL p (rps us) o).length
          · exact (plL_facts HRv.out o _ (getD_in8 [] hi)).2
          · rw [List.getD_eq_getElem?_getD, List.getElem?_eq_none (by omega)]; exact wd_nil
         rw [pOf_eq HRv.out.fld] at HY
         clear HT HD HDg HYv HYw HEv HPw HL2 HX
         have hof : ¬ (o : Int) < (o : Int) := by omega
         go_wp2_with fail
         go_loopw [24] (fun vi wq => ∃ (i : Nat) (aw : Option Addr) (kw : Nat), i <= NN ∧ vi = .int .i64 i ∧ Hid (Rdt w2 w2.heap.size H gR G gB Kd NN (.slice la us.length lc) xl (rwo p (rps us) q Kd o 0) (plL p (rps us) o) (wrB p (rps us) o) (.slice aP o kP) (.slice aw (mkj (wrB p (rps us) o) i).length kw) vL (mkj (wrB p (rps us) o) i) wq)) (fun vi _ => NN - (intOf vi).toNat)
         case atStart => exact ⟨0, none, 0, Nat.zero_le _, rfl, HT0⟩
         case round =>
          clear HT0
          obtain ⟨i, aw, kw, hi, rfl, HT⟩ := hrel
          have hPb8 := HP2.out.below HT.out.bel
          obtain ⟨c0, c1, c2, c3, c4, c5, c6, c7⟩ := hPb8.cells
          by_cases hil : i < NN
          · have ii : (i : Int) < p.n := by rw [HNn.out]; omega
            have i0 : (0 : Int) <= (i : Int) := by omega
            have i1 : (i : Int) < (NN : Int) := by omega
            have cM := HT.out.ms.cell hil
            cases hmk : wrB p (rps us) o i with
            | false =>
             have HNx := hide (mkj_no hmk)
             rw [hmk] at cM
             clear hmk HY HNo HS HMa Hrw HWr HWp HN2 HRv
             go_wp2_with fail
             go_roundw
             case rel => exact ⟨i + 1, aw, kw, by omega, by go_num, by rw [HNx.out]; exact HT⟩
             case measure => simp [intOf]; omega
            | true =>
             have HNx := hide (mkj_yes hmk)
             have HLe := hide (mkj_len (wrB p (rps us) o) i)
             rw [hmk] at cM
             have hA4 := alloc_below wr (.cells #[.int .i64 (i : Int)] 3)
             have hlw := HT.out.low
             obtain ⟨a4, k4, w4, hr, ho4, hb4, hg4, _⟩ := appI1 (wr.alloc (.cells #[.int .i64 (i : Int)] 3)) w2.heap.size (.slice aw (mkj (wrB p (rps us) o) i).length kw) (mkj (wrB p (rps us) o) i) ⟨wr.heap.size, 0, none⟩ (i : Int) (own_below HT.out.wr hA4) (by simp [go_sem]) (by have := HLe.out; omega) (by have := hA4.size; omega)
             have hT4 := HT.out.wrong hg4 ho4
             have hbx4 := blk_grown (blk8 HT.out.box hA4) (own_below HT.out.wr hA4) (by decide) hg4
             obtain ⟨_, _, x2⟩ := cell3 HT.out.box
             obtain ⟨_, _, z2⟩ := cell3 hbx4
             have fz : w4.frozen? ⟨gR, 2, none⟩ = false := by simp [World.frozen?, hbx4]
             have xA : (wr.alloc (.cells #[.int .i64 (i : Int)] 3)).cell? ⟨gR, 2, none⟩ = some (.slice aw (mkj (wrB p (rps us) o) i).length kw) := (hA4.cell (cell_in x2)).trans x2
             have hln : (mkj (wrB p (rps us) o) i ++ [(i : Int)]).length = (mkj (wrB p (rps us) o) i).length + 1 := by rw [List.length_append]; rfl
             have HT4 : Hid (Rdt w2 w2.heap.size H gR G gB Kd NN (.slice la us.length lc) xl (rwo p (rps us) q Kd o 0) (plL p (rps us) o) (wrB p (rps us) o) (.slice aP o kP) (.slice a4 (mkj (wrB p (rps us) o) (i + 1)).length k4) vL (mkj (wrB p (rps us) o) (i + 1)) (w4.setCell ⟨gR, 2, none⟩ (.slice a4 ((mkj (wrB p (rps us) o) i).length + 1) k4))) := by
              rw [HNx.out, hln]; exact hT4
             clear ho4 hb4 hg4 hT4 hbx4 hA4 hmk HY HNo HS HMa Hrw HWr HWp HN2 HRv HT HNx hln hlw
             generalize (mkj (wrB p (rps us) o) i).length = ml at *
             go_wp2_with (at_builtin; refine Lib.wpList_append_run _ rfl _ _ _ _ rfl _ _ rfl rfl _ _ hr ?_)
             go_roundw
             case rel => exact ⟨i + 1, a4, k4, by omega, by go_num, HT4⟩
             case measure => simp [intOf]; omega
          · obtain rfl : i = NN := by omega
            have ii : ¬ (i : Int) < p.n := by rw [HNn.out]; omega
            rw [HMa.out] at HT
            have n5 : wr.heap[w.heap.size + 1]? = some (.cells #[.slice none 0 0, .slice none 0 0, .slice none 0 0] 29 (0, 0)) := (HT.out.bel.block _ (Array.getElem?_eq_some_iff.1 HN2.out).1).trans HN2.out
            obtain ⟨r0, r1, r2⟩ := cell3 n5
            have f5 : wr.frozen? ⟨w.heap.size + 1, 0, none⟩ = false ∧ wr.frozen? ⟨w.heap.size + 1, 1, none⟩ = false ∧ wr.frozen? ⟨w.heap.size + 1, 2, none⟩ = false := by simp [World.frozen?, n5]
            obtain ⟨f50, f51, f52⟩ := f5
            obtain ⟨x0, x1, x2⟩ := cell3 HT.out.box
            have hBr := Below.next hA2 HT.out.bel
            have hwl : (wrL p (rps us) o).length <= 64 := mkd_len _
            by_cases hE : p.e < ((wrL p (rps us) o).length : Int)
            · have hnf : ¬ Fine p (rps us) o := fun hF => by have := hF.2; omega
              obtain ⟨q1, q2, q3, q4⟩ := HNo.out hnf
              have hld := res_load (st3_blk n5 (.slice none 0 0) (.slice none 0 0) (.slice none 0 0))
              have hB6 := st3_below hBr (show w.heap.size <= w.heap.size + 1 by omega) (.slice none 0 0) (.slice none 0 0) (.slice none 0 0)
              unfold st3 at hld hB6
              clear HT HNo HY HN2 hnf HRv HS HMa Hrw HWr HWp
              generalize (wrL p (rps us) o).length = ml at *
              go_wp2_with fail
              refine bodyPost_ret (res_ct (a := 6) (b := 7) (v := .agg #[.slice none 0 0, .slice none 0 0, .slice none 0 0]) (u := .int .i64 180) rfl rfl rfl hld) rfl ?_
              exact ⟨.slice none 0 0, .slice none 0 0, .slice none 0 0, by first | rfl | rw [q1], ⟨by first | exact rws_nil _ | (rw [q3]; exact rws_nil _), by first | exact rws_nil _ | (rw [q2]; exact rws_nil _), by first | exact lm_nil iw 1 _ | (rw [q4]; exact lm_nil iw 1 _)⟩, hB6⟩
            · have hf : Fine p (rps us) o := ⟨fun o' ho' => HS.out o' ho', by omega⟩
              obtain ⟨q1, q2, q3, q4⟩ := HY.out hf
              have hld := res_load (st3_blk n5 (.slice (some ⟨G, 0, none⟩) Kd Kd) (.slice aP o kP) (.slice aw (wrL p (rps us) o).length kw))
              have hB6 := st3_below hBr (show w.heap.size <= w.heap.size + 1 by omega) (.slice (some ⟨G, 0, none⟩) Kd Kd) (.slice aP o kP) (.slice aw (wrL p (rps us) o).length kw)
              have HRd : Hid (Rws (st3 wr (w.heap.size + 1) (.slice (some ⟨G, 0, none⟩) Kd Kd) (.slice aP o kP) (.slice aw (wrL p (rps us) o).length kw)) (.slice (some ⟨G, 0, none⟩) Kd Kd) ((datL p).map (rwR q (plL p (rps us) o))) ∧ Rws (st3 wr (w.heap.size + 1) (.slice (some ⟨G, 0, none⟩) Kd Kd) (.slice aP o kP) (.slice aw (wrL p (rps us) o).length kw)) (.slice aP o kP) (plL p (rps us) o) ∧ Lm iw 1 (st3 wr (w.heap.size + 1) (.slice (some ⟨G, 0, none⟩) Kd Kd) (.slice aP o kP) (.slice aw (wrL p (rps us) o).length kw)) (.slice aw (wrL p (rps us) o).length kw) (wrL p (rps us) o)) := by
               have hkq := st3_kq (W := wr) (B := w.heap.size + 1) (.slice (some ⟨G, 0, none⟩) Kd Kd) (.slice aP o kP) (.slice aw (wrL p (rps us) o).length kw)
               have hT9 := HT.out.kqs hkq n5
               obtain ⟨g1, g2, g3⟩ := hT9.reads HWr.out HWp.out (by omega) (by rw [plL_len]; omega) (by omega)
               rw [Hrw.out] at g1
               exact ⟨g1, g2, g3⟩
              unfold st3 at hld hB6 HRd
              clear HT HNo HY HN2 hf HRv HS HMa Hrw HWr HWp
              generalize hwg : wrL p (rps us) o = wl at *
              go_wp2_with fail
              refine bodyPost_ret (res_ct (a := 6) (b := 7) (v := .agg #[.slice (some ⟨G, 0, none⟩) Kd Kd, .slice aP o kP, .slice aw wl.length kw]) (u := .int .i64 0) rfl rfl rfl hld) rfl ?_
              exact ⟨.slice (some ⟨G, 0, none⟩) Kd Kd, .slice aP o kP, .slice aw wl.length kw, by first | rfl | rw [q1], ⟨by first | exact HRd.out.1 | (rw [q3]; exact HRd.out.1), by first | exact HRd.out.2.1 | (rw [q2]; exact HRd.out.2.1), by first | exact HRd.out.2.2 | (rw [q4]; exact HRd.out.2.2)⟩, hB6⟩
 · have e0 := rc_bad hz
   obtain ⟨e2, e3, e4⟩ := rc_err (p := p) (n := n) (l := rps us) (by rw [e0]; exact hz)
   rw [e0, e2, e3, e4]
   generalize rvE p n (rps us) = ce at *
   obtain ⟨ao, cap, rfl, _⟩ := h.spell
   clear h hp pb hA a1 n1 e0 e2 e3 e4
   rw [plan_eq8] at *
   go_enter Tryz.func9, Tryz.ntmps9
   go_upto_region 1 with fail
   generalize (w.alloc (.cells #[.int .u8 p.f, .int .i64 p.n, .int .i64 p.k, .int .i64 p.t, .int .i64 p.s, .int .i64 p.e, .int .i64 p.d, .int .i64 p.w] 24)).alloc (.cells #[.slice none 0 0, .slice none 0 0, .slice none 0 0] 29) = W1 at *
   go_upto_region 2 with (go_at_call 31; refine (HK.out _ hA1).mono ?_; rintro e w2 ⟨rfl, hb2⟩)
   have hA2 := Below.next hA1 hb2
   have n1 := blk8 HN1.out hb2
   obtain ⟨r0, r1, r2⟩ := cell3 n1
   have f1 : w2.frozen? ⟨w.heap.size + 1, 0, none⟩ = false ∧ w2.frozen? ⟨w.heap.size + 1, 1, none⟩ = false ∧ w2.frozen? ⟨w.heap.size + 1, 2, none⟩ = false := by simp [World.frozen?, n1]
   obtain ⟨f10, f11, f12⟩ := f1
   have hld := res_load (st3_blk n1 (.slice none 0 0) (.slice none 0 0) (.slice none 0 0))
   have hB6 := st3_below hA2 (show w.heap.size <= w.heap.size + 1 by omega) (.slice none 0 0) (.slice none 0 0) (.slice none 0 0)
   unfold st3 at hld hB6
   clear HK HPb HN1 c0 c1 c2 c3 c4 c5 c6 c7
   go_wp2
   refine bodyPost_ret (res_ct (a := 6) (b := 7) (v := .agg #[.slice none 0 0, .slice none 0 0, .slice none 0 0]) rfl rfl rfl hld) rfl ?_
   exact ⟨.slice none 0 0, .slice none 0 0, .slice none 0 0, rfl, ⟨rws_nil _, rws_nil _, lm_nil iw 1 _⟩, hB6⟩
end Go.Proofs.YtjhididlcdepdaaGreat
namespace Go.Proofs.YtjhididlcdepdaaGreat
open Go.RowKit Fld Pln
theorem regRecovers_any (p : Pn) (n : Int) (v : Value) (us : List Rq) (w : World) (hp : Ok8p p) (h : Rpl w v us) :
 Calls Tryz.prog 3 #[plv p, .int .i64 n, v] w fun e w' => e = .returned (.bool true) ∧ Below w.heap.size w w' := by
 have HG := hide (fun W (hb : Below w.heap.size w W) => gRecover p n v us W hp (h.below hb))
 have HG2 := hide (fun W (hb : Below w.heap.size w W) => dRecover p n v us W hp (h.below hb))
 unfold GivesRc at HG
 unfold GivesRd at HG2
 have HM1 : Hid (∀ k, k < us.length -> ∀ W, Below w.heap.size w W -> Calls Tryz.prog 10 #[plv p, .int .i64 n, .agg #[.int .i64 (us.getD k zRq).1, (us.getD k zRq).2.1]] W fun e w' => e = .returned (.bool (mrB p n ((rps us).getD k nrp))) ∧ Below W.heap.size W w') := fun k hk W hb => by
  rw [rps_at]
  exact gMayReply p n _ _ _ W hp ((h.row _ (getD_inQ hk)).below hb)
 have HM2 : Hid (∀ k, k < us.length -> ∀ W, Below w.heap.size w W -> Calls Tryz.prog 11 #[plv p, .int .i64 n, .agg #[.int .i64 (us.getD k zRq).1, (us.getD k zRq).2.1]] W fun e w' => e = .returned (.bool (mrB p n ((rps us).getD k nrp))) ∧ Below W.heap.size W w') := fun k hk W hb => by
  rw [rps_at]
  exact dMayReply p n _ _ _ W hp ((h.row _ (getD_inQ hk)).below hb)
 have HW := hide (rc_wd p n h.wd)
 generalize rcR p n (rps us) = cR at *
 generalize rcP p n (rps us) = cP at *
 generalize rcW p n (rps us) = cW at *
 generalize rcE p n (rps us) = ce at *
 have HL := hide h
 have hlen := h.big
 have HFm := hide (fun k (hk : k < us.length) => h.one hk)
 have HX := hide anch18
 obtain ⟨ao, cap, rfl, hcap⟩ := h.spell
 obtain ⟨pb, hA⟩ := pb_box (w := w) p
 have HPb := hide pb
 obtain ⟨c0, c1, c2, c3, c4, c5, c6, c7⟩ := pb.cells
 clear pb h hp
 rw [plan_eq8] at *
 go_enter Tryz.func3, Tryz.ntmps3
 go_upto_region 2 with (go_at_call 8; refine (HG.out _ hA).mono ?_; rintro e w1 ⟨vr, vq, va, rfl, hRc, hb1⟩; obtain ⟨x1, y1, x2, y2, x3, y3, rfl, rfl, rfl⟩ := hRc.form)
 have ha1 := alloc_below w1 (.cells #[.slice x1 cR.length y1, .slice x2 cP.length y2, .slice x3 cW.length y3] 29)
 have n1 := heap_alloc_new w1 (.cells #[.slice x1 cR.length y1, .slice x2 cP.length y2, .slice x3 cW.length y3] 29)
 generalize w1.alloc (.cells #[.slice x1 cR.length y1, .slice x2 cP.length y2, .slice x3 cW.length y3] 29) = W2 at *
 have HR1 := hide (hRc.below ha1)
 have hb2 := Below.next hb1 ha1
 have hB2 := Below.next hA hb2
 have HN1 := hide n1
 generalize w1.heap.size = g1 at *
 clear hRc n1 c0 c1 c2 c3 c4 c5 c6 c7 ha1 HG hb1
 obtain ⟨c0, c1, c2, c3, c4, c5, c6, c7⟩ := (HPb.out.below hb2).cells
 go_upto_region 3 with (go_at_call 9; refine (HG2.out _ hB2).mono ?_; rintro e w3 ⟨vr, vq, va, rfl, ⟨q1, q2, q3⟩, hb3⟩; have Q1 := hide q1; have Q2 := hide q2; have Q3 := hide q3; obtain ⟨u1, t1, rfl, _, _, _⟩ := q1; obtain ⟨u2, t2, rfl, _, _, _⟩ := q2; obtain ⟨u3, t3, rfl, _⟩ := q3.spell; clear q3)
 have ha3 := alloc_below w3 (.cells #[.slice u1 cR.length t1, .slice u2 cP.length t2, .slice u3 cW.length t3] 29)
 have n3 := heap_alloc_new w3 (.cells #[.slice u1 cR.length t1, .slice u2 cP.length t2, .slice u3 cW.length t3] 29)
 generalize w3.alloc (.cells #[.slice u1 cR.length t1, .slice u2 cP.length t2, .slice u3 cW.length t3] 29) = W4 at *
 have hb24 := Below.next hb3 ha3
 have hB4 := Below.next hB2 hb24
 have HN3 := hide n3
 have HN2 := hide (blk8 HN1.out hb24)
 have P1 := hide (Q1.out.below ha3)
 have P2 := hide (Q2.out.below ha3)
 have P3 := hide (Q3.out.below ha3)
 clear Q1 Q2 Q3 ha3
 generalize w3.heap.size = g3 at *
 have HSm : Hid (∀ V, Below W4.heap.size W4 V -> Calls Tryz.prog 12 #[.agg #[.slice x1 cR.length y1, .slice x2 cP.length y2, .slice x3 cW.length y3], .agg #[.slice u1 cR.length t1, .slice u2 cP.length t2, .slice u3 cW.length t3]] V fun e w' => e = .returned (.bool true) ∧ Below V.heap.size V w') := fun V hb => by
  obtain ⟨q1, q2, q3⟩ := (HR1.out.below (Below.next hb24 hb)).reads8 HW.out
  exact dSame18 _ _ _ _ _ _ _ _ _ V q1 (P1.out.below hb) q2 (P2.out.below hb) q3 (P3.out.below hb)
 have HP4 := hide (HPb.out.below (Below.next hb2 hb24))
 clear n3 HG2 HR1 HW HN1 c0 c1 c2 c3 c4 c5 c6 c7 HPb hb3
 go_wp2_with fail
 go_loopw [11] (fun vi wr => ∃ k : Nat, k <= us.length ∧ vi = .int .i64 k ∧ Below W4.heap.size W4 wr) (fun vi _ => us.length - (intOf vi).toNat)
 case atStart => exact ⟨0, Nat.zero_le _, rfl, Below.refl _ _⟩
 case round =>
  obtain ⟨k, hk, rfl, hB⟩ := hrel
  by_cases hlt : k < us.length
  · obtain ⟨b, off, cp', heq, _, _⟩ := HL.out.lm.form (by omega)
    cases heq
    obtain ⟨d0, d1, _⟩ := HL.out.cell (Below.next hB4 hB) hlt
    obtain ⟨a9, c9, h9⟩ := HFm.out k hlt
    have HI1 := hide (HM1.out k hlt)
    have HI2 := hide (HM2.out k hlt)
    rw [h9] at d1 HI1 HI2
    have k0 : (0 : Int) <= (k : Int) := by omega
    have k1 : (k : Int) < (us.length : Int) := by omega
    have hdr : Below wr.heap.size wr wr.drew := (Below.refl _ wr).drew
    have hBd := Below.next hB hdr
    generalize (us.getD k zRq).2.2.length = m9 at *
    generalize (us.getD k zRq).1 = i9 at *
    generalize mrB p n ((rps us).getD k nrp) = bm at *
    have HSs : Hid (∀ V, Below wr.heap.size wr V -> (V.cell? ⟨w.heap.size, 0, none⟩ = some (.int .u8 p.f) ∧ V.cell? ⟨w.heap.size, 1, none⟩ = some (.int .i64 p.n) ∧ V.cell? ⟨w.heap.size, 2, none⟩ = some (.int .i64 p.k) ∧ V.cell? ⟨w.heap.size, 3, none⟩ = some (.int .i64 p.t) ∧ V.cell? ⟨w.heap.size, 4, none⟩ = some (.int .i64 p.s) ∧ V.cell? ⟨w.heap.size, 5, none⟩ = some (.int .i64 p.e) ∧ V.cell? ⟨w.heap.size, 6, none⟩ = some (.int .i64 p.d) ∧ V.cell? ⟨w.heap.size, 7, none⟩ = some (.int .i64 p.w)) ∧ V.cell? ⟨b, off + k * 2, none⟩ = some (.int .i64 i9) ∧ V.cell? ⟨b, off + k * 2 + 1, none⟩ = some (.slice a9 m9 c9)) := fun V hb => ⟨(HP4.out.below (Below.next hB hb)).cells, (hb.cell (cell_in d0)).trans d0, (hb.cell (cell_in d1)).trans d1⟩
    have hS0 := HSs.out _ hdr
    clear HFm HM1 HM2 HL h9 d0 d1 HSm HX HN2 HN3
    go_upto_region 6 with fail
    refine wp_region_held_drew (S := (fun V => (V.cell? ⟨w.heap.size, 0, none⟩ = some (.int .u8 p.f) ∧ V.cell? ⟨w.heap.size, 1, none⟩ = some (.int .i64 p.n) ∧ V.cell? ⟨w.heap.size, 2, none⟩ = some (.int .i64 p.k) ∧ V.cell? ⟨w.heap.size, 3, none⟩ = some (.int .i64 p.t) ∧ V.cell? ⟨w.heap.size, 4, none⟩ = some (.int .i64 p.s) ∧ V.cell? ⟨w.heap.size, 5, none⟩ = some (.int .i64 p.e) ∧ V.cell? ⟨w.heap.size, 6, none⟩ = some (.int .i64 p.d) ∧ V.cell? ⟨w.heap.size, 7, none⟩ = some (.int .i64 p.w)) ∧ V.cell? ⟨b, off + k * 2, none⟩ = some (.int .i64 i9) ∧ V.cell? ⟨b, off + k * 2 + 1, none⟩ = some (.slice a9 m9 c9))) (by kernel_rfl) (by ((try dsimp only) <;> (first | with_reducible exact hS2 | with_reducible exact hS1 | with_reducible exact hS0))) (fun hHeld => ?_)
    refine tkY 0 ?_
    refine tkY 1 ?_
    refine tkY 2 ?_
    refine tkY 3 ?_
    refine tkY 4 ?_
    refine tkY 5 ?_
    refine tkY 7 ?_
    refine tkY 8 ?_
    refine tkY 9 ?_
    refine tkY 10 ?_
    refine tkY 11 ?_
    refine tkY 12 ?_
    refine rd1 6 (fun K hK => ?_)
    (try simp only [ly0, ly1, ly2, ly3, ly4, ly5, ly6, ly7])
    go_simp
    (go_at_call 10; refine (HI1.out _ (Below.next hB4 hBd)).mono ?_; rintro e w5 ⟨rfl, hb5⟩; have hC5 := Below.next hdr hb5; have hS1 := HSs.out _ hC5)
    first | refine hK.out _ _ ?k14 (fun hHeld => ?_) | (go_wp2_with fail; refine hK.out _ _ ?k14 (fun hHeld => ?_))
    case k14 => ((try dsimp only) <;> (first | with_reducible exact hS2 | with_reducible exact hS1 | with_reducible exact hS0))
    clear hK K
    (try simp only [ly0, ly1, ly2, ly3, ly4, ly5, ly6, ly7])
    refine rd1 13 (fun K hK => ?_)
    (try simp only [ly0, ly1, ly2, ly3, ly4, ly5, ly6, ly7])
    go_simp
    (go_at_call 11; refine (HI2.out _ (Below.next hB4 (Below.next hB hC5))).mono ?_; rintro e w6 ⟨rfl, hb6⟩; have hC6 := Below.next hC5 hb6; have hS2 := HSs.out _ hC6)
    first | refine hK.out _ _ ?k15 (fun hHeld => ?_) | (go_wp2_with fail; refine hK.out _ _ ?k15 (fun hHeld => ?_))
    case k15 => ((try dsimp only) <;> (first | with_reducible exact hS2 | with_reducible exact hS1 | with_reducible exact hS0))
    clear hK K
    (try simp only [ly0, ly1, ly2, ly3, ly4, ly5, ly6, ly7])
    refine tkY 14 ?_
    refine wpAnyH_done (by kernel_rfl) ?_ _
    have hD := Below.next hB hC6
    clear hS0 hS1 hS2 HSs HI1 HI2
    cases bm
    all_goals
     go_wp2_with fail
     go_roundw
     case rel => exact ⟨k + 1, by omega, by go_num, hD⟩
     case measure => simp [intOf]; omega
  · obtain rfl : k = us.length := by omega
    obtain ⟨z0, z1, z2⟩ := cell3 (blk8 HN2.out hB)
    obtain ⟨s0, s1, s2⟩ := cell3 (blk8 HN3.out hB)
    clear HFm HM1 HM2 HL
    go_wp2_with (first
     | (go_at_call 12; refine (HSm.out _ hB).mono ?_; rintro e w5 ⟨rfl, hb5⟩)
     | (go_at_call 13; refine (HX.out _).mono ?_; rintro e w6 ⟨rfl, hb6⟩))
    go_ret
    exact ⟨by simp, Below.next (Below.next (Below.next hB4 hB) hb5) hb6⟩
end Go.Proofs.YtjhididlcdepdaaGreat
