import Derived.Test.YtjhididlcdepdaaGreatBEvpC
import Derived.Test.YtjhididlcdepdaaGreatBRplA
import Derived.Test.YtjhididlcdepdaaGreatBunHC
import Derived.Laws.EntriesVeiled
set_option linter.unusedVariables false
set_option linter.unusedSimpArgs false
set_option maxRecDepth 100000
set_option maxHeartbeats 4000000
namespace Go.Proofs.YtjhididlcdepdaaGreat
open Go.RowKit Fld Slp
end Go.Proofs.YtjhididlcdepdaaGreat
namespace Go.Proofs.YtjhididlcdepdaaGreat
open Go.RowKit Fld Slp Pln Shr
def zpd (p : Pn) : List (List Int) := List.replicate p.t.toNat (List.replicate p.w.toNat 0)
theorem zpd_in {p : Pn} (hm : mayP p = true) : elsB p.f (zpd p) = true ∧ blkB p.w p.t (zpd p) = true := by
 obtain ⟨r, wd, hr⟩ := may_field hm
 obtain ⟨_, _, ⟨t0, _⟩, _, _, _, ⟨v0, v1⟩⟩ := may_facts hm
 refine ⟨(elsB_iff hr).2 (fun b hb => ?_), blkB_iff.2 ⟨fun b hb => ?_, ?_⟩⟩
 · rw [(List.mem_replicate.1 hb).2]
   exact allIn_of (fun x hx => by rw [(List.mem_replicate.1 hx).2]; exact ⟨by decide, hr.pos⟩)
 · rw [(List.mem_replicate.1 hb).2, List.length_replicate]; omega
 · unfold zpd; rw [List.length_replicate]; omega
theorem rs_doc {p : Pn} {q : Pr} {dl : List (List Int)} (hf : fitQ p q = true) : bkE p dl (zpd p) [] = rsE p q dl := by
 obtain ⟨hm, _⟩ := fit_facts hf
 obtain ⟨z1, z2⟩ := zpd_in hm
 unfold bkE rsE
 rw [hm, z1, z2, if_pos hf]
 have e2 : whoB p.n [] = true := rfl
 rw [e2, Bool.and_true, Bool.and_true, Bool.true_and, Bool.and_true]
theorem rs_zero {p : Pn} {q : Pr} {dl : List (List Int)} (h : rsE p q dl = 0) : fitQ p q = true ∧ dl.length = p.k.toNat ∧ dl.length <= 64 ∧ ∀ b ∈ dl, rwE p.f q b = 0 ∧ evE p.f q b = 0 ∧ ruL p.f q b = rnO (Rf p.f) q b := by
 unfold rsE at h
 split at h
 · rename_i hf
   split at h
   · rename_i he
     split at h
     · rename_i hb
       obtain ⟨hm, hmb, _, hin, _⟩ := fit_facts hf
       obtain ⟨_, ⟨k0, k1⟩, _⟩ := may_facts hm
       obtain ⟨b1, b2⟩ := blkB_iff.1 hb
       refine ⟨hf, by omega, by omega, fun b hb' => ?_⟩
       have r0 : rwE p.f q b = 0 := by
        unfold rwE
        rw [if_pos (List.all_eq_true.1 he b hb'), if_pos (by rw [b1 b hb', hin])]
       have r1 : evE p.f q b = 0 := by unfold evE; rw [if_pos hmb]; exact r0
       exact ⟨r0, r1, by unfold ruL; rw [if_pos r1]⟩
     · cases h
   · cases h
 · cases h
theorem rs_many {p : Pn} {q : Pr} {dl : List (List Int)} (h : rsE p q dl = 0) : maE p.f q dl = 0 ∧ maL p.f q dl = rsL p q dl := by
 obtain ⟨hf, _, hl, hb⟩ := rs_zero h
 obtain ⟨hm, hmb, _⟩ := fit_facts hf
 have e1 : maR p.f q dl = 0 := by
  unfold maR
  have h2 : ∀ c : Int, c ≠ 0 -> c ∉ dl.map (rwE p.f q) := fun c hc hm' => by
   obtain ⟨b, hb', e⟩ := List.mem_map.1 hm'
   rw [(hb b hb').1] at e
   exact hc e.symm
  rw [if_neg (h2 2 (by decide)), if_neg (h2 3 (by decide))]
 have e2 : maE p.f q dl = 0 := by
  unfold maE
  rw [hmb, fi_inF hm, e1, if_pos (by rfl), if_pos rfl, if_neg (by omega)]
 exact ⟨e2, by unfold maL rsL; rw [if_pos e2, if_pos h]⟩
theorem rsE_no {p : Pn} {q : Pr} {dl : List (List Int)} (h : fitQ p q = false) : rsE p q dl = 2 ∧ rsL p q dl = [] := by
 have e : rsE p q dl = 2 := by unfold rsE; rw [h]; rfl
 exact ⟨e, by unfold rsL; rw [e]; rfl⟩
theorem rsL_no {p : Pn} {q : Pr} {dl : List (List Int)} (h : rsE p q dl ≠ 0) : rsL p q dl = [] := if_neg h
theorem rp_yes {p : Pn} {q : Pr} {xs : List Int} (h : fitQ p q = true) : rpE p q xs = evE p.f q xs ∧ rpL p q xs = ruL p.f q xs := by
 have e : rpE p q xs = evE p.f q xs := if_pos h
 exact ⟨e, by unfold rpL ruL; rw [e]⟩
theorem rp_no {p : Pn} {q : Pr} {xs : List Int} (h : fitQ p q = false) : rpE p q xs = 2 ∧ rpL p q xs = [] := by
 have e : rpE p q xs = 2 := by unfold rpE; rw [h]; rfl
 exact ⟨e, by unfold rpL; rw [e]; rfl⟩
theorem rp_wd (p : Pn) (q : Pr) {xs : List Int} (hw : ∀ x ∈ xs, 0 <= x ∧ x <= 18446744073709551615) : Wd (rpL p q xs) := by
 cases hf : fitQ p q with
 | false => rw [(rp_no hf).2]; exact wd_nil
 | true => rw [(rp_yes hf).2]; have := (ru_wd p.f q xs hw).1; exact ⟨by omega, this.2⟩
theorem rs_wd (p : Pn) (q : Pr) {dl : List (List Int)} (hw : ∀ b ∈ dl, ∀ x ∈ b, 0 <= x ∧ x <= 18446744073709551615) : (rsL p q dl).length <= 64 ∧ ∀ i, Wd ((rsL p q dl).getD i []) := by
 by_cases h : rsE p q dl = 0
 · obtain ⟨_, _, hl, _⟩ := rs_zero h
   obtain ⟨e1, e2⟩ := rs_many h
   refine ⟨by unfold rsL; rw [if_pos h, List.length_map]; exact hl, ?_⟩
   rw [<- e2]; exact (ma_wd hw).2
 · rw [rsL_no h]; exact ⟨by simp, fun i => by simp; exact wd_nil⟩
theorem cell_at {W : World} {b i : Nat} {cs : Array Value} {T : TypeId} {fz : Nat × Nat} {x : Value} (h : W.heap[b]? = some (.cells cs T fz)) (hx : cs[i]? = some x) : W.cell? ⟨b, i, none⟩ = some x := by
 unfold World.cell?; simp [h, hx]
theorem pq_box (w : World) (p : Pn) (n : Int) (vo vu : Value) (T1 T2 : TypeId) : ∃ W1, (w.alloc (.cells #[.int .u8 p.f, .int .i64 p.n, .int .i64 p.k, .int .i64 p.t, .int .i64 p.s, .int .i64 p.e, .int .i64 p.d, .int .i64 p.w] T1)).alloc (.cells #[.int .i64 n, vo, vu] T2) = W1 ∧ Below w.heap.size w W1 ∧ ∀ W, Below W1.heap.size W1 W -> (W.cell? ⟨w.heap.size, 0, none⟩ = some (.int .u8 p.f) ∧ W.cell? ⟨w.heap.size, 1, none⟩ = some (.int .i64 p.n) ∧ W.cell? ⟨w.heap.size, 2, none⟩ = some (.int .i64 p.k) ∧ W.cell? ⟨w.heap.size, 3, none⟩ = some (.int .i64 p.t) ∧ W.cell? ⟨w.heap.size, 4, none⟩ = some (.int .i64 p.s) ∧ W.cell? ⟨w.heap.size, 5, none⟩ = some (.int .i64 p.e) ∧ W.cell? ⟨w.heap.size, 6, none⟩ = some (.int .i64 p.d) ∧ W.cell? ⟨w.heap.size, 7, none⟩ = some (.int .i64 p.w)) ∧ W.cell? ⟨w.heap.size + 1, 0, none⟩ = some (.int .i64 n) ∧ W.cell? ⟨w.heap.size + 1, 1, none⟩ = some vo ∧ W.cell? ⟨w.heap.size + 1, 2, none⟩ = some vu := by
 refine ⟨_, rfl, Below.next (alloc_below _ _) (alloc_below _ _), fun W hb => ?_⟩
 have h0 := heap_alloc_new w (.cells #[.int .u8 p.f, .int .i64 p.n, .int .i64 p.k, .int .i64 p.t, .int .i64 p.s, .int .i64 p.e, .int .i64 p.d, .int .i64 p.w] T1)
 have hb0 := alloc_below (w.alloc (.cells #[.int .u8 p.f, .int .i64 p.n, .int .i64 p.k, .int .i64 p.t, .int .i64 p.s, .int .i64 p.e, .int .i64 p.d, .int .i64 p.w] T1)) (.cells #[.int .i64 n, vo, vu] T2)
 have hN := heap_alloc_new (w.alloc (.cells #[.int .u8 p.f, .int .i64 p.n, .int .i64 p.k, .int .i64 p.t, .int .i64 p.s, .int .i64 p.e, .int .i64 p.d, .int .i64 p.w] T1)) (.cells #[.int .i64 n, vo, vu] T2)
 have h1 := (hb.block _ (Array.getElem?_eq_some_iff.1 hN).1).trans hN
 have h2 := ((Below.next hb0 hb).block _ (Array.getElem?_eq_some_iff.1 h0).1).trans h0
 have hs : (w.alloc (.cells #[.int .u8 p.f, .int .i64 p.n, .int .i64 p.k, .int .i64 p.t, .int .i64 p.s, .int .i64 p.e, .int .i64 p.d, .int .i64 p.w] T1)).heap.size = w.heap.size + 1 := by simp
 rw [hs] at h1
 exact ⟨⟨cell_at h2 rfl, cell_at h2 rfl, cell_at h2 rfl, cell_at h2 rfl, cell_at h2 rfl, cell_at h2 rfl, cell_at h2 rfl, cell_at h2 rfl⟩, cell_at h1 rfl, cell_at h1 rfl, cell_at h1 rfl⟩
theorem dFits16 (p : Pn) (q : Pr) (vq : Value) (w : World) (hp : Ok8p p) (hq : Pm w vq q) : Calls Tryz.prog 17 #[plv p, vq] w fun e w' => e = .returned (.int .i64 (ftQ p q)) ∧ Below w.heap.size w w' := by
 obtain ⟨vo, vu, rfl, ho, hu⟩ := hq.form
 obtain ⟨ao, ca, rfl, _⟩ := ho.spell
 obtain ⟨au, cu, rfl, _⟩ := hu.spell
 have HO := hide (fun W (hb : Below w.heap.size w W) => dOf _ q W (hq.below hb))
 have HM := hide (dMayP p hp)
 unfold IsOf at HO
 unfold Ans at HM
 clear ho hu hq hp
 obtain ⟨W1, hW, hA, hS⟩ := pq_box w p q.inp (.slice ao q.ops.length ca) (.slice au q.outs.length cu) 24 49
 have HW := hide hW
 have HS := hide hS
 clear hW hS
 obtain ⟨⟨c0, c1, c2, c3, c4, c5, c6, c7⟩, d0, d1, d2⟩ := HS.out _ (Below.refl _ _)
 rw [plan_eq] at *
 have hF : fitQ p q = (mayP p && (decide (ofE q = 0) && (decide (q.inp = p.w) && decide (ofV q <= p.d)))) := rfl
 cases hm : mayP p with
 | false =>
  rw [hm] at HM hF
  rw [ftQ_no hF]
  clear hF hm
  generalize ofE q = er at *
  generalize ofV q = dv at *
  go_enter Tryz.func17, Tryz.ntmps17
  go_upto_region 1 with fail
  rw [HW.out]
  go_wp2_with (first
   | (go_at_call 49; refine (HO.out _ hA).mono ?_; rintro e w1 ⟨rfl, hb1⟩; have hB1 := Below.next hA hb1; clear c0 c1 c2 c3 c4 c5 c6 c7 d0 d1 d2; obtain ⟨⟨c0, c1, c2, c3, c4, c5, c6, c7⟩, d0, d1, d2⟩ := HS.out _ hb1)
   | (go_at_call 39; refine (HM.out _).mono ?_; rintro e w2 ⟨rfl, hb2⟩; have hC2 := Below.next hb1 hb2; have hB2 := Below.next hB1 hb2; clear c0 c1 c2 c3 c4 c5 c6 c7 d0 d1 d2; obtain ⟨⟨c0, c1, c2, c3, c4, c5, c6, c7⟩, d0, d1, d2⟩ := HS.out _ hC2))
  go_ret
  exact ⟨rfl, hB2⟩
 | true =>
  rw [hm] at HM hF
  by_cases he : ofE q = 0
  · by_cases hi : q.inp = p.w
    · have hne : (q.inp != p.w) = false := by simp [hi]
      by_cases hd : ofV q <= p.d
      · rw [ftQ_yes (by rw [hF]; simp [hi, he, hd])]
        rw [he] at HO
        have hd' : ¬ p.d < ofV q := by omega
        clear hF hm hi he hd
        generalize ofV q = dv at *
        go_enter Tryz.func17, Tryz.ntmps17
        go_upto_region 1 with fail
        rw [HW.out]
        go_wp2_with (first
         | (go_at_call 49; refine (HO.out _ hA).mono ?_; rintro e w1 ⟨rfl, hb1⟩; have hB1 := Below.next hA hb1; clear c0 c1 c2 c3 c4 c5 c6 c7 d0 d1 d2; obtain ⟨⟨c0, c1, c2, c3, c4, c5, c6, c7⟩, d0, d1, d2⟩ := HS.out _ hb1)
         | (go_at_call 39; refine (HM.out _).mono ?_; rintro e w2 ⟨rfl, hb2⟩; have hC2 := Below.next hb1 hb2; have hB2 := Below.next hB1 hb2; clear c0 c1 c2 c3 c4 c5 c6 c7 d0 d1 d2; obtain ⟨⟨c0, c1, c2, c3, c4, c5, c6, c7⟩, d0, d1, d2⟩ := HS.out _ hC2))
        go_ret
        exact ⟨rfl, hB2⟩
      · rw [ftQ_no (by rw [hF]; simp [hi, he, hd])]
        rw [he] at HO
        have hd' : p.d < ofV q := by omega
        clear hF hm hi he hd
        generalize ofV q = dv at *
        go_enter Tryz.func17, Tryz.ntmps17
        go_upto_region 1 with fail
        rw [HW.out]
        go_wp2_with (first
         | (go_at_call 49; refine (HO.out _ hA).mono ?_; rintro e w1 ⟨rfl, hb1⟩; have hB1 := Below.next hA hb1; clear c0 c1 c2 c3 c4 c5 c6 c7 d0 d1 d2; obtain ⟨⟨c0, c1, c2, c3, c4, c5, c6, c7⟩, d0, d1, d2⟩ := HS.out _ hb1)
         | (go_at_call 39; refine (HM.out _).mono ?_; rintro e w2 ⟨rfl, hb2⟩; have hC2 := Below.next hb1 hb2; have hB2 := Below.next hB1 hb2; clear c0 c1 c2 c3 c4 c5 c6 c7 d0 d1 d2; obtain ⟨⟨c0, c1, c2, c3, c4, c5, c6, c7⟩, d0, d1, d2⟩ := HS.out _ hC2))
        go_ret
        exact ⟨rfl, hB2⟩
    · have hne : (q.inp != p.w) = true := bne_iff_ne.2 hi
      rw [ftQ_no (by rw [hF]; simp [hi])]
      rw [he] at HO
      clear hF hm hi he
      generalize ofV q = dv at *
      go_enter Tryz.func17, Tryz.ntmps17
      go_upto_region 1 with fail
      rw [HW.out]
      go_wp2_with (first
       | (go_at_call 49; refine (HO.out _ hA).mono ?_; rintro e w1 ⟨rfl, hb1⟩; have hB1 := Below.next hA hb1; clear c0 c1 c2 c3 c4 c5 c6 c7 d0 d1 d2; obtain ⟨⟨c0, c1, c2, c3, c4, c5, c6, c7⟩, d0, d1, d2⟩ := HS.out _ hb1)
       | (go_at_call 39; refine (HM.out _).mono ?_; rintro e w2 ⟨rfl, hb2⟩; have hC2 := Below.next hb1 hb2; have hB2 := Below.next hB1 hb2; clear c0 c1 c2 c3 c4 c5 c6 c7 d0 d1 d2; obtain ⟨⟨c0, c1, c2, c3, c4, c5, c6, c7⟩, d0, d1, d2⟩ := HS.out _ hC2))
      go_ret
      exact ⟨rfl, hB2⟩
  · have he' : (ofE q != 0) = true := bne_iff_ne.2 he
    rw [ftQ_no (by rw [hF]; simp [he])]
    clear hF hm he
    generalize ofE q = er at *
    generalize ofV q = dv at *
    go_enter Tryz.func17, Tryz.ntmps17
    go_upto_region 1 with fail
    rw [HW.out]
    go_wp2_with (first
     | (go_at_call 49; refine (HO.out _ hA).mono ?_; rintro e w1 ⟨rfl, hb1⟩; have hB1 := Below.next hA hb1; clear c0 c1 c2 c3 c4 c5 c6 c7 d0 d1 d2; obtain ⟨⟨c0, c1, c2, c3, c4, c5, c6, c7⟩, d0, d1, d2⟩ := HS.out _ hb1)
     | (go_at_call 39; refine (HM.out _).mono ?_; rintro e w2 ⟨rfl, hb2⟩; have hC2 := Below.next hb1 hb2; have hB2 := Below.next hB1 hb2; clear c0 c1 c2 c3 c4 c5 c6 c7 d0 d1 d2; obtain ⟨⟨c0, c1, c2, c3, c4, c5, c6, c7⟩, d0, d1, d2⟩ := HS.out _ hC2))
    go_ret
    exact ⟨rfl, hB2⟩
theorem dReply16 (p : Pn) (q : Pr) (vq vi : Value) (xs : List Int) (w : World) (hp : Ok8p p) (hq : Pm w vq q) (hr : Rw w vi xs) : Gives 52 #[plv p, vq, vi] w (rpL p q xs) (rpE p q xs) := by
 unfold Gives
 obtain ⟨vo, vu, rfl, ho, hu⟩ := hq.form
 obtain ⟨ao, ca, rfl, _⟩ := ho.spell
 obtain ⟨au, cu, rfl, _⟩ := hu.spell
 have HF := hide (fun W (hb : Below w.heap.size w W) => dFits16 p q _ W hp (hq.below hb))
 have HO := hide (fun W (hb : Below w.heap.size w W) => dRun p.f q _ vi xs W (hq.below hb) (hr.below hb))
 unfold Gives at HO
 obtain ⟨ai, ci, rfl, _⟩ := hr.spell
 generalize xs.length = ln at *
 clear ho hu hq hp hr
 obtain ⟨W1, hW, hA, hS⟩ := pq_box w p q.inp (.slice ao q.ops.length ca) (.slice au q.outs.length cu) 24 49
 have HW := hide hW
 have HS := hide hS
 clear hW hS
 obtain ⟨⟨c0, c1, c2, c3, c4, c5, c6, c7⟩, d0, d1, d2⟩ := HS.out _ (Below.refl _ _)
 rw [plan_eq] at *
 cases hf : fitQ p q with
 | false =>
  obtain ⟨e1, e2⟩ := rp_no (xs := xs) hf
  rw [e1, e2]
  rw [ftQ_no hf] at HF
  clear hf e1 e2
  go_enter Tryz.func52, Tryz.ntmps52
  go_upto_region 1 with fail
  rw [HW.out]
  go_wp2_with (go_at_call 17; refine (HF.out _ hA).mono ?_; rintro e w1 ⟨rfl, hb1⟩; have hB1 := Below.next hA hb1; clear c0 c1 c2 c3 c4 c5 c6 c7 d0 d1 d2; obtain ⟨⟨c0, c1, c2, c3, c4, c5, c6, c7⟩, d0, d1, d2⟩ := HS.out _ hb1)
  go_ret2
  exact ⟨_, rfl, World.ownsRow_nil _ _ _ _, hB1⟩
 | true =>
  obtain ⟨e1, e2⟩ := rp_yes (xs := xs) hf
  rw [e1, e2]
  rw [ftQ_yes hf] at HF
  clear hf e1 e2
  generalize ruL p.f q xs = rs at *
  generalize evE p.f q xs = er at *
  go_enter Tryz.func52, Tryz.ntmps52
  go_upto_region 1 with fail
  rw [HW.out]
  go_wp2_with (first
   | (go_at_call 17; refine (HF.out _ hA).mono ?_; rintro e w1 ⟨rfl, hb1⟩; have hB1 := Below.next hA hb1; clear c0 c1 c2 c3 c4 c5 c6 c7 d0 d1 d2; obtain ⟨⟨c0, c1, c2, c3, c4, c5, c6, c7⟩, d0, d1, d2⟩ := HS.out _ hb1)
   | (go_at_call 85; refine (HO.out _ hB1).mono ?_; rintro e w2 ⟨v2, rfl, ho2, hb2⟩))
  go_ret2
  exact ⟨_, rfl, own_mono ho2 hB1.size, Below.next hB1 hb2⟩
def zrk (v n k : Nat) : List (List Int) := mkl n (fun t => if t < k then List.replicate v 0 else [])
theorem zrk_len (v n k : Nat) : (zrk v n k).length = n := mkl_len _ _
theorem zrk_lay (v : Nat) {n k : Nat} (hk : k < n) : (zrk v n k).set k (List.replicate v 0) = zrk v n (k + 1) := by
 unfold zrk
 rw [mkl_set _ hk]
 refine mkl_congr (fun t ht => ?_)
 by_cases h : t = k
 · rw [if_pos h, if_pos (by omega)]
 · rw [if_neg h]
   by_cases h2 : t < k
   · rw [if_pos h2, if_pos (by omega)]
   · rw [if_neg h2, if_neg (by omega)]
theorem zrk_end (v n : Nat) : zrk v n n = List.replicate n (List.replicate v 0) := by
 refine ext_l (by rw [zrk_len, List.length_replicate]) (fun i hi => ?_)
 rw [zrk_len] at hi
 unfold zrk
 rw [mkl_at _ hi, if_pos hi, List.getD_eq_getElem?_getD, List.getElem?_replicate, if_pos hi]
 rfl
theorem dResults16 (p : Pn) (q : Pr) (vq vd : Value) (dl : List (List Int)) (w : World) (hp : Ok8p p) (hq : Pm w vq q) (h1 : Rws w vd dl) : GivesL11 22 #[plv p, vq, vd] w (rsL p q dl) (rsE p q dl) := by
 unfold GivesL11
 obtain ⟨vo, vu, rfl, ho, hu⟩ := hq.form
 obtain ⟨ao, ca, rfl, _⟩ := ho.spell
 obtain ⟨au, cu, rfl, _⟩ := hu.spell
 have HF := hide (fun W (hb : Below w.heap.size w W) => dFits16 p q _ W hp (hq.below hb))
 have HBd := hide (fun W v (hb : Below w.heap.size w W) (hr : Rws W v (zpd p)) => dBad14 p vd v dl (zpd p) W hp (h1.below hb) hr)
 have HMa := hide (fun W (hb : Below w.heap.size w W) => dMany p.f q _ vd dl W (hq.below hb) (h1.below hb))
 unfold GivesL11 at HMa
 obtain ⟨ad, cd, rfl, _, _, _⟩ := h1
 generalize dl.length = nd at *
 clear ho hu hq hp
 obtain ⟨W1, hW, hA, hS⟩ := pq_box w p q.inp (.slice ao q.ops.length ca) (.slice au q.outs.length cu) 24 49
 have HW := hide hW
 have HS := hide hS
 clear hW hS
 obtain ⟨⟨c0, c1, c2, c3, c4, c5, c6, c7⟩, d0, d1, d2⟩ := HS.out _ (Below.refl _ _)
 rw [plan_eq] at *
 cases hf : fitQ p q with
 | false =>
  obtain ⟨e1, e2⟩ := rsE_no (dl := dl) hf
  rw [e1, e2]
  rw [ftQ_no hf] at HF
  clear hf e1 e2
  go_enter Tryz.func22, Tryz.ntmps22
  go_upto_region 1 with fail
  rw [HW.out]
  go_wp2_with (go_at_call 17; refine (HF.out _ hA).mono ?_; rintro e w1 ⟨rfl, hb1⟩; have hB1 := Below.next hA hb1; clear c0 c1 c2 c3 c4 c5 c6 c7 d0 d1 d2; obtain ⟨⟨c0, c1, c2, c3, c4, c5, c6, c7⟩, d0, d1, d2⟩ := HS.out _ hb1)
  go_ret2
  exact ⟨_, [], rfl, Lss.nil _ _ _, hB1⟩
 | true =>
  rw [ftQ_yes hf] at HF
  rw [rs_doc hf] at HBd
  have hm := (fit_facts hf).1
  obtain ⟨t0, k1, v0, v1⟩ : 0 <= p.t ∧ p.t <= 64 ∧ 1 <= p.w ∧ p.w <= 64 := by
   have h := may_facts hm
   omega
  obtain ⟨n, hn⟩ : ∃ n : Nat, p.t = n := ⟨p.t.toNat, by omega⟩
  obtain ⟨m, hm'⟩ : ∃ m : Nat, p.w = m := ⟨p.w.toNat, by omega⟩
  have HZ : Hid (zrk m n n = zpd p) := by show _ = _; rw [zrk_end]; unfold zpd; rw [hn, hm']; rfl
  have HMany : Hid (rsE p q dl = 0 -> maE p.f q dl = 0 ∧ maL p.f q dl = rsL p q dl) := fun h => rs_many h
  have HNo : Hid (rsE p q dl ≠ 0 -> rsL p q dl = []) := fun h => rsL_no h
  have hmk1 : ∀ W, (Instr.makeSlice 26 (.int .i64 p.t) (.int .i64 p.t)).run Tryz.prog W = .ok (.slice (some ⟨W.heap.size, 0, none⟩) n n) (W.alloc (.cells (nvs n).toArray 36)) := fun W => by rw [hn]; exact makeN n (by omega) W
  have HMW : Hid (∀ W, (Instr.makeSlice 36 (.int .i64 p.w) (.int .i64 p.w)).run Tryz.prog W = .ok (.slice (some ⟨W.heap.size, 0, none⟩) m m) (W.alloc (.cells (zrs m).toArray 64))) := fun W => by rw [hm']; exact makeW m (by omega) W
  have hn1000 : n <= 64 := by omega
  have hm1000 : m <= 64 := by omega
  have HT := hide hn
  have HWd : Hid (∀ i, Wd ((zpd p).getD i [])) := fun i => getD_wd (fun b hb => by
   rw [(List.mem_replicate.1 hb).2]
   exact ⟨by rw [List.length_replicate]; omega, fun x hx => by rw [(List.mem_replicate.1 hx).2]; decide⟩) i
  have HZl : Hid ((zpd p).length = n) := by show _ = _; unfold zpd; rw [List.length_replicate]; omega
  clear hf hm hn hm' t0 v0 v1 k1
  generalize zpd p = zl at *
  generalize rsE p q dl = er at *
  generalize rsL p q dl = rs at *
  generalize maE p.f q dl = mE at *
  generalize maL p.f q dl = mL at *
  go_enter Tryz.func22, Tryz.ntmps22
  go_upto_region 1 with fail
  rw [HW.out]
  go_upto_region 5 with (go_at_call 17; refine (HF.out _ hA).mono ?_; rintro e w1 ⟨rfl, hb1⟩; have hB1 := Below.next hA hb1; clear c0 c1 c2 c3 c4 c5 c6 c7 d0 d1 d2; obtain ⟨⟨c0, c1, c2, c3, c4, c5, c6, c7⟩, d0, d1, d2⟩ := HS.out _ hb1)
  clear hmk1
  have HM0 := hide (mtx_new w1 (lo := w1.heap.size) (n := n) (Nat.le_refl _) (by omega) (fun t => if t < 0 then List.replicate m 0 else []) (fun t ht => if_neg (by omega)))
  rw [show mkl n (fun t => if t < 0 then List.replicate m 0 else []) = zrk m n 0 from rfl] at HM0
  have hA0 := alloc_below w1 (.cells (nvs n).toArray 36)
  generalize w1.alloc (.cells (nvs n).toArray 36) = W0 at *
  clear c0 c1 c2 c3 c4 c5 c6 c7 d0 d1 d2
  go_wp2
  go_loopw [10] (fun vi wr => ∃ (k : Nat) (us : List Value), k <= n ∧ vi = .int .i64 k ∧ Hid (Mtx wr w1.heap.size (.slice (some ⟨w1.heap.size, 0, none⟩) n n) us (zrk m n k)) ∧ Below w1.heap.size w1 wr) (fun vi _ => n - (intOf vi).toNat)
  case atStart => exact ⟨0, _, Nat.zero_le _, rfl, HM0, hA0⟩
  case round =>
   clear HM0 hA0
   obtain ⟨k, us, hk, rfl, HM, hB⟩ := hrel
   have hC := Below.next hb1 hB
   obtain ⟨⟨c0, c1, c2, c3, c4, c5, c6, c7⟩, d0, d1, d2⟩ := HS.out _ hC
   by_cases hlt : k < n
   · have hcG := HM.out.cell (i := k) (by rw [zrk_len]; exact hlt)
     have hGt := cell_in hcG
     have hfG := free_own (by have := HM.out.row; rw [zrk_len] at this; exact this) k
     have k0 : (0 : Int) <= (k : Int) := by omega
     have k1 : (k : Int) < (n : Int) := by omega
     have k2 : (k : Int) < p.t := by rw [HT.out]; omega
     have hal := alloc_below wr (.cells (zrs m).toArray 64)
     have hmk := HMW.out
     have hZ : World.ownsRow (wr.alloc (.cells (zrs m).toArray 64)) w1.heap.size 64 1 (.slice (some ⟨wr.heap.size, 0, none⟩) m m) (List.replicate m (0 : Int)).length (vals (List.replicate m 0)) := by
      rw [List.length_replicate]
      exact own_new (cs := vals (List.replicate m 0)) hB.size (by rw [vals_length]; simp) (by omega)
     have HM1 := hide ((HM.out.below hal).lay (by rw [zrk_len]) (k := k) (by rw [zrk_len]; exact hlt) hZ (fun i g hi hne hg e => by
      have := HM.out.tops hi hg
      have e2 : g = wr.heap.size := by simpa [Value.ownBlock] using e.symm
      omega))
     rw [zrk_lay m hlt] at HM1
     have hB1' : Below w1.heap.size w1 ((wr.alloc (.cells (zrs m).toArray 64)).setCell ⟨w1.heap.size, k, none⟩ (.slice (some ⟨wr.heap.size, 0, none⟩) m m)) := (Below.next hB hal).setCell (p := ⟨w1.heap.size, k, none⟩) (Nat.le_refl _) _
     have hcG1 : (wr.alloc (.cells (zrs m).toArray 64)).cell? ⟨w1.heap.size, k, none⟩ = some (us.getD k nov) := (hal.cell (p := ⟨w1.heap.size, k, none⟩) hGt).trans hcG
     rw [World.setCell_alloc_past _ _ _ _ hGt] at HM1 hB1'
     clear HM hZ hal
     generalize us.getD k nov = u0 at *
     go_wp2_with fail
     clear hmk hcG hcG1 hfG
     generalize (wr.setCell ⟨w1.heap.size, k, none⟩ (.slice (some ⟨wr.heap.size, 0, none⟩) m m)).alloc (.cells (zrs m).toArray 64) = W2 at *
     go_roundw
     case rel => exact ⟨k + 1, _, by omega, by go_num, HM1, hB1'⟩
     case measure => simp [intOf]; omega
   · obtain rfl : k = n := by omega
     have k2 : ¬ ((k : Int) < p.t) := by rw [HT.out]; omega
     have hBw := Below.next hB1 hB
     have HR : Hid (Rws wr (.slice (some ⟨w1.heap.size, 0, none⟩) k k) zl) := by
      have h := HM.out
      rw [HZ.out] at h
      exact h.rws HWd.out (by rw [HZl.out]; omega)
     clear HM HZl HWd HZ HMW
     by_cases hz : er = 0
     · subst hz
       obtain ⟨m1, m2⟩ := HMany.out rfl
       subst m1 m2
       clear HMany HNo
       go_wp2_with (first
        | (go_at_call 18; refine (HBd.out _ _ hBw HR.out).mono ?_; rintro e w2 ⟨rfl, hb2⟩; have hB2 := Below.next hBw hb2; have hC2 := Below.next hC hb2; clear c0 c1 c2 c3 c4 c5 c6 c7 d0 d1 d2; obtain ⟨⟨c0, c1, c2, c3, c4, c5, c6, c7⟩, d0, d1, d2⟩ := HS.out _ hC2)
        | (go_at_call 53; refine (HMa.out _ hB2).mono ?_; rintro e w3 ⟨v3, us3, rfl, ho3, hb3⟩))
       go_ret2
       exact ⟨_, us3, rfl, ho3.low hB2.size, Below.next hB2 hb3⟩
     · have ht : (er != 0) = true := bne_iff_ne.2 hz
       have HR0 := hide (HNo.out hz)
       clear hz HMany HNo
       go_wp2_with (go_at_call 18; refine (HBd.out _ _ hBw HR.out).mono ?_; rintro e w2 ⟨rfl, hb2⟩; have hB2 := Below.next hBw hb2; have hC2 := Below.next hC hb2; clear c0 c1 c2 c3 c4 c5 c6 c7 d0 d1 d2; obtain ⟨⟨c0, c1, c2, c3, c4, c5, c6, c7⟩, d0, d1, d2⟩ := HS.out _ hC2)
       go_ret2
       exact ⟨_, [], rfl, by rw [HR0.out]; exact Lss.nil _ _ _, hB2⟩
end Go.Proofs.YtjhididlcdepdaaGreat
