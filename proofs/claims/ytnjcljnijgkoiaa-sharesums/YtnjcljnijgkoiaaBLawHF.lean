/-
  The statements of layer 14: ShareSums walked.
-/
import Derived.Test.YtnjcljnijgkoiaaBLawHA
import Derived.Test.YtnjcljnijgkoiaaBShsA
namespace Go.Proofs.Ytnjcljnijgkoiaa
open Go.RowKit Fld Pln Shr
set_option linter.unusedVariables false
set_option linter.unusedSimpArgs false

theorem fi_only {f q q' : Int} {wd wd' : Bool} (h : Fi f q wd) (h' : Fi f q' wd') : q = q' := by rw [← pOf_eq h, ← pOf_eq h']
theorem bk_of {p : Pn} {q : Int} {wd : Bool} {dl pl : List (List Int)} (hm : mayP p = true) (hf : Fi p.f q wd) (he : ∀ b ∈ dl ++ pl, Els q b) (hw : ∀ b ∈ dl ++ pl, b.length = p.w.toNat) (hd : dl.length = p.k.toNat) (hp : pl.length = p.t.toNat) : bkE p dl pl [] = 0 := by
  obtain ⟨_, ⟨k0, k1⟩, ⟨t0, t1⟩, _, _, _, w0, w1⟩ := may_facts hm
  rw [bk_none, hm]
  have e1 : elsB p.f dl = true := (elsB_iff hf).2 (fun b hb => allIn_of (he b (List.mem_append.2 (.inl hb))))
  have e2 : elsB p.f pl = true := (elsB_iff hf).2 (fun b hb => allIn_of (he b (List.mem_append.2 (.inr hb))))
  have e3 : blkB p.w p.k dl = true := blkB_iff.2 ⟨fun b hb => by have := hw b (List.mem_append.2 (.inl hb)); omega, by omega⟩
  have e4 : blkB p.w p.t pl = true := blkB_iff.2 ⟨fun b hb => by have := hw b (List.mem_append.2 (.inr hb)); omega, by omega⟩
  rw [e1, e2, e3, e4]; rfl
theorem sml_mem {q : Int} {a b : List (List Int)} {x : List Int} (h : x ∈ sml q a b) : ∃ i, i < a.length ∧ x = sm1 q (a.getD i []) (b.getD i []) (a.getD i []).length := by
  unfold sml mkl at h
  obtain ⟨i, hi, rfl⟩ := List.mem_map.1 h
  exact ⟨i, List.mem_range.1 hi, rfl⟩
theorem sml_app {q : Int} {a b c d : List (List Int)} (h : a.length = b.length) : sml q (a ++ c) (b ++ d) = sml q a b ++ sml q c d := by
  refine ext_l (by rw [List.length_append, sml_len, sml_len, sml_len, List.length_append]) (fun i hi => ?_)
  rw [sml_len, List.length_append] at hi
  rw [getD_app, sml_len]
  unfold sml
  rw [mkl_at _ (by rw [List.length_append]; exact hi), getD_app, getD_app, ← h]
  by_cases e : i < a.length
  · rw [if_pos e, if_pos e, if_pos e, mkl_at _ e]
  · rw [if_neg e, if_neg e, if_neg e, mkl_at _ (by omega)]
/-- Shares of sums are sums of shares. -/
theorem sums_all {q : Int} {wd : Bool} (hm : Md q wd) {xs zs : List Int} (hx : Els q xs) (hn : xs.Nodup) {w : Nat} {a b : List (List Int)} (ha : ∀ l ∈ a, Els q l) (hb : ∀ l ∈ b, Els q l) (la : a.length = xs.length) (lb : b.length = xs.length) (wa : ∀ l ∈ a, l.length = w) : zs.map (shr q xs w (sml q a b)) = sml q (zs.map (shr q xs w a)) (zs.map (shr q xs w b)) := by
  have hp : 0 < q := by have := hm.bounds; omega
  refine ext_l (by rw [sml_len, List.length_map, List.length_map]) (fun i hi => ?_)
  rw [List.length_map] at hi
  have e1 : ∀ f : Int → List Int, (zs.map f).getD i [] = f zs[i] := fun f => by rw [List.getD_eq_getElem?_getD, List.getElem?_map, List.getElem?_eq_getElem hi]; rfl
  unfold sml
  rw [mkl_at _ (by rw [List.length_map]; exact hi), e1, e1, e1]
  rw [shr_sum hm hx hn ha hb (c := mkl a.length (fun r => sm1 q (a.getD r []) (b.getD r []) (a.getD r []).length)) (fun l hl => by
    obtain ⟨r, hr, rfl⟩ := sml_mem hl
    exact sm1_els hp (ha _ (getD_memA [] hr)) _) la lb (by rw [mkl_len]; exact la) (fun k t h1 h2 h3 ht => by
      have e2 : (mkl a.length (fun r => sm1 q (a.getD r []) (b.getD r []) (a.getD r []).length))[k] = sm1 q (a.getD k []) (b.getD k []) (a.getD k []).length := by
        have := mkl_at (fun r => sm1 q (a.getD r []) (b.getD r []) (a.getD r []).length) h1
        rw [List.getD_eq_getElem?_getD, List.getElem?_eq_getElem h3] at this
        exact this
      have e3 : a.getD k [] = a[k] := by rw [List.getD_eq_getElem?_getD, List.getElem?_eq_getElem h1]; rfl
      have e4 : b.getD k [] = b[k] := by rw [List.getD_eq_getElem?_getD, List.getElem?_eq_getElem h2]; rfl
      rw [e2, e3, e4]
      have e5 := wa _ (List.getElem_mem h1)
      unfold sm1
      rw [co_mk, if_pos (by omega), if_pos (by omega)]) zs[i]]
  unfold smb sm1
  rw [shr_len, shr_len]
def oneP : Pn := { f := 1, n := 1, k := 1, t := 0, s := 0, e := 0, d := 0, w := 1 }
theorem one_ok : Ok8p oneP ∧ mayP oneP = true := by unfold Ok8p I64; decide +kernel
/-- A plan and two things that are shared, boxed one behind the other. -/
theorem sec_box2 (w : World) (p : Pn) (v1 v2 v3 v4 : Value) (T : TypeId) : ∃ W1, ((w.alloc (.cells #[.int .u8 p.f, .int .i64 p.n, .int .i64 p.k, .int .i64 p.t, .int .i64 p.s, .int .i64 p.e, .int .i64 p.d, .int .i64 p.w] 24)).alloc (.cells #[v1, v2] T)).alloc (.cells #[v3, v4] T) = W1 ∧ Below w.heap.size w W1 ∧ ∀ V, Below W1.heap.size W1 V → (V.cell? ⟨w.heap.size, 0, none⟩ = some (.int .u8 p.f) ∧ V.cell? ⟨w.heap.size, 1, none⟩ = some (.int .i64 p.n) ∧ V.cell? ⟨w.heap.size, 2, none⟩ = some (.int .i64 p.k) ∧ V.cell? ⟨w.heap.size, 3, none⟩ = some (.int .i64 p.t) ∧ V.cell? ⟨w.heap.size, 4, none⟩ = some (.int .i64 p.s) ∧ V.cell? ⟨w.heap.size, 5, none⟩ = some (.int .i64 p.e) ∧ V.cell? ⟨w.heap.size, 6, none⟩ = some (.int .i64 p.d) ∧ V.cell? ⟨w.heap.size, 7, none⟩ = some (.int .i64 p.w)) ∧ V.cell? ⟨w.heap.size + 1, 0, none⟩ = some v1 ∧ V.cell? ⟨w.heap.size + 1, 1, none⟩ = some v2 ∧ V.cell? ⟨w.heap.size + 1 + 1, 0, none⟩ = some v3 ∧ V.cell? ⟨w.heap.size + 1 + 1, 1, none⟩ = some v4 := by
  obtain ⟨pb, hA⟩ := pb_box (w := w) p
  refine ⟨_, rfl, Below.next (Below.next hA (alloc_below _ _)) (alloc_below _ _), fun V hb => ⟨(((pb.below (alloc_below _ _)).below (alloc_below _ _)).below hb).cells, ?_, ?_, ?_, ?_⟩⟩
  · exact (hb.cell (p := ⟨w.heap.size + 1, 0, none⟩) (by simp)).trans (by simp [go_sem])
  · exact (hb.cell (p := ⟨w.heap.size + 1, 1, none⟩) (by simp)).trans (by simp [go_sem])
  · exact (hb.cell (p := ⟨w.heap.size + 1 + 1, 0, none⟩) (by simp)).trans (by simp [go_sem])
  · exact (hb.cell (p := ⟨w.heap.size + 1 + 1, 1, none⟩) (by simp)).trans (by simp [go_sem])

set_option maxRecDepth 100000 in
set_option maxHeartbeats 1600000 in
theorem shareSums_any (w : World) (p : Pn) (vd vp vd2 vp2 : Value) (dl pl dl2 pl2 : List (List Int)) (hp : Ok8p p) (h1 : Rws w vd dl) (h2 : Rws w vp pl) (h3 : Rws w vd2 dl2) (h4 : Rws w vp2 pl2) : Calls Try.prog 4 #[plv p, .agg #[vd, vp], .agg #[vd2, vp2]] w fun e w' => e = .returned (.bool true) ∧ Below w.heap.size w w' := by
  have B1 := hide (fun W (hb : Below w.heap.size w W) => dBad14 p vd vp dl pl W hp (h1.below hb) (h2.below hb))
  have B2 := hide (fun W (hb : Below w.heap.size w W) => dBad14 p vd2 vp2 dl2 pl2 W hp (h3.below hb) (h4.below hb))
  have HX := hide anch14
  have HM1 := hide (dMayP oneP one_ok.1)
  rw [one_ok.2] at HM1
  by_cases hz : bkE p dl pl [] = 0 ∧ bkE p dl2 pl2 [] = 0
  · obtain ⟨hz1, hz2⟩ := hz
    obtain ⟨q, wd, hm, hf, hbe, hbw, hdl, hpl, hbl, ie, inn, i64', oe, on, o64, dd0, _⟩ := bk_facts hz1 h1.wordsH h2.wordsH
    obtain ⟨q', wd', _, hf', hbe', hbw', hdl', hpl', hbl', _⟩ := bk_facts hz2 h3.wordsH h4.wordsH
    obtain ⟨_, ⟨pk0, pk1⟩, ⟨pt0, pt1⟩, _, _, _, w0, w1⟩ := may_facts hm
    obtain rfl := fi_only hf hf'
    rw [hz1] at B1
    rw [hz2] at B2
    have A1 := hide (fun W (hb : Below w.heap.size w W) => gAll p vd vp dl pl W hp (h1.below hb) (h2.below hb))
    have A2 := hide (fun W (hb : Below w.heap.size w W) => gAll p vd2 vp2 dl2 pl2 W hp (h3.below hb) (h4.below hb))
    have A3 := hide (fun W v v2 x1 x2 => gAll p v v2 (sml q dl dl2) (sml q pl pl2) W hp x1 x2)
    unfold GivesM at A1 A2 A3
    have hsm : ∀ b ∈ sml q dl dl2 ++ sml q pl pl2, Els q b ∧ b.length = p.w.toNat := fun b hb => by
      rcases List.mem_append.1 hb with hb | hb
      · obtain ⟨i, hi, rfl⟩ := sml_mem hb
        have hmem := List.mem_append.2 (.inl (getD_memA [] hi) : dl.getD i [] ∈ dl ∨ dl.getD i [] ∈ pl)
        exact ⟨sm1_els hf.pos (hbe _ hmem) _, by rw [sm1_len]; exact hbw _ hmem⟩
      · obtain ⟨i, hi, rfl⟩ := sml_mem hb
        have hmem := List.mem_append.2 (.inr (getD_memA [] hi) : pl.getD i [] ∈ dl ∨ pl.getD i [] ∈ pl)
        exact ⟨sm1_els hf.pos (hbe _ hmem) _, by rw [sm1_len]; exact hbw _ hmem⟩
    have hz3 : bkE p (sml q dl dl2) (sml q pl pl2) [] = 0 := bk_of hm hf (fun b hb => (hsm b hb).1) (fun b hb => (hsm b hb).2) (by rw [sml_len]; exact hdl) (by rw [sml_len]; exact hpl)
    have hal : ∀ {c d : List (List Int)}, bkE p c d [] = 0 → allL p c d = (outL p).map (shr q (innL p) p.w.toNat (c ++ d)) := fun {c d} h => by unfold allL; rw [if_pos h, pOf_eq hf]
    have hsum : allL p (sml q dl dl2) (sml q pl pl2) = sml q (allL p dl pl) (allL p dl2 pl2) := by
      rw [hal hz1, hal hz2, hal hz3, ← sml_app (by omega), sums_all hf.md ie inn hbe hbe' hbl hbl' hbw]
    have hae : ∀ {c d : List (List Int)}, bkE p c d [] = 0 → (∀ x ∈ allL p c d, Els q x ∧ x.length = p.w.toNat) ∧ (allL p c d).length = (outL p).length := fun {c d} h => by
      rw [hal h]
      refine ⟨fun x hx => ?_, List.length_map ..⟩
      obtain ⟨z, _, rfl⟩ := List.mem_map.1 hx
      exact ⟨shr_els hf.pos _ _ _ _, shr_len _ _ _ _ _⟩
    have hwd : ∀ {l : List (List Int)}, (∀ x ∈ l, Els q x ∧ x.length = p.w.toNat) → ∀ i, Wd (l.getD i []) := fun {l} h i => getD_wd (fun b hb => wd_els (h b hb).1 hf.top (by rw [(h b hb).2]; omega)) i
    have RA : Hid (∀ W lo v us, Mtx W lo v us (allL p dl pl) → Rws W v (allL p dl pl)) := fun W lo v us h => h.rws (hwd (hae hz1).1) (by rw [(hae hz1).2]; omega)
    have RB : Hid (∀ W lo v us, Mtx W lo v us (allL p dl2 pl2) → Rws W v (allL p dl2 pl2)) := fun W lo v us h => h.rws (hwd (hae hz2).1) (by rw [(hae hz2).2]; omega)
    have RC : Hid (∀ W lo v us, Mtx W lo v us (sml q (allL p dl pl) (allL p dl2 pl2)) → Rws W v (sml q (allL p dl pl) (allL p dl2 pl2))) := fun W lo v us h => by
      have h3 := (hae hz3)
      rw [hsum] at h3
      exact h.rws (hwd h3.1) (by rw [h3.2]; omega)
    have RD : Hid (∀ W lo v us, Mtx W lo v us (sml q dl dl2) → Rws W v (sml q dl dl2)) := fun W lo v us h => h.rws (hwd (fun x hx => hsm x (List.mem_append.2 (.inl hx)))) (by rw [sml_len]; omega)
    have RP : Hid (∀ W lo v us, Mtx W lo v us (sml q pl pl2) → Rws W v (sml q pl pl2)) := fun W lo v us h => h.rws (hwd (fun x hx => hsm x (List.mem_append.2 (.inr hx)))) (by rw [sml_len]; omega)
    have hgl : ∀ {a b : List (List Int)}, b.length = a.length → (∀ x ∈ a, x.length = p.w.toNat) → (∀ x ∈ b, x.length = p.w.toNat) → ∀ i, i < a.length → (b.getD i []).length = (a.getD i []).length := fun {a b} hl ha hb i hi => by rw [ha _ (getD_memA [] hi), hb _ (getD_memA [] (by omega))]
    have S1 := hide (fun W (hb : Below w.heap.size w W) => lSums p q wd vd vd2 dl dl2 W hf (h1.below hb) (h3.below hb) (fun x hx => hbe x (List.mem_append.2 (.inl hx))) (fun x hx => hbe' x (List.mem_append.2 (.inl hx))) (by omega) (hgl (by omega) (fun x hx => hbw x (List.mem_append.2 (.inl hx))) (fun x hx => hbw' x (List.mem_append.2 (.inl hx)))) (by omega))
    have S2 := hide (fun W (hb : Below w.heap.size w W) => lSums p q wd vp vp2 pl pl2 W hf (h2.below hb) (h4.below hb) (fun x hx => hbe x (List.mem_append.2 (.inr hx))) (fun x hx => hbe' x (List.mem_append.2 (.inr hx))) (by omega) (hgl (by omega) (fun x hx => hbw x (List.mem_append.2 (.inr hx))) (fun x hx => hbw' x (List.mem_append.2 (.inr hx)))) (by omega))
    have S3 := hide (fun W va vb x1 x2 => lSums p q wd va vb (allL p dl pl) (allL p dl2 pl2) W hf x1 x2 (fun x hx => ((hae hz1).1 x hx).1) (fun x hx => ((hae hz2).1 x hx).1) (by rw [(hae hz1).2, (hae hz2).2]) (hgl (by rw [(hae hz1).2, (hae hz2).2]) (fun x hx => ((hae hz1).1 x hx).2) (fun x hx => ((hae hz2).1 x hx).2)) (by rw [(hae hz1).2]; omega))
    rw [hz1] at A1
    rw [hz2] at A2
    rw [hz3, hsum] at A3
    obtain ⟨ad, cd, rfl, _, _, _⟩ := h1
    obtain ⟨ap, cp, rfl, _, _, _⟩ := h2
    obtain ⟨ad2, cd2, rfl, _, _, _⟩ := h3
    obtain ⟨ap2, cp2, rfl, _, _, _⟩ := h4
    clear hp hz1 hz2 hz3 hm hf hf' hbe hbe' hbw hbw' hdl hdl' hpl hpl' hbl hbl' ie inn oe on hsm hsum hal hae hwd hgl
    generalize sml q (allL p dl pl) (allL p dl2 pl2) = rc at *
    generalize allL p dl pl = ra at *
    generalize allL p dl2 pl2 = rb at *
    generalize sml q dl dl2 = sd at *
    generalize sml q pl pl2 = sp at *
    generalize dl.length = nd at *
    generalize pl.length = np at *
    generalize dl2.length = nd2 at *
    generalize pl2.length = np2 at *
    rw [plan_eq] at *
    obtain ⟨W1, hW, hA, hS⟩ := sec_box2 w p (.slice ad nd cd) (.slice ap np cp) (.slice ad2 nd2 cd2) (.slice ap2 np2 cp2) 27
    have HW := hide hW
    have HS := hide hS
    clear hW hS HM1
    obtain ⟨⟨c0, c1, c2, c3, c4, c5, c6, c7⟩, d0, d1, d2, d3⟩ := HS.out _ (Below.refl _ _)
    go_enter Try.func4, Try.ntmps4
    go_upto_region 1 with fail
    rw [HW.out]
    go_upto_region 5 with (first
      | (go_at_call 6; with_reducible refine (B2.out _ hB1).mono ?_; rintro e w2 ⟨rfl, hb2⟩; have hC2 := Below.next hC1 hb2; have hB2 := Below.next hA hC2; clear c0 c1 c2 c3 c4 c5 c6 c7 d0 d1 d2 d3; obtain ⟨⟨c0, c1, c2, c3, c4, c5, c6, c7⟩, d0, d1, d2, d3⟩ := HS.out _ hC2)
      | (go_at_call 6; with_reducible refine (B1.out _ hA).mono ?_; rintro e w1 ⟨rfl, hb1⟩; have hC1 := hb1; have hB1 := Below.next hA hC1; clear c0 c1 c2 c3 c4 c5 c6 c7 d0 d1 d2 d3; obtain ⟨⟨c0, c1, c2, c3, c4, c5, c6, c7⟩, d0, d1, d2, d3⟩ := HS.out _ hC1)
      | (go_at_call 5; with_reducible refine (A2.out _ hB3).mono ?_; rintro e w4 ⟨v4, us4, rfl, x4, hb4⟩; have hC4 := Below.next hC3 hb4; have hB4 := Below.next hA hC4; have r4 := hide (RB.out _ _ _ _ x4); obtain ⟨a4, k4, rfl⟩ := own_form x4.row; clear x4; clear c0 c1 c2 c3 c4 c5 c6 c7 d0 d1 d2 d3; obtain ⟨⟨c0, c1, c2, c3, c4, c5, c6, c7⟩, d0, d1, d2, d3⟩ := HS.out _ hC4)
      | (go_at_call 5; with_reducible refine (A1.out _ hB2).mono ?_; rintro e w3 ⟨v3, us3, rfl, x3, hb3⟩; have hC3 := Below.next hC2 hb3; have hB3 := Below.next hA hC3; have r3 := hide (RA.out _ _ _ _ x3); obtain ⟨a3, k3, rfl⟩ := own_form x3.row; clear x3; clear c0 c1 c2 c3 c4 c5 c6 c7 d0 d1 d2 d3; obtain ⟨⟨c0, c1, c2, c3, c4, c5, c6, c7⟩, d0, d1, d2, d3⟩ := HS.out _ hC3))
    have hdr : Below w4.heap.size w4 w4.drew := (Below.refl _ w4).drew
    have hS0 := HS.out _ (Below.next hC4 hdr)
    have hB4d := Below.next hB4 hdr
    clear c0 c1 c2 c3 c4 c5 c6 c7 d0 d1 d2 d3 B1 B2 A1 A2 RA RB
    refine wp_region_held_drew (S := (fun V => (V.cell? ⟨w.heap.size, 0, none⟩ = some (.int .u8 p.f) ∧ V.cell? ⟨w.heap.size, 1, none⟩ = some (.int .i64 p.n) ∧ V.cell? ⟨w.heap.size, 2, none⟩ = some (.int .i64 p.k) ∧ V.cell? ⟨w.heap.size, 3, none⟩ = some (.int .i64 p.t) ∧ V.cell? ⟨w.heap.size, 4, none⟩ = some (.int .i64 p.s) ∧ V.cell? ⟨w.heap.size, 5, none⟩ = some (.int .i64 p.e) ∧ V.cell? ⟨w.heap.size, 6, none⟩ = some (.int .i64 p.d) ∧ V.cell? ⟨w.heap.size, 7, none⟩ = some (.int .i64 p.w)) ∧ V.cell? ⟨w.heap.size + 1, 0, none⟩ = some (.slice ad nd cd) ∧ V.cell? ⟨w.heap.size + 1, 1, none⟩ = some (.slice ap np cp) ∧ V.cell? ⟨w.heap.size + 1 + 1, 0, none⟩ = some (.slice ad2 nd2 cd2) ∧ V.cell? ⟨w.heap.size + 1 + 1, 1, none⟩ = some (.slice ap2 np2 cp2))) (by kernel_rfl) (by ((try dsimp only) <;> (first | with_reducible exact hS3 | with_reducible exact hS2 | with_reducible exact hS1 | with_reducible exact hS0))) (fun hHeld => ?_)
    (refine wpAnyH_take (i := 0) (oi := _) (v := ?v42) rfl (by kernel_rfl) (by kernel_rfl) (by kernel_rfl) (fun _ _ _ h => h) (Or.inl ⟨by rfl, ?hy42⟩) (by assumption) ?rest42; (case hy42 => (first | (intro w hSw; (try dsimp only at hSw); go_simp; done) | (intro w hSw; (try dsimp only at hSw); go_simp; with_reducible rfl))); (try simp only [Act.put, List.getElem_toArray, List.getElem_cons_succ, List.getElem_cons_zero, List.setIfInBounds_toArray, List.set_cons_zero, List.set_cons_succ]))
    (refine wpAnyH_take (i := 1) (oi := _) (v := ?v43) rfl (by kernel_rfl) (by kernel_rfl) (by kernel_rfl) (fun _ _ _ h => h) (Or.inl ⟨by rfl, ?hy43⟩) (by assumption) ?rest43; (case hy43 => (first | (intro w hSw; (try dsimp only at hSw); go_simp; done) | (intro w hSw; (try dsimp only at hSw); go_simp; with_reducible rfl))); (try simp only [Act.put, List.getElem_toArray, List.getElem_cons_succ, List.getElem_cons_zero, List.setIfInBounds_toArray, List.set_cons_zero, List.set_cons_succ]))
    (refine wpAnyH_take (i := 2) (oi := _) (v := ?v44) rfl (by kernel_rfl) (by kernel_rfl) (by kernel_rfl) (fun _ _ _ h => h) (Or.inl ⟨by rfl, ?hy44⟩) (by assumption) ?rest44; (case hy44 => (first | (intro w hSw; (try dsimp only at hSw); go_simp; done) | (intro w hSw; (try dsimp only at hSw); go_simp; with_reducible rfl))); (try simp only [Act.put, List.getElem_toArray, List.getElem_cons_succ, List.getElem_cons_zero, List.setIfInBounds_toArray, List.set_cons_zero, List.set_cons_succ]))
    (refine wpAnyH_take (i := 3) (oi := _) (v := ?v45) rfl (by kernel_rfl) (by kernel_rfl) (by kernel_rfl) (fun _ _ _ h => h) (Or.inl ⟨by rfl, ?hy45⟩) (by assumption) ?rest45; (case hy45 => (first | (intro w hSw; (try dsimp only at hSw); go_simp; done) | (intro w hSw; (try dsimp only at hSw); go_simp; with_reducible rfl))); (try simp only [Act.put, List.getElem_toArray, List.getElem_cons_succ, List.getElem_cons_zero, List.setIfInBounds_toArray, List.set_cons_zero, List.set_cons_succ]))
    (refine wpAnyH_take (i := 4) (oi := _) (v := ?v46) rfl (by kernel_rfl) (by kernel_rfl) (by kernel_rfl) (fun _ _ _ h => h) (Or.inl ⟨by rfl, ?hy46⟩) (by assumption) ?rest46; (case hy46 => (first | (intro w hSw; (try dsimp only at hSw); go_simp; done) | (intro w hSw; (try dsimp only at hSw); go_simp; with_reducible rfl))); (try simp only [Act.put, List.getElem_toArray, List.getElem_cons_succ, List.getElem_cons_zero, List.setIfInBounds_toArray, List.set_cons_zero, List.set_cons_succ]))
    (refine wpAnyH_take (i := 5) (oi := _) (v := ?v47) rfl (by kernel_rfl) (by kernel_rfl) (by kernel_rfl) (fun _ _ _ h => h) (Or.inl ⟨by rfl, ?hy47⟩) (by assumption) ?rest47; (case hy47 => (first | (intro w hSw; (try dsimp only at hSw); go_simp; done) | (intro w hSw; (try dsimp only at hSw); go_simp; with_reducible rfl))); (try simp only [Act.put, List.getElem_toArray, List.getElem_cons_succ, List.getElem_cons_zero, List.setIfInBounds_toArray, List.set_cons_zero, List.set_cons_succ]))
    (refine wpAnyH_take (i := 7) (oi := _) (v := ?v48) rfl (by kernel_rfl) (by kernel_rfl) (by kernel_rfl) (fun _ _ _ h => h) (Or.inl ⟨by rfl, ?hy48⟩) (by assumption) ?rest48; (case hy48 => (first | (intro w hSw; (try dsimp only at hSw); go_simp; done) | (intro w hSw; (try dsimp only at hSw); go_simp; with_reducible rfl))); (try simp only [Act.put, List.getElem_toArray, List.getElem_cons_succ, List.getElem_cons_zero, List.setIfInBounds_toArray, List.set_cons_zero, List.set_cons_succ]))
    (refine wpAnyH_take (i := 8) (oi := _) (v := ?v49) rfl (by kernel_rfl) (by kernel_rfl) (by kernel_rfl) (fun _ _ _ h => h) (Or.inl ⟨by rfl, ?hy49⟩) (by assumption) ?rest49; (case hy49 => (first | (intro w hSw; (try dsimp only at hSw); go_simp; done) | (intro w hSw; (try dsimp only at hSw); go_simp; with_reducible rfl))); (try simp only [Act.put, List.getElem_toArray, List.getElem_cons_succ, List.getElem_cons_zero, List.setIfInBounds_toArray, List.set_cons_zero, List.set_cons_succ]))
    (refine wpAnyH_take (i := 9) (oi := _) (v := ?v50) rfl (by kernel_rfl) (by kernel_rfl) (by kernel_rfl) (fun _ _ _ h => h) (Or.inl ⟨by rfl, ?hy50⟩) (by assumption) ?rest50; (case hy50 => (first | (intro w hSw; (try dsimp only at hSw); go_simp; done) | (intro w hSw; (try dsimp only at hSw); go_simp; with_reducible rfl))); (try simp only [Act.put, List.getElem_toArray, List.getElem_cons_succ, List.getElem_cons_zero, List.setIfInBounds_toArray, List.set_cons_zero, List.set_cons_succ]))
    (refine wpAnyH_take (i := 10) (oi := _) (v := ?v51) rfl (by kernel_rfl) (by kernel_rfl) (by kernel_rfl) (fun _ _ _ h => h) (Or.inl ⟨by rfl, ?hy51⟩) (by assumption) ?rest51; (case hy51 => (first | (intro w hSw; (try dsimp only at hSw); go_simp; done) | (intro w hSw; (try dsimp only at hSw); go_simp; with_reducible rfl))); (try simp only [Act.put, List.getElem_toArray, List.getElem_cons_succ, List.getElem_cons_zero, List.setIfInBounds_toArray, List.set_cons_zero, List.set_cons_succ]))
    (refine wpAnyH_take (i := 11) (oi := _) (v := ?v52) rfl (by kernel_rfl) (by kernel_rfl) (by kernel_rfl) (fun _ _ _ h => h) (Or.inl ⟨by rfl, ?hy52⟩) (by assumption) ?rest52; (case hy52 => (first | (intro w hSw; (try dsimp only at hSw); go_simp; done) | (intro w hSw; (try dsimp only at hSw); go_simp; with_reducible rfl))); (try simp only [Act.put, List.getElem_toArray, List.getElem_cons_succ, List.getElem_cons_zero, List.setIfInBounds_toArray, List.set_cons_zero, List.set_cons_succ]))
    refine wpAnyH_ready (rs := [6]) (by kernel_rfl) (by simp) ?_
    refine AllReadyH.cons (o := _) rfl (fun K hK => ?_) AllReadyH.nil
    try simp only [List.getElem_toArray, List.getElem_cons_succ, List.getElem_cons_zero]
    go_simp
    (first
          | (go_at_call 11; with_reducible refine (S2.out _ hB5).mono ?_; rintro e w6 ⟨v6, us6, rfl, x6, hb6⟩; have hC6 := Below.next hC5 hb6; have hB6 := Below.next hA hC6; have hS2 := HS.out _ hC6; have r6 := RP.out _ _ _ _ x6; have r5b := r5.below hb6; obtain ⟨a6, k6, rfl⟩ := own_form x6.row)
          | (go_at_call 11; with_reducible refine (S1.out _ hB4d).mono ?_; rintro e w5 ⟨v5, us5, rfl, x5, hb5⟩; have hC5 := Below.next (Below.next hC4 hdr) hb5; have hB5 := Below.next hA hC5; have hS1 := HS.out _ hC5; have r5 := RD.out _ _ _ _ x5; obtain ⟨a5, k5, rfl⟩ := own_form x5.row)
          | (go_at_call 5; refine (A3.out _ _ _ r5b r6).mono ?_; rintro e w7 ⟨v7, us7, rfl, x7, hb7⟩; have hC7 := Below.next hC6 hb7; have hB7 := Below.next hA hC7; have hS3 := HS.out _ hC7; have r7 := hide (RC.out _ _ _ _ x7); obtain ⟨a7, k7, rfl⟩ := own_form x7.row))
    first | (refine hK.out _ _ (by ((try dsimp only) <;> (first | with_reducible exact hS3 | with_reducible exact hS2 | with_reducible exact hS1 | with_reducible exact hS0))) (fun hHeld => ?_)) | (go_wp2_with fail; refine hK.out _ _ (by ((try dsimp only) <;> (first | with_reducible exact hS3 | with_reducible exact hS2 | with_reducible exact hS1 | with_reducible exact hS0))) (fun hHeld => ?_))
    clear hK K
    (try simp only [Act.put, List.getElem_toArray, List.getElem_cons_succ, List.getElem_cons_zero, List.setIfInBounds_toArray, List.set_cons_zero, List.set_cons_succ])
    refine wpAnyH_ready (rs := [12]) (by kernel_rfl) (by simp) ?_
    refine AllReadyH.cons (o := _) rfl (fun K hK => ?_) AllReadyH.nil
    try simp only [List.getElem_toArray, List.getElem_cons_succ, List.getElem_cons_zero]
    go_simp
    (first
          | (go_at_call 11; with_reducible refine (S2.out _ hB5).mono ?_; rintro e w6 ⟨v6, us6, rfl, x6, hb6⟩; have hC6 := Below.next hC5 hb6; have hB6 := Below.next hA hC6; have hS2 := HS.out _ hC6; have r6 := RP.out _ _ _ _ x6; have r5b := r5.below hb6; obtain ⟨a6, k6, rfl⟩ := own_form x6.row)
          | (go_at_call 11; with_reducible refine (S1.out _ hB4d).mono ?_; rintro e w5 ⟨v5, us5, rfl, x5, hb5⟩; have hC5 := Below.next (Below.next hC4 hdr) hb5; have hB5 := Below.next hA hC5; have hS1 := HS.out _ hC5; have r5 := RD.out _ _ _ _ x5; obtain ⟨a5, k5, rfl⟩ := own_form x5.row)
          | (go_at_call 5; refine (A3.out _ _ _ r5b r6).mono ?_; rintro e w7 ⟨v7, us7, rfl, x7, hb7⟩; have hC7 := Below.next hC6 hb7; have hB7 := Below.next hA hC7; have hS3 := HS.out _ hC7; have r7 := hide (RC.out _ _ _ _ x7); obtain ⟨a7, k7, rfl⟩ := own_form x7.row))
    first | (refine hK.out _ _ (by ((try dsimp only) <;> (first | with_reducible exact hS3 | with_reducible exact hS2 | with_reducible exact hS1 | with_reducible exact hS0))) (fun hHeld => ?_)) | (go_wp2_with fail; refine hK.out _ _ (by ((try dsimp only) <;> (first | with_reducible exact hS3 | with_reducible exact hS2 | with_reducible exact hS1 | with_reducible exact hS0))) (fun hHeld => ?_))
    clear hK K
    (try simp only [Act.put, List.getElem_toArray, List.getElem_cons_succ, List.getElem_cons_zero, List.setIfInBounds_toArray, List.set_cons_zero, List.set_cons_succ])
    refine wpAnyH_ready (rs := [13]) (by kernel_rfl) (by simp) ?_
    refine AllReadyH.cons (o := _) rfl (fun K hK => ?_) AllReadyH.nil
    try simp only [List.getElem_toArray, List.getElem_cons_succ, List.getElem_cons_zero]
    go_simp
    (first
          | (go_at_call 11; with_reducible refine (S2.out _ hB5).mono ?_; rintro e w6 ⟨v6, us6, rfl, x6, hb6⟩; have hC6 := Below.next hC5 hb6; have hB6 := Below.next hA hC6; have hS2 := HS.out _ hC6; have r6 := RP.out _ _ _ _ x6; have r5b := r5.below hb6; obtain ⟨a6, k6, rfl⟩ := own_form x6.row)
          | (go_at_call 11; with_reducible refine (S1.out _ hB4d).mono ?_; rintro e w5 ⟨v5, us5, rfl, x5, hb5⟩; have hC5 := Below.next (Below.next hC4 hdr) hb5; have hB5 := Below.next hA hC5; have hS1 := HS.out _ hC5; have r5 := RD.out _ _ _ _ x5; obtain ⟨a5, k5, rfl⟩ := own_form x5.row)
          | (go_at_call 5; refine (A3.out _ _ _ r5b r6).mono ?_; rintro e w7 ⟨v7, us7, rfl, x7, hb7⟩; have hC7 := Below.next hC6 hb7; have hB7 := Below.next hA hC7; have hS3 := HS.out _ hC7; have r7 := hide (RC.out _ _ _ _ x7); obtain ⟨a7, k7, rfl⟩ := own_form x7.row))
    first | (refine hK.out _ _ (by ((try dsimp only) <;> (first | with_reducible exact hS3 | with_reducible exact hS2 | with_reducible exact hS1 | with_reducible exact hS0))) (fun hHeld => ?_)) | (go_wp2_with fail; refine hK.out _ _ (by ((try dsimp only) <;> (first | with_reducible exact hS3 | with_reducible exact hS2 | with_reducible exact hS1 | with_reducible exact hS0))) (fun hHeld => ?_))
    clear hK K
    (try simp only [Act.put, List.getElem_toArray, List.getElem_cons_succ, List.getElem_cons_zero, List.setIfInBounds_toArray, List.set_cons_zero, List.set_cons_succ])
    (refine wpAnyH_take (i := 14) (oi := _) (v := ?v53) rfl (by kernel_rfl) (by kernel_rfl) (by kernel_rfl) (fun _ _ _ h => h) (Or.inl ⟨by rfl, ?hy53⟩) (by assumption) ?rest53; (case hy53 => (first | (intro w hSw; (try dsimp only at hSw); go_simp; done) | (intro w hSw; (try dsimp only at hSw); go_simp; with_reducible rfl))); (try simp only [Act.put, List.getElem_toArray, List.getElem_cons_succ, List.getElem_cons_zero, List.setIfInBounds_toArray, List.set_cons_zero, List.set_cons_succ]))
    (refine wpAnyH_take (i := 15) (oi := _) (v := ?v54) rfl (by kernel_rfl) (by kernel_rfl) (by kernel_rfl) (fun _ _ _ h => h) (Or.inl ⟨by rfl, ?hy54⟩) (by assumption) ?rest54; (case hy54 => (first | (intro w hSw; (try dsimp only at hSw); go_simp; done) | (intro w hSw; (try dsimp only at hSw); go_simp; with_reducible rfl))); (try simp only [Act.put, List.getElem_toArray, List.getElem_cons_succ, List.getElem_cons_zero, List.setIfInBounds_toArray, List.set_cons_zero, List.set_cons_succ]))
    (refine wpAnyH_take (i := 16) (oi := _) (v := ?v55) rfl (by kernel_rfl) (by kernel_rfl) (by kernel_rfl) (fun _ _ _ h => h) (Or.inl ⟨by rfl, ?hy55⟩) (by assumption) ?rest55; (case hy55 => (first | (intro w hSw; (try dsimp only at hSw); go_simp; done) | (intro w hSw; (try dsimp only at hSw); go_simp; with_reducible rfl))); (try simp only [Act.put, List.getElem_toArray, List.getElem_cons_succ, List.getElem_cons_zero, List.setIfInBounds_toArray, List.set_cons_zero, List.set_cons_succ]))
    (refine wpAnyH_take (i := 17) (oi := _) (v := ?v56) rfl (by kernel_rfl) (by kernel_rfl) (by kernel_rfl) (fun _ _ _ h => h) (Or.inl ⟨by rfl, ?hy56⟩) (by assumption) ?rest56; (case hy56 => (first | (intro w hSw; (try dsimp only at hSw); go_simp; done) | (intro w hSw; (try dsimp only at hSw); go_simp; with_reducible rfl))); (try simp only [Act.put, List.getElem_toArray, List.getElem_cons_succ, List.getElem_cons_zero, List.setIfInBounds_toArray, List.set_cons_zero, List.set_cons_succ]))
    (refine wpAnyH_take (i := 18) (oi := _) (v := ?v57) rfl (by kernel_rfl) (by kernel_rfl) (by kernel_rfl) (fun _ _ _ h => h) (Or.inl ⟨by rfl, ?hy57⟩) (by assumption) ?rest57; (case hy57 => (first | (intro w hSw; (try dsimp only at hSw); go_simp; done) | (intro w hSw; (try dsimp only at hSw); go_simp; with_reducible rfl))); (try simp only [Act.put, List.getElem_toArray, List.getElem_cons_succ, List.getElem_cons_zero, List.setIfInBounds_toArray, List.set_cons_zero, List.set_cons_succ]))
    refine wpAnyH_done (by kernel_rfl) ?_ _
    have K7 := Below.next (Below.next (Below.next hdr hb5) hb6) hb7
    have Q3 := hide ((r3.out.below hb4).below K7)
    have Q4 := hide (r4.out.below K7)
    clear hS0 hS1 hS2 hS3 r3 r4 S1 S2 A3 RD RP x5 x6 x7 r5 r5b r6
    obtain ⟨⟨c0, c1, c2, c3, c4, c5, c6, c7⟩, d0, d1, d2, d3⟩ := HS.out _ hC7
    go_wp2_with (first
      | (go_at_call 7; refine (HX.out _).mono ?_; rintro e w8 ⟨rfl, hb8⟩; have hC8 := Below.next hC7 hb8; have hB8 := Below.next hA hC8; clear c0 c1 c2 c3 c4 c5 c6 c7 d0 d1 d2 d3; obtain ⟨⟨c0, c1, c2, c3, c4, c5, c6, c7⟩, d0, d1, d2, d3⟩ := HS.out _ hC8)
      | (go_at_call 11; refine (S3.out _ _ _ (Q3.out.below hb8) (Q4.out.below hb8)).mono ?_; rintro e w9 ⟨v9, us9, rfl, x9, hb9⟩; have hB9 := Below.next hB8 hb9; have r9 := hide (RC.out _ _ _ _ x9); obtain ⟨a9, k9, rfl⟩ := own_form x9.row; clear x9)
      | (go_at_call 9; refine (Rows_h _ _ _ _ ((r7.out.below hb8).below hb9) r9.out).mono ?_; rintro e w10 ⟨rfl, hb10⟩; have hB10 := Below.next hB9 hb10))
    go_ret
    exact ⟨rfl, hB10⟩
  · obtain ⟨ad, cd, rfl, _, _, _⟩ := h1
    obtain ⟨ap, cp, rfl, _, _, _⟩ := h2
    obtain ⟨ad2, cd2, rfl, _, _, _⟩ := h3
    obtain ⟨ap2, cp2, rfl, _, _, _⟩ := h4
    clear hp
    generalize bkE p dl pl [] = e1 at *
    generalize bkE p dl2 pl2 [] = e2 at *
    generalize dl.length = nd at *
    generalize pl.length = np at *
    generalize dl2.length = nd2 at *
    generalize pl2.length = np2 at *
    rw [plan_eq] at *
    unfold oneP at HM1
    dsimp only at HM1
    obtain ⟨W1, hW, hA, hS⟩ := sec_box2 w p (.slice ad nd cd) (.slice ap np cp) (.slice ad2 nd2 cd2) (.slice ap2 np2 cp2) 27
    have HW := hide hW
    have HS := hide hS
    clear hW hS
    obtain ⟨⟨c0, c1, c2, c3, c4, c5, c6, c7⟩, d0, d1, d2, d3⟩ := HS.out _ (Below.refl _ _)
    by_cases h0 : e1 = 0
    · subst h0
      have ht : (e2 != 0) = true := bne_iff_ne.2 (fun h => hz ⟨rfl, h⟩)
      clear hz
      go_enter Try.func4, Try.ntmps4
      go_upto_region 1 with fail
      rw [HW.out]
      go_wp2_with (first
        | (go_at_call 6; with_reducible refine (B2.out _ hB1).mono ?_; rintro e w2 ⟨rfl, hb2⟩; have hC2 := Below.next hC1 hb2; have hB2 := Below.next hA hC2; clear c0 c1 c2 c3 c4 c5 c6 c7 d0 d1 d2 d3; obtain ⟨⟨c0, c1, c2, c3, c4, c5, c6, c7⟩, d0, d1, d2, d3⟩ := HS.out _ hC2)
        | (go_at_call 6; with_reducible refine (B1.out _ hA).mono ?_; rintro e w1 ⟨rfl, hb1⟩; have hC1 := hb1; have hB1 := Below.next hA hC1; clear c0 c1 c2 c3 c4 c5 c6 c7 d0 d1 d2 d3; obtain ⟨⟨c0, c1, c2, c3, c4, c5, c6, c7⟩, d0, d1, d2, d3⟩ := HS.out _ hC1)
        | (go_at_call 7; refine (HX.out _).mono ?_; rintro e w8 ⟨rfl, hb8⟩; have hB8 := Below.next hB2 hb8)
        | (go_at_call 10; refine (HM1.out _).mono ?_; rintro e w9 ⟨rfl, hb9⟩; have hB9 := Below.next hB8 hb9))
      go_ret
      exact ⟨rfl, hB9⟩
    · have ht : (e1 != 0) = true := bne_iff_ne.2 h0
      clear hz h0
      go_enter Try.func4, Try.ntmps4
      go_upto_region 1 with fail
      rw [HW.out]
      go_wp2_with (first
        | (go_at_call 6; with_reducible refine (B1.out _ hA).mono ?_; rintro e w1 ⟨rfl, hb1⟩; have hC1 := hb1; have hB1 := Below.next hA hC1; clear c0 c1 c2 c3 c4 c5 c6 c7 d0 d1 d2 d3; obtain ⟨⟨c0, c1, c2, c3, c4, c5, c6, c7⟩, d0, d1, d2, d3⟩ := HS.out _ hC1)
        | (go_at_call 7; refine (HX.out _).mono ?_; rintro e w8 ⟨rfl, hb8⟩; have hB8 := Below.next hB1 hb8)
        | (go_at_call 10; refine (HM1.out _).mono ?_; rintro e w9 ⟨rfl, hb9⟩; have hB9 := Below.next hB8 hb9))
      go_ret
      exact ⟨rfl, hB9⟩

end Go.Proofs.Ytnjcljnijgkoiaa
