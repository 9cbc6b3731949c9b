/- Texts laid together: ShdC, ShdD. -/
import Derived.Test.YtpbfgcepmbpkdaaGreatBunHE
import Derived.Test.YtpbfgcepmbpkdaaGreatBunHC
import Derived.Test.YtpbfgcepmbpkdaaGreatBunIC
namespace Go.Proofs.YtpbfgcepmbpkdaaGreat
open Go.RowKit Fld Pln Shr
set_option linter.unusedVariables false
set_option linter.unusedSimpArgs false

theorem range_snoc (F : Nat → List Int) (k : Nat) : (List.range k).map F ++ [F k] = (List.range (k + 1)).map F := by rw [List.range_succ, List.map_append]; rfl
theorem lss_here14 {w : World} {lo hi : Nat} {v : Value} {us : List Value} {xss : List (List Int)} (h : Lss w lo hi v us xss) : Lss w lo w.heap.size v us xss :=
  ⟨h.row, h.each, h.from_, fun i g hg => by
    by_cases hi' : i < xss.length
    · exact own_top (h.each i hi') g hg
    · have : us.getD i nov = nov := by
        rw [List.getD_eq_getElem?_getD, List.getElem?_eq_none (by have := h.len; omega)]; rfl
      rw [this] at hg; simp [nov, Value.ownBlock] at hg, h.up⟩

set_option maxRecDepth 100000 in
set_option maxHeartbeats 1000000 in
theorem dPolys (p : Pn) (vd vp : Value) (dl pl : List (List Int)) (w : World) (hp : Ok8p p) (h1 : Rws w vd dl) (h2 : Rws w vp pl) : GivesL 27 #[plv p, vd, vp] w (polL p dl pl) (bkE p dl pl []) := by
  obtain ⟨i0, hi0, hz0, hz1, hz2⟩ := info_parts sl_info
  obtain ⟨pb, hA⟩ := pb_box (w := w) p
  have HK := hide (fun W (hb : Below w.heap.size w W) => dBad14 p vd vp dl pl W hp (h1.below hb) (h2.below hb))
  have HS := hide (fun W' (hb : Below (w.alloc (.cells #[.int .u8 p.f, .int .i64 p.n, .int .i64 p.k, .int .i64 p.t, .int .i64 p.s, .int .i64 p.e, .int .i64 p.d, .int .i64 p.w] 24)).heap.size _ W') => (pb.below hb).cells)
  obtain ⟨c0, c1, c2, c3, c4, c5, c6, c7⟩ := pb.cells
  by_cases hz : bkE p dl pl [] = 0
  · obtain ⟨q, wd, hm, hf, hbe, hbw, hdl, hpl, hbl, ie, inn, i64', oe, on, o64, d0, _⟩ := bk_facts hz h1.wordsH h2.wordsH
    obtain ⟨_, _, _, _, _, _, w0, w1⟩ := may_facts hm
    have hlen : dl.length + pl.length ≤ 64 := by rw [List.length_append] at hbl; omega
    have HL : Hid (polL p dl pl = (List.range p.w.toNat).map (fun t => thrL p.f (innL p) (col (dl ++ pl) t))) := by
      show _ = _
      unfold polL pys
      rw [if_pos hz, pOf_eq hf]
      refine List.map_congr_left (fun t _ => ?_)
      rw [thr_zeroL hf ie inn (col_els hf.pos hbe t) (by rw [col_len]; exact hbl) (by omega)]
      rfl
    rw [HL.out, hz]
    rw [hz] at HK
    have HI := hide (fun W => dInner p W hm)
    have HR := hide (fun W v base n (hO : World.ownsRow W base 50 1 v n (vals (innL p))) => rw_of_own hO (by omega) (els_words ie hf.top))
    have HC := hide (fun W t (hb : Below w.heap.size w W) (ht : t < p.w.toNat) => dColumn vd vp dl pl t W (h1.below hb) (h2.below hb) (fun b hb' => by rw [hbw b hb']; exact ht) (by omega))
    have HR2 := hide (fun W v base n t (hO : World.ownsRow W base 50 1 v n (vals (col (dl ++ pl) t))) => rw_of_own hO (by rw [col_len]; omega) (els_words (col_els hf.pos hbe t) hf.top))
    have HT := hide (fun W v1 v2 t x1 x2 => dThrough p.f v1 v2 (innL p) (col (dl ++ pl) t) W x1 x2)
    unfold Gives at HT
    obtain ⟨F, HF⟩ : ∃ F : Nat → List Int, Hid (F = fun t => thrL p.f (innL p) (col (dl ++ pl) t)) := ⟨_, rfl⟩
    have HFt : Hid (∀ t, thrL p.f (innL p) (col (dl ++ pl) t) = F t) := fun t => by rw [HF.out]
    have HN := hide (fun k => range_snoc F k)
    rw [← HF.out]
    obtain ⟨n, Hn⟩ : ∃ n : Nat, Hid (p.w.toNat = n) := ⟨_, rfl⟩
    have hpw : p.w = (n : Int) := by have := Hn.out; omega
    have hn64 : n ≤ 64 := by omega
    rw [Hn.out] at HC ⊢
    obtain ⟨ad, cd, rfl, _, _, _⟩ := h1
    obtain ⟨ap, cp, rfl, _, _, _⟩ := h2
    have HPw := hide hpw
    clear hz hm hf hbe hbw hbl ie inn oe on pb hp HL hdl hpl HF w0 w1 hpw
    rw [plan_eq] at *
    show Calls _ _ _ _ _
    go_enter Tryz.func27, Tryz.ntmps27
    go_upto_region 1 with fail
    generalize w.alloc (.cells #[.int .u8 p.f, .int .i64 p.n, .int .i64 p.k, .int .i64 p.t, .int .i64 p.s, .int .i64 p.e, .int .i64 p.d, .int .i64 p.w] 24) = W0 at *
    generalize dl.length = nd at *
    generalize pl.length = np at *
    go_wp2_with (go_at_call 25; refine (HK.out _ hA).mono ?_; rintro e w1 ⟨rfl, hb1⟩)
    have hC1 := hb1
    have hB1 := Below.next hA hC1
    have hB1s := hB1.size
    clear c0 c1 c2 c3 c4 c5 c6 c7 HK hb1
    go_loopw [9, 10] (fun vo vi wr => ∃ (k : Nat) (us : List Value), k ≤ n ∧ vi = .int .i64 k ∧ Hid (Lss wr w1.heap.size wr.heap.size vo us ((List.range k).map F)) ∧ Below w1.heap.size w1 wr) (fun _ vi _ => n - (intOf vi).toNat)
    case atStart => exact ⟨0, [], Nat.zero_le _, rfl, Lss.nil _ _ _, Below.refl _ _⟩
    case round =>
      obtain ⟨k, us, hk, rfl, HL, hB⟩ := hrel
      obtain ⟨c0, c1, c2, c3, c4, c5, c6, c7⟩ := HS.out _ (Below.next hC1 hB)
      by_cases hlt : k < n
      · have hkw : (k : Int) < p.w := by rw [HPw.out]; omega
        have Hml : Hid (((List.range k).map F).length = k) := by show _ = _; simp
        obtain ⟨ao, co', hv⟩ := own_form HL.out.row
        rw [Hml.out] at hv
        subst hv
        have hdr : Below wr.heap.size wr wr.drew := (Below.refl _ wr).drew
        have hCr := Below.next hC1 hB
        have hS0 := HS.out _ (Below.next hCr hdr)
        have HS2 := hide (fun V (hb : Below wr.heap.size wr V) => HS.out V (Below.next hCr hb))
        have hCk := hide (fun W hb => HC.out W k hb hlt)
        have hT := hide (fun W v1 v2 x1 x2 => HT.out W v1 v2 k x1 x2)
        have hR2 := hide (fun W v base m hO => HR2.out W v base m k hO)
        rw [HFt.out k] at hT
        have hN := HN.out k
        generalize col (dl ++ pl) k = ck at *
        generalize F k = fk at *
        generalize innL p = xs at *
        generalize bad p.f xs ck ck.length = e0 at *
        go_upto_region 8 with fail
        clear c0 c1 c2 c3 c4 c5 c6 c7
        refine wp_region_held_drew (S := (fun V => V.cell? ⟨w.heap.size, 0, none⟩ = some (.int .u8 p.f) ∧ V.cell? ⟨w.heap.size, 1, none⟩ = some (.int .i64 p.n) ∧ V.cell? ⟨w.heap.size, 2, none⟩ = some (.int .i64 p.k) ∧ V.cell? ⟨w.heap.size, 3, none⟩ = some (.int .i64 p.t) ∧ V.cell? ⟨w.heap.size, 4, none⟩ = some (.int .i64 p.s) ∧ V.cell? ⟨w.heap.size, 5, none⟩ = some (.int .i64 p.e) ∧ V.cell? ⟨w.heap.size, 6, none⟩ = some (.int .i64 p.d) ∧ V.cell? ⟨w.heap.size, 7, none⟩ = some (.int .i64 p.w))) (by kernel_rfl) (by ((try dsimp only) <;> (first | with_reducible exact hS3 | with_reducible exact hS2 | with_reducible exact hS1 | with_reducible exact hS0))) (fun hHeld => ?_)
        (refine wpAnyH_take (i := 0) (oi := _) (v := ?v67) rfl (by kernel_rfl) (by kernel_rfl) (by kernel_rfl) (fun _ _ _ h => h) (Or.inl ⟨by rfl, ?hy67⟩) (by assumption) ?rest67; (case hy67 => (first | (intro w hSw; (try dsimp only at hSw); go_simp; done) | (intro w hSw; (try dsimp only at hSw); go_simp; with_reducible rfl))); (try simp only [Act.put, List.getElem_toArray, List.getElem_cons_succ, List.getElem_cons_zero, List.setIfInBounds_toArray, List.set_cons_zero, List.set_cons_succ]))
        (refine wpAnyH_take (i := 1) (oi := _) (v := ?v68) rfl (by kernel_rfl) (by kernel_rfl) (by kernel_rfl) (fun _ _ _ h => h) (Or.inl ⟨by rfl, ?hy68⟩) (by assumption) ?rest68; (case hy68 => (first | (intro w hSw; (try dsimp only at hSw); go_simp; done) | (intro w hSw; (try dsimp only at hSw); go_simp; with_reducible rfl))); (try simp only [Act.put, List.getElem_toArray, List.getElem_cons_succ, List.getElem_cons_zero, List.setIfInBounds_toArray, List.set_cons_zero, List.set_cons_succ]))
        (refine wpAnyH_take (i := 2) (oi := _) (v := ?v69) rfl (by kernel_rfl) (by kernel_rfl) (by kernel_rfl) (fun _ _ _ h => h) (Or.inl ⟨by rfl, ?hy69⟩) (by assumption) ?rest69; (case hy69 => (first | (intro w hSw; (try dsimp only at hSw); go_simp; done) | (intro w hSw; (try dsimp only at hSw); go_simp; with_reducible rfl))); (try simp only [Act.put, List.getElem_toArray, List.getElem_cons_succ, List.getElem_cons_zero, List.setIfInBounds_toArray, List.set_cons_zero, List.set_cons_succ]))
        (refine wpAnyH_take (i := 4) (oi := _) (v := ?v70) rfl (by kernel_rfl) (by kernel_rfl) (by kernel_rfl) (fun _ _ _ h => h) (Or.inl ⟨by rfl, ?hy70⟩) (by assumption) ?rest70; (case hy70 => (first | (intro w hSw; (try dsimp only at hSw); go_simp; done) | (intro w hSw; (try dsimp only at hSw); go_simp; with_reducible rfl))); (try simp only [Act.put, List.getElem_toArray, List.getElem_cons_succ, List.getElem_cons_zero, List.setIfInBounds_toArray, List.set_cons_zero, List.set_cons_succ]))
        (refine wpAnyH_take (i := 5) (oi := _) (v := ?v71) rfl (by kernel_rfl) (by kernel_rfl) (by kernel_rfl) (fun _ _ _ h => h) (Or.inl ⟨by rfl, ?hy71⟩) (by assumption) ?rest71; (case hy71 => (first | (intro w hSw; (try dsimp only at hSw); go_simp; done) | (intro w hSw; (try dsimp only at hSw); go_simp; with_reducible rfl))); (try simp only [Act.put, List.getElem_toArray, List.getElem_cons_succ, List.getElem_cons_zero, List.setIfInBounds_toArray, List.set_cons_zero, List.set_cons_succ]))
        (refine wpAnyH_take (i := 6) (oi := _) (v := ?v72) rfl (by kernel_rfl) (by kernel_rfl) (by kernel_rfl) (fun _ _ _ h => h) (Or.inl ⟨by rfl, ?hy72⟩) (by assumption) ?rest72; (case hy72 => (first | (intro w hSw; (try dsimp only at hSw); go_simp; done) | (intro w hSw; (try dsimp only at hSw); go_simp; with_reducible rfl))); (try simp only [Act.put, List.getElem_toArray, List.getElem_cons_succ, List.getElem_cons_zero, List.setIfInBounds_toArray, List.set_cons_zero, List.set_cons_succ]))
        refine wpAnyH_ready (rs := [3]) (by kernel_rfl) (by simp) ?_
        refine AllReadyH.cons (o := _) rfl (fun K hK => ?_) AllReadyH.nil
        try simp only [List.getElem_toArray, List.getElem_cons_succ, List.getElem_cons_zero]
        go_simp
        (first
              | (go_at_call 29; refine (HI.out _).mono ?_; rintro e w2 ⟨v2, rfl, o2, hb2⟩; have hD2 := Below.next hdr hb2; have hS1 := HS2.out _ hD2; have r2 := HR.out _ _ _ _ o2; obtain ⟨a2, k2, rfl⟩ := own_form o2)
              | (go_at_call 53; refine (hCk.out _ (Below.next (Below.next hB1 hB) hD2)).mono ?_; rintro e w3 ⟨v3, rfl, o3, hb3⟩; have hD3 := Below.next hD2 hb3; have hS2 := HS2.out _ hD3; have r2b := r2.below hb3; have r3 := hR2.out _ _ _ _ o3; obtain ⟨a3, k3, rfl⟩ := own_form o3)
              | (go_at_call 32; refine (hT.out _ _ _ r2b r3).mono ?_; rintro e w4 ⟨v4, rfl, o4, hb4⟩; have hD4 := Below.next hD3 hb4; have hS3 := HS2.out _ hD4; obtain ⟨a4, k4, rfl⟩ := own_form o4))
        first | (refine hK.out _ _ (by ((try dsimp only) <;> (first | with_reducible exact hS3 | with_reducible exact hS2 | with_reducible exact hS1 | with_reducible exact hS0))) (fun hHeld => ?_)) | (go_wp2_with fail; refine hK.out _ _ (by ((try dsimp only) <;> (first | with_reducible exact hS3 | with_reducible exact hS2 | with_reducible exact hS1 | with_reducible exact hS0))) (fun hHeld => ?_))
        clear hK K
        (try simp only [Act.put, List.getElem_toArray, List.getElem_cons_succ, List.getElem_cons_zero, List.setIfInBounds_toArray, List.set_cons_zero, List.set_cons_succ])
        refine wpAnyH_ready (rs := [7]) (by kernel_rfl) (by simp) ?_
        refine AllReadyH.cons (o := _) rfl (fun K hK => ?_) AllReadyH.nil
        try simp only [List.getElem_toArray, List.getElem_cons_succ, List.getElem_cons_zero]
        go_simp
        (first
              | (go_at_call 29; refine (HI.out _).mono ?_; rintro e w2 ⟨v2, rfl, o2, hb2⟩; have hD2 := Below.next hdr hb2; have hS1 := HS2.out _ hD2; have r2 := HR.out _ _ _ _ o2; obtain ⟨a2, k2, rfl⟩ := own_form o2)
              | (go_at_call 53; refine (hCk.out _ (Below.next (Below.next hB1 hB) hD2)).mono ?_; rintro e w3 ⟨v3, rfl, o3, hb3⟩; have hD3 := Below.next hD2 hb3; have hS2 := HS2.out _ hD3; have r2b := r2.below hb3; have r3 := hR2.out _ _ _ _ o3; obtain ⟨a3, k3, rfl⟩ := own_form o3)
              | (go_at_call 32; refine (hT.out _ _ _ r2b r3).mono ?_; rintro e w4 ⟨v4, rfl, o4, hb4⟩; have hD4 := Below.next hD3 hb4; have hS3 := HS2.out _ hD4; obtain ⟨a4, k4, rfl⟩ := own_form o4))
        first | (refine hK.out _ _ (by ((try dsimp only) <;> (first | with_reducible exact hS3 | with_reducible exact hS2 | with_reducible exact hS1 | with_reducible exact hS0))) (fun hHeld => ?_)) | (go_wp2_with fail; refine hK.out _ _ (by ((try dsimp only) <;> (first | with_reducible exact hS3 | with_reducible exact hS2 | with_reducible exact hS1 | with_reducible exact hS0))) (fun hHeld => ?_))
        clear hK K
        (try simp only [Act.put, List.getElem_toArray, List.getElem_cons_succ, List.getElem_cons_zero, List.setIfInBounds_toArray, List.set_cons_zero, List.set_cons_succ])
        refine wpAnyH_ready (rs := [8]) (by kernel_rfl) (by simp) ?_
        refine AllReadyH.cons (o := _) rfl (fun K hK => ?_) AllReadyH.nil
        try simp only [List.getElem_toArray, List.getElem_cons_succ, List.getElem_cons_zero]
        go_simp
        (first
              | (go_at_call 29; refine (HI.out _).mono ?_; rintro e w2 ⟨v2, rfl, o2, hb2⟩; have hD2 := Below.next hdr hb2; have hS1 := HS2.out _ hD2; have r2 := HR.out _ _ _ _ o2; obtain ⟨a2, k2, rfl⟩ := own_form o2)
              | (go_at_call 53; refine (hCk.out _ (Below.next (Below.next hB1 hB) hD2)).mono ?_; rintro e w3 ⟨v3, rfl, o3, hb3⟩; have hD3 := Below.next hD2 hb3; have hS2 := HS2.out _ hD3; have r2b := r2.below hb3; have r3 := hR2.out _ _ _ _ o3; obtain ⟨a3, k3, rfl⟩ := own_form o3)
              | (go_at_call 32; refine (hT.out _ _ _ r2b r3).mono ?_; rintro e w4 ⟨v4, rfl, o4, hb4⟩; have hD4 := Below.next hD3 hb4; have hS3 := HS2.out _ hD4; obtain ⟨a4, k4, rfl⟩ := own_form o4))
        first | (refine hK.out _ _ (by ((try dsimp only) <;> (first | with_reducible exact hS3 | with_reducible exact hS2 | with_reducible exact hS1 | with_reducible exact hS0))) (fun hHeld => ?_)) | (go_wp2_with fail; refine hK.out _ _ (by ((try dsimp only) <;> (first | with_reducible exact hS3 | with_reducible exact hS2 | with_reducible exact hS1 | with_reducible exact hS0))) (fun hHeld => ?_))
        clear hK K
        (try simp only [Act.put, List.getElem_toArray, List.getElem_cons_succ, List.getElem_cons_zero, List.setIfInBounds_toArray, List.set_cons_zero, List.set_cons_succ])
        (refine wpAnyH_take (i := 9) (oi := _) (v := ?v73) rfl (by kernel_rfl) (by kernel_rfl) (by kernel_rfl) (fun _ _ _ h => h) (Or.inl ⟨by rfl, ?hy73⟩) (by assumption) ?rest73; (case hy73 => (first | (intro w hSw; (try dsimp only at hSw); go_simp; done) | (intro w hSw; (try dsimp only at hSw); go_simp; with_reducible rfl))); (try simp only [Act.put, List.getElem_toArray, List.getElem_cons_succ, List.getElem_cons_zero, List.setIfInBounds_toArray, List.set_cons_zero, List.set_cons_succ]))
        (refine wpAnyH_take (i := 10) (oi := _) (v := ?v74) rfl (by kernel_rfl) (by kernel_rfl) (by kernel_rfl) (fun _ _ _ h => h) (Or.inl ⟨by rfl, ?hy74⟩) (by assumption) ?rest74; (case hy74 => (first | (intro w hSw; (try dsimp only at hSw); go_simp; done) | (intro w hSw; (try dsimp only at hSw); go_simp; with_reducible rfl))); (try simp only [Act.put, List.getElem_toArray, List.getElem_cons_succ, List.getElem_cons_zero, List.setIfInBounds_toArray, List.set_cons_zero, List.set_cons_succ]))
        (refine wpAnyH_take (i := 11) (oi := _) (v := ?v75) rfl (by kernel_rfl) (by kernel_rfl) (by kernel_rfl) (fun _ _ _ h => h) (Or.inl ⟨by rfl, ?hy75⟩) (by assumption) ?rest75; (case hy75 => (first | (intro w hSw; (try dsimp only at hSw); go_simp; done) | (intro w hSw; (try dsimp only at hSw); go_simp; with_reducible rfl))); (try simp only [Act.put, List.getElem_toArray, List.getElem_cons_succ, List.getElem_cons_zero, List.setIfInBounds_toArray, List.set_cons_zero, List.set_cons_succ]))
        (refine wpAnyH_take (i := 12) (oi := _) (v := ?v76) rfl (by kernel_rfl) (by kernel_rfl) (by kernel_rfl) (fun _ _ _ h => h) (Or.inl ⟨by rfl, ?hy76⟩) (by assumption) ?rest76; (case hy76 => (first | (intro w hSw; (try dsimp only at hSw); go_simp; done) | (intro w hSw; (try dsimp only at hSw); go_simp; with_reducible rfl))); (try simp only [Act.put, List.getElem_toArray, List.getElem_cons_succ, List.getElem_cons_zero, List.setIfInBounds_toArray, List.set_cons_zero, List.set_cons_succ]))
        (refine wpAnyH_take (i := 13) (oi := _) (v := ?v77) rfl (by kernel_rfl) (by kernel_rfl) (by kernel_rfl) (fun _ _ _ h => h) (Or.inl ⟨by rfl, ?hy77⟩) (by assumption) ?rest77; (case hy77 => (first | (intro w hSw; (try dsimp only at hSw); go_simp; done) | (intro w hSw; (try dsimp only at hSw); go_simp; with_reducible rfl))); (try simp only [Act.put, List.getElem_toArray, List.getElem_cons_succ, List.getElem_cons_zero, List.setIfInBounds_toArray, List.set_cons_zero, List.set_cons_succ]))
        refine wpAnyH_done (by kernel_rfl) ?_ _
        have HL4 := hide (HL.out.below hD4)
        have hsz4 := hD4.size
        have hsz3 := hD3.size
        have hbs := hB.size
        clear hS0 hS1 hS2 hS3 r2 r2b r3 o2 o3 hT hCk hR2
        have HRow : Hid (∀ ob, World.ownsRow (w4.alloc ob) w1.heap.size 45 1 (.slice ao k co') k us) := fun ob => by
          have := HL4.out.row.alloc ob
          rw [Hml.out] at this
          exact this
        go_wp2_with (at_builtin; refine wpList_append_lies _ rfl _ _ _ rfl w1.heap.size 45 i0 _ 1 24 Tryz.underlying26 hi0 hz0 hz1 hz2 rfl (by omega) (.slice ao k co') k us rfl (HRow.out _) ⟨w4.heap.size, 0, none⟩ 1 1 [.slice a4 fk.length k4] rfl rfl (World.news_of_block (cs := #[.slice a4 fk.length k4]) (t := 45) (fr := (0, 0)) (heap_alloc_new w4 _)) (by simp [Value.oneCell']) (by omega) (by unfold maxLen; omega) (by omega) (by simp; omega) (w4.heap.size + 1) (by simp) ?_; intro gg cap2 w5 hown5 hgrow hat hltg)
        have R := hide (HL4.out.push (w := w1) (H := w3.heap.size) hsz3 (Nat.le_trans hbs hsz3) (Nat.le_refl _) (Below.next hB hD4) o4 (by rw [Hml.out]; exact hown5) hgrow)
        clear hown5 hgrow hat hltg HL HL4 o4 HRow
        rw [hN] at R
        clear hN
        go_roundw
        case rel => exact ⟨k + 1, _, by omega, by go_num, lss_here14 R.out.1, R.out.2⟩
        case measure => simp [intOf]; omega
      · obtain rfl : k = n := by omega
        have hkw : ¬ (k : Int) < p.w := by rw [HPw.out]; omega
        clear HT HC HR HR2 HI HN HFt
        go_wp2
        go_ret2
        first | exact ⟨_, rfl, ⟨us, HL.out.low hB1s⟩, Below.next hB1 hB⟩ | exact ⟨_, us, rfl, HL.out.low hB1s, Below.next hB1 hB⟩
  · have ht : (bkE p dl pl [] != 0) = true := bne_iff_ne.2 hz
    have HL : Hid (polL p dl pl = []) := by show _ = _; unfold polL; rw [if_neg hz]
    rw [HL.out]
    obtain ⟨ad, cd, rfl, _, _, _⟩ := h1
    obtain ⟨ap, cp, rfl, _, _, _⟩ := h2
    clear hz HL pb hp
    generalize bkE p dl pl [] = e0 at *
    generalize dl.length = nd at *
    generalize pl.length = np at *
    rw [plan_eq] at *
    show Calls _ _ _ _ _
    go_enter Tryz.func27, Tryz.ntmps27
    go_wp2_with (go_at_call 25; refine (HK.out _ hA).mono ?_; rintro e w1 ⟨rfl, hb1⟩)
    go_ret2
    exact ⟨_, [], rfl, Lss.nil _ _ _, Below.next hA hb1⟩

end Go.Proofs.YtpbfgcepmbpkdaaGreat

namespace Go.Proofs.YtpbfgcepmbpkdaaGreat
open Go.RowKit Fld Pln Shr
set_option linter.unusedVariables false
set_option linter.unusedSimpArgs false

/-- What is known of the polynomials. -/
theorem pys_facts {q : Int} {wd : Bool} (hm : Md q wd) {xs : List Int} (hx : Els q xs) (hn : xs.Nodup) {bl : List (List Int)} (hb : ∀ b ∈ bl, Els q b) (w : Nat) : ∀ b ∈ pys q xs w bl, Els q b ∧ b.length ≤ xs.length := fun b h => by
  unfold pys at h
  obtain ⟨t, _, rfl⟩ := List.mem_map.1 h
  have := py_thr hm hx hn hb t
  exact ⟨this.1.1, this.2.1⟩
theorem pys_len (q : Int) (xs : List Int) (w : Nat) (bl : List (List Int)) : (pys q xs w bl).length = w := by simp [pys]

end Go.Proofs.YtpbfgcepmbpkdaaGreat

