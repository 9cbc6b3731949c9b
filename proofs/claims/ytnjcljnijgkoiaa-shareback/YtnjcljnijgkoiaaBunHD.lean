/- Texts laid together: ShaI. -/
import Derived.Test.YtnjcljnijgkoiaaBunHC
namespace Go.Proofs.Ytnjcljnijgkoiaa
open Go.RowKit Fld Pln Shr
set_option linter.unusedVariables false
set_option linter.unusedSimpArgs false

theorem op_facts {p : Pn} {who : List Int} {l : List (List Int)} (h : opE p who l = 0) (w1 : ∀ b ∈ l, Wd b) : ∃ q wd, mayP p = true ∧ Fi p.f q wd ∧ (∀ b ∈ l, Els q b) ∧ (∀ b ∈ l, b.length = p.w.toNat) ∧ l.length = (nmd p who).length ∧ Els q (nmd p who) ∧ (nmd p who).Nodup ∧ (nmd p who).length ≤ 64 ∧ Els q (pts 0 p.k.toNat) ∧ Els q (pts p.k p.t.toNat) ∧ (pts 0 p.k.toNat).length ≤ 64 ∧ (pts p.k p.t.toNat).length ≤ 64 ∧ who.length ≤ 64 ∧ ∀ x ∈ who, 0 ≤ x ∧ x < p.n := by
  obtain ⟨hm, ⟨q, wd, hf, he⟩, hw, hl, hwl, hn, hwho⟩ := op_zero h
  obtain ⟨⟨n0, n1⟩, ⟨k0, k1⟩, ⟨t0, t1⟩, _⟩ := may_facts hm
  obtain ⟨m1, m2⟩ := nmd_facts hm hwho hn
  refine ⟨q, wd, hm, hf, fun b hb => els_of (he b hb) (w1 b hb).2, hw, by rw [nmd_len]; omega, fun x hx => ?_, m1, by rw [nmd_len]; omega, pts_els hf (by omega) (by omega), pts_els hf (by omega) (by omega), by rw [pts_len]; omega, by rw [pts_len]; omega, by omega, hwho⟩
  have := m2 x hx
  have := hf.big
  exact ⟨by omega, by omega⟩

set_option maxRecDepth 100000 in
set_option maxHeartbeats 800000 in
theorem gOpen (p : Pn) (vw vs : Value) (who : List Int) (l : List (List Int)) (w : World) (hp : Ok8p p) (h1 : Rws w vs l) (h3 : Lm iw 1 w vw who) :
    Calls Try.prog 8 #[plv p, vw, vs] w fun e w' => ∃ v1 us1 v2 us2, e = .returned (.tuple #[v1, v2, .int .i64 (opE p who l)]) ∧ Mtx w' w.heap.size v1 us1 (opdL p who l) ∧ Mtx w' w.heap.size v2 us2 (oppL p who l) ∧ Below w.heap.size w w' := by
  obtain ⟨pb, hA⟩ := pb_box (w := w) p
  have HK := hide (fun W (hb : Below w.heap.size w W) => gCheckShares p vw vs l who W hp (h1.below hb) (h3.below hb))
  have HS := hide (fun W' (hb : Below (w.alloc (.cells #[.int .u8 p.f, .int .i64 p.n, .int .i64 p.k, .int .i64 p.t, .int .i64 p.s, .int .i64 p.e, .int .i64 p.d, .int .i64 p.w] 24)).heap.size _ W') => (pb.below hb).cells)
  obtain ⟨c0, c1, c2, c3, c4, c5, c6, c7⟩ := pb.cells
  by_cases hz : opE p who l = 0
  · obtain ⟨q, wd, hm, hf, hbe, hbw, hbl, ne, nn, n64, de, pe', d64, p64, w64, hwho⟩ := op_facts hz h1.wordsH
    have HL : Hid (opdL p who l = (pts 0 p.k.toNat).map (shr q (nmd p who) p.w.toNat l) ∧ oppL p who l = (pts p.k p.t.toNat).map (shr q (nmd p who) p.w.toNat l)) := by
      unfold opdL oppL
      rw [if_pos hz, if_pos hz, pOf_eq hf]
      exact ⟨rfl, rfl⟩
    rw [HL.out.1, HL.out.2, hz]
    rw [hz] at HK
    have HN := hide (fun W (hb : Below w.heap.size w W) => gNamed p vw who W hp hm (h3.below hb) hwho (by omega))
    have H1 := hide (fun W => gData p W hp)
    have H2 := hide (fun W => gPads p W hp)
    unfold Gives at H1 H2
    rw [erP_yes hm] at H1 H2
    rw [show datL p = pts 0 p.k.toNat from if_pos hm] at H1
    rw [show padL p = pts p.k p.t.toNat from if_pos hm] at H2
    have R1 := hide (fun W v base n (hO : World.ownsRow W base 50 1 v n (vals (pts 0 p.k.toNat))) => rw_of_own hO (by omega) (els_words de hf.top))
    have R2 := hide (fun W v base n (hO : World.ownsRow W base 50 1 v n (vals (pts p.k p.t.toNat))) => rw_of_own hO (by omega) (els_words pe' hf.top))
    have R3 := hide (fun W v base n (hO : World.ownsRow W base 50 1 v n (vals (nmd p who))) => rw_of_own hO (by omega) (els_words ne hf.top))
    have M1 := hide (fun W (hb : Below w.heap.size w W) vx vz x2 x3 => gMoved p q wd vs vx vz l (nmd p who) (pts 0 p.k.toNat) W hm hf (h1.below hb) x2 x3 hbw hbe hbl ne nn n64 de d64)
    have M2 := hide (fun W (hb : Below w.heap.size w W) vx vz x2 x3 => gMoved p q wd vs vx vz l (nmd p who) (pts p.k p.t.toNat) W hm hf (h1.below hb) x2 x3 hbw hbe hbl ne nn n64 pe' p64)
    obtain ⟨asl, csl, rfl, _, _, _⟩ := h1
    obtain ⟨aw, cw, rfl, _⟩ := h3.spell
    clear hz hm hf hbe hbw hbl ne nn de pe' pb hp HL h3 hwho
    generalize (pts 0 p.k.toNat).map (shr q (nmd p who) p.w.toNat l) = rd at *
    generalize (pts p.k p.t.toNat).map (shr q (nmd p who) p.w.toNat l) = rp at *
    generalize nmd p who = ns at *
    generalize pts 0 p.k.toNat = ds at *
    generalize pts p.k p.t.toNat = qs at *
    generalize l.length = nl at *
    generalize who.length = nw at *
    rw [plan_eq] at *
    go_enter Try.func8, Try.ntmps8
    go_upto_region 1 with fail
    generalize w.alloc (.cells #[.int .u8 p.f, .int .i64 p.n, .int .i64 p.k, .int .i64 p.t, .int .i64 p.s, .int .i64 p.e, .int .i64 p.d, .int .i64 p.w] 24) = W0 at *
    go_upto_region 7 with (first
      | (go_at_call 18; refine (HK.out _ hA).mono ?_; rintro e w1 ⟨rfl, hb1⟩; have hC1 := hb1; have hB1 := Below.next hA hC1; clear c0 c1 c2 c3 c4 c5 c6 c7; obtain ⟨c0, c1, c2, c3, c4, c5, c6, c7⟩ := HS.out _ hC1)
      | (go_at_call 19; refine (H1.out _).mono ?_; rintro e w2 ⟨v2, rfl, o2, hb2⟩; have hC2 := Below.next hC1 hb2; have hB2 := Below.next hA hC2; have r2 := R1.out _ _ _ _ o2; obtain ⟨a2, k2, rfl⟩ := own_form o2; clear o2; clear c0 c1 c2 c3 c4 c5 c6 c7; obtain ⟨c0, c1, c2, c3, c4, c5, c6, c7⟩ := HS.out _ hC2)
      | (go_at_call 20; refine (H2.out _).mono ?_; rintro e w3 ⟨v3, rfl, o3, hb3⟩; have hC3 := Below.next hC2 hb3; have hB3 := Below.next hA hC3; have r3 := R2.out _ _ _ _ o3; have r2b := r2.below hb3; obtain ⟨a3, k3, rfl⟩ := own_form o3; clear o3; clear c0 c1 c2 c3 c4 c5 c6 c7; obtain ⟨c0, c1, c2, c3, c4, c5, c6, c7⟩ := HS.out _ hC3)
      | (go_at_call 21; refine (HN.out _ hB3).mono ?_; rintro e w4 ⟨v4, rfl, o4, hb4⟩; have hC4 := Below.next hC3 hb4; have hB4 := Below.next hA hC4; have r4 := R3.out _ _ _ _ o4; have r2c := r2b.below hb4; have r3b := r3.below hb4; obtain ⟨a4, k4, rfl⟩ := own_form o4; clear o4))
    clear c0 c1 c2 c3 c4 c5 c6 c7 HK
    have hdr : Below w4.heap.size w4 w4.drew := (Below.refl _ w4).drew
    have hS0 := HS.out _ (Below.next hC4 hdr)
    refine wp_region_held_drew (S := (fun V => V.cell? ⟨w.heap.size, 0, none⟩ = some (.int .u8 p.f) ∧ V.cell? ⟨w.heap.size, 1, none⟩ = some (.int .i64 p.n) ∧ V.cell? ⟨w.heap.size, 2, none⟩ = some (.int .i64 p.k) ∧ V.cell? ⟨w.heap.size, 3, none⟩ = some (.int .i64 p.t) ∧ V.cell? ⟨w.heap.size, 4, none⟩ = some (.int .i64 p.s) ∧ V.cell? ⟨w.heap.size, 5, none⟩ = some (.int .i64 p.e) ∧ V.cell? ⟨w.heap.size, 6, none⟩ = some (.int .i64 p.d) ∧ V.cell? ⟨w.heap.size, 7, none⟩ = some (.int .i64 p.w))) (by kernel_rfl) (by ((try dsimp only) <;> (first | with_reducible exact hS6 | with_reducible exact hS5 | with_reducible exact hS0))) (fun hHeld => ?_)
    (refine wpAnyH_take (i := 0) (oi := _) (v := ?v42) rfl (by kernel_rfl) (by kernel_rfl) (by kernel_rfl) (fun _ _ _ h => h) (Or.inl ⟨by rfl, ?hy42⟩) (by assumption) ?rest42; (case hy42 => (first | (intro w hSw; (try dsimp only at hSw); go_simp; done) | (intro w hSw; (try dsimp only at hSw); go_simp; with_reducible rfl))); (try simp only [Act.put, List.getElem_toArray, List.getElem_cons_succ, List.getElem_cons_zero, List.setIfInBounds_toArray, List.set_cons_zero, List.set_cons_succ]))
    (refine wpAnyH_take (i := 1) (oi := _) (v := ?v43) rfl (by kernel_rfl) (by kernel_rfl) (by kernel_rfl) (fun _ _ _ h => h) (Or.inl ⟨by rfl, ?hy43⟩) (by assumption) ?rest43; (case hy43 => (first | (intro w hSw; (try dsimp only at hSw); go_simp; done) | (intro w hSw; (try dsimp only at hSw); go_simp; with_reducible rfl))); (try simp only [Act.put, List.getElem_toArray, List.getElem_cons_succ, List.getElem_cons_zero, List.setIfInBounds_toArray, List.set_cons_zero, List.set_cons_succ]))
    (refine wpAnyH_take (i := 2) (oi := _) (v := ?v44) rfl (by kernel_rfl) (by kernel_rfl) (by kernel_rfl) (fun _ _ _ h => h) (Or.inl ⟨by rfl, ?hy44⟩) (by assumption) ?rest44; (case hy44 => (first | (intro w hSw; (try dsimp only at hSw); go_simp; done) | (intro w hSw; (try dsimp only at hSw); go_simp; with_reducible rfl))); (try simp only [Act.put, List.getElem_toArray, List.getElem_cons_succ, List.getElem_cons_zero, List.setIfInBounds_toArray, List.set_cons_zero, List.set_cons_succ]))
    (refine wpAnyH_take (i := 3) (oi := _) (v := ?v45) rfl (by kernel_rfl) (by kernel_rfl) (by kernel_rfl) (fun _ _ _ h => h) (Or.inl ⟨by rfl, ?hy45⟩) (by assumption) ?rest45; (case hy45 => (first | (intro w hSw; (try dsimp only at hSw); go_simp; done) | (intro w hSw; (try dsimp only at hSw); go_simp; with_reducible rfl))); (try simp only [Act.put, List.getElem_toArray, List.getElem_cons_succ, List.getElem_cons_zero, List.setIfInBounds_toArray, List.set_cons_zero, List.set_cons_succ]))
    (refine wpAnyH_take (i := 5) (oi := _) (v := ?v46) rfl (by kernel_rfl) (by kernel_rfl) (by kernel_rfl) (fun _ _ _ h => h) (Or.inl ⟨by rfl, ?hy46⟩) (by assumption) ?rest46; (case hy46 => (first | (intro w hSw; (try dsimp only at hSw); go_simp; done) | (intro w hSw; (try dsimp only at hSw); go_simp; with_reducible rfl))); (try simp only [Act.put, List.getElem_toArray, List.getElem_cons_succ, List.getElem_cons_zero, List.setIfInBounds_toArray, List.set_cons_zero, List.set_cons_succ]))
    (refine wpAnyH_take (i := 6) (oi := _) (v := ?v47) rfl (by kernel_rfl) (by kernel_rfl) (by kernel_rfl) (fun _ _ _ h => h) (Or.inl ⟨by rfl, ?hy47⟩) (by assumption) ?rest47; (case hy47 => (first | (intro w hSw; (try dsimp only at hSw); go_simp; done) | (intro w hSw; (try dsimp only at hSw); go_simp; with_reducible rfl))); (try simp only [Act.put, List.getElem_toArray, List.getElem_cons_succ, List.getElem_cons_zero, List.setIfInBounds_toArray, List.set_cons_zero, List.set_cons_succ]))
    (refine wpAnyH_take (i := 7) (oi := _) (v := ?v48) rfl (by kernel_rfl) (by kernel_rfl) (by kernel_rfl) (fun _ _ _ h => h) (Or.inl ⟨by rfl, ?hy48⟩) (by assumption) ?rest48; (case hy48 => (first | (intro w hSw; (try dsimp only at hSw); go_simp; done) | (intro w hSw; (try dsimp only at hSw); go_simp; with_reducible rfl))); (try simp only [Act.put, List.getElem_toArray, List.getElem_cons_succ, List.getElem_cons_zero, List.setIfInBounds_toArray, List.set_cons_zero, List.set_cons_succ]))
    (refine wpAnyH_take (i := 8) (oi := _) (v := ?v49) rfl (by kernel_rfl) (by kernel_rfl) (by kernel_rfl) (fun _ _ _ h => h) (Or.inl ⟨by rfl, ?hy49⟩) (by assumption) ?rest49; (case hy49 => (first | (intro w hSw; (try dsimp only at hSw); go_simp; done) | (intro w hSw; (try dsimp only at hSw); go_simp; with_reducible rfl))); (try simp only [Act.put, List.getElem_toArray, List.getElem_cons_succ, List.getElem_cons_zero, List.setIfInBounds_toArray, List.set_cons_zero, List.set_cons_succ]))
    refine wpAnyH_ready (rs := [4]) (by kernel_rfl) (by simp) ?_
    refine AllReadyH.cons (o := _) rfl (fun K hK => ?_) AllReadyH.nil
    try simp only [List.getElem_toArray, List.getElem_cons_succ, List.getElem_cons_zero]
    go_simp
    (first
          | (go_at_call 14; with_reducible refine (M2.out _ hB5 _ _ q4 q3).mono ?_; rintro e w6 ⟨v6, us6, rfl, y6, hb6⟩; have hC6 := Below.next hC5 hb6; have hB6 := Below.next hA hC6; have hS6 := HS.out _ hC6; obtain ⟨a6, k6, rfl⟩ := own_form y6.row; have HY6 := hide (y6.low hB5.size); have HY5b := hide (HY5.out.below hb6); clear y6)
          | (go_at_call 14; with_reducible refine (M1.out _ (Below.next hB4 hdr) _ _ (r4.below hdr) (r2c.below hdr)).mono ?_; rintro e w5 ⟨v5, us5, rfl, y5, hb5⟩; have hC5 := Below.next (Below.next hC4 hdr) hb5; have hB5 := Below.next hA hC5; have hS5 := HS.out _ hC5; have q4 := (r4.below hdr).below hb5; have q3 := (r3b.below hdr).below hb5; obtain ⟨a5, k5, rfl⟩ := own_form y5.row; have HY5 := hide (y5.low (Nat.le_trans hB4.size hdr.size)); clear y5))
    first | (refine hK.out _ _ (by ((try dsimp only) <;> (first | with_reducible exact hS6 | with_reducible exact hS5 | with_reducible exact hS0))) (fun hHeld => ?_)) | (go_wp2_with fail; refine hK.out _ _ (by ((try dsimp only) <;> (first | with_reducible exact hS6 | with_reducible exact hS5 | with_reducible exact hS0))) (fun hHeld => ?_))
    clear hK K
    (try simp only [Act.put, List.getElem_toArray, List.getElem_cons_succ, List.getElem_cons_zero, List.setIfInBounds_toArray, List.set_cons_zero, List.set_cons_succ])
    refine wpAnyH_ready (rs := [9]) (by kernel_rfl) (by simp) ?_
    refine AllReadyH.cons (o := _) rfl (fun K hK => ?_) AllReadyH.nil
    try simp only [List.getElem_toArray, List.getElem_cons_succ, List.getElem_cons_zero]
    go_simp
    (first
          | (go_at_call 14; with_reducible refine (M2.out _ hB5 _ _ q4 q3).mono ?_; rintro e w6 ⟨v6, us6, rfl, y6, hb6⟩; have hC6 := Below.next hC5 hb6; have hB6 := Below.next hA hC6; have hS6 := HS.out _ hC6; obtain ⟨a6, k6, rfl⟩ := own_form y6.row; have HY6 := hide (y6.low hB5.size); have HY5b := hide (HY5.out.below hb6); clear y6)
          | (go_at_call 14; with_reducible refine (M1.out _ (Below.next hB4 hdr) _ _ (r4.below hdr) (r2c.below hdr)).mono ?_; rintro e w5 ⟨v5, us5, rfl, y5, hb5⟩; have hC5 := Below.next (Below.next hC4 hdr) hb5; have hB5 := Below.next hA hC5; have hS5 := HS.out _ hC5; have q4 := (r4.below hdr).below hb5; have q3 := (r3b.below hdr).below hb5; obtain ⟨a5, k5, rfl⟩ := own_form y5.row; have HY5 := hide (y5.low (Nat.le_trans hB4.size hdr.size)); clear y5))
    first | (refine hK.out _ _ (by ((try dsimp only) <;> (first | with_reducible exact hS6 | with_reducible exact hS5 | with_reducible exact hS0))) (fun hHeld => ?_)) | (go_wp2_with fail; refine hK.out _ _ (by ((try dsimp only) <;> (first | with_reducible exact hS6 | with_reducible exact hS5 | with_reducible exact hS0))) (fun hHeld => ?_))
    clear hK K
    (try simp only [Act.put, List.getElem_toArray, List.getElem_cons_succ, List.getElem_cons_zero, List.setIfInBounds_toArray, List.set_cons_zero, List.set_cons_succ])
    (refine wpAnyH_take (i := 10) (oi := _) (v := ?v50) rfl (by kernel_rfl) (by kernel_rfl) (by kernel_rfl) (fun _ _ _ h => h) (Or.inl ⟨by rfl, ?hy50⟩) (by assumption) ?rest50; (case hy50 => (first | (intro w hSw; (try dsimp only at hSw); go_simp; done) | (intro w hSw; (try dsimp only at hSw); go_simp; with_reducible rfl))); (try simp only [Act.put, List.getElem_toArray, List.getElem_cons_succ, List.getElem_cons_zero, List.setIfInBounds_toArray, List.set_cons_zero, List.set_cons_succ]))
    (refine wpAnyH_take (i := 11) (oi := _) (v := ?v51) rfl (by kernel_rfl) (by kernel_rfl) (by kernel_rfl) (fun _ _ _ h => h) (Or.inl ⟨by rfl, ?hy51⟩) (by assumption) ?rest51; (case hy51 => (first | (intro w hSw; (try dsimp only at hSw); go_simp; done) | (intro w hSw; (try dsimp only at hSw); go_simp; with_reducible rfl))); (try simp only [Act.put, List.getElem_toArray, List.getElem_cons_succ, List.getElem_cons_zero, List.setIfInBounds_toArray, List.set_cons_zero, List.set_cons_succ]))
    (refine wpAnyH_take (i := 12) (oi := _) (v := ?v52) rfl (by kernel_rfl) (by kernel_rfl) (by kernel_rfl) (fun _ _ _ h => h) (Or.inl ⟨by rfl, ?hy52⟩) (by assumption) ?rest52; (case hy52 => (first | (intro w hSw; (try dsimp only at hSw); go_simp; done) | (intro w hSw; (try dsimp only at hSw); go_simp; with_reducible rfl))); (try simp only [Act.put, List.getElem_toArray, List.getElem_cons_succ, List.getElem_cons_zero, List.setIfInBounds_toArray, List.set_cons_zero, List.set_cons_succ]))
    refine wpAnyH_done (by kernel_rfl) ?_ _
    go_wp2
    go_ret3
    exact ⟨_, us5, _, us6, rfl, HY5b.out, HY6.out, hB6⟩
  · have ht : (opE p who l != 0) = true := bne_iff_ne.2 hz
    have HL : Hid (opdL p who l = [] ∧ oppL p who l = []) := by unfold opdL oppL; rw [if_neg hz, if_neg hz]; exact ⟨rfl, rfl⟩
    rw [HL.out.1, HL.out.2]
    obtain ⟨asl, csl, rfl, _, _, _⟩ := h1
    obtain ⟨aw, cw, rfl, _⟩ := h3.spell
    clear hz HL pb hp h3
    generalize opE p who l = e0 at *
    generalize l.length = nl at *
    generalize who.length = nw at *
    rw [plan_eq] at *
    go_enter Try.func8, Try.ntmps8
    go_wp2_with (go_at_call 18; refine (HK.out _ hA).mono ?_; rintro e w1 ⟨rfl, hb1⟩)
    go_ret3
    exact ⟨_, [], _, [], rfl, mtx_nil _ _, mtx_nil _ _, Below.next hA hb1⟩

end Go.Proofs.Ytnjcljnijgkoiaa

