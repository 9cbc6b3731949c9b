/- Texts laid together: ShaI, ShaJ. -/
import Derived.Test.YtpbfgcepmbpkdaaGreatBunHC
namespace Go.Proofs.YtpbfgcepmbpkdaaGreat
open Go.RowKit Fld Pln Shr
set_option linter.unusedVariables false
set_option linter.unusedSimpArgs false

theorem op_facts {p : Pn} {who : List Int} {l : List (List Int)} (h : opE p who l = 0) (w1 : ∀ b ∈ l, Wd b) : ∃ q wd, mayP p = true ∧ Fi p.f q wd ∧ (∀ b ∈ l, Els q b) ∧ (∀ b ∈ l, b.length = p.w.toNat) ∧ l.length = (nmd p who).length ∧ Els q (nmd p who) ∧ (nmd p who).Nodup ∧ (nmd p who).length ≤ 64 ∧ Els q (pts 0 p.k.toNat) ∧ Els q (pts p.k p.t.toNat) ∧ (pts 0 p.k.toNat).length ≤ 64 ∧ (pts p.k p.t.toNat).length ≤ 64 ∧ who.length ≤ 64 ∧ ∀ x ∈ who, 0 ≤ x ∧ x < p.n := by
  obtain ⟨hm, ⟨q, wd, hf, he⟩, hw, hl, hwl, hn, hwho⟩ := op_zero h
  obtain ⟨⟨n0, n1⟩, ⟨k0, k1⟩, ⟨t0, t1⟩, _⟩ := may_facts hm
  obtain ⟨m1, m2⟩ := nmd_facts hm hwho hn
  refine ⟨q, wd, hm, hf, fun b hb => els_of (he b hb) (w1 b hb).2, hw, by rw [nmd_len]; omega, fun x hx => ?_, m1, by rw [nmd_len]; omega, pts_els hf (by omega) (by omega), pts_els hf (by omega) (by omega), by rw [pts_len]; omega, by rw [pts_len]; omega, by omega, hwho⟩
  have := m2 x hx
  have := hf.big
  exact ⟨by omega, by omega⟩

set_option maxRecDepth 100000 in
set_option maxHeartbeats 800000 in
theorem gOpen (p : Pn) (vw vs : Value) (who : List Int) (l : List (List Int)) (w : World) (hp : Ok8p p) (h1 : Rws w vs l) (h3 : Lm iw 1 w vw who) :
    Calls Tryz.prog 68 #[plv p, vw, vs] w fun e w' => ∃ v1 us1 v2 us2, e = .returned (.tuple #[v1, v2, .int .i64 (opE p who l)]) ∧ Mtx w' w.heap.size v1 us1 (opdL p who l) ∧ Mtx w' w.heap.size v2 us2 (oppL p who l) ∧ Below w.heap.size w w' := by
  obtain ⟨pb, hA⟩ := pb_box (w := w) p
  have HK := hide (fun W (hb : Below w.heap.size w W) => gCheckShares p vw vs l who W hp (h1.below hb) (h3.below hb))
  have HS := hide (fun W' (hb : Below (w.alloc (.cells #[.int .u8 p.f, .int .i64 p.n, .int .i64 p.k, .int .i64 p.t, .int .i64 p.s, .int .i64 p.e, .int .i64 p.d, .int .i64 p.w] 24)).heap.size _ W') => (pb.below hb).cells)
  obtain ⟨c0, c1, c2, c3, c4, c5, c6, c7⟩ := pb.cells
  by_cases hz : opE p who l = 0
  · obtain ⟨q, wd, hm, hf, hbe, hbw, hbl, ne, nn, n64, de, pe', d64, p64, w64, hwho⟩ := op_facts hz h1.wordsH
    have HL : Hid (opdL p who l = (pts 0 p.k.toNat).map (shr q (nmd p who) p.w.toNat l) ∧ oppL p who l = (pts p.k p.t.toNat).map (shr q (nmd p who) p.w.toNat l)) := by
      unfold opdL oppL
      rw [if_pos hz, if_pos hz, pOf_eq hf]
      exact ⟨rfl, rfl⟩
    rw [HL.out.1, HL.out.2, hz]
    rw [hz] at HK
    have HN := hide (fun W (hb : Below w.heap.size w W) => gNamed p vw who W hp hm (h3.below hb) hwho (by omega))
    have H1 := hide (fun W => gData p W hp)
    have H2 := hide (fun W => gPads p W hp)
    unfold Gives at H1 H2
    rw [erP_yes hm] at H1 H2
    rw [show datL p = pts 0 p.k.toNat from if_pos hm] at H1
    rw [show padL p = pts p.k p.t.toNat from if_pos hm] at H2
    have R1 := hide (fun W v base n (hO : World.ownsRow W base 50 1 v n (vals (pts 0 p.k.toNat))) => rw_of_own hO (by omega) (els_words de hf.top))
    have R2 := hide (fun W v base n (hO : World.ownsRow W base 50 1 v n (vals (pts p.k p.t.toNat))) => rw_of_own hO (by omega) (els_words pe' hf.top))
    have R3 := hide (fun W v base n (hO : World.ownsRow W base 50 1 v n (vals (nmd p who))) => rw_of_own hO (by omega) (els_words ne hf.top))
    have M1 := hide (fun W (hb : Below w.heap.size w W) vx vz x2 x3 => gMoved p q wd vs vx vz l (nmd p who) (pts 0 p.k.toNat) W hm hf (h1.below hb) x2 x3 hbw hbe hbl ne nn n64 de d64)
    have M2 := hide (fun W (hb : Below w.heap.size w W) vx vz x2 x3 => gMoved p q wd vs vx vz l (nmd p who) (pts p.k p.t.toNat) W hm hf (h1.below hb) x2 x3 hbw hbe hbl ne nn n64 pe' p64)
    obtain ⟨asl, csl, rfl, _, _, _⟩ := h1
    obtain ⟨aw, cw, rfl, _⟩ := h3.spell
    clear hz hm hf hbe hbw hbl ne nn de pe' pb hp HL h3 hwho
    generalize (pts 0 p.k.toNat).map (shr q (nmd p who) p.w.toNat l) = rd at *
    generalize (pts p.k p.t.toNat).map (shr q (nmd p who) p.w.toNat l) = rp at *
    generalize nmd p who = ns at *
    generalize pts 0 p.k.toNat = ds at *
    generalize pts p.k p.t.toNat = qs at *
    generalize l.length = nl at *
    generalize who.length = nw at *
    rw [plan_eq] at *
    go_enter Tryz.func68, Tryz.ntmps68
    go_upto_region 1 with fail
    generalize w.alloc (.cells #[.int .u8 p.f, .int .i64 p.n, .int .i64 p.k, .int .i64 p.t, .int .i64 p.s, .int .i64 p.e, .int .i64 p.d, .int .i64 p.w] 24) = W0 at *
    go_upto_region 7 with (first
      | (go_at_call 92; refine (HK.out _ hA).mono ?_; rintro e w1 ⟨rfl, hb1⟩; have hC1 := hb1; have hB1 := Below.next hA hC1; clear c0 c1 c2 c3 c4 c5 c6 c7; obtain ⟨c0, c1, c2, c3, c4, c5, c6, c7⟩ := HS.out _ hC1)
      | (go_at_call 93; refine (H1.out _).mono ?_; rintro e w2 ⟨v2, rfl, o2, hb2⟩; have hC2 := Below.next hC1 hb2; have hB2 := Below.next hA hC2; have r2 := R1.out _ _ _ _ o2; obtain ⟨a2, k2, rfl⟩ := own_form o2; clear o2; clear c0 c1 c2 c3 c4 c5 c6 c7; obtain ⟨c0, c1, c2, c3, c4, c5, c6, c7⟩ := HS.out _ hC2)
      | (go_at_call 94; refine (H2.out _).mono ?_; rintro e w3 ⟨v3, rfl, o3, hb3⟩; have hC3 := Below.next hC2 hb3; have hB3 := Below.next hA hC3; have r3 := R2.out _ _ _ _ o3; have r2b := r2.below hb3; obtain ⟨a3, k3, rfl⟩ := own_form o3; clear o3; clear c0 c1 c2 c3 c4 c5 c6 c7; obtain ⟨c0, c1, c2, c3, c4, c5, c6, c7⟩ := HS.out _ hC3)
      | (go_at_call 90; refine (HN.out _ hB3).mono ?_; rintro e w4 ⟨v4, rfl, o4, hb4⟩; have hC4 := Below.next hC3 hb4; have hB4 := Below.next hA hC4; have r4 := R3.out _ _ _ _ o4; have r2c := r2b.below hb4; have r3b := r3.below hb4; obtain ⟨a4, k4, rfl⟩ := own_form o4; clear o4))
    clear c0 c1 c2 c3 c4 c5 c6 c7 HK
    have hdr : Below w4.heap.size w4 w4.drew := (Below.refl _ w4).drew
    have hS0 := HS.out _ (Below.next hC4 hdr)
    refine wp_region_held_drew (S := (fun V => V.cell? ⟨w.heap.size, 0, none⟩ = some (.int .u8 p.f) ∧ V.cell? ⟨w.heap.size, 1, none⟩ = some (.int .i64 p.n) ∧ V.cell? ⟨w.heap.size, 2, none⟩ = some (.int .i64 p.k) ∧ V.cell? ⟨w.heap.size, 3, none⟩ = some (.int .i64 p.t) ∧ V.cell? ⟨w.heap.size, 4, none⟩ = some (.int .i64 p.s) ∧ V.cell? ⟨w.heap.size, 5, none⟩ = some (.int .i64 p.e) ∧ V.cell? ⟨w.heap.size, 6, none⟩ = some (.int .i64 p.d) ∧ V.cell? ⟨w.heap.size, 7, none⟩ = some (.int .i64 p.w))) (by kernel_rfl) (by ((try dsimp only) <;> (first | with_reducible exact hS6 | with_reducible exact hS5 | with_reducible exact hS0))) (fun hHeld => ?_)
    (refine wpAnyH_take (i := 0) (oi := _) (v := ?v25) rfl (by kernel_rfl) (by kernel_rfl) (by kernel_rfl) (fun _ _ _ h => h) (Or.inl ⟨by rfl, ?hy25⟩) (by assumption) ?rest25; (case hy25 => (first | (intro w hSw; (try dsimp only at hSw); go_simp; done) | (intro w hSw; (try dsimp only at hSw); go_simp; with_reducible rfl))); (try simp only [Act.put, List.getElem_toArray, List.getElem_cons_succ, List.getElem_cons_zero, List.setIfInBounds_toArray, List.set_cons_zero, List.set_cons_succ]))
    (refine wpAnyH_take (i := 1) (oi := _) (v := ?v26) rfl (by kernel_rfl) (by kernel_rfl) (by kernel_rfl) (fun _ _ _ h => h) (Or.inl ⟨by rfl, ?hy26⟩) (by assumption) ?rest26; (case hy26 => (first | (intro w hSw; (try dsimp only at hSw); go_simp; done) | (intro w hSw; (try dsimp only at hSw); go_simp; with_reducible rfl))); (try simp only [Act.put, List.getElem_toArray, List.getElem_cons_succ, List.getElem_cons_zero, List.setIfInBounds_toArray, List.set_cons_zero, List.set_cons_succ]))
    (refine wpAnyH_take (i := 2) (oi := _) (v := ?v27) rfl (by kernel_rfl) (by kernel_rfl) (by kernel_rfl) (fun _ _ _ h => h) (Or.inl ⟨by rfl, ?hy27⟩) (by assumption) ?rest27; (case hy27 => (first | (intro w hSw; (try dsimp only at hSw); go_simp; done) | (intro w hSw; (try dsimp only at hSw); go_simp; with_reducible rfl))); (try simp only [Act.put, List.getElem_toArray, List.getElem_cons_succ, List.getElem_cons_zero, List.setIfInBounds_toArray, List.set_cons_zero, List.set_cons_succ]))
    (refine wpAnyH_take (i := 3) (oi := _) (v := ?v28) rfl (by kernel_rfl) (by kernel_rfl) (by kernel_rfl) (fun _ _ _ h => h) (Or.inl ⟨by rfl, ?hy28⟩) (by assumption) ?rest28; (case hy28 => (first | (intro w hSw; (try dsimp only at hSw); go_simp; done) | (intro w hSw; (try dsimp only at hSw); go_simp; with_reducible rfl))); (try simp only [Act.put, List.getElem_toArray, List.getElem_cons_succ, List.getElem_cons_zero, List.setIfInBounds_toArray, List.set_cons_zero, List.set_cons_succ]))
    (refine wpAnyH_take (i := 5) (oi := _) (v := ?v29) rfl (by kernel_rfl) (by kernel_rfl) (by kernel_rfl) (fun _ _ _ h => h) (Or.inl ⟨by rfl, ?hy29⟩) (by assumption) ?rest29; (case hy29 => (first | (intro w hSw; (try dsimp only at hSw); go_simp; done) | (intro w hSw; (try dsimp only at hSw); go_simp; with_reducible rfl))); (try simp only [Act.put, List.getElem_toArray, List.getElem_cons_succ, List.getElem_cons_zero, List.setIfInBounds_toArray, List.set_cons_zero, List.set_cons_succ]))
    (refine wpAnyH_take (i := 6) (oi := _) (v := ?v30) rfl (by kernel_rfl) (by kernel_rfl) (by kernel_rfl) (fun _ _ _ h => h) (Or.inl ⟨by rfl, ?hy30⟩) (by assumption) ?rest30; (case hy30 => (first | (intro w hSw; (try dsimp only at hSw); go_simp; done) | (intro w hSw; (try dsimp only at hSw); go_simp; with_reducible rfl))); (try simp only [Act.put, List.getElem_toArray, List.getElem_cons_succ, List.getElem_cons_zero, List.setIfInBounds_toArray, List.set_cons_zero, List.set_cons_succ]))
    (refine wpAnyH_take (i := 7) (oi := _) (v := ?v31) rfl (by kernel_rfl) (by kernel_rfl) (by kernel_rfl) (fun _ _ _ h => h) (Or.inl ⟨by rfl, ?hy31⟩) (by assumption) ?rest31; (case hy31 => (first | (intro w hSw; (try dsimp only at hSw); go_simp; done) | (intro w hSw; (try dsimp only at hSw); go_simp; with_reducible rfl))); (try simp only [Act.put, List.getElem_toArray, List.getElem_cons_succ, List.getElem_cons_zero, List.setIfInBounds_toArray, List.set_cons_zero, List.set_cons_succ]))
    (refine wpAnyH_take (i := 8) (oi := _) (v := ?v32) rfl (by kernel_rfl) (by kernel_rfl) (by kernel_rfl) (fun _ _ _ h => h) (Or.inl ⟨by rfl, ?hy32⟩) (by assumption) ?rest32; (case hy32 => (first | (intro w hSw; (try dsimp only at hSw); go_simp; done) | (intro w hSw; (try dsimp only at hSw); go_simp; with_reducible rfl))); (try simp only [Act.put, List.getElem_toArray, List.getElem_cons_succ, List.getElem_cons_zero, List.setIfInBounds_toArray, List.set_cons_zero, List.set_cons_succ]))
    refine wpAnyH_ready (rs := [4]) (by kernel_rfl) (by simp) ?_
    refine AllReadyH.cons (o := _) rfl (fun K hK => ?_) AllReadyH.nil
    try simp only [List.getElem_toArray, List.getElem_cons_succ, List.getElem_cons_zero]
    go_simp
    (first
          | (go_at_call 87; with_reducible refine (M2.out _ hB5 _ _ q4 q3).mono ?_; rintro e w6 ⟨v6, us6, rfl, y6, hb6⟩; have hC6 := Below.next hC5 hb6; have hB6 := Below.next hA hC6; have hS6 := HS.out _ hC6; obtain ⟨a6, k6, rfl⟩ := own_form y6.row; have HY6 := hide (y6.low hB5.size); have HY5b := hide (HY5.out.below hb6); clear y6)
          | (go_at_call 87; with_reducible refine (M1.out _ (Below.next hB4 hdr) _ _ (r4.below hdr) (r2c.below hdr)).mono ?_; rintro e w5 ⟨v5, us5, rfl, y5, hb5⟩; have hC5 := Below.next (Below.next hC4 hdr) hb5; have hB5 := Below.next hA hC5; have hS5 := HS.out _ hC5; have q4 := (r4.below hdr).below hb5; have q3 := (r3b.below hdr).below hb5; obtain ⟨a5, k5, rfl⟩ := own_form y5.row; have HY5 := hide (y5.low (Nat.le_trans hB4.size hdr.size)); clear y5))
    first | (refine hK.out _ _ (by ((try dsimp only) <;> (first | with_reducible exact hS6 | with_reducible exact hS5 | with_reducible exact hS0))) (fun hHeld => ?_)) | (go_wp2_with fail; refine hK.out _ _ (by ((try dsimp only) <;> (first | with_reducible exact hS6 | with_reducible exact hS5 | with_reducible exact hS0))) (fun hHeld => ?_))
    clear hK K
    (try simp only [Act.put, List.getElem_toArray, List.getElem_cons_succ, List.getElem_cons_zero, List.setIfInBounds_toArray, List.set_cons_zero, List.set_cons_succ])
    refine wpAnyH_ready (rs := [9]) (by kernel_rfl) (by simp) ?_
    refine AllReadyH.cons (o := _) rfl (fun K hK => ?_) AllReadyH.nil
    try simp only [List.getElem_toArray, List.getElem_cons_succ, List.getElem_cons_zero]
    go_simp
    (first
          | (go_at_call 87; with_reducible refine (M2.out _ hB5 _ _ q4 q3).mono ?_; rintro e w6 ⟨v6, us6, rfl, y6, hb6⟩; have hC6 := Below.next hC5 hb6; have hB6 := Below.next hA hC6; have hS6 := HS.out _ hC6; obtain ⟨a6, k6, rfl⟩ := own_form y6.row; have HY6 := hide (y6.low hB5.size); have HY5b := hide (HY5.out.below hb6); clear y6)
          | (go_at_call 87; with_reducible refine (M1.out _ (Below.next hB4 hdr) _ _ (r4.below hdr) (r2c.below hdr)).mono ?_; rintro e w5 ⟨v5, us5, rfl, y5, hb5⟩; have hC5 := Below.next (Below.next hC4 hdr) hb5; have hB5 := Below.next hA hC5; have hS5 := HS.out _ hC5; have q4 := (r4.below hdr).below hb5; have q3 := (r3b.below hdr).below hb5; obtain ⟨a5, k5, rfl⟩ := own_form y5.row; have HY5 := hide (y5.low (Nat.le_trans hB4.size hdr.size)); clear y5))
    first | (refine hK.out _ _ (by ((try dsimp only) <;> (first | with_reducible exact hS6 | with_reducible exact hS5 | with_reducible exact hS0))) (fun hHeld => ?_)) | (go_wp2_with fail; refine hK.out _ _ (by ((try dsimp only) <;> (first | with_reducible exact hS6 | with_reducible exact hS5 | with_reducible exact hS0))) (fun hHeld => ?_))
    clear hK K
    (try simp only [Act.put, List.getElem_toArray, List.getElem_cons_succ, List.getElem_cons_zero, List.setIfInBounds_toArray, List.set_cons_zero, List.set_cons_succ])
    (refine wpAnyH_take (i := 10) (oi := _) (v := ?v33) rfl (by kernel_rfl) (by kernel_rfl) (by kernel_rfl) (fun _ _ _ h => h) (Or.inl ⟨by rfl, ?hy33⟩) (by assumption) ?rest33; (case hy33 => (first | (intro w hSw; (try dsimp only at hSw); go_simp; done) | (intro w hSw; (try dsimp only at hSw); go_simp; with_reducible rfl))); (try simp only [Act.put, List.getElem_toArray, List.getElem_cons_succ, List.getElem_cons_zero, List.setIfInBounds_toArray, List.set_cons_zero, List.set_cons_succ]))
    (refine wpAnyH_take (i := 11) (oi := _) (v := ?v34) rfl (by kernel_rfl) (by kernel_rfl) (by kernel_rfl) (fun _ _ _ h => h) (Or.inl ⟨by rfl, ?hy34⟩) (by assumption) ?rest34; (case hy34 => (first | (intro w hSw; (try dsimp only at hSw); go_simp; done) | (intro w hSw; (try dsimp only at hSw); go_simp; with_reducible rfl))); (try simp only [Act.put, List.getElem_toArray, List.getElem_cons_succ, List.getElem_cons_zero, List.setIfInBounds_toArray, List.set_cons_zero, List.set_cons_succ]))
    (refine wpAnyH_take (i := 12) (oi := _) (v := ?v35) rfl (by kernel_rfl) (by kernel_rfl) (by kernel_rfl) (fun _ _ _ h => h) (Or.inl ⟨by rfl, ?hy35⟩) (by assumption) ?rest35; (case hy35 => (first | (intro w hSw; (try dsimp only at hSw); go_simp; done) | (intro w hSw; (try dsimp only at hSw); go_simp; with_reducible rfl))); (try simp only [Act.put, List.getElem_toArray, List.getElem_cons_succ, List.getElem_cons_zero, List.setIfInBounds_toArray, List.set_cons_zero, List.set_cons_succ]))
    refine wpAnyH_done (by kernel_rfl) ?_ _
    go_wp2
    go_ret3
    exact ⟨_, us5, _, us6, rfl, HY5b.out, HY6.out, hB6⟩
  · have ht : (opE p who l != 0) = true := bne_iff_ne.2 hz
    have HL : Hid (opdL p who l = [] ∧ oppL p who l = []) := by unfold opdL oppL; rw [if_neg hz, if_neg hz]; exact ⟨rfl, rfl⟩
    rw [HL.out.1, HL.out.2]
    obtain ⟨asl, csl, rfl, _, _, _⟩ := h1
    obtain ⟨aw, cw, rfl, _⟩ := h3.spell
    clear hz HL pb hp h3
    generalize opE p who l = e0 at *
    generalize l.length = nl at *
    generalize who.length = nw at *
    rw [plan_eq] at *
    go_enter Tryz.func68, Tryz.ntmps68
    go_wp2_with (go_at_call 92; refine (HK.out _ hA).mono ?_; rintro e w1 ⟨rfl, hb1⟩)
    go_ret3
    exact ⟨_, [], _, [], rfl, mtx_nil _ _, mtx_nil _ _, Below.next hA hb1⟩

end Go.Proofs.YtpbfgcepmbpkdaaGreat

namespace Go.Proofs.YtpbfgcepmbpkdaaGreat
open Go.RowKit Fld Pln Shr
set_option linter.unusedVariables false
set_option linter.unusedSimpArgs false

theorem lm_one (V : World) (i : Int) (T : TypeId) : Lm iw 1 (V.alloc (.cells #[.int .i64 i] T)) (.slice (some ⟨V.heap.size, 0, none⟩) 1 1) [i] := by
  refine ⟨_, _, rfl, ⟨by simp, by simp, fun h => by cases h⟩, fun _ => ⟨_, _, rfl, by simp, fun k x hx j u hu => ?_⟩⟩
  have hk : k = 0 := by have := (List.getElem?_eq_some_iff.1 hx).1; simp at this; omega
  subst hk
  have hx : i = x := by simpa using hx
  subst hx
  have hj : j = 0 := by have := (List.getElem?_eq_some_iff.1 hu).1; rw [iw_len] at this; omega
  subst hj
  have hu : Value.int .i64 i = u := by simpa [iw] using hu
  subst hu
  simp [go_sem]

set_option maxRecDepth 100000 in
set_option maxHeartbeats 1600000 in
theorem gShare (p : Pn) (vd vp : Value) (dl pl : List (List Int)) (i : Int) (w : World) (hp : Ok8p p) (h1 : Rws w vd dl) (h2 : Rws w vp pl) : Gives 66 #[plv p, vd, vp, .int .i64 i] w (shaL p dl pl i) (bkE p dl pl [i]) := by
  obtain ⟨pb, hA⟩ := pb_box (w := w) p
  have HK := hide (fun W vw (hb : Below w.heap.size w W) hL => gCheckBlocks p vd vp vw dl pl [i] W hp (h1.below hb) (h2.below hb) hL)
  have HS := hide (fun W' (hb : Below (w.alloc (.cells #[.int .u8 p.f, .int .i64 p.n, .int .i64 p.k, .int .i64 p.t, .int .i64 p.s, .int .i64 p.e, .int .i64 p.d, .int .i64 p.w] 24)).heap.size _ W') => (pb.below hb).cells)
  obtain ⟨c0, c1, c2, c3, c4, c5, c6, c7⟩ := pb.cells
  have HO := hide (fun V T => lm_one V i T)
  by_cases hz : bkE p dl pl [i] = 0
  · obtain ⟨q, wd, hm, hf, hbe, hbw, hdl, hpl, hbl, ie, inn, i64', oe, on, o64, d0, hwho⟩ := bk_facts hz h1.wordsH h2.wordsH
    have hlen : dl.length + pl.length ≤ 64 := by rw [List.length_append] at hbl; omega
    have hnm : nmd p [i] = [co (outL p) i.toNat] := rfl
    have hnel : El q (co (outL p) i.toNat) := oe.co hf.pos _
    have hne : Els q [co (outL p) i.toNat] := fun x hx => by rw [List.mem_singleton.1 hx]; exact hnel
    have HL : Hid (shaL p dl pl i = shr q (innL p) p.w.toNat (dl ++ pl) (co (outL p) i.toNat)) := by
      show _ = _
      unfold shaL
      rw [if_pos hz, pOf_eq hf]
    rw [HL.out, hz]
    rw [hz] at HK
    have HC := hide (fun W b (hb : Below w.heap.size w W) hT => cat_blocks vd vp dl pl w W b h1 h2 hb d0 (by omega) hT)
    have HI := hide (fun W => gInner p W hp hm)
    have HN := hide (fun W vw hL => gNamed p vw [i] W hp hm hL hwho (by simp))
    rw [hnm] at HN
    have HR := hide (fun W v base n (hO : World.ownsRow W base 50 1 v n (vals (innL p))) => rw_of_own hO (by omega) (els_words ie hf.top))
    have HR2 := hide (fun W v base n (hO : World.ownsRow W base 50 1 v n (vals [co (outL p) i.toNat])) => rw_of_own hO (by simp) (els_words hne hf.top))
    have HM := hide (fun W vb vx vz x1 x2 x3 => gMoved p q wd vb vx vz (dl ++ pl) (innL p) [co (outL p) i.toNat] W hm hf x1 x2 x3 hbw hbe hbl ie inn i64' hne (by simp))
    rw [show [co (outL p) i.toNat].map (shr q (innL p) p.w.toNat (dl ++ pl)) = [shr q (innL p) p.w.toNat (dl ++ pl) (co (outL p) i.toNat)] from rfl] at HM
    obtain ⟨ad, cd, rfl, _, _, _⟩ := h1
    obtain ⟨ap, cp, rfl, _, _, _⟩ := h2
    clear hz hm hf hbe hbw hbl ie inn oe on pb hp HL hdl hpl hnm hnel hne hwho
    generalize shr q (innL p) p.w.toNat (dl ++ pl) (co (outL p) i.toNat) = res at *
    generalize innL p = xs at *
    generalize co (outL p) i.toNat = z at *
    generalize hbb : dl ++ pl = bl at *
    clear hbb
    generalize dl.length = nd at *
    generalize pl.length = np at *
    rw [plan_eq] at *
    show Calls _ _ _ _ _
    go_enter Tryz.func66, Tryz.ntmps66
    go_upto_region 1 with fail
    generalize w.alloc (.cells #[.int .u8 p.f, .int .i64 p.n, .int .i64 p.k, .int .i64 p.t, .int .i64 p.s, .int .i64 p.e, .int .i64 p.d, .int .i64 p.w] 24) = W0 at *
    go_upto_region 4 with (go_at_call 86; refine (HK.out _ _ (Below.next hA (alloc_below W0 _)) (HO.out _ _)).mono ?_; rintro e w1 ⟨rfl, hb1⟩; have hC1 := Below.next (alloc_below W0 _) hb1; have hB1 := Below.next hA hC1)
    clear c0 c1 c2 c3 c4 c5 c6 c7 HK hb1
    have hdr : Below w1.heap.size w1 w1.drew := (Below.refl _ w1).drew
    have hS0 := HS.out _ (Below.next hC1 hdr)
    have hal : ∀ ob, Below w1.heap.size w1 (w1.alloc ob).drew := fun ob => (alloc_below w1 ob).drew
    have hal2 : ∀ ob ob2, Below w1.heap.size w1 ((w1.alloc ob).alloc ob2).drew := fun ob ob2 => (Below.next (alloc_below w1 ob) (alloc_below _ ob2)).drew
    have hS1 := fun ob => HS.out _ (Below.next hC1 (hal ob))
    have hS2 := fun ob ob2 => HS.out _ (Below.next hC1 (hal2 ob ob2))
    -- the two lists at their places, one or two blocks made
    have hT1 := hide (fun T => (two_new w1 ad ap nd np cd cp T).below (Below.refl _ _).drew)
    have hT2 := hide (fun T ob => (two_new w1 ad ap nd np cd cp T).below (alloc_below _ ob).drew)
    have hT3 : Hid (∀ T ob, Two (w1.heap.size + 1) (.slice ad nd cd) (.slice ap np cp) ((w1.alloc ob).alloc (.cells #[.slice ad nd cd, .slice ap np cp] T)).drew) := fun T ob => by
      have := (two_new (w1.alloc ob) ad ap nd np cd cp T).below (Below.refl _ _).drew
      have e : (w1.alloc ob).heap.size = w1.heap.size + 1 := by simp
      rw [e] at this
      exact this
    have hL2 : Hid (∀ T ob, Lm iw 1 ((w1.alloc ob).alloc (.cells #[.int .i64 i] T)).drew (.slice (some ⟨w1.heap.size + 1, 0, none⟩) 1 1) [i]) := fun T ob => by
      have := (lm_one (w1.alloc ob) i T).below (Below.refl _ _).drew
      have e : (w1.alloc ob).heap.size = w1.heap.size + 1 := by simp
      rw [e] at this
      exact this
    have hL3 := hide (fun T ob => (lm_one w1 i T).below (alloc_below _ ob).drew)
    refine wp_region_held_drew (S := (fun V => V.cell? ⟨w.heap.size, 0, none⟩ = some (.int .u8 p.f) ∧ V.cell? ⟨w.heap.size, 1, none⟩ = some (.int .i64 p.n) ∧ V.cell? ⟨w.heap.size, 2, none⟩ = some (.int .i64 p.k) ∧ V.cell? ⟨w.heap.size, 3, none⟩ = some (.int .i64 p.t) ∧ V.cell? ⟨w.heap.size, 4, none⟩ = some (.int .i64 p.s) ∧ V.cell? ⟨w.heap.size, 5, none⟩ = some (.int .i64 p.e) ∧ V.cell? ⟨w.heap.size, 6, none⟩ = some (.int .i64 p.d) ∧ V.cell? ⟨w.heap.size, 7, none⟩ = some (.int .i64 p.w))) (by kernel_rfl) (by ((try dsimp only) <;> (first | with_reducible exact hS6 | with_reducible exact hS5 | with_reducible exact hS4b _ | with_reducible exact hS4 | with_reducible exact hS3b _ | with_reducible exact hS3 | with_reducible exact hS2 _ _ | with_reducible exact hS1 _ | with_reducible exact hS0))) (fun hHeld => ?_)
    (refine wpAnyH_take (i := 0) (oi := _) (v := ?v36) rfl (by kernel_rfl) (by kernel_rfl) (by kernel_rfl) (fun _ _ _ h => h) (Or.inl ⟨by rfl, ?hy36⟩) (by assumption) ?rest36; (case hy36 => (first | (intro w hSw; (try dsimp only at hSw); go_simp; done) | (intro w hSw; (try dsimp only at hSw); go_simp; with_reducible rfl))); (try simp only [Act.put, List.getElem_toArray, List.getElem_cons_succ, List.getElem_cons_zero, List.setIfInBounds_toArray, List.set_cons_zero, List.set_cons_succ]))
    (refine wpAnyH_take (i := 1) (oi := _) (v := ?v37) rfl (by kernel_rfl) (by kernel_rfl) (by kernel_rfl) (fun _ _ _ h => h) (Or.inl ⟨by rfl, ?hy37⟩) (by assumption) ?rest37; (case hy37 => (first | (intro w hSw; (try dsimp only at hSw); go_simp; done) | (intro w hSw; (try dsimp only at hSw); go_simp; with_reducible rfl))); (try simp only [Act.put, List.getElem_toArray, List.getElem_cons_succ, List.getElem_cons_zero, List.setIfInBounds_toArray, List.set_cons_zero, List.set_cons_succ]))
    (refine wpAnyH_take (i := 2) (oi := _) (v := ?v38) rfl (by kernel_rfl) (by kernel_rfl) (by kernel_rfl) (fun _ _ _ h => h) (Or.inl ⟨by rfl, ?hy38⟩) (by assumption) ?rest38; (case hy38 => (first | (intro w hSw; (try dsimp only at hSw); go_simp; done) | (intro w hSw; (try dsimp only at hSw); go_simp; with_reducible rfl))); (try simp only [Act.put, List.getElem_toArray, List.getElem_cons_succ, List.getElem_cons_zero, List.setIfInBounds_toArray, List.set_cons_zero, List.set_cons_succ]))
    (refine wpAnyH_take (i := 5) (oi := _) (v := ?v39) rfl (by kernel_rfl) (by kernel_rfl) (by kernel_rfl) (fun _ _ _ h => h) (Or.inl ⟨by rfl, ?hy39⟩) (by assumption) ?rest39; (case hy39 => (first | (intro w hSw; (try dsimp only at hSw); go_simp; done) | (intro w hSw; (try dsimp only at hSw); go_simp; with_reducible rfl))); (try simp only [Act.put, List.getElem_toArray, List.getElem_cons_succ, List.getElem_cons_zero, List.setIfInBounds_toArray, List.set_cons_zero, List.set_cons_succ]))
    (refine wpAnyH_take (i := 7) (oi := _) (v := ?v40) rfl (by kernel_rfl) (by kernel_rfl) (by kernel_rfl) (fun _ _ _ h => h) (Or.inl ⟨by rfl, ?hy40⟩) (by assumption) ?rest40; (case hy40 => (first | (intro w hSw; (try dsimp only at hSw); go_simp; done) | (intro w hSw; (try dsimp only at hSw); go_simp; with_reducible rfl))); (try simp only [Act.put, List.getElem_toArray, List.getElem_cons_succ, List.getElem_cons_zero, List.setIfInBounds_toArray, List.set_cons_zero, List.set_cons_succ]))
    (refine wpAnyH_take (i := 8) (oi := _) (v := ?v41) rfl (by kernel_rfl) (by kernel_rfl) (by kernel_rfl) (fun _ _ _ h => h) (Or.inl ⟨by rfl, ?hy41⟩) (by assumption) ?rest41; (case hy41 => (first | (intro w hSw; (try dsimp only at hSw); go_simp; done) | (intro w hSw; (try dsimp only at hSw); go_simp; with_reducible rfl))); (try simp only [Act.put, List.getElem_toArray, List.getElem_cons_succ, List.getElem_cons_zero, List.setIfInBounds_toArray, List.set_cons_zero, List.set_cons_succ]))
    refine wpAnyH_ready (rs := [3, 9]) (by kernel_rfl) (by simp) ?_
    refine AllReadyH.cons (o := _) rfl (fun K hK => ?way42x0) (AllReadyH.cons (o := _) rfl (fun K hK => ?way42x1) AllReadyH.nil)
    case' way42x0 =>
      try simp only [List.getElem_toArray, List.getElem_cons_succ, List.getElem_cons_zero]
      go_simp
      refine hK.out _ _ (by ((try dsimp only) <;> (first | with_reducible exact hS6 | with_reducible exact hS5 | with_reducible exact hS4b _ | with_reducible exact hS4 | with_reducible exact hS3b _ | with_reducible exact hS3 | with_reducible exact hS2 _ _ | with_reducible exact hS1 _ | with_reducible exact hS0))) (fun hHeld => ?_)
      clear hK K
      (try simp only [Act.put, List.getElem_toArray, List.getElem_cons_succ, List.getElem_cons_zero, List.setIfInBounds_toArray, List.set_cons_zero, List.set_cons_succ])
      refine wpAnyH_ready (rs := [4, 9]) (by kernel_rfl) (by simp) ?_
      refine AllReadyH.cons (o := _) rfl (fun K hK => ?way43x0) (AllReadyH.cons (o := _) rfl (fun K hK => ?way43x1) AllReadyH.nil)
      case' way43x0 =>
        try simp only [List.getElem_toArray, List.getElem_cons_succ, List.getElem_cons_zero]
        go_simp
        (first
              | (go_at_call 88; (first | (with_reducible refine (HC.out _ _ (Below.next hB1 (hal _)) (hT1.out _)).mono ?_; rintro e w3 ⟨v3, rfl, r3, hb3⟩; have hC3 := Below.next (Below.next hC1 (hal _)) hb3) | (with_reducible refine (HC.out _ _ (Below.next hB1 (hal2 _ _)) (hT2.out _ _)).mono ?_; rintro e w3 ⟨v3, rfl, r3, hb3⟩; have hC3 := Below.next (Below.next hC1 (hal2 _ _)) hb3; have hL := (hL2.out _ _).below hb3) | (with_reducible refine (HC.out _ _ (Below.next hB1 (hal2 _ _)) (hT3.out _ _)).mono ?_; rintro e w3 ⟨v3, rfl, r3, hb3⟩; have hC3 := Below.next (Below.next hC1 (hal2 _ _)) hb3; have hL := (hL3.out _ _).below hb3)); have hB3 := Below.next hA hC3; have hS3 := HS.out _ hC3; have hS3b := fun ob => HS.out _ (Below.next hC3 (alloc_below w3 ob)))
              | (go_at_call 89; (first | (with_reducible refine (HI.out w3).mono ?_; rintro e w4 ⟨v4, rfl, o4, hb4⟩; have hb4 := hb4; (try have hL := hL.below hb4)) | (with_reducible refine (HI.out (w3.alloc _)).mono ?_; rintro e w4 ⟨v4, rfl, o4, hb4'⟩; have hL := (lm_one w3 i _).below hb4'; have hb4 := Below.next (alloc_below w3 _) hb4')); have hC4 := Below.next hC3 hb4; have hB4 := Below.next hA hC4; have hS4 := HS.out _ hC4; have hS4b := fun ob => HS.out _ (Below.next hC4 (alloc_below w4 ob)); have r4 := HR.out _ _ _ _ o4; obtain ⟨a4, k4, rfl⟩ := own_form o4)
              | (go_at_call 90; (first | (with_reducible refine (HN.out w4 _ hL).mono ?_; rintro e w5 ⟨v5, rfl, o5, hb5⟩; have hb5 := hb5) | (with_reducible refine (HN.out (w4.alloc _) _ (lm_one w4 i _)).mono ?_; rintro e w5 ⟨v5, rfl, o5, hb5'⟩; have hb5 := Below.next (alloc_below w4 _) hb5')); have hC5 := Below.next hC4 hb5; have hB5 := Below.next hA hC5; have hS5 := HS.out _ hC5; have r5 := HR2.out _ _ _ _ o5; have r4b := r4.below hb5; have r3b := (r3.below hb4).below hb5; obtain ⟨a5, k5, rfl⟩ := own_form o5; have r3c := r3b; obtain ⟨ab2, cb2, rfl, _⟩ := r3b)
              | (go_at_call 87; refine (HM.out _ _ _ _ r3c r4b r5).mono ?_; rintro e w6 ⟨v6, us6, rfl, y6, hb6⟩; have hC6 := Below.next hC5 hb6; have hB6 := Below.next hA hC6; have hS6 := HS.out _ hC6; obtain ⟨G, cg, rfl, _, _, hcg⟩ := y6.spell (by simp); have d6 := y6.cell (i := 0) (by simp); have e6 := y6.each 0 (by simp); obtain ⟨a6, k6, hu6⟩ := own_form e6; rw [hu6] at d6 e6; have HE6 := hide (own_mono e6 hB5.size); clear e6 hu6 y6))
        first | (refine hK.out _ _ (by ((try dsimp only) <;> (first | with_reducible exact hS6 | with_reducible exact hS5 | with_reducible exact hS4b _ | with_reducible exact hS4 | with_reducible exact hS3b _ | with_reducible exact hS3 | with_reducible exact hS2 _ _ | with_reducible exact hS1 _ | with_reducible exact hS0))) (fun hHeld => ?_)) | (go_wp2_with fail; refine hK.out _ _ (by ((try dsimp only) <;> (first | with_reducible exact hS6 | with_reducible exact hS5 | with_reducible exact hS4b _ | with_reducible exact hS4 | with_reducible exact hS3b _ | with_reducible exact hS3 | with_reducible exact hS2 _ _ | with_reducible exact hS1 _ | with_reducible exact hS0))) (fun hHeld => ?_))
        clear hK K
        (try simp only [Act.put, List.getElem_toArray, List.getElem_cons_succ, List.getElem_cons_zero, List.setIfInBounds_toArray, List.set_cons_zero, List.set_cons_succ])
        refine wpAnyH_ready (rs := [6, 9]) (by kernel_rfl) (by simp) ?_
        refine AllReadyH.cons (o := _) rfl (fun K hK => ?way44x0) (AllReadyH.cons (o := _) rfl (fun K hK => ?way44x1) AllReadyH.nil)
        case' way44x0 =>
          try simp only [List.getElem_toArray, List.getElem_cons_succ, List.getElem_cons_zero]
          go_simp
          (first
                | (go_at_call 88; (first | (with_reducible refine (HC.out _ _ (Below.next hB1 (hal _)) (hT1.out _)).mono ?_; rintro e w3 ⟨v3, rfl, r3, hb3⟩; have hC3 := Below.next (Below.next hC1 (hal _)) hb3) | (with_reducible refine (HC.out _ _ (Below.next hB1 (hal2 _ _)) (hT2.out _ _)).mono ?_; rintro e w3 ⟨v3, rfl, r3, hb3⟩; have hC3 := Below.next (Below.next hC1 (hal2 _ _)) hb3; have hL := (hL2.out _ _).below hb3) | (with_reducible refine (HC.out _ _ (Below.next hB1 (hal2 _ _)) (hT3.out _ _)).mono ?_; rintro e w3 ⟨v3, rfl, r3, hb3⟩; have hC3 := Below.next (Below.next hC1 (hal2 _ _)) hb3; have hL := (hL3.out _ _).below hb3)); have hB3 := Below.next hA hC3; have hS3 := HS.out _ hC3; have hS3b := fun ob => HS.out _ (Below.next hC3 (alloc_below w3 ob)))
                | (go_at_call 89; (first | (with_reducible refine (HI.out w3).mono ?_; rintro e w4 ⟨v4, rfl, o4, hb4⟩; have hb4 := hb4; (try have hL := hL.below hb4)) | (with_reducible refine (HI.out (w3.alloc _)).mono ?_; rintro e w4 ⟨v4, rfl, o4, hb4'⟩; have hL := (lm_one w3 i _).below hb4'; have hb4 := Below.next (alloc_below w3 _) hb4')); have hC4 := Below.next hC3 hb4; have hB4 := Below.next hA hC4; have hS4 := HS.out _ hC4; have hS4b := fun ob => HS.out _ (Below.next hC4 (alloc_below w4 ob)); have r4 := HR.out _ _ _ _ o4; obtain ⟨a4, k4, rfl⟩ := own_form o4)
                | (go_at_call 90; (first | (with_reducible refine (HN.out w4 _ hL).mono ?_; rintro e w5 ⟨v5, rfl, o5, hb5⟩; have hb5 := hb5) | (with_reducible refine (HN.out (w4.alloc _) _ (lm_one w4 i _)).mono ?_; rintro e w5 ⟨v5, rfl, o5, hb5'⟩; have hb5 := Below.next (alloc_below w4 _) hb5')); have hC5 := Below.next hC4 hb5; have hB5 := Below.next hA hC5; have hS5 := HS.out _ hC5; have r5 := HR2.out _ _ _ _ o5; have r4b := r4.below hb5; have r3b := (r3.below hb4).below hb5; obtain ⟨a5, k5, rfl⟩ := own_form o5; have r3c := r3b; obtain ⟨ab2, cb2, rfl, _⟩ := r3b)
                | (go_at_call 87; refine (HM.out _ _ _ _ r3c r4b r5).mono ?_; rintro e w6 ⟨v6, us6, rfl, y6, hb6⟩; have hC6 := Below.next hC5 hb6; have hB6 := Below.next hA hC6; have hS6 := HS.out _ hC6; obtain ⟨G, cg, rfl, _, _, hcg⟩ := y6.spell (by simp); have d6 := y6.cell (i := 0) (by simp); have e6 := y6.each 0 (by simp); obtain ⟨a6, k6, hu6⟩ := own_form e6; rw [hu6] at d6 e6; have HE6 := hide (own_mono e6 hB5.size); clear e6 hu6 y6))
          first | (refine hK.out _ _ (by ((try dsimp only) <;> (first | with_reducible exact hS6 | with_reducible exact hS5 | with_reducible exact hS4b _ | with_reducible exact hS4 | with_reducible exact hS3b _ | with_reducible exact hS3 | with_reducible exact hS2 _ _ | with_reducible exact hS1 _ | with_reducible exact hS0))) (fun hHeld => ?_)) | (go_wp2_with fail; refine hK.out _ _ (by ((try dsimp only) <;> (first | with_reducible exact hS6 | with_reducible exact hS5 | with_reducible exact hS4b _ | with_reducible exact hS4 | with_reducible exact hS3b _ | with_reducible exact hS3 | with_reducible exact hS2 _ _ | with_reducible exact hS1 _ | with_reducible exact hS0))) (fun hHeld => ?_))
          clear hK K
          (try simp only [Act.put, List.getElem_toArray, List.getElem_cons_succ, List.getElem_cons_zero, List.setIfInBounds_toArray, List.set_cons_zero, List.set_cons_succ])
          refine wpAnyH_ready (rs := [9]) (by kernel_rfl) (by simp) ?_
          refine AllReadyH.cons (o := _) rfl (fun K hK => ?_) AllReadyH.nil
          try simp only [List.getElem_toArray, List.getElem_cons_succ, List.getElem_cons_zero]
          go_simp
          refine hK.out _ _ (by ((try dsimp only) <;> (first | with_reducible exact hS6 | with_reducible exact hS5 | with_reducible exact hS4b _ | with_reducible exact hS4 | with_reducible exact hS3b _ | with_reducible exact hS3 | with_reducible exact hS2 _ _ | with_reducible exact hS1 _ | with_reducible exact hS0))) (fun hHeld => ?_)
          clear hK K
          (try simp only [Act.put, List.getElem_toArray, List.getElem_cons_succ, List.getElem_cons_zero, List.setIfInBounds_toArray, List.set_cons_zero, List.set_cons_succ])
          refine wpAnyH_ready (rs := [10]) (by kernel_rfl) (by simp) ?_
          refine AllReadyH.cons (o := _) rfl (fun K hK => ?_) AllReadyH.nil
          try simp only [List.getElem_toArray, List.getElem_cons_succ, List.getElem_cons_zero]
          go_simp
          (first
                | (go_at_call 88; (first | (with_reducible refine (HC.out _ _ (Below.next hB1 (hal _)) (hT1.out _)).mono ?_; rintro e w3 ⟨v3, rfl, r3, hb3⟩; have hC3 := Below.next (Below.next hC1 (hal _)) hb3) | (with_reducible refine (HC.out _ _ (Below.next hB1 (hal2 _ _)) (hT2.out _ _)).mono ?_; rintro e w3 ⟨v3, rfl, r3, hb3⟩; have hC3 := Below.next (Below.next hC1 (hal2 _ _)) hb3; have hL := (hL2.out _ _).below hb3) | (with_reducible refine (HC.out _ _ (Below.next hB1 (hal2 _ _)) (hT3.out _ _)).mono ?_; rintro e w3 ⟨v3, rfl, r3, hb3⟩; have hC3 := Below.next (Below.next hC1 (hal2 _ _)) hb3; have hL := (hL3.out _ _).below hb3)); have hB3 := Below.next hA hC3; have hS3 := HS.out _ hC3; have hS3b := fun ob => HS.out _ (Below.next hC3 (alloc_below w3 ob)))
                | (go_at_call 89; (first | (with_reducible refine (HI.out w3).mono ?_; rintro e w4 ⟨v4, rfl, o4, hb4⟩; have hb4 := hb4; (try have hL := hL.below hb4)) | (with_reducible refine (HI.out (w3.alloc _)).mono ?_; rintro e w4 ⟨v4, rfl, o4, hb4'⟩; have hL := (lm_one w3 i _).below hb4'; have hb4 := Below.next (alloc_below w3 _) hb4')); have hC4 := Below.next hC3 hb4; have hB4 := Below.next hA hC4; have hS4 := HS.out _ hC4; have hS4b := fun ob => HS.out _ (Below.next hC4 (alloc_below w4 ob)); have r4 := HR.out _ _ _ _ o4; obtain ⟨a4, k4, rfl⟩ := own_form o4)
                | (go_at_call 90; (first | (with_reducible refine (HN.out w4 _ hL).mono ?_; rintro e w5 ⟨v5, rfl, o5, hb5⟩; have hb5 := hb5) | (with_reducible refine (HN.out (w4.alloc _) _ (lm_one w4 i _)).mono ?_; rintro e w5 ⟨v5, rfl, o5, hb5'⟩; have hb5 := Below.next (alloc_below w4 _) hb5')); have hC5 := Below.next hC4 hb5; have hB5 := Below.next hA hC5; have hS5 := HS.out _ hC5; have r5 := HR2.out _ _ _ _ o5; have r4b := r4.below hb5; have r3b := (r3.below hb4).below hb5; obtain ⟨a5, k5, rfl⟩ := own_form o5; have r3c := r3b; obtain ⟨ab2, cb2, rfl, _⟩ := r3b)
                | (go_at_call 87; refine (HM.out _ _ _ _ r3c r4b r5).mono ?_; rintro e w6 ⟨v6, us6, rfl, y6, hb6⟩; have hC6 := Below.next hC5 hb6; have hB6 := Below.next hA hC6; have hS6 := HS.out _ hC6; obtain ⟨G, cg, rfl, _, _, hcg⟩ := y6.spell (by simp); have d6 := y6.cell (i := 0) (by simp); have e6 := y6.each 0 (by simp); obtain ⟨a6, k6, hu6⟩ := own_form e6; rw [hu6] at d6 e6; have HE6 := hide (own_mono e6 hB5.size); clear e6 hu6 y6))
          first | (refine hK.out _ _ (by ((try dsimp only) <;> (first | with_reducible exact hS6 | with_reducible exact hS5 | with_reducible exact hS4b _ | with_reducible exact hS4 | with_reducible exact hS3b _ | with_reducible exact hS3 | with_reducible exact hS2 _ _ | with_reducible exact hS1 _ | with_reducible exact hS0))) (fun hHeld => ?_)) | (go_wp2_with fail; refine hK.out _ _ (by ((try dsimp only) <;> (first | with_reducible exact hS6 | with_reducible exact hS5 | with_reducible exact hS4b _ | with_reducible exact hS4 | with_reducible exact hS3b _ | with_reducible exact hS3 | with_reducible exact hS2 _ _ | with_reducible exact hS1 _ | with_reducible exact hS0))) (fun hHeld => ?_))
          clear hK K
          (try simp only [Act.put, List.getElem_toArray, List.getElem_cons_succ, List.getElem_cons_zero, List.setIfInBounds_toArray, List.set_cons_zero, List.set_cons_succ])
          refine wpAnyH_ready (rs := [11]) (by kernel_rfl) (by simp) ?_
          refine AllReadyH.cons (o := _) rfl (fun K hK => ?_) AllReadyH.nil
          try simp only [List.getElem_toArray, List.getElem_cons_succ, List.getElem_cons_zero]
          go_simp
          (first
                | (go_at_call 88; (first | (with_reducible refine (HC.out _ _ (Below.next hB1 (hal _)) (hT1.out _)).mono ?_; rintro e w3 ⟨v3, rfl, r3, hb3⟩; have hC3 := Below.next (Below.next hC1 (hal _)) hb3) | (with_reducible refine (HC.out _ _ (Below.next hB1 (hal2 _ _)) (hT2.out _ _)).mono ?_; rintro e w3 ⟨v3, rfl, r3, hb3⟩; have hC3 := Below.next (Below.next hC1 (hal2 _ _)) hb3; have hL := (hL2.out _ _).below hb3) | (with_reducible refine (HC.out _ _ (Below.next hB1 (hal2 _ _)) (hT3.out _ _)).mono ?_; rintro e w3 ⟨v3, rfl, r3, hb3⟩; have hC3 := Below.next (Below.next hC1 (hal2 _ _)) hb3; have hL := (hL3.out _ _).below hb3)); have hB3 := Below.next hA hC3; have hS3 := HS.out _ hC3; have hS3b := fun ob => HS.out _ (Below.next hC3 (alloc_below w3 ob)))
                | (go_at_call 89; (first | (with_reducible refine (HI.out w3).mono ?_; rintro e w4 ⟨v4, rfl, o4, hb4⟩; have hb4 := hb4; (try have hL := hL.below hb4)) | (with_reducible refine (HI.out (w3.alloc _)).mono ?_; rintro e w4 ⟨v4, rfl, o4, hb4'⟩; have hL := (lm_one w3 i _).below hb4'; have hb4 := Below.next (alloc_below w3 _) hb4')); have hC4 := Below.next hC3 hb4; have hB4 := Below.next hA hC4; have hS4 := HS.out _ hC4; have hS4b := fun ob => HS.out _ (Below.next hC4 (alloc_below w4 ob)); have r4 := HR.out _ _ _ _ o4; obtain ⟨a4, k4, rfl⟩ := own_form o4)
                | (go_at_call 90; (first | (with_reducible refine (HN.out w4 _ hL).mono ?_; rintro e w5 ⟨v5, rfl, o5, hb5⟩; have hb5 := hb5) | (with_reducible refine (HN.out (w4.alloc _) _ (lm_one w4 i _)).mono ?_; rintro e w5 ⟨v5, rfl, o5, hb5'⟩; have hb5 := Below.next (alloc_below w4 _) hb5')); have hC5 := Below.next hC4 hb5; have hB5 := Below.next hA hC5; have hS5 := HS.out _ hC5; have r5 := HR2.out _ _ _ _ o5; have r4b := r4.below hb5; have r3b := (r3.below hb4).below hb5; obtain ⟨a5, k5, rfl⟩ := own_form o5; have r3c := r3b; obtain ⟨ab2, cb2, rfl, _⟩ := r3b)
                | (go_at_call 87; refine (HM.out _ _ _ _ r3c r4b r5).mono ?_; rintro e w6 ⟨v6, us6, rfl, y6, hb6⟩; have hC6 := Below.next hC5 hb6; have hB6 := Below.next hA hC6; have hS6 := HS.out _ hC6; obtain ⟨G, cg, rfl, _, _, hcg⟩ := y6.spell (by simp); have d6 := y6.cell (i := 0) (by simp); have e6 := y6.each 0 (by simp); obtain ⟨a6, k6, hu6⟩ := own_form e6; rw [hu6] at d6 e6; have HE6 := hide (own_mono e6 hB5.size); clear e6 hu6 y6))
          first | (refine hK.out _ _ (by ((try dsimp only) <;> (first | with_reducible exact hS6 | with_reducible exact hS5 | with_reducible exact hS4b _ | with_reducible exact hS4 | with_reducible exact hS3b _ | with_reducible exact hS3 | with_reducible exact hS2 _ _ | with_reducible exact hS1 _ | with_reducible exact hS0))) (fun hHeld => ?_)) | (go_wp2_with fail; refine hK.out _ _ (by ((try dsimp only) <;> (first | with_reducible exact hS6 | with_reducible exact hS5 | with_reducible exact hS4b _ | with_reducible exact hS4 | with_reducible exact hS3b _ | with_reducible exact hS3 | with_reducible exact hS2 _ _ | with_reducible exact hS1 _ | with_reducible exact hS0))) (fun hHeld => ?_))
          clear hK K
          (try simp only [Act.put, List.getElem_toArray, List.getElem_cons_succ, List.getElem_cons_zero, List.setIfInBounds_toArray, List.set_cons_zero, List.set_cons_succ])
          (refine wpAnyH_take (i := 12) (oi := _) (v := ?v45) rfl (by kernel_rfl) (by kernel_rfl) (by kernel_rfl) (fun _ _ _ h => h) (Or.inl ⟨by rfl, ?hy45⟩) (by assumption) ?rest45; (case hy45 => (first | (intro w hSw; (try dsimp only at hSw); go_simp; done) | (intro w hSw; (try dsimp only at hSw); go_simp; with_reducible rfl))); (try simp only [Act.put, List.getElem_toArray, List.getElem_cons_succ, List.getElem_cons_zero, List.setIfInBounds_toArray, List.set_cons_zero, List.set_cons_succ]))
          refine wpAnyH_ready (rs := [13]) (by kernel_rfl) (by simp) ?_
          refine AllReadyH.cons (o := _) rfl (fun K hK => ?_) AllReadyH.nil
          try simp only [List.getElem_toArray, List.getElem_cons_succ, List.getElem_cons_zero]
          go_simp
          refine hK.out _ _ (by ((try dsimp only) <;> (first | with_reducible exact hS6 | with_reducible exact hS5 | with_reducible exact hS4b _ | with_reducible exact hS4 | with_reducible exact hS3b _ | with_reducible exact hS3 | with_reducible exact hS2 _ _ | with_reducible exact hS1 _ | with_reducible exact hS0))) (fun hHeld => ?_)
          clear hK K
          (try simp only [Act.put, List.getElem_toArray, List.getElem_cons_succ, List.getElem_cons_zero, List.setIfInBounds_toArray, List.set_cons_zero, List.set_cons_succ])
          (refine wpAnyH_take (i := 14) (oi := _) (v := ?v46) rfl (by kernel_rfl) (by kernel_rfl) (by kernel_rfl) (fun _ _ _ h => h) (Or.inl ⟨by rfl, ?hy46⟩) (by assumption) ?rest46; (case hy46 => (first | (intro w hSw; (try dsimp only at hSw); go_simp; done) | (intro w hSw; (try dsimp only at hSw); go_simp; with_reducible rfl))); (try simp only [Act.put, List.getElem_toArray, List.getElem_cons_succ, List.getElem_cons_zero, List.setIfInBounds_toArray, List.set_cons_zero, List.set_cons_succ]))
          (refine wpAnyH_take (i := 15) (oi := _) (v := ?v47) rfl (by kernel_rfl) (by kernel_rfl) (by kernel_rfl) (fun _ _ _ h => h) (Or.inl ⟨by rfl, ?hy47⟩) (by assumption) ?rest47; (case hy47 => (first | (intro w hSw; (try dsimp only at hSw); go_simp; done) | (intro w hSw; (try dsimp only at hSw); go_simp; with_reducible rfl))); (try simp only [Act.put, List.getElem_toArray, List.getElem_cons_succ, List.getElem_cons_zero, List.setIfInBounds_toArray, List.set_cons_zero, List.set_cons_succ]))
          refine wpAnyH_done (by kernel_rfl) ?_ _
        case' way44x1 =>
          try simp only [List.getElem_toArray, List.getElem_cons_succ, List.getElem_cons_zero]
          go_simp
          refine hK.out _ _ (by ((try dsimp only) <;> (first | with_reducible exact hS6 | with_reducible exact hS5 | with_reducible exact hS4b _ | with_reducible exact hS4 | with_reducible exact hS3b _ | with_reducible exact hS3 | with_reducible exact hS2 _ _ | with_reducible exact hS1 _ | with_reducible exact hS0))) (fun hHeld => ?_)
          clear hK K
          (try simp only [Act.put, List.getElem_toArray, List.getElem_cons_succ, List.getElem_cons_zero, List.setIfInBounds_toArray, List.set_cons_zero, List.set_cons_succ])
          refine wpAnyH_ready (rs := [6]) (by kernel_rfl) (by simp) ?_
          refine AllReadyH.cons (o := _) rfl (fun K hK => ?_) AllReadyH.nil
          try simp only [List.getElem_toArray, List.getElem_cons_succ, List.getElem_cons_zero]
          go_simp
          (first
                | (go_at_call 88; (first | (with_reducible refine (HC.out _ _ (Below.next hB1 (hal _)) (hT1.out _)).mono ?_; rintro e w3 ⟨v3, rfl, r3, hb3⟩; have hC3 := Below.next (Below.next hC1 (hal _)) hb3) | (with_reducible refine (HC.out _ _ (Below.next hB1 (hal2 _ _)) (hT2.out _ _)).mono ?_; rintro e w3 ⟨v3, rfl, r3, hb3⟩; have hC3 := Below.next (Below.next hC1 (hal2 _ _)) hb3; have hL := (hL2.out _ _).below hb3) | (with_reducible refine (HC.out _ _ (Below.next hB1 (hal2 _ _)) (hT3.out _ _)).mono ?_; rintro e w3 ⟨v3, rfl, r3, hb3⟩; have hC3 := Below.next (Below.next hC1 (hal2 _ _)) hb3; have hL := (hL3.out _ _).below hb3)); have hB3 := Below.next hA hC3; have hS3 := HS.out _ hC3; have hS3b := fun ob => HS.out _ (Below.next hC3 (alloc_below w3 ob)))
                | (go_at_call 89; (first | (with_reducible refine (HI.out w3).mono ?_; rintro e w4 ⟨v4, rfl, o4, hb4⟩; have hb4 := hb4; (try have hL := hL.below hb4)) | (with_reducible refine (HI.out (w3.alloc _)).mono ?_; rintro e w4 ⟨v4, rfl, o4, hb4'⟩; have hL := (lm_one w3 i _).below hb4'; have hb4 := Below.next (alloc_below w3 _) hb4')); have hC4 := Below.next hC3 hb4; have hB4 := Below.next hA hC4; have hS4 := HS.out _ hC4; have hS4b := fun ob => HS.out _ (Below.next hC4 (alloc_below w4 ob)); have r4 := HR.out _ _ _ _ o4; obtain ⟨a4, k4, rfl⟩ := own_form o4)
                | (go_at_call 90; (first | (with_reducible refine (HN.out w4 _ hL).mono ?_; rintro e w5 ⟨v5, rfl, o5, hb5⟩; have hb5 := hb5) | (with_reducible refine (HN.out (w4.alloc _) _ (lm_one w4 i _)).mono ?_; rintro e w5 ⟨v5, rfl, o5, hb5'⟩; have hb5 := Below.next (alloc_below w4 _) hb5')); have hC5 := Below.next hC4 hb5; have hB5 := Below.next hA hC5; have hS5 := HS.out _ hC5; have r5 := HR2.out _ _ _ _ o5; have r4b := r4.below hb5; have r3b := (r3.below hb4).below hb5; obtain ⟨a5, k5, rfl⟩ := own_form o5; have r3c := r3b; obtain ⟨ab2, cb2, rfl, _⟩ := r3b)
                | (go_at_call 87; refine (HM.out _ _ _ _ r3c r4b r5).mono ?_; rintro e w6 ⟨v6, us6, rfl, y6, hb6⟩; have hC6 := Below.next hC5 hb6; have hB6 := Below.next hA hC6; have hS6 := HS.out _ hC6; obtain ⟨G, cg, rfl, _, _, hcg⟩ := y6.spell (by simp); have d6 := y6.cell (i := 0) (by simp); have e6 := y6.each 0 (by simp); obtain ⟨a6, k6, hu6⟩ := own_form e6; rw [hu6] at d6 e6; have HE6 := hide (own_mono e6 hB5.size); clear e6 hu6 y6))
          first | (refine hK.out _ _ (by ((try dsimp only) <;> (first | with_reducible exact hS6 | with_reducible exact hS5 | with_reducible exact hS4b _ | with_reducible exact hS4 | with_reducible exact hS3b _ | with_reducible exact hS3 | with_reducible exact hS2 _ _ | with_reducible exact hS1 _ | with_reducible exact hS0))) (fun hHeld => ?_)) | (go_wp2_with fail; refine hK.out _ _ (by ((try dsimp only) <;> (first | with_reducible exact hS6 | with_reducible exact hS5 | with_reducible exact hS4b _ | with_reducible exact hS4 | with_reducible exact hS3b _ | with_reducible exact hS3 | with_reducible exact hS2 _ _ | with_reducible exact hS1 _ | with_reducible exact hS0))) (fun hHeld => ?_))
          clear hK K
          (try simp only [Act.put, List.getElem_toArray, List.getElem_cons_succ, List.getElem_cons_zero, List.setIfInBounds_toArray, List.set_cons_zero, List.set_cons_succ])
          refine wpAnyH_ready (rs := [10]) (by kernel_rfl) (by simp) ?_
          refine AllReadyH.cons (o := _) rfl (fun K hK => ?_) AllReadyH.nil
          try simp only [List.getElem_toArray, List.getElem_cons_succ, List.getElem_cons_zero]
          go_simp
          (first
                | (go_at_call 88; (first | (with_reducible refine (HC.out _ _ (Below.next hB1 (hal _)) (hT1.out _)).mono ?_; rintro e w3 ⟨v3, rfl, r3, hb3⟩; have hC3 := Below.next (Below.next hC1 (hal _)) hb3) | (with_reducible refine (HC.out _ _ (Below.next hB1 (hal2 _ _)) (hT2.out _ _)).mono ?_; rintro e w3 ⟨v3, rfl, r3, hb3⟩; have hC3 := Below.next (Below.next hC1 (hal2 _ _)) hb3; have hL := (hL2.out _ _).below hb3) | (with_reducible refine (HC.out _ _ (Below.next hB1 (hal2 _ _)) (hT3.out _ _)).mono ?_; rintro e w3 ⟨v3, rfl, r3, hb3⟩; have hC3 := Below.next (Below.next hC1 (hal2 _ _)) hb3; have hL := (hL3.out _ _).below hb3)); have hB3 := Below.next hA hC3; have hS3 := HS.out _ hC3; have hS3b := fun ob => HS.out _ (Below.next hC3 (alloc_below w3 ob)))
                | (go_at_call 89; (first | (with_reducible refine (HI.out w3).mono ?_; rintro e w4 ⟨v4, rfl, o4, hb4⟩; have hb4 := hb4; (try have hL := hL.below hb4)) | (with_reducible refine (HI.out (w3.alloc _)).mono ?_; rintro e w4 ⟨v4, rfl, o4, hb4'⟩; have hL := (lm_one w3 i _).below hb4'; have hb4 := Below.next (alloc_below w3 _) hb4')); have hC4 := Below.next hC3 hb4; have hB4 := Below.next hA hC4; have hS4 := HS.out _ hC4; have hS4b := fun ob => HS.out _ (Below.next hC4 (alloc_below w4 ob)); have r4 := HR.out _ _ _ _ o4; obtain ⟨a4, k4, rfl⟩ := own_form o4)
                | (go_at_call 90; (first | (with_reducible refine (HN.out w4 _ hL).mono ?_; rintro e w5 ⟨v5, rfl, o5, hb5⟩; have hb5 := hb5) | (with_reducible refine (HN.out (w4.alloc _) _ (lm_one w4 i _)).mono ?_; rintro e w5 ⟨v5, rfl, o5, hb5'⟩; have hb5 := Below.next (alloc_below w4 _) hb5')); have hC5 := Below.next hC4 hb5; have hB5 := Below.next hA hC5; have hS5 := HS.out _ hC5; have r5 := HR2.out _ _ _ _ o5; have r4b := r4.below hb5; have r3b := (r3.below hb4).below hb5; obtain ⟨a5, k5, rfl⟩ := own_form o5; have r3c := r3b; obtain ⟨ab2, cb2, rfl, _⟩ := r3b)
                | (go_at_call 87; refine (HM.out _ _ _ _ r3c r4b r5).mono ?_; rintro e w6 ⟨v6, us6, rfl, y6, hb6⟩; have hC6 := Below.next hC5 hb6; have hB6 := Below.next hA hC6; have hS6 := HS.out _ hC6; obtain ⟨G, cg, rfl, _, _, hcg⟩ := y6.spell (by simp); have d6 := y6.cell (i := 0) (by simp); have e6 := y6.each 0 (by simp); obtain ⟨a6, k6, hu6⟩ := own_form e6; rw [hu6] at d6 e6; have HE6 := hide (own_mono e6 hB5.size); clear e6 hu6 y6))
          first | (refine hK.out _ _ (by ((try dsimp only) <;> (first | with_reducible exact hS6 | with_reducible exact hS5 | with_reducible exact hS4b _ | with_reducible exact hS4 | with_reducible exact hS3b _ | with_reducible exact hS3 | with_reducible exact hS2 _ _ | with_reducible exact hS1 _ | with_reducible exact hS0))) (fun hHeld => ?_)) | (go_wp2_with fail; refine hK.out _ _ (by ((try dsimp only) <;> (first | with_reducible exact hS6 | with_reducible exact hS5 | with_reducible exact hS4b _ | with_reducible exact hS4 | with_reducible exact hS3b _ | with_reducible exact hS3 | with_reducible exact hS2 _ _ | with_reducible exact hS1 _ | with_reducible exact hS0))) (fun hHeld => ?_))
          clear hK K
          (try simp only [Act.put, List.getElem_toArray, List.getElem_cons_succ, List.getElem_cons_zero, List.setIfInBounds_toArray, List.set_cons_zero, List.set_cons_succ])
          refine wpAnyH_ready (rs := [11]) (by kernel_rfl) (by simp) ?_
          refine AllReadyH.cons (o := _) rfl (fun K hK => ?_) AllReadyH.nil
          try simp only [List.getElem_toArray, List.getElem_cons_succ, List.getElem_cons_zero]
          go_simp
          (first
                | (go_at_call 88; (first | (with_reducible refine (HC.out _ _ (Below.next hB1 (hal _)) (hT1.out _)).mono ?_; rintro e w3 ⟨v3, rfl, r3, hb3⟩; have hC3 := Below.next (Below.next hC1 (hal _)) hb3) | (with_reducible refine (HC.out _ _ (Below.next hB1 (hal2 _ _)) (hT2.out _ _)).mono ?_; rintro e w3 ⟨v3, rfl, r3, hb3⟩; have hC3 := Below.next (Below.next hC1 (hal2 _ _)) hb3; have hL := (hL2.out _ _).below hb3) | (with_reducible refine (HC.out _ _ (Below.next hB1 (hal2 _ _)) (hT3.out _ _)).mono ?_; rintro e w3 ⟨v3, rfl, r3, hb3⟩; have hC3 := Below.next (Below.next hC1 (hal2 _ _)) hb3; have hL := (hL3.out _ _).below hb3)); have hB3 := Below.next hA hC3; have hS3 := HS.out _ hC3; have hS3b := fun ob => HS.out _ (Below.next hC3 (alloc_below w3 ob)))
                | (go_at_call 89; (first | (with_reducible refine (HI.out w3).mono ?_; rintro e w4 ⟨v4, rfl, o4, hb4⟩; have hb4 := hb4; (try have hL := hL.below hb4)) | (with_reducible refine (HI.out (w3.alloc _)).mono ?_; rintro e w4 ⟨v4, rfl, o4, hb4'⟩; have hL := (lm_one w3 i _).below hb4'; have hb4 := Below.next (alloc_below w3 _) hb4')); have hC4 := Below.next hC3 hb4; have hB4 := Below.next hA hC4; have hS4 := HS.out _ hC4; have hS4b := fun ob => HS.out _ (Below.next hC4 (alloc_below w4 ob)); have r4 := HR.out _ _ _ _ o4; obtain ⟨a4, k4, rfl⟩ := own_form o4)
                | (go_at_call 90; (first | (with_reducible refine (HN.out w4 _ hL).mono ?_; rintro e w5 ⟨v5, rfl, o5, hb5⟩; have hb5 := hb5) | (with_reducible refine (HN.out (w4.alloc _) _ (lm_one w4 i _)).mono ?_; rintro e w5 ⟨v5, rfl, o5, hb5'⟩; have hb5 := Below.next (alloc_below w4 _) hb5')); have hC5 := Below.next hC4 hb5; have hB5 := Below.next hA hC5; have hS5 := HS.out _ hC5; have r5 := HR2.out _ _ _ _ o5; have r4b := r4.below hb5; have r3b := (r3.below hb4).below hb5; obtain ⟨a5, k5, rfl⟩ := own_form o5; have r3c := r3b; obtain ⟨ab2, cb2, rfl, _⟩ := r3b)
                | (go_at_call 87; refine (HM.out _ _ _ _ r3c r4b r5).mono ?_; rintro e w6 ⟨v6, us6, rfl, y6, hb6⟩; have hC6 := Below.next hC5 hb6; have hB6 := Below.next hA hC6; have hS6 := HS.out _ hC6; obtain ⟨G, cg, rfl, _, _, hcg⟩ := y6.spell (by simp); have d6 := y6.cell (i := 0) (by simp); have e6 := y6.each 0 (by simp); obtain ⟨a6, k6, hu6⟩ := own_form e6; rw [hu6] at d6 e6; have HE6 := hide (own_mono e6 hB5.size); clear e6 hu6 y6))
          first | (refine hK.out _ _ (by ((try dsimp only) <;> (first | with_reducible exact hS6 | with_reducible exact hS5 | with_reducible exact hS4b _ | with_reducible exact hS4 | with_reducible exact hS3b _ | with_reducible exact hS3 | with_reducible exact hS2 _ _ | with_reducible exact hS1 _ | with_reducible exact hS0))) (fun hHeld => ?_)) | (go_wp2_with fail; refine hK.out _ _ (by ((try dsimp only) <;> (first | with_reducible exact hS6 | with_reducible exact hS5 | with_reducible exact hS4b _ | with_reducible exact hS4 | with_reducible exact hS3b _ | with_reducible exact hS3 | with_reducible exact hS2 _ _ | with_reducible exact hS1 _ | with_reducible exact hS0))) (fun hHeld => ?_))
          clear hK K
          (try simp only [Act.put, List.getElem_toArray, List.getElem_cons_succ, List.getElem_cons_zero, List.setIfInBounds_toArray, List.set_cons_zero, List.set_cons_succ])
          (refine wpAnyH_take (i := 12) (oi := _) (v := ?v48) rfl (by kernel_rfl) (by kernel_rfl) (by kernel_rfl) (fun _ _ _ h => h) (Or.inl ⟨by rfl, ?hy48⟩) (by assumption) ?rest48; (case hy48 => (first | (intro w hSw; (try dsimp only at hSw); go_simp; done) | (intro w hSw; (try dsimp only at hSw); go_simp; with_reducible rfl))); (try simp only [Act.put, List.getElem_toArray, List.getElem_cons_succ, List.getElem_cons_zero, List.setIfInBounds_toArray, List.set_cons_zero, List.set_cons_succ]))
          refine wpAnyH_ready (rs := [13]) (by kernel_rfl) (by simp) ?_
          refine AllReadyH.cons (o := _) rfl (fun K hK => ?_) AllReadyH.nil
          try simp only [List.getElem_toArray, List.getElem_cons_succ, List.getElem_cons_zero]
          go_simp
          refine hK.out _ _ (by ((try dsimp only) <;> (first | with_reducible exact hS6 | with_reducible exact hS5 | with_reducible exact hS4b _ | with_reducible exact hS4 | with_reducible exact hS3b _ | with_reducible exact hS3 | with_reducible exact hS2 _ _ | with_reducible exact hS1 _ | with_reducible exact hS0))) (fun hHeld => ?_)
          clear hK K
          (try simp only [Act.put, List.getElem_toArray, List.getElem_cons_succ, List.getElem_cons_zero, List.setIfInBounds_toArray, List.set_cons_zero, List.set_cons_succ])
          (refine wpAnyH_take (i := 14) (oi := _) (v := ?v49) rfl (by kernel_rfl) (by kernel_rfl) (by kernel_rfl) (fun _ _ _ h => h) (Or.inl ⟨by rfl, ?hy49⟩) (by assumption) ?rest49; (case hy49 => (first | (intro w hSw; (try dsimp only at hSw); go_simp; done) | (intro w hSw; (try dsimp only at hSw); go_simp; with_reducible rfl))); (try simp only [Act.put, List.getElem_toArray, List.getElem_cons_succ, List.getElem_cons_zero, List.setIfInBounds_toArray, List.set_cons_zero, List.set_cons_succ]))
          (refine wpAnyH_take (i := 15) (oi := _) (v := ?v50) rfl (by kernel_rfl) (by kernel_rfl) (by kernel_rfl) (fun _ _ _ h => h) (Or.inl ⟨by rfl, ?hy50⟩) (by assumption) ?rest50; (case hy50 => (first | (intro w hSw; (try dsimp only at hSw); go_simp; done) | (intro w hSw; (try dsimp only at hSw); go_simp; with_reducible rfl))); (try simp only [Act.put, List.getElem_toArray, List.getElem_cons_succ, List.getElem_cons_zero, List.setIfInBounds_toArray, List.set_cons_zero, List.set_cons_succ]))
          refine wpAnyH_done (by kernel_rfl) ?_ _
      case' way43x1 =>
        try simp only [List.getElem_toArray, List.getElem_cons_succ, List.getElem_cons_zero]
        go_simp
        refine hK.out _ _ (by ((try dsimp only) <;> (first | with_reducible exact hS6 | with_reducible exact hS5 | with_reducible exact hS4b _ | with_reducible exact hS4 | with_reducible exact hS3b _ | with_reducible exact hS3 | with_reducible exact hS2 _ _ | with_reducible exact hS1 _ | with_reducible exact hS0))) (fun hHeld => ?_)
        clear hK K
        (try simp only [Act.put, List.getElem_toArray, List.getElem_cons_succ, List.getElem_cons_zero, List.setIfInBounds_toArray, List.set_cons_zero, List.set_cons_succ])
        refine wpAnyH_ready (rs := [4]) (by kernel_rfl) (by simp) ?_
        refine AllReadyH.cons (o := _) rfl (fun K hK => ?_) AllReadyH.nil
        try simp only [List.getElem_toArray, List.getElem_cons_succ, List.getElem_cons_zero]
        go_simp
        (first
              | (go_at_call 88; (first | (with_reducible refine (HC.out _ _ (Below.next hB1 (hal _)) (hT1.out _)).mono ?_; rintro e w3 ⟨v3, rfl, r3, hb3⟩; have hC3 := Below.next (Below.next hC1 (hal _)) hb3) | (with_reducible refine (HC.out _ _ (Below.next hB1 (hal2 _ _)) (hT2.out _ _)).mono ?_; rintro e w3 ⟨v3, rfl, r3, hb3⟩; have hC3 := Below.next (Below.next hC1 (hal2 _ _)) hb3; have hL := (hL2.out _ _).below hb3) | (with_reducible refine (HC.out _ _ (Below.next hB1 (hal2 _ _)) (hT3.out _ _)).mono ?_; rintro e w3 ⟨v3, rfl, r3, hb3⟩; have hC3 := Below.next (Below.next hC1 (hal2 _ _)) hb3; have hL := (hL3.out _ _).below hb3)); have hB3 := Below.next hA hC3; have hS3 := HS.out _ hC3; have hS3b := fun ob => HS.out _ (Below.next hC3 (alloc_below w3 ob)))
              | (go_at_call 89; (first | (with_reducible refine (HI.out w3).mono ?_; rintro e w4 ⟨v4, rfl, o4, hb4⟩; have hb4 := hb4; (try have hL := hL.below hb4)) | (with_reducible refine (HI.out (w3.alloc _)).mono ?_; rintro e w4 ⟨v4, rfl, o4, hb4'⟩; have hL := (lm_one w3 i _).below hb4'; have hb4 := Below.next (alloc_below w3 _) hb4')); have hC4 := Below.next hC3 hb4; have hB4 := Below.next hA hC4; have hS4 := HS.out _ hC4; have hS4b := fun ob => HS.out _ (Below.next hC4 (alloc_below w4 ob)); have r4 := HR.out _ _ _ _ o4; obtain ⟨a4, k4, rfl⟩ := own_form o4)
              | (go_at_call 90; (first | (with_reducible refine (HN.out w4 _ hL).mono ?_; rintro e w5 ⟨v5, rfl, o5, hb5⟩; have hb5 := hb5) | (with_reducible refine (HN.out (w4.alloc _) _ (lm_one w4 i _)).mono ?_; rintro e w5 ⟨v5, rfl, o5, hb5'⟩; have hb5 := Below.next (alloc_below w4 _) hb5')); have hC5 := Below.next hC4 hb5; have hB5 := Below.next hA hC5; have hS5 := HS.out _ hC5; have r5 := HR2.out _ _ _ _ o5; have r4b := r4.below hb5; have r3b := (r3.below hb4).below hb5; obtain ⟨a5, k5, rfl⟩ := own_form o5; have r3c := r3b; obtain ⟨ab2, cb2, rfl, _⟩ := r3b)
              | (go_at_call 87; refine (HM.out _ _ _ _ r3c r4b r5).mono ?_; rintro e w6 ⟨v6, us6, rfl, y6, hb6⟩; have hC6 := Below.next hC5 hb6; have hB6 := Below.next hA hC6; have hS6 := HS.out _ hC6; obtain ⟨G, cg, rfl, _, _, hcg⟩ := y6.spell (by simp); have d6 := y6.cell (i := 0) (by simp); have e6 := y6.each 0 (by simp); obtain ⟨a6, k6, hu6⟩ := own_form e6; rw [hu6] at d6 e6; have HE6 := hide (own_mono e6 hB5.size); clear e6 hu6 y6))
        first | (refine hK.out _ _ (by ((try dsimp only) <;> (first | with_reducible exact hS6 | with_reducible exact hS5 | with_reducible exact hS4b _ | with_reducible exact hS4 | with_reducible exact hS3b _ | with_reducible exact hS3 | with_reducible exact hS2 _ _ | with_reducible exact hS1 _ | with_reducible exact hS0))) (fun hHeld => ?_)) | (go_wp2_with fail; refine hK.out _ _ (by ((try dsimp only) <;> (first | with_reducible exact hS6 | with_reducible exact hS5 | with_reducible exact hS4b _ | with_reducible exact hS4 | with_reducible exact hS3b _ | with_reducible exact hS3 | with_reducible exact hS2 _ _ | with_reducible exact hS1 _ | with_reducible exact hS0))) (fun hHeld => ?_))
        clear hK K
        (try simp only [Act.put, List.getElem_toArray, List.getElem_cons_succ, List.getElem_cons_zero, List.setIfInBounds_toArray, List.set_cons_zero, List.set_cons_succ])
        refine wpAnyH_ready (rs := [6]) (by kernel_rfl) (by simp) ?_
        refine AllReadyH.cons (o := _) rfl (fun K hK => ?_) AllReadyH.nil
        try simp only [List.getElem_toArray, List.getElem_cons_succ, List.getElem_cons_zero]
        go_simp
        (first
              | (go_at_call 88; (first | (with_reducible refine (HC.out _ _ (Below.next hB1 (hal _)) (hT1.out _)).mono ?_; rintro e w3 ⟨v3, rfl, r3, hb3⟩; have hC3 := Below.next (Below.next hC1 (hal _)) hb3) | (with_reducible refine (HC.out _ _ (Below.next hB1 (hal2 _ _)) (hT2.out _ _)).mono ?_; rintro e w3 ⟨v3, rfl, r3, hb3⟩; have hC3 := Below.next (Below.next hC1 (hal2 _ _)) hb3; have hL := (hL2.out _ _).below hb3) | (with_reducible refine (HC.out _ _ (Below.next hB1 (hal2 _ _)) (hT3.out _ _)).mono ?_; rintro e w3 ⟨v3, rfl, r3, hb3⟩; have hC3 := Below.next (Below.next hC1 (hal2 _ _)) hb3; have hL := (hL3.out _ _).below hb3)); have hB3 := Below.next hA hC3; have hS3 := HS.out _ hC3; have hS3b := fun ob => HS.out _ (Below.next hC3 (alloc_below w3 ob)))
              | (go_at_call 89; (first | (with_reducible refine (HI.out w3).mono ?_; rintro e w4 ⟨v4, rfl, o4, hb4⟩; have hb4 := hb4; (try have hL := hL.below hb4)) | (with_reducible refine (HI.out (w3.alloc _)).mono ?_; rintro e w4 ⟨v4, rfl, o4, hb4'⟩; have hL := (lm_one w3 i _).below hb4'; have hb4 := Below.next (alloc_below w3 _) hb4')); have hC4 := Below.next hC3 hb4; have hB4 := Below.next hA hC4; have hS4 := HS.out _ hC4; have hS4b := fun ob => HS.out _ (Below.next hC4 (alloc_below w4 ob)); have r4 := HR.out _ _ _ _ o4; obtain ⟨a4, k4, rfl⟩ := own_form o4)
              | (go_at_call 90; (first | (with_reducible refine (HN.out w4 _ hL).mono ?_; rintro e w5 ⟨v5, rfl, o5, hb5⟩; have hb5 := hb5) | (with_reducible refine (HN.out (w4.alloc _) _ (lm_one w4 i _)).mono ?_; rintro e w5 ⟨v5, rfl, o5, hb5'⟩; have hb5 := Below.next (alloc_below w4 _) hb5')); have hC5 := Below.next hC4 hb5; have hB5 := Below.next hA hC5; have hS5 := HS.out _ hC5; have r5 := HR2.out _ _ _ _ o5; have r4b := r4.below hb5; have r3b := (r3.below hb4).below hb5; obtain ⟨a5, k5, rfl⟩ := own_form o5; have r3c := r3b; obtain ⟨ab2, cb2, rfl, _⟩ := r3b)
              | (go_at_call 87; refine (HM.out _ _ _ _ r3c r4b r5).mono ?_; rintro e w6 ⟨v6, us6, rfl, y6, hb6⟩; have hC6 := Below.next hC5 hb6; have hB6 := Below.next hA hC6; have hS6 := HS.out _ hC6; obtain ⟨G, cg, rfl, _, _, hcg⟩ := y6.spell (by simp); have d6 := y6.cell (i := 0) (by simp); have e6 := y6.each 0 (by simp); obtain ⟨a6, k6, hu6⟩ := own_form e6; rw [hu6] at d6 e6; have HE6 := hide (own_mono e6 hB5.size); clear e6 hu6 y6))
        first | (refine hK.out _ _ (by ((try dsimp only) <;> (first | with_reducible exact hS6 | with_reducible exact hS5 | with_reducible exact hS4b _ | with_reducible exact hS4 | with_reducible exact hS3b _ | with_reducible exact hS3 | with_reducible exact hS2 _ _ | with_reducible exact hS1 _ | with_reducible exact hS0))) (fun hHeld => ?_)) | (go_wp2_with fail; refine hK.out _ _ (by ((try dsimp only) <;> (first | with_reducible exact hS6 | with_reducible exact hS5 | with_reducible exact hS4b _ | with_reducible exact hS4 | with_reducible exact hS3b _ | with_reducible exact hS3 | with_reducible exact hS2 _ _ | with_reducible exact hS1 _ | with_reducible exact hS0))) (fun hHeld => ?_))
        clear hK K
        (try simp only [Act.put, List.getElem_toArray, List.getElem_cons_succ, List.getElem_cons_zero, List.setIfInBounds_toArray, List.set_cons_zero, List.set_cons_succ])
        refine wpAnyH_ready (rs := [10]) (by kernel_rfl) (by simp) ?_
        refine AllReadyH.cons (o := _) rfl (fun K hK => ?_) AllReadyH.nil
        try simp only [List.getElem_toArray, List.getElem_cons_succ, List.getElem_cons_zero]
        go_simp
        (first
              | (go_at_call 88; (first | (with_reducible refine (HC.out _ _ (Below.next hB1 (hal _)) (hT1.out _)).mono ?_; rintro e w3 ⟨v3, rfl, r3, hb3⟩; have hC3 := Below.next (Below.next hC1 (hal _)) hb3) | (with_reducible refine (HC.out _ _ (Below.next hB1 (hal2 _ _)) (hT2.out _ _)).mono ?_; rintro e w3 ⟨v3, rfl, r3, hb3⟩; have hC3 := Below.next (Below.next hC1 (hal2 _ _)) hb3; have hL := (hL2.out _ _).below hb3) | (with_reducible refine (HC.out _ _ (Below.next hB1 (hal2 _ _)) (hT3.out _ _)).mono ?_; rintro e w3 ⟨v3, rfl, r3, hb3⟩; have hC3 := Below.next (Below.next hC1 (hal2 _ _)) hb3; have hL := (hL3.out _ _).below hb3)); have hB3 := Below.next hA hC3; have hS3 := HS.out _ hC3; have hS3b := fun ob => HS.out _ (Below.next hC3 (alloc_below w3 ob)))
              | (go_at_call 89; (first | (with_reducible refine (HI.out w3).mono ?_; rintro e w4 ⟨v4, rfl, o4, hb4⟩; have hb4 := hb4; (try have hL := hL.below hb4)) | (with_reducible refine (HI.out (w3.alloc _)).mono ?_; rintro e w4 ⟨v4, rfl, o4, hb4'⟩; have hL := (lm_one w3 i _).below hb4'; have hb4 := Below.next (alloc_below w3 _) hb4')); have hC4 := Below.next hC3 hb4; have hB4 := Below.next hA hC4; have hS4 := HS.out _ hC4; have hS4b := fun ob => HS.out _ (Below.next hC4 (alloc_below w4 ob)); have r4 := HR.out _ _ _ _ o4; obtain ⟨a4, k4, rfl⟩ := own_form o4)
              | (go_at_call 90; (first | (with_reducible refine (HN.out w4 _ hL).mono ?_; rintro e w5 ⟨v5, rfl, o5, hb5⟩; have hb5 := hb5) | (with_reducible refine (HN.out (w4.alloc _) _ (lm_one w4 i _)).mono ?_; rintro e w5 ⟨v5, rfl, o5, hb5'⟩; have hb5 := Below.next (alloc_below w4 _) hb5')); have hC5 := Below.next hC4 hb5; have hB5 := Below.next hA hC5; have hS5 := HS.out _ hC5; have r5 := HR2.out _ _ _ _ o5; have r4b := r4.below hb5; have r3b := (r3.below hb4).below hb5; obtain ⟨a5, k5, rfl⟩ := own_form o5; have r3c := r3b; obtain ⟨ab2, cb2, rfl, _⟩ := r3b)
              | (go_at_call 87; refine (HM.out _ _ _ _ r3c r4b r5).mono ?_; rintro e w6 ⟨v6, us6, rfl, y6, hb6⟩; have hC6 := Below.next hC5 hb6; have hB6 := Below.next hA hC6; have hS6 := HS.out _ hC6; obtain ⟨G, cg, rfl, _, _, hcg⟩ := y6.spell (by simp); have d6 := y6.cell (i := 0) (by simp); have e6 := y6.each 0 (by simp); obtain ⟨a6, k6, hu6⟩ := own_form e6; rw [hu6] at d6 e6; have HE6 := hide (own_mono e6 hB5.size); clear e6 hu6 y6))
        first | (refine hK.out _ _ (by ((try dsimp only) <;> (first | with_reducible exact hS6 | with_reducible exact hS5 | with_reducible exact hS4b _ | with_reducible exact hS4 | with_reducible exact hS3b _ | with_reducible exact hS3 | with_reducible exact hS2 _ _ | with_reducible exact hS1 _ | with_reducible exact hS0))) (fun hHeld => ?_)) | (go_wp2_with fail; refine hK.out _ _ (by ((try dsimp only) <;> (first | with_reducible exact hS6 | with_reducible exact hS5 | with_reducible exact hS4b _ | with_reducible exact hS4 | with_reducible exact hS3b _ | with_reducible exact hS3 | with_reducible exact hS2 _ _ | with_reducible exact hS1 _ | with_reducible exact hS0))) (fun hHeld => ?_))
        clear hK K
        (try simp only [Act.put, List.getElem_toArray, List.getElem_cons_succ, List.getElem_cons_zero, List.setIfInBounds_toArray, List.set_cons_zero, List.set_cons_succ])
        refine wpAnyH_ready (rs := [11]) (by kernel_rfl) (by simp) ?_
        refine AllReadyH.cons (o := _) rfl (fun K hK => ?_) AllReadyH.nil
        try simp only [List.getElem_toArray, List.getElem_cons_succ, List.getElem_cons_zero]
        go_simp
        (first
              | (go_at_call 88; (first | (with_reducible refine (HC.out _ _ (Below.next hB1 (hal _)) (hT1.out _)).mono ?_; rintro e w3 ⟨v3, rfl, r3, hb3⟩; have hC3 := Below.next (Below.next hC1 (hal _)) hb3) | (with_reducible refine (HC.out _ _ (Below.next hB1 (hal2 _ _)) (hT2.out _ _)).mono ?_; rintro e w3 ⟨v3, rfl, r3, hb3⟩; have hC3 := Below.next (Below.next hC1 (hal2 _ _)) hb3; have hL := (hL2.out _ _).below hb3) | (with_reducible refine (HC.out _ _ (Below.next hB1 (hal2 _ _)) (hT3.out _ _)).mono ?_; rintro e w3 ⟨v3, rfl, r3, hb3⟩; have hC3 := Below.next (Below.next hC1 (hal2 _ _)) hb3; have hL := (hL3.out _ _).below hb3)); have hB3 := Below.next hA hC3; have hS3 := HS.out _ hC3; have hS3b := fun ob => HS.out _ (Below.next hC3 (alloc_below w3 ob)))
              | (go_at_call 89; (first | (with_reducible refine (HI.out w3).mono ?_; rintro e w4 ⟨v4, rfl, o4, hb4⟩; have hb4 := hb4; (try have hL := hL.below hb4)) | (with_reducible refine (HI.out (w3.alloc _)).mono ?_; rintro e w4 ⟨v4, rfl, o4, hb4'⟩; have hL := (lm_one w3 i _).below hb4'; have hb4 := Below.next (alloc_below w3 _) hb4')); have hC4 := Below.next hC3 hb4; have hB4 := Below.next hA hC4; have hS4 := HS.out _ hC4; have hS4b := fun ob => HS.out _ (Below.next hC4 (alloc_below w4 ob)); have r4 := HR.out _ _ _ _ o4; obtain ⟨a4, k4, rfl⟩ := own_form o4)
              | (go_at_call 90; (first | (with_reducible refine (HN.out w4 _ hL).mono ?_; rintro e w5 ⟨v5, rfl, o5, hb5⟩; have hb5 := hb5) | (with_reducible refine (HN.out (w4.alloc _) _ (lm_one w4 i _)).mono ?_; rintro e w5 ⟨v5, rfl, o5, hb5'⟩; have hb5 := Below.next (alloc_below w4 _) hb5')); have hC5 := Below.next hC4 hb5; have hB5 := Below.next hA hC5; have hS5 := HS.out _ hC5; have r5 := HR2.out _ _ _ _ o5; have r4b := r4.below hb5; have r3b := (r3.below hb4).below hb5; obtain ⟨a5, k5, rfl⟩ := own_form o5; have r3c := r3b; obtain ⟨ab2, cb2, rfl, _⟩ := r3b)
              | (go_at_call 87; refine (HM.out _ _ _ _ r3c r4b r5).mono ?_; rintro e w6 ⟨v6, us6, rfl, y6, hb6⟩; have hC6 := Below.next hC5 hb6; have hB6 := Below.next hA hC6; have hS6 := HS.out _ hC6; obtain ⟨G, cg, rfl, _, _, hcg⟩ := y6.spell (by simp); have d6 := y6.cell (i := 0) (by simp); have e6 := y6.each 0 (by simp); obtain ⟨a6, k6, hu6⟩ := own_form e6; rw [hu6] at d6 e6; have HE6 := hide (own_mono e6 hB5.size); clear e6 hu6 y6))
        first | (refine hK.out _ _ (by ((try dsimp only) <;> (first | with_reducible exact hS6 | with_reducible exact hS5 | with_reducible exact hS4b _ | with_reducible exact hS4 | with_reducible exact hS3b _ | with_reducible exact hS3 | with_reducible exact hS2 _ _ | with_reducible exact hS1 _ | with_reducible exact hS0))) (fun hHeld => ?_)) | (go_wp2_with fail; refine hK.out _ _ (by ((try dsimp only) <;> (first | with_reducible exact hS6 | with_reducible exact hS5 | with_reducible exact hS4b _ | with_reducible exact hS4 | with_reducible exact hS3b _ | with_reducible exact hS3 | with_reducible exact hS2 _ _ | with_reducible exact hS1 _ | with_reducible exact hS0))) (fun hHeld => ?_))
        clear hK K
        (try simp only [Act.put, List.getElem_toArray, List.getElem_cons_succ, List.getElem_cons_zero, List.setIfInBounds_toArray, List.set_cons_zero, List.set_cons_succ])
        (refine wpAnyH_take (i := 12) (oi := _) (v := ?v51) rfl (by kernel_rfl) (by kernel_rfl) (by kernel_rfl) (fun _ _ _ h => h) (Or.inl ⟨by rfl, ?hy51⟩) (by assumption) ?rest51; (case hy51 => (first | (intro w hSw; (try dsimp only at hSw); go_simp; done) | (intro w hSw; (try dsimp only at hSw); go_simp; with_reducible rfl))); (try simp only [Act.put, List.getElem_toArray, List.getElem_cons_succ, List.getElem_cons_zero, List.setIfInBounds_toArray, List.set_cons_zero, List.set_cons_succ]))
        refine wpAnyH_ready (rs := [13]) (by kernel_rfl) (by simp) ?_
        refine AllReadyH.cons (o := _) rfl (fun K hK => ?_) AllReadyH.nil
        try simp only [List.getElem_toArray, List.getElem_cons_succ, List.getElem_cons_zero]
        go_simp
        refine hK.out _ _ (by ((try dsimp only) <;> (first | with_reducible exact hS6 | with_reducible exact hS5 | with_reducible exact hS4b _ | with_reducible exact hS4 | with_reducible exact hS3b _ | with_reducible exact hS3 | with_reducible exact hS2 _ _ | with_reducible exact hS1 _ | with_reducible exact hS0))) (fun hHeld => ?_)
        clear hK K
        (try simp only [Act.put, List.getElem_toArray, List.getElem_cons_succ, List.getElem_cons_zero, List.setIfInBounds_toArray, List.set_cons_zero, List.set_cons_succ])
        (refine wpAnyH_take (i := 14) (oi := _) (v := ?v52) rfl (by kernel_rfl) (by kernel_rfl) (by kernel_rfl) (fun _ _ _ h => h) (Or.inl ⟨by rfl, ?hy52⟩) (by assumption) ?rest52; (case hy52 => (first | (intro w hSw; (try dsimp only at hSw); go_simp; done) | (intro w hSw; (try dsimp only at hSw); go_simp; with_reducible rfl))); (try simp only [Act.put, List.getElem_toArray, List.getElem_cons_succ, List.getElem_cons_zero, List.setIfInBounds_toArray, List.set_cons_zero, List.set_cons_succ]))
        (refine wpAnyH_take (i := 15) (oi := _) (v := ?v53) rfl (by kernel_rfl) (by kernel_rfl) (by kernel_rfl) (fun _ _ _ h => h) (Or.inl ⟨by rfl, ?hy53⟩) (by assumption) ?rest53; (case hy53 => (first | (intro w hSw; (try dsimp only at hSw); go_simp; done) | (intro w hSw; (try dsimp only at hSw); go_simp; with_reducible rfl))); (try simp only [Act.put, List.getElem_toArray, List.getElem_cons_succ, List.getElem_cons_zero, List.setIfInBounds_toArray, List.set_cons_zero, List.set_cons_succ]))
        refine wpAnyH_done (by kernel_rfl) ?_ _
    case' way42x1 =>
      try simp only [List.getElem_toArray, List.getElem_cons_succ, List.getElem_cons_zero]
      go_simp
      refine hK.out _ _ (by ((try dsimp only) <;> (first | with_reducible exact hS6 | with_reducible exact hS5 | with_reducible exact hS4b _ | with_reducible exact hS4 | with_reducible exact hS3b _ | with_reducible exact hS3 | with_reducible exact hS2 _ _ | with_reducible exact hS1 _ | with_reducible exact hS0))) (fun hHeld => ?_)
      clear hK K
      (try simp only [Act.put, List.getElem_toArray, List.getElem_cons_succ, List.getElem_cons_zero, List.setIfInBounds_toArray, List.set_cons_zero, List.set_cons_succ])
      refine wpAnyH_ready (rs := [3]) (by kernel_rfl) (by simp) ?_
      refine AllReadyH.cons (o := _) rfl (fun K hK => ?_) AllReadyH.nil
      try simp only [List.getElem_toArray, List.getElem_cons_succ, List.getElem_cons_zero]
      go_simp
      refine hK.out _ _ (by ((try dsimp only) <;> (first | with_reducible exact hS6 | with_reducible exact hS5 | with_reducible exact hS4b _ | with_reducible exact hS4 | with_reducible exact hS3b _ | with_reducible exact hS3 | with_reducible exact hS2 _ _ | with_reducible exact hS1 _ | with_reducible exact hS0))) (fun hHeld => ?_)
      clear hK K
      (try simp only [Act.put, List.getElem_toArray, List.getElem_cons_succ, List.getElem_cons_zero, List.setIfInBounds_toArray, List.set_cons_zero, List.set_cons_succ])
      refine wpAnyH_ready (rs := [4]) (by kernel_rfl) (by simp) ?_
      refine AllReadyH.cons (o := _) rfl (fun K hK => ?_) AllReadyH.nil
      try simp only [List.getElem_toArray, List.getElem_cons_succ, List.getElem_cons_zero]
      go_simp
      (first
            | (go_at_call 88; (first | (with_reducible refine (HC.out _ _ (Below.next hB1 (hal _)) (hT1.out _)).mono ?_; rintro e w3 ⟨v3, rfl, r3, hb3⟩; have hC3 := Below.next (Below.next hC1 (hal _)) hb3) | (with_reducible refine (HC.out _ _ (Below.next hB1 (hal2 _ _)) (hT2.out _ _)).mono ?_; rintro e w3 ⟨v3, rfl, r3, hb3⟩; have hC3 := Below.next (Below.next hC1 (hal2 _ _)) hb3; have hL := (hL2.out _ _).below hb3) | (with_reducible refine (HC.out _ _ (Below.next hB1 (hal2 _ _)) (hT3.out _ _)).mono ?_; rintro e w3 ⟨v3, rfl, r3, hb3⟩; have hC3 := Below.next (Below.next hC1 (hal2 _ _)) hb3; have hL := (hL3.out _ _).below hb3)); have hB3 := Below.next hA hC3; have hS3 := HS.out _ hC3; have hS3b := fun ob => HS.out _ (Below.next hC3 (alloc_below w3 ob)))
            | (go_at_call 89; (first | (with_reducible refine (HI.out w3).mono ?_; rintro e w4 ⟨v4, rfl, o4, hb4⟩; have hb4 := hb4; (try have hL := hL.below hb4)) | (with_reducible refine (HI.out (w3.alloc _)).mono ?_; rintro e w4 ⟨v4, rfl, o4, hb4'⟩; have hL := (lm_one w3 i _).below hb4'; have hb4 := Below.next (alloc_below w3 _) hb4')); have hC4 := Below.next hC3 hb4; have hB4 := Below.next hA hC4; have hS4 := HS.out _ hC4; have hS4b := fun ob => HS.out _ (Below.next hC4 (alloc_below w4 ob)); have r4 := HR.out _ _ _ _ o4; obtain ⟨a4, k4, rfl⟩ := own_form o4)
            | (go_at_call 90; (first | (with_reducible refine (HN.out w4 _ hL).mono ?_; rintro e w5 ⟨v5, rfl, o5, hb5⟩; have hb5 := hb5) | (with_reducible refine (HN.out (w4.alloc _) _ (lm_one w4 i _)).mono ?_; rintro e w5 ⟨v5, rfl, o5, hb5'⟩; have hb5 := Below.next (alloc_below w4 _) hb5')); have hC5 := Below.next hC4 hb5; have hB5 := Below.next hA hC5; have hS5 := HS.out _ hC5; have r5 := HR2.out _ _ _ _ o5; have r4b := r4.below hb5; have r3b := (r3.below hb4).below hb5; obtain ⟨a5, k5, rfl⟩ := own_form o5; have r3c := r3b; obtain ⟨ab2, cb2, rfl, _⟩ := r3b)
            | (go_at_call 87; refine (HM.out _ _ _ _ r3c r4b r5).mono ?_; rintro e w6 ⟨v6, us6, rfl, y6, hb6⟩; have hC6 := Below.next hC5 hb6; have hB6 := Below.next hA hC6; have hS6 := HS.out _ hC6; obtain ⟨G, cg, rfl, _, _, hcg⟩ := y6.spell (by simp); have d6 := y6.cell (i := 0) (by simp); have e6 := y6.each 0 (by simp); obtain ⟨a6, k6, hu6⟩ := own_form e6; rw [hu6] at d6 e6; have HE6 := hide (own_mono e6 hB5.size); clear e6 hu6 y6))
      first | (refine hK.out _ _ (by ((try dsimp only) <;> (first | with_reducible exact hS6 | with_reducible exact hS5 | with_reducible exact hS4b _ | with_reducible exact hS4 | with_reducible exact hS3b _ | with_reducible exact hS3 | with_reducible exact hS2 _ _ | with_reducible exact hS1 _ | with_reducible exact hS0))) (fun hHeld => ?_)) | (go_wp2_with fail; refine hK.out _ _ (by ((try dsimp only) <;> (first | with_reducible exact hS6 | with_reducible exact hS5 | with_reducible exact hS4b _ | with_reducible exact hS4 | with_reducible exact hS3b _ | with_reducible exact hS3 | with_reducible exact hS2 _ _ | with_reducible exact hS1 _ | with_reducible exact hS0))) (fun hHeld => ?_))
      clear hK K
      (try simp only [Act.put, List.getElem_toArray, List.getElem_cons_succ, List.getElem_cons_zero, List.setIfInBounds_toArray, List.set_cons_zero, List.set_cons_succ])
      refine wpAnyH_ready (rs := [6]) (by kernel_rfl) (by simp) ?_
      refine AllReadyH.cons (o := _) rfl (fun K hK => ?_) AllReadyH.nil
      try simp only [List.getElem_toArray, List.getElem_cons_succ, List.getElem_cons_zero]
      go_simp
      (first
            | (go_at_call 88; (first | (with_reducible refine (HC.out _ _ (Below.next hB1 (hal _)) (hT1.out _)).mono ?_; rintro e w3 ⟨v3, rfl, r3, hb3⟩; have hC3 := Below.next (Below.next hC1 (hal _)) hb3) | (with_reducible refine (HC.out _ _ (Below.next hB1 (hal2 _ _)) (hT2.out _ _)).mono ?_; rintro e w3 ⟨v3, rfl, r3, hb3⟩; have hC3 := Below.next (Below.next hC1 (hal2 _ _)) hb3; have hL := (hL2.out _ _).below hb3) | (with_reducible refine (HC.out _ _ (Below.next hB1 (hal2 _ _)) (hT3.out _ _)).mono ?_; rintro e w3 ⟨v3, rfl, r3, hb3⟩; have hC3 := Below.next (Below.next hC1 (hal2 _ _)) hb3; have hL := (hL3.out _ _).below hb3)); have hB3 := Below.next hA hC3; have hS3 := HS.out _ hC3; have hS3b := fun ob => HS.out _ (Below.next hC3 (alloc_below w3 ob)))
            | (go_at_call 89; (first | (with_reducible refine (HI.out w3).mono ?_; rintro e w4 ⟨v4, rfl, o4, hb4⟩; have hb4 := hb4; (try have hL := hL.below hb4)) | (with_reducible refine (HI.out (w3.alloc _)).mono ?_; rintro e w4 ⟨v4, rfl, o4, hb4'⟩; have hL := (lm_one w3 i _).below hb4'; have hb4 := Below.next (alloc_below w3 _) hb4')); have hC4 := Below.next hC3 hb4; have hB4 := Below.next hA hC4; have hS4 := HS.out _ hC4; have hS4b := fun ob => HS.out _ (Below.next hC4 (alloc_below w4 ob)); have r4 := HR.out _ _ _ _ o4; obtain ⟨a4, k4, rfl⟩ := own_form o4)
            | (go_at_call 90; (first | (with_reducible refine (HN.out w4 _ hL).mono ?_; rintro e w5 ⟨v5, rfl, o5, hb5⟩; have hb5 := hb5) | (with_reducible refine (HN.out (w4.alloc _) _ (lm_one w4 i _)).mono ?_; rintro e w5 ⟨v5, rfl, o5, hb5'⟩; have hb5 := Below.next (alloc_below w4 _) hb5')); have hC5 := Below.next hC4 hb5; have hB5 := Below.next hA hC5; have hS5 := HS.out _ hC5; have r5 := HR2.out _ _ _ _ o5; have r4b := r4.below hb5; have r3b := (r3.below hb4).below hb5; obtain ⟨a5, k5, rfl⟩ := own_form o5; have r3c := r3b; obtain ⟨ab2, cb2, rfl, _⟩ := r3b)
            | (go_at_call 87; refine (HM.out _ _ _ _ r3c r4b r5).mono ?_; rintro e w6 ⟨v6, us6, rfl, y6, hb6⟩; have hC6 := Below.next hC5 hb6; have hB6 := Below.next hA hC6; have hS6 := HS.out _ hC6; obtain ⟨G, cg, rfl, _, _, hcg⟩ := y6.spell (by simp); have d6 := y6.cell (i := 0) (by simp); have e6 := y6.each 0 (by simp); obtain ⟨a6, k6, hu6⟩ := own_form e6; rw [hu6] at d6 e6; have HE6 := hide (own_mono e6 hB5.size); clear e6 hu6 y6))
      first | (refine hK.out _ _ (by ((try dsimp only) <;> (first | with_reducible exact hS6 | with_reducible exact hS5 | with_reducible exact hS4b _ | with_reducible exact hS4 | with_reducible exact hS3b _ | with_reducible exact hS3 | with_reducible exact hS2 _ _ | with_reducible exact hS1 _ | with_reducible exact hS0))) (fun hHeld => ?_)) | (go_wp2_with fail; refine hK.out _ _ (by ((try dsimp only) <;> (first | with_reducible exact hS6 | with_reducible exact hS5 | with_reducible exact hS4b _ | with_reducible exact hS4 | with_reducible exact hS3b _ | with_reducible exact hS3 | with_reducible exact hS2 _ _ | with_reducible exact hS1 _ | with_reducible exact hS0))) (fun hHeld => ?_))
      clear hK K
      (try simp only [Act.put, List.getElem_toArray, List.getElem_cons_succ, List.getElem_cons_zero, List.setIfInBounds_toArray, List.set_cons_zero, List.set_cons_succ])
      refine wpAnyH_ready (rs := [10]) (by kernel_rfl) (by simp) ?_
      refine AllReadyH.cons (o := _) rfl (fun K hK => ?_) AllReadyH.nil
      try simp only [List.getElem_toArray, List.getElem_cons_succ, List.getElem_cons_zero]
      go_simp
      (first
            | (go_at_call 88; (first | (with_reducible refine (HC.out _ _ (Below.next hB1 (hal _)) (hT1.out _)).mono ?_; rintro e w3 ⟨v3, rfl, r3, hb3⟩; have hC3 := Below.next (Below.next hC1 (hal _)) hb3) | (with_reducible refine (HC.out _ _ (Below.next hB1 (hal2 _ _)) (hT2.out _ _)).mono ?_; rintro e w3 ⟨v3, rfl, r3, hb3⟩; have hC3 := Below.next (Below.next hC1 (hal2 _ _)) hb3; have hL := (hL2.out _ _).below hb3) | (with_reducible refine (HC.out _ _ (Below.next hB1 (hal2 _ _)) (hT3.out _ _)).mono ?_; rintro e w3 ⟨v3, rfl, r3, hb3⟩; have hC3 := Below.next (Below.next hC1 (hal2 _ _)) hb3; have hL := (hL3.out _ _).below hb3)); have hB3 := Below.next hA hC3; have hS3 := HS.out _ hC3; have hS3b := fun ob => HS.out _ (Below.next hC3 (alloc_below w3 ob)))
            | (go_at_call 89; (first | (with_reducible refine (HI.out w3).mono ?_; rintro e w4 ⟨v4, rfl, o4, hb4⟩; have hb4 := hb4; (try have hL := hL.below hb4)) | (with_reducible refine (HI.out (w3.alloc _)).mono ?_; rintro e w4 ⟨v4, rfl, o4, hb4'⟩; have hL := (lm_one w3 i _).below hb4'; have hb4 := Below.next (alloc_below w3 _) hb4')); have hC4 := Below.next hC3 hb4; have hB4 := Below.next hA hC4; have hS4 := HS.out _ hC4; have hS4b := fun ob => HS.out _ (Below.next hC4 (alloc_below w4 ob)); have r4 := HR.out _ _ _ _ o4; obtain ⟨a4, k4, rfl⟩ := own_form o4)
            | (go_at_call 90; (first | (with_reducible refine (HN.out w4 _ hL).mono ?_; rintro e w5 ⟨v5, rfl, o5, hb5⟩; have hb5 := hb5) | (with_reducible refine (HN.out (w4.alloc _) _ (lm_one w4 i _)).mono ?_; rintro e w5 ⟨v5, rfl, o5, hb5'⟩; have hb5 := Below.next (alloc_below w4 _) hb5')); have hC5 := Below.next hC4 hb5; have hB5 := Below.next hA hC5; have hS5 := HS.out _ hC5; have r5 := HR2.out _ _ _ _ o5; have r4b := r4.below hb5; have r3b := (r3.below hb4).below hb5; obtain ⟨a5, k5, rfl⟩ := own_form o5; have r3c := r3b; obtain ⟨ab2, cb2, rfl, _⟩ := r3b)
            | (go_at_call 87; refine (HM.out _ _ _ _ r3c r4b r5).mono ?_; rintro e w6 ⟨v6, us6, rfl, y6, hb6⟩; have hC6 := Below.next hC5 hb6; have hB6 := Below.next hA hC6; have hS6 := HS.out _ hC6; obtain ⟨G, cg, rfl, _, _, hcg⟩ := y6.spell (by simp); have d6 := y6.cell (i := 0) (by simp); have e6 := y6.each 0 (by simp); obtain ⟨a6, k6, hu6⟩ := own_form e6; rw [hu6] at d6 e6; have HE6 := hide (own_mono e6 hB5.size); clear e6 hu6 y6))
      first | (refine hK.out _ _ (by ((try dsimp only) <;> (first | with_reducible exact hS6 | with_reducible exact hS5 | with_reducible exact hS4b _ | with_reducible exact hS4 | with_reducible exact hS3b _ | with_reducible exact hS3 | with_reducible exact hS2 _ _ | with_reducible exact hS1 _ | with_reducible exact hS0))) (fun hHeld => ?_)) | (go_wp2_with fail; refine hK.out _ _ (by ((try dsimp only) <;> (first | with_reducible exact hS6 | with_reducible exact hS5 | with_reducible exact hS4b _ | with_reducible exact hS4 | with_reducible exact hS3b _ | with_reducible exact hS3 | with_reducible exact hS2 _ _ | with_reducible exact hS1 _ | with_reducible exact hS0))) (fun hHeld => ?_))
      clear hK K
      (try simp only [Act.put, List.getElem_toArray, List.getElem_cons_succ, List.getElem_cons_zero, List.setIfInBounds_toArray, List.set_cons_zero, List.set_cons_succ])
      refine wpAnyH_ready (rs := [11]) (by kernel_rfl) (by simp) ?_
      refine AllReadyH.cons (o := _) rfl (fun K hK => ?_) AllReadyH.nil
      try simp only [List.getElem_toArray, List.getElem_cons_succ, List.getElem_cons_zero]
      go_simp
      (first
            | (go_at_call 88; (first | (with_reducible refine (HC.out _ _ (Below.next hB1 (hal _)) (hT1.out _)).mono ?_; rintro e w3 ⟨v3, rfl, r3, hb3⟩; have hC3 := Below.next (Below.next hC1 (hal _)) hb3) | (with_reducible refine (HC.out _ _ (Below.next hB1 (hal2 _ _)) (hT2.out _ _)).mono ?_; rintro e w3 ⟨v3, rfl, r3, hb3⟩; have hC3 := Below.next (Below.next hC1 (hal2 _ _)) hb3; have hL := (hL2.out _ _).below hb3) | (with_reducible refine (HC.out _ _ (Below.next hB1 (hal2 _ _)) (hT3.out _ _)).mono ?_; rintro e w3 ⟨v3, rfl, r3, hb3⟩; have hC3 := Below.next (Below.next hC1 (hal2 _ _)) hb3; have hL := (hL3.out _ _).below hb3)); have hB3 := Below.next hA hC3; have hS3 := HS.out _ hC3; have hS3b := fun ob => HS.out _ (Below.next hC3 (alloc_below w3 ob)))
            | (go_at_call 89; (first | (with_reducible refine (HI.out w3).mono ?_; rintro e w4 ⟨v4, rfl, o4, hb4⟩; have hb4 := hb4; (try have hL := hL.below hb4)) | (with_reducible refine (HI.out (w3.alloc _)).mono ?_; rintro e w4 ⟨v4, rfl, o4, hb4'⟩; have hL := (lm_one w3 i _).below hb4'; have hb4 := Below.next (alloc_below w3 _) hb4')); have hC4 := Below.next hC3 hb4; have hB4 := Below.next hA hC4; have hS4 := HS.out _ hC4; have hS4b := fun ob => HS.out _ (Below.next hC4 (alloc_below w4 ob)); have r4 := HR.out _ _ _ _ o4; obtain ⟨a4, k4, rfl⟩ := own_form o4)
            | (go_at_call 90; (first | (with_reducible refine (HN.out w4 _ hL).mono ?_; rintro e w5 ⟨v5, rfl, o5, hb5⟩; have hb5 := hb5) | (with_reducible refine (HN.out (w4.alloc _) _ (lm_one w4 i _)).mono ?_; rintro e w5 ⟨v5, rfl, o5, hb5'⟩; have hb5 := Below.next (alloc_below w4 _) hb5')); have hC5 := Below.next hC4 hb5; have hB5 := Below.next hA hC5; have hS5 := HS.out _ hC5; have r5 := HR2.out _ _ _ _ o5; have r4b := r4.below hb5; have r3b := (r3.below hb4).below hb5; obtain ⟨a5, k5, rfl⟩ := own_form o5; have r3c := r3b; obtain ⟨ab2, cb2, rfl, _⟩ := r3b)
            | (go_at_call 87; refine (HM.out _ _ _ _ r3c r4b r5).mono ?_; rintro e w6 ⟨v6, us6, rfl, y6, hb6⟩; have hC6 := Below.next hC5 hb6; have hB6 := Below.next hA hC6; have hS6 := HS.out _ hC6; obtain ⟨G, cg, rfl, _, _, hcg⟩ := y6.spell (by simp); have d6 := y6.cell (i := 0) (by simp); have e6 := y6.each 0 (by simp); obtain ⟨a6, k6, hu6⟩ := own_form e6; rw [hu6] at d6 e6; have HE6 := hide (own_mono e6 hB5.size); clear e6 hu6 y6))
      first | (refine hK.out _ _ (by ((try dsimp only) <;> (first | with_reducible exact hS6 | with_reducible exact hS5 | with_reducible exact hS4b _ | with_reducible exact hS4 | with_reducible exact hS3b _ | with_reducible exact hS3 | with_reducible exact hS2 _ _ | with_reducible exact hS1 _ | with_reducible exact hS0))) (fun hHeld => ?_)) | (go_wp2_with fail; refine hK.out _ _ (by ((try dsimp only) <;> (first | with_reducible exact hS6 | with_reducible exact hS5 | with_reducible exact hS4b _ | with_reducible exact hS4 | with_reducible exact hS3b _ | with_reducible exact hS3 | with_reducible exact hS2 _ _ | with_reducible exact hS1 _ | with_reducible exact hS0))) (fun hHeld => ?_))
      clear hK K
      (try simp only [Act.put, List.getElem_toArray, List.getElem_cons_succ, List.getElem_cons_zero, List.setIfInBounds_toArray, List.set_cons_zero, List.set_cons_succ])
      (refine wpAnyH_take (i := 12) (oi := _) (v := ?v54) rfl (by kernel_rfl) (by kernel_rfl) (by kernel_rfl) (fun _ _ _ h => h) (Or.inl ⟨by rfl, ?hy54⟩) (by assumption) ?rest54; (case hy54 => (first | (intro w hSw; (try dsimp only at hSw); go_simp; done) | (intro w hSw; (try dsimp only at hSw); go_simp; with_reducible rfl))); (try simp only [Act.put, List.getElem_toArray, List.getElem_cons_succ, List.getElem_cons_zero, List.setIfInBounds_toArray, List.set_cons_zero, List.set_cons_succ]))
      refine wpAnyH_ready (rs := [13]) (by kernel_rfl) (by simp) ?_
      refine AllReadyH.cons (o := _) rfl (fun K hK => ?_) AllReadyH.nil
      try simp only [List.getElem_toArray, List.getElem_cons_succ, List.getElem_cons_zero]
      go_simp
      refine hK.out _ _ (by ((try dsimp only) <;> (first | with_reducible exact hS6 | with_reducible exact hS5 | with_reducible exact hS4b _ | with_reducible exact hS4 | with_reducible exact hS3b _ | with_reducible exact hS3 | with_reducible exact hS2 _ _ | with_reducible exact hS1 _ | with_reducible exact hS0))) (fun hHeld => ?_)
      clear hK K
      (try simp only [Act.put, List.getElem_toArray, List.getElem_cons_succ, List.getElem_cons_zero, List.setIfInBounds_toArray, List.set_cons_zero, List.set_cons_succ])
      (refine wpAnyH_take (i := 14) (oi := _) (v := ?v55) rfl (by kernel_rfl) (by kernel_rfl) (by kernel_rfl) (fun _ _ _ h => h) (Or.inl ⟨by rfl, ?hy55⟩) (by assumption) ?rest55; (case hy55 => (first | (intro w hSw; (try dsimp only at hSw); go_simp; done) | (intro w hSw; (try dsimp only at hSw); go_simp; with_reducible rfl))); (try simp only [Act.put, List.getElem_toArray, List.getElem_cons_succ, List.getElem_cons_zero, List.setIfInBounds_toArray, List.set_cons_zero, List.set_cons_succ]))
      (refine wpAnyH_take (i := 15) (oi := _) (v := ?v56) rfl (by kernel_rfl) (by kernel_rfl) (by kernel_rfl) (fun _ _ _ h => h) (Or.inl ⟨by rfl, ?hy56⟩) (by assumption) ?rest56; (case hy56 => (first | (intro w hSw; (try dsimp only at hSw); go_simp; done) | (intro w hSw; (try dsimp only at hSw); go_simp; with_reducible rfl))); (try simp only [Act.put, List.getElem_toArray, List.getElem_cons_succ, List.getElem_cons_zero, List.setIfInBounds_toArray, List.set_cons_zero, List.set_cons_succ]))
      refine wpAnyH_done (by kernel_rfl) ?_ _
    all_goals
      go_wp2
      go_ret2
      exact ⟨_, rfl, HE6.out, hB6⟩
  · have ht : (bkE p dl pl [i] != 0) = true := bne_iff_ne.2 hz
    have HL : Hid (shaL p dl pl i = []) := by show _ = _; unfold shaL; rw [if_neg hz]
    rw [HL.out]
    obtain ⟨ad, cd, rfl, _, _, _⟩ := h1
    obtain ⟨ap, cp, rfl, _, _, _⟩ := h2
    clear hz HL pb hp
    generalize bkE p dl pl [i] = e0 at *
    generalize dl.length = nd at *
    generalize pl.length = np at *
    rw [plan_eq] at *
    apply Gives.none
    go_enter Tryz.func66, Tryz.ntmps66
    go_upto_region 1 with fail
    generalize w.alloc (.cells #[.int .u8 p.f, .int .i64 p.n, .int .i64 p.k, .int .i64 p.t, .int .i64 p.s, .int .i64 p.e, .int .i64 p.d, .int .i64 p.w] 24) = W0 at *
    go_wp2_with (go_at_call 86; refine (HK.out _ _ (Below.next hA (alloc_below W0 _)) (HO.out _ _)).mono ?_; rintro e w1 ⟨rfl, hb1⟩; have hC1 := Below.next (alloc_below W0 _) hb1; have hB1 := Below.next hA hC1)
    go_ret2
    exact ⟨rfl, hB1⟩

end Go.Proofs.YtpbfgcepmbpkdaaGreat

