import Derived.Test.YtnakbpaiidolbaaGreatBRplC
import Derived.Test.YtnakbpaiidolbaaGreatBTkA
namespace Go.Proofs.YtnakbpaiidolbaaGreat
open Go.RowKit Fld Slp Pln Shr
set_option linter.unusedVariables false
set_option linter.unusedSimpArgs false
set_option maxRecDepth 100000 in
set_option maxHeartbeats 2000000 in
theorem replyReplies_any (w : World) (p : Pn) (vq vl : Value) (q : Pr) (l : List (List Int)) (hp : Ok8p p) (hq : Pm w vq q) (h1 : Rws w vl l) : Calls Tryz.prog 3 #[plv p, vq, vl] w fun e w' => e = .returned (.bool true) ∧ Below w.heap.size w w' := by
 have HR := hide h1
 obtain ⟨vo, vu, rfl, ho, hu⟩ := hq.form
 obtain ⟨ao, ca, rfl, _⟩ := ho.spell
 obtain ⟨au, cu, rfl, _⟩ := hu.spell
 have HG1 := hide (fun W v xs (hb : Below w.heap.size w W) (hr : Rw W v xs) => gReply p q _ v xs W hp (hq.below hb) hr)
 have HD1 := hide (fun W v xs (hb : Below w.heap.size w W) (hr : Rw W v xs) => dReply16 p q _ v xs W hp (hq.below hb) hr)
 have HG2 := hide (fun W (hb : Below w.heap.size w W) => gResults p q _ vl l W hp (hq.below hb) (h1.below hb))
 have HD2 := hide (fun W (hb : Below w.heap.size w W) => dResults16 p q _ vl l W hp (hq.below hb) (h1.below hb))
 have HG3 := hide (fun W (hb : Below w.heap.size w W) => gFits p q _ W hp (hq.below hb))
 have HD3 := hide (fun W (hb : Below w.heap.size w W) => dFits16 p q _ W hp (hq.below hb))
 unfold Gives at HG1 HD1
 unfold GivesL11 at HG2 HD2
 have HX := hide anch16
 unfold Ans at HX
 obtain ⟨q1, q2⟩ := rs_wd p q h1.wordsL
 have WD2 : Hid (∀ W lo hi v us, Lss W lo hi v us (rsL p q l) → Rws W v (rsL p q l)) := fun W lo hi v us h => h.rws q2 (by omega)
 have WD1 : Hid (∀ xs, (∀ x ∈ xs, 0 ≤ x ∧ x ≤ 18446744073709551615) → ∀ W base n v, World.ownsRow W base 58 1 v n (vals (rpL p q xs)) → Row W v (rpL p q xs)) := fun xs hw W base n v h => ((rp_wd p q hw).row h).1
 obtain ⟨al, cl, rfl, hl1, hl2, _⟩ := h1
 generalize rsL p q l = r2 at *
 generalize rsE p q l = e2 at *
 generalize ftQ p q = ft at *
 clear ho hu hq hp q1 q2
 obtain ⟨n, Hn⟩ : ∃ n, Hid (l.length = n) := ⟨_, rfl⟩
 rw [Hn.out] at HR HG2 HD2 hl1 hl2 ⊢
 obtain ⟨W1, hW, hA, hS⟩ := pq_box w p q.inp (.slice ao q.ops.length ca) (.slice au q.outs.length cu) 24 28
 have HW := hide hW
 have HS := hide hS
 clear hW hS
 rw [plan_eq] at *
 go_enter Tryz.func3, Tryz.ntmps3
 go_upto_region 2 with fail
 rw [HW.out]
 go_upto_if 18 with fail
 go_cut [7] from 18 to 21 (fun v7 wx => ∃ xs, Hid (Rw W1 v7 xs) ∧ wx = W1)
 case first =>
  by_cases h0 : 0 < n
  · have h0' : (0 : Int) < (n : Int) := by omega
    have hn0 : ¬ n = 0 := by omega
    obtain ⟨a', c', e, _, _, hcell⟩ := HR.out
    cases e
    obtain ⟨b, off, rfl, hbl, hc⟩ := hcell (by intro e; rw [e] at h0; simp at h0)
    obtain ⟨u, hcu, hru⟩ := hc 0 h0
    have hck := (hA.cell (p := ⟨b, off + 0, none⟩) hbl).trans hcu
    have HU := hide (hru.below hA)
    rw [Nat.add_zero] at hck
    obtain ⟨au', cu', rfl, _⟩ := hru.spell
    clear hcell hc hcu hru HR
    generalize (l.getD 0 []).length = ln at *
    go_wp2
    go_meet
    case rel => exact ⟨_, HU, rfl⟩
  · have h0' : ¬ (0 : Int) < (n : Int) := by omega
    go_wp2
    go_meet
    case rel => exact ⟨[], rw0 W1, rfl⟩
 case rest =>
  obtain ⟨xs, HU, rfl⟩ := hcut
  have HWx := hide (WD1.out xs HU.out.words)
  have HY1 := hide (fun W (hb : Below wc.heap.size wc W) => HG1.out W _ xs (Below.next hA hb) (HU.out.below hb))
  have HZ1 := hide (fun W (hb : Below wc.heap.size wc W) => HD1.out W _ xs (Below.next hA hb) (HU.out.below hb))
  obtain ⟨a7, c7', hsp, _⟩ := HU.out.spell
  subst hsp
  clear HU HG1 HD1 WD1
  generalize rpL p q xs = r1 at *
  generalize rpE p q xs = e1 at *
  generalize xs.length = ln at *
  obtain ⟨⟨c0, c1, c2, c3, c4, c5, c6, c7⟩, d0, d1, d2⟩ := HS.out _ (Below.refl _ _)
  go_upto_region 8 with (first
   | (go_at_call 7; refine (HY1.out _ (Below.refl _ _)).mono ?_; rintro e w1 ⟨v1, rfl, x1, hb1⟩; have hB1 := Below.next hA hb1; have R1 := hide (HWx.out _ _ _ _ x1); obtain ⟨a1, k1, rfl⟩ := own_form x1; clear x1; clear c0 c1 c2 c3 c4 c5 c6 c7 d0 d1 d2; obtain ⟨⟨c0, c1, c2, c3, c4, c5, c6, c7⟩, d0, d1, d2⟩ := HS.out _ hb1)
   | (go_at_call 8; refine (HZ1.out _ hb1).mono ?_; rintro e w2 ⟨v2, rfl, x2, hb2⟩; have hC2 := Below.next hb1 hb2; have hB2 := Below.next hA hC2; have R2 := hide (HWx.out _ _ _ _ x2); obtain ⟨a2, k2, rfl⟩ := own_form x2; clear x2; clear c0 c1 c2 c3 c4 c5 c6 c7 d0 d1 d2; obtain ⟨⟨c0, c1, c2, c3, c4, c5, c6, c7⟩, d0, d1, d2⟩ := HS.out _ hC2)
   | (go_at_call 9; refine (HG2.out _ hB2).mono ?_; rintro e w3 ⟨v3, us3, rfl, x3, hb3⟩; have hC3 := Below.next hC2 hb3; have hB3 := Below.next hA hC3; have R3 := hide (WD2.out _ _ _ _ _ x3); obtain ⟨a3, k3, rfl⟩ := own_form x3.row; clear x3; clear c0 c1 c2 c3 c4 c5 c6 c7 d0 d1 d2; obtain ⟨⟨c0, c1, c2, c3, c4, c5, c6, c7⟩, d0, d1, d2⟩ := HS.out _ hC3)
   | (go_at_call 10; refine (HD2.out _ hB3).mono ?_; rintro e w4 ⟨v4, us4, rfl, x4, hb4⟩; have hC4 := Below.next hC3 hb4; have hB4 := Below.next hA hC4; have R4 := hide (WD2.out _ _ _ _ _ x4); obtain ⟨a4, k4, rfl⟩ := own_form x4.row; clear x4; clear c0 c1 c2 c3 c4 c5 c6 c7 d0 d1 d2; obtain ⟨⟨c0, c1, c2, c3, c4, c5, c6, c7⟩, d0, d1, d2⟩ := HS.out _ hC4))
  have Q1 := hide (((R1.out.below hb2).below hb3).below hb4)
  have Q2 := hide ((R2.out.below hb3).below hb4)
  have Q3 := hide (R3.out.below hb4)
  have Q4 := R4
  clear R1 R2 R3 R4 c0 c1 c2 c3 c4 c5 c6 c7 d0 d1 d2 hb1 hb2 hb3 hb4 hB1 hB2 hB3 hC2 hC3 HY1 HZ1 HG2 HD2 HWx WD2
  have hdr : Below w4.heap.size w4 w4.drew := (Below.refl _ w4).drew
  have hC5 := Below.next hC4 hdr
  have hB5 := Below.next hB4 hdr
  have hS0 := HS.out _ hC5
  generalize r1.length = n1 at *
  generalize r2.length = n2 at *
  refine wp_region_held_drew (S := (fun V => (V.cell? ⟨w.heap.size, 0, none⟩ = some (.int .u8 p.f) ∧ V.cell? ⟨w.heap.size, 1, none⟩ = some (.int .i64 p.n) ∧ V.cell? ⟨w.heap.size, 2, none⟩ = some (.int .i64 p.k) ∧ V.cell? ⟨w.heap.size, 3, none⟩ = some (.int .i64 p.t) ∧ V.cell? ⟨w.heap.size, 4, none⟩ = some (.int .i64 p.s) ∧ V.cell? ⟨w.heap.size, 5, none⟩ = some (.int .i64 p.e) ∧ V.cell? ⟨w.heap.size, 6, none⟩ = some (.int .i64 p.d) ∧ V.cell? ⟨w.heap.size, 7, none⟩ = some (.int .i64 p.w)) ∧ V.cell? ⟨w.heap.size + 1, 0, none⟩ = some (.int .i64 q.inp) ∧ V.cell? ⟨w.heap.size + 1, 1, none⟩ = some (.slice ao q.ops.length ca) ∧ V.cell? ⟨w.heap.size + 1, 2, none⟩ = some (.slice au q.outs.length cu))) (by kernel_rfl) (by ((try dsimp only) <;> (first | with_reducible exact hS6 | with_reducible exact hS5 | with_reducible exact hS4 | with_reducible exact hS3 | with_reducible exact hS2 | with_reducible exact hS1 | with_reducible exact hS0))) (fun hHeld => ?_)
  (refine tkY 0 ?_; (try simp only [ly0, ly1, ly2, ly3, ly4, ly5, ly6, ly7]))
  (refine tkY 1 ?_; (try simp only [ly0, ly1, ly2, ly3, ly4, ly5, ly6, ly7]))
  (refine tkY 3 ?_; (try simp only [ly0, ly1, ly2, ly3, ly4, ly5, ly6, ly7]))
  (refine tkY 4 ?_; (try simp only [ly0, ly1, ly2, ly3, ly4, ly5, ly6, ly7]))
  refine rd1 2 (fun K hK => ?_)
  (try simp only [ly0, ly1, ly2, ly3, ly4, ly5, ly6, ly7])
  go_simp
  (go_at_call 11; with_reducible refine (HG3.out _ hB5).mono ?_; rintro e w5 ⟨rfl, hb5⟩; have hC6 := Below.next hC5 hb5; have hB6 := Below.next hB5 hb5; have hE6 := Below.next hdr hb5; have hS1 := HS.out _ hC6)
  first | (refine hK.out _ _ (by ((try dsimp only) <;> (first | with_reducible exact hS6 | with_reducible exact hS5 | with_reducible exact hS4 | with_reducible exact hS3 | with_reducible exact hS2 | with_reducible exact hS1 | with_reducible exact hS0))) (fun hHeld => ?_)) | (go_wp2_with fail; refine hK.out _ _ (by ((try dsimp only) <;> (first | with_reducible exact hS6 | with_reducible exact hS5 | with_reducible exact hS4 | with_reducible exact hS3 | with_reducible exact hS2 | with_reducible exact hS1 | with_reducible exact hS0))) (fun hHeld => ?_))
  clear hK K
  (try simp only [ly0, ly1, ly2, ly3, ly4, ly5, ly6, ly7])
  refine rd1 5 (fun K hK => ?_)
  (try simp only [ly0, ly1, ly2, ly3, ly4, ly5, ly6, ly7])
  go_simp
  (go_at_call 12; with_reducible refine (HD3.out _ hB6).mono ?_; rintro e w6 ⟨rfl, hb6⟩; have hC7 := Below.next hC6 hb6; have hB7 := Below.next hB6 hb6; have hE7 := Below.next hE6 hb6; have hS2 := HS.out _ hC7)
  first | (refine hK.out _ _ (by ((try dsimp only) <;> (first | with_reducible exact hS6 | with_reducible exact hS5 | with_reducible exact hS4 | with_reducible exact hS3 | with_reducible exact hS2 | with_reducible exact hS1 | with_reducible exact hS0))) (fun hHeld => ?_)) | (go_wp2_with fail; refine hK.out _ _ (by ((try dsimp only) <;> (first | with_reducible exact hS6 | with_reducible exact hS5 | with_reducible exact hS4 | with_reducible exact hS3 | with_reducible exact hS2 | with_reducible exact hS1 | with_reducible exact hS0))) (fun hHeld => ?_))
  clear hK K
  (try simp only [ly0, ly1, ly2, ly3, ly4, ly5, ly6, ly7])
  (refine tkY 6 ?_; (try simp only [ly0, ly1, ly2, ly3, ly4, ly5, ly6, ly7]))
  (refine tkY 7 ?_; (try simp only [ly0, ly1, ly2, ly3, ly4, ly5, ly6, ly7]))
  (refine tkY 8 ?_; (try simp only [ly0, ly1, ly2, ly3, ly4, ly5, ly6, ly7]))
  (refine tkY 9 ?_; (try simp only [ly0, ly1, ly2, ly3, ly4, ly5, ly6, ly7]))
  refine rd1 10 (fun K hK => ?_)
  (try simp only [ly0, ly1, ly2, ly3, ly4, ly5, ly6, ly7])
  go_simp
  (go_at_call 13; with_reducible refine (Same_yes _ _ _ _ (Q1.out.below hE7) (Q2.out.below hE7)).mono ?_; rintro e w7 ⟨rfl, hb7⟩; have hC8 := Below.next hC7 hb7; have hB8 := Below.next hB7 hb7; have hE8 := Below.next hE7 hb7; have hS3 := HS.out _ hC8)
  first | (refine hK.out _ _ (by ((try dsimp only) <;> (first | with_reducible exact hS6 | with_reducible exact hS5 | with_reducible exact hS4 | with_reducible exact hS3 | with_reducible exact hS2 | with_reducible exact hS1 | with_reducible exact hS0))) (fun hHeld => ?_)) | (go_wp2_with fail; refine hK.out _ _ (by ((try dsimp only) <;> (first | with_reducible exact hS6 | with_reducible exact hS5 | with_reducible exact hS4 | with_reducible exact hS3 | with_reducible exact hS2 | with_reducible exact hS1 | with_reducible exact hS0))) (fun hHeld => ?_))
  clear hK K
  (try simp only [ly0, ly1, ly2, ly3, ly4, ly5, ly6, ly7])
  (refine tkY 11 ?_; (try simp only [ly0, ly1, ly2, ly3, ly4, ly5, ly6, ly7]))
  (refine tkY 12 ?_; (try simp only [ly0, ly1, ly2, ly3, ly4, ly5, ly6, ly7]))
  (refine tkY 13 ?_; (try simp only [ly0, ly1, ly2, ly3, ly4, ly5, ly6, ly7]))
  (refine tkY 14 ?_; (try simp only [ly0, ly1, ly2, ly3, ly4, ly5, ly6, ly7]))
  (refine tkY 15 ?_; (try simp only [ly0, ly1, ly2, ly3, ly4, ly5, ly6, ly7]))
  (refine tkY 16 ?_; (try simp only [ly0, ly1, ly2, ly3, ly4, ly5, ly6, ly7]))
  (refine tkY 17 ?_; (try simp only [ly0, ly1, ly2, ly3, ly4, ly5, ly6, ly7]))
  (refine tkY 18 ?_; (try simp only [ly0, ly1, ly2, ly3, ly4, ly5, ly6, ly7]))
  (refine tkY 19 ?_; (try simp only [ly0, ly1, ly2, ly3, ly4, ly5, ly6, ly7]))
  refine rd1 20 (fun K hK => ?_)
  (try simp only [ly0, ly1, ly2, ly3, ly4, ly5, ly6, ly7])
  go_simp
  (go_at_call 14; with_reducible refine (Rows_h _ _ _ _ (Q3.out.below hE8) (Q4.out.below hE8)).mono ?_; rintro e w8 ⟨rfl, hb8⟩; have hC9 := Below.next hC8 hb8; have hB9 := Below.next hB8 hb8; have hS4 := HS.out _ hC9)
  first | (refine hK.out _ _ (by ((try dsimp only) <;> (first | with_reducible exact hS6 | with_reducible exact hS5 | with_reducible exact hS4 | with_reducible exact hS3 | with_reducible exact hS2 | with_reducible exact hS1 | with_reducible exact hS0))) (fun hHeld => ?_)) | (go_wp2_with fail; refine hK.out _ _ (by ((try dsimp only) <;> (first | with_reducible exact hS6 | with_reducible exact hS5 | with_reducible exact hS4 | with_reducible exact hS3 | with_reducible exact hS2 | with_reducible exact hS1 | with_reducible exact hS0))) (fun hHeld => ?_))
  clear hK K
  (try simp only [ly0, ly1, ly2, ly3, ly4, ly5, ly6, ly7])
  (refine tkY 21 ?_; (try simp only [ly0, ly1, ly2, ly3, ly4, ly5, ly6, ly7]))
  (refine tkY 22 ?_; (try simp only [ly0, ly1, ly2, ly3, ly4, ly5, ly6, ly7]))
  (refine tkY 23 ?_; (try simp only [ly0, ly1, ly2, ly3, ly4, ly5, ly6, ly7]))
  (refine tkY 24 ?_; (try simp only [ly0, ly1, ly2, ly3, ly4, ly5, ly6, ly7]))
  (refine tkY 25 ?_; (try simp only [ly0, ly1, ly2, ly3, ly4, ly5, ly6, ly7]))
  (refine tkY 26 ?_; (try simp only [ly0, ly1, ly2, ly3, ly4, ly5, ly6, ly7]))
  (refine tkY 27 ?_; (try simp only [ly0, ly1, ly2, ly3, ly4, ly5, ly6, ly7]))
  refine rd1 28 (fun K hK => ?_)
  (try simp only [ly0, ly1, ly2, ly3, ly4, ly5, ly6, ly7])
  go_simp
  (go_at_call 15; with_reducible refine (HX.out _).mono ?_; rintro e w9 ⟨rfl, hb9⟩; have hC10 := Below.next hC9 hb9; have hB10 := Below.next hB9 hb9; have hS5 := HS.out _ hC10)
  first | (refine hK.out _ _ (by ((try dsimp only) <;> (first | with_reducible exact hS6 | with_reducible exact hS5 | with_reducible exact hS4 | with_reducible exact hS3 | with_reducible exact hS2 | with_reducible exact hS1 | with_reducible exact hS0))) (fun hHeld => ?_)) | (go_wp2_with fail; refine hK.out _ _ (by ((try dsimp only) <;> (first | with_reducible exact hS6 | with_reducible exact hS5 | with_reducible exact hS4 | with_reducible exact hS3 | with_reducible exact hS2 | with_reducible exact hS1 | with_reducible exact hS0))) (fun hHeld => ?_))
  clear hK K
  (try simp only [ly0, ly1, ly2, ly3, ly4, ly5, ly6, ly7])
  (refine tkY 29 ?_; (try simp only [ly0, ly1, ly2, ly3, ly4, ly5, ly6, ly7]))
  (refine tkY 30 ?_; (try simp only [ly0, ly1, ly2, ly3, ly4, ly5, ly6, ly7]))
  refine wpAnyH_done (by kernel_rfl) ?_ _
  go_wp2
  go_ret
  exact ⟨rfl, hB10⟩
end Go.Proofs.YtnakbpaiidolbaaGreat
