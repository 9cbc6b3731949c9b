/-
  The statements of layer 15: PrivacyFresh walked. (mkyf.py)
-/
import Derived.Test.YtpbfgcepmbpkdaaGreatBunYH
import Derived.Test.YtpbfgcepmbpkdaaGreatBunYJ
import Derived.Test.YtpbfgcepmbpkdaaGreatBunYP
import Derived.Test.YtpbfgcepmbpkdaaGreatBunYR
import Derived.Test.YtpbfgcepmbpkdaaGreatBunYI
namespace Go.Proofs.YtpbfgcepmbpkdaaGreat
open Go.RowKit Fld Pln Shr
set_option linter.unusedVariables false
set_option linter.unusedSimpArgs false

theorem appI0Y (W : World) (B : List Int) (vb : Value) (base : Nat) (hB : Lm iw 1 W vb B) (hl : B.length ≤ 17592186044416) (hb : base ≤ W.heap.size) :
    ∃ (ta : Option Addr) (tc : Nat) (W' : World), (Builtin.append_ #[25, 25] 25 #[.slice (some ⟨W.heap.size, 0, none⟩) 0 0, vb]).run Tryz.prog (W.alloc (.cells #[] 3)) = .ok (.slice ta B.length tc) W' ∧ Lm iw 1 W' (.slice ta B.length tc) B ∧ Below W.heap.size W W' := by
  have hA := alloc_below W (.cells #[] 3)
  obtain ⟨v', W', hr, ho, hb', _, _⟩ := appI (W.alloc (.cells #[] 3)) W.heap.size _ [] B vb (own_zero W 3 1 W.heap.size (Nat.le_refl _)) (hB.below hA) (by simp; omega) hA.size
  simp only [List.length_nil, Nat.zero_add, List.nil_append] at ho
  obtain ⟨ta, tc, rfl⟩ := own_slice ho
  exact ⟨ta, tc, W', hr, lm_of_own iw_len (by decide) ho (by omega), hA.trans hb'⟩

set_option maxRecDepth 100000 in
set_option maxHeartbeats 4000000 in
theorem privacyFresh_any (w : World) (p : Pn) (vw vd vp vo : Value) (who : List Int) (dl pl ol : List (List Int)) (hp : Ok8p p) (h3 : Lm iw 1 w vw who) (h1 : Rws w vd dl) (h2 : Rws w vp pl) (h4 : Rws w vo ol) (hl3 : who.length ≤ 17592186043904) (hl1 : dl.length ≤ 5864062014634) (hl2 : pl.length ≤ 5864062014634) (hl4 : ol.length ≤ 5864062014634) : Calls Tryz.prog 7 #[plv p, vw, .agg #[vd, vp, vo]] w fun e w' => e = .returned (.bool true) ∧ Below w.heap.size w w' := by
  have HC1 := hide (fun W (hb : Below w.heap.size w W) => CopyRows_all vd dl W (h1.below hb) hl1)
  have HC2 := hide (fun W (hb : Below w.heap.size w W) => CopyRows_all vp pl W (h2.below hb) hl2)
  have HC3 := hide (fun W (hb : Below w.heap.size w W) => CopyRows_all vo ol W (h4.below hb) hl4)
  have HI := hide (fun W (hb : Below w.heap.size w W) => appI0Y W who vw W.heap.size (h3.below hb) (by omega) (Nat.le_refl _))
  have HA := hide (fun W v0 v1 v2 v3 x0 x1 x2 x3 => gTwin p v0 v1 v2 v3 who dl pl ol W hp x0 x1 x2 x3)
  have HP := hide (fun W v0 v1 v2 x0 x1 x2 => gSeen p v0 v1 v2 who dl pl W hp x0 x1 x2)
  have HD := hide (fun W (hb : Below w.heap.size w W) => dTwin p vw vd vp vo who dl pl ol W hp (h3.below hb) (h1.below hb) (h2.below hb) (h4.below hb))
  unfold GivesM at HA HP
  unfold GivesW at HD
  have HX := hide anch15
  obtain ⟨q3, q4⟩ := tw_wd (p := p) (who := who) h1.wordsH h2.wordsH h4.wordsH
  obtain ⟨q1, q2⟩ := se_wd (p := p) (who := who) (fun i => getD_wd (ans_wd (p := p) h1.wordsH h2.wordsH).2.1.1 i)
  have R1 := hide h1
  have R2 := hide h2
  have R4 := hide h4
  have R3 := hide h3
  have W1' := h1.wordsH
  have W2' := h2.wordsH
  have W4' := h4.wordsH
  have RD : Hid (∀ W lo hi v us, Lss W lo hi v us dl → Rws W v dl) := fun W lo hi v us h => h.rws (getD_wd W1') (by omega)
  have RP : Hid (∀ W lo hi v us, Lss W lo hi v us pl → Rws W v pl) := fun W lo hi v us h => h.rws (getD_wd W2') (by omega)
  have RE : Hid (∀ W lo hi v us, Lss W lo hi v us ol → Rws W v ol) := fun W lo hi v us h => h.rws (getD_wd W4') (by omega)
  have RA : Hid (∀ W lo v us, Mtx W lo v us (twL p who dl pl ol) → Rws W v (twL p who dl pl ol)) := fun W lo v us h => h.rws (getD_wd q3) (by omega)
  have HB1 : Hid (Bwd (twL p who dl pl ol)) := getD_wd q3
  have HB2 : Hid (Bwd (seL p who dl pl)) := getD_wd q1
  have HPl : Hid ((seL p who dl pl).length ≤ 64) := q2
  have HAl : Hid ((twL p who dl pl ol).length ≤ 64) := q4
  obtain ⟨ad, cd, rfl, _, _, _⟩ := h1
  obtain ⟨ap, cp, rfl, _, _, _⟩ := h2
  obtain ⟨ao, co', rfl, _, _, _⟩ := h4
  obtain ⟨aw, cw, rfl, _⟩ := h3.spell
  clear hp q1 q2 q3 q4 W1' W2' W4' h3
  generalize twL p who dl pl ol = al at *
  generalize seL p who dl pl = po at *
  generalize twE p who dl pl ol = e0 at *
  generalize seE p who dl pl = e9 at *
  obtain ⟨nd, Hnd⟩ : ∃ nd, Hid (dl.length = nd) := ⟨_, rfl⟩
  obtain ⟨np, Hnp⟩ : ∃ np, Hid (pl.length = np) := ⟨_, rfl⟩
  obtain ⟨no, Hno⟩ : ∃ no, Hid (ol.length = no) := ⟨_, rfl⟩
  obtain ⟨nw, Hnw⟩ : ∃ nw, Hid (who.length = nw) := ⟨_, rfl⟩
  rw [Hnd.out] at HC1 HD R1 hl1 ⊢
  rw [Hnp.out] at HC2 HD R2 hl2 ⊢
  rw [Hno.out] at HC3 HD R4 hl4 ⊢
  rw [Hnw.out] at HI HD R3 hl3 ⊢
  rw [plan_eq] at *
  obtain ⟨W1, hW, hA, hS⟩ := case_box w p (.slice ad nd cd) (.slice ap np cp) (.slice ao no co') 28
  have HW := hide hW
  have HS := hide hS
  clear hW hS
  go_enter Tryz.func7, Tryz.ntmps7
  go_upto_region 1 with fail
  rw [HW.out]
  have hdr : Below W1.heap.size W1 W1.drew := (Below.refl _ W1).drew
  have hS0 := (HS.out _ hdr).2
  have hB0 := Below.next hA hdr
  refine wp_region_held_drew (S := (fun V => V.cell? ⟨w.heap.size + 1, 0, none⟩ = some (.slice ad nd cd) ∧ V.cell? ⟨w.heap.size + 1, 1, none⟩ = some (.slice ap np cp) ∧ V.cell? ⟨w.heap.size + 1, 2, none⟩ = some (.slice ao no co'))) (by kernel_rfl) (by ((try dsimp only) <;> (first | with_reducible exact hS3 | with_reducible exact hS2 | with_reducible exact hS1 | with_reducible exact hS0))) (fun hHeld => ?_)
  (refine wpAnyH_take (i := 0) (oi := _) (v := ?v178) rfl (by kernel_rfl) (by kernel_rfl) (by kernel_rfl) (fun _ _ _ h => h) (Or.inl ⟨by rfl, ?hy178⟩) (by assumption) ?rest178; (case hy178 => (first | (intro w hSw; (try dsimp only at hSw); go_simp; done) | (intro w hSw; (try dsimp only at hSw); go_simp; with_reducible rfl))); (try simp only [Act.put, List.getElem_toArray, List.getElem_cons_succ, List.getElem_cons_zero, List.setIfInBounds_toArray, List.set_cons_zero, List.set_cons_succ]))
  (refine wpAnyH_take (i := 1) (oi := _) (v := ?v179) rfl (by kernel_rfl) (by kernel_rfl) (by kernel_rfl) (fun _ _ _ h => h) (Or.inl ⟨by rfl, ?hy179⟩) (by assumption) ?rest179; (case hy179 => (first | (intro w hSw; (try dsimp only at hSw); go_simp; done) | (intro w hSw; (try dsimp only at hSw); go_simp; with_reducible rfl))); (try simp only [Act.put, List.getElem_toArray, List.getElem_cons_succ, List.getElem_cons_zero, List.setIfInBounds_toArray, List.set_cons_zero, List.set_cons_succ]))
  (refine wpAnyH_take (i := 3) (oi := _) (v := ?v180) rfl (by kernel_rfl) (by kernel_rfl) (by kernel_rfl) (fun _ _ _ h => h) (Or.inl ⟨by rfl, ?hy180⟩) (by assumption) ?rest180; (case hy180 => (first | (intro w hSw; (try dsimp only at hSw); go_simp; done) | (intro w hSw; (try dsimp only at hSw); go_simp; with_reducible rfl))); (try simp only [Act.put, List.getElem_toArray, List.getElem_cons_succ, List.getElem_cons_zero, List.setIfInBounds_toArray, List.set_cons_zero, List.set_cons_succ]))
  (refine wpAnyH_take (i := 4) (oi := _) (v := ?v181) rfl (by kernel_rfl) (by kernel_rfl) (by kernel_rfl) (fun _ _ _ h => h) (Or.inl ⟨by rfl, ?hy181⟩) (by assumption) ?rest181; (case hy181 => (first | (intro w hSw; (try dsimp only at hSw); go_simp; done) | (intro w hSw; (try dsimp only at hSw); go_simp; with_reducible rfl))); (try simp only [Act.put, List.getElem_toArray, List.getElem_cons_succ, List.getElem_cons_zero, List.setIfInBounds_toArray, List.set_cons_zero, List.set_cons_succ]))
  (refine wpAnyH_take (i := 6) (oi := _) (v := ?v182) rfl (by kernel_rfl) (by kernel_rfl) (by kernel_rfl) (fun _ _ _ h => h) (Or.inl ⟨by rfl, ?hy182⟩) (by assumption) ?rest182; (case hy182 => (first | (intro w hSw; (try dsimp only at hSw); go_simp; done) | (intro w hSw; (try dsimp only at hSw); go_simp; with_reducible rfl))); (try simp only [Act.put, List.getElem_toArray, List.getElem_cons_succ, List.getElem_cons_zero, List.setIfInBounds_toArray, List.set_cons_zero, List.set_cons_succ]))
  (refine wpAnyH_take (i := 7) (oi := _) (v := ?v183) rfl (by kernel_rfl) (by kernel_rfl) (by kernel_rfl) (fun _ _ _ h => h) (Or.inl ⟨by rfl, ?hy183⟩) (by assumption) ?rest183; (case hy183 => (first | (intro w hSw; (try dsimp only at hSw); go_simp; done) | (intro w hSw; (try dsimp only at hSw); go_simp; with_reducible rfl))); (try simp only [Act.put, List.getElem_toArray, List.getElem_cons_succ, List.getElem_cons_zero, List.setIfInBounds_toArray, List.set_cons_zero, List.set_cons_succ]))
  refine wpAnyH_ready (rs := [2]) (by kernel_rfl) (by simp) ?_
  refine AllReadyH.cons (o := _) rfl (fun K hK => ?_) AllReadyH.nil
  try simp only [List.getElem_toArray, List.getElem_cons_succ, List.getElem_cons_zero]
  go_simp
  (first
        | (go_at_call 18; with_reducible refine (HC3.out _ hB3).mono ?_; rintro e w4 ⟨v4, us4, rfl, x4, hb4⟩; have hC4 := Below.next hC3 hb4; have hB4 := Below.next hA hC4; have hS3 := (HS.out _ hC4).2; have RO3 := hide (RE.out _ _ _ _ _ x4); have RQ3 := hide (RQ2.out.below hb4); have RX3 := hide (RX2.out.below hb4); obtain ⟨a4, c4, rfl⟩ := own_form x4.row; clear x4)
        | (go_at_call 18; with_reducible refine (HC2.out _ hB2).mono ?_; rintro e w3 ⟨v3, us3, rfl, x3, hb3⟩; have hC3 := Below.next hC2 hb3; have hB3 := Below.next hA hC3; have hS2 := (HS.out _ hC3).2; have RQ2 := hide (RP.out _ _ _ _ _ x3); have RX2 := hide (RX1.out.below hb3); obtain ⟨a3, c3, rfl⟩ := own_form x3.row; clear x3)
        | (go_at_call 18; with_reducible refine (HC1.out _ hB0).mono ?_; rintro e w2 ⟨v2, us2, rfl, x2, hb2⟩; have hC2 := Below.next hdr hb2; have hB2 := Below.next hA hC2; have hS1 := (HS.out _ hC2).2; have RX1 := hide (RD.out _ _ _ _ _ x2); obtain ⟨a2, c2, rfl⟩ := own_form x2.row; clear x2))
  first | (refine hK.out _ _ (by ((try dsimp only) <;> (first | with_reducible exact hS3 | with_reducible exact hS2 | with_reducible exact hS1 | with_reducible exact hS0))) (fun hHeld => ?_)) | (go_wp2_with fail; refine hK.out _ _ (by ((try dsimp only) <;> (first | with_reducible exact hS3 | with_reducible exact hS2 | with_reducible exact hS1 | with_reducible exact hS0))) (fun hHeld => ?_))
  clear hK K
  (try simp only [Act.put, List.getElem_toArray, List.getElem_cons_succ, List.getElem_cons_zero, List.setIfInBounds_toArray, List.set_cons_zero, List.set_cons_succ])
  refine wpAnyH_ready (rs := [5]) (by kernel_rfl) (by simp) ?_
  refine AllReadyH.cons (o := _) rfl (fun K hK => ?_) AllReadyH.nil
  try simp only [List.getElem_toArray, List.getElem_cons_succ, List.getElem_cons_zero]
  go_simp
  (first
        | (go_at_call 18; with_reducible refine (HC3.out _ hB3).mono ?_; rintro e w4 ⟨v4, us4, rfl, x4, hb4⟩; have hC4 := Below.next hC3 hb4; have hB4 := Below.next hA hC4; have hS3 := (HS.out _ hC4).2; have RO3 := hide (RE.out _ _ _ _ _ x4); have RQ3 := hide (RQ2.out.below hb4); have RX3 := hide (RX2.out.below hb4); obtain ⟨a4, c4, rfl⟩ := own_form x4.row; clear x4)
        | (go_at_call 18; with_reducible refine (HC2.out _ hB2).mono ?_; rintro e w3 ⟨v3, us3, rfl, x3, hb3⟩; have hC3 := Below.next hC2 hb3; have hB3 := Below.next hA hC3; have hS2 := (HS.out _ hC3).2; have RQ2 := hide (RP.out _ _ _ _ _ x3); have RX2 := hide (RX1.out.below hb3); obtain ⟨a3, c3, rfl⟩ := own_form x3.row; clear x3)
        | (go_at_call 18; with_reducible refine (HC1.out _ hB0).mono ?_; rintro e w2 ⟨v2, us2, rfl, x2, hb2⟩; have hC2 := Below.next hdr hb2; have hB2 := Below.next hA hC2; have hS1 := (HS.out _ hC2).2; have RX1 := hide (RD.out _ _ _ _ _ x2); obtain ⟨a2, c2, rfl⟩ := own_form x2.row; clear x2))
  first | (refine hK.out _ _ (by ((try dsimp only) <;> (first | with_reducible exact hS3 | with_reducible exact hS2 | with_reducible exact hS1 | with_reducible exact hS0))) (fun hHeld => ?_)) | (go_wp2_with fail; refine hK.out _ _ (by ((try dsimp only) <;> (first | with_reducible exact hS3 | with_reducible exact hS2 | with_reducible exact hS1 | with_reducible exact hS0))) (fun hHeld => ?_))
  clear hK K
  (try simp only [Act.put, List.getElem_toArray, List.getElem_cons_succ, List.getElem_cons_zero, List.setIfInBounds_toArray, List.set_cons_zero, List.set_cons_succ])
  refine wpAnyH_ready (rs := [8]) (by kernel_rfl) (by simp) ?_
  refine AllReadyH.cons (o := _) rfl (fun K hK => ?_) AllReadyH.nil
  try simp only [List.getElem_toArray, List.getElem_cons_succ, List.getElem_cons_zero]
  go_simp
  (first
        | (go_at_call 18; with_reducible refine (HC3.out _ hB3).mono ?_; rintro e w4 ⟨v4, us4, rfl, x4, hb4⟩; have hC4 := Below.next hC3 hb4; have hB4 := Below.next hA hC4; have hS3 := (HS.out _ hC4).2; have RO3 := hide (RE.out _ _ _ _ _ x4); have RQ3 := hide (RQ2.out.below hb4); have RX3 := hide (RX2.out.below hb4); obtain ⟨a4, c4, rfl⟩ := own_form x4.row; clear x4)
        | (go_at_call 18; with_reducible refine (HC2.out _ hB2).mono ?_; rintro e w3 ⟨v3, us3, rfl, x3, hb3⟩; have hC3 := Below.next hC2 hb3; have hB3 := Below.next hA hC3; have hS2 := (HS.out _ hC3).2; have RQ2 := hide (RP.out _ _ _ _ _ x3); have RX2 := hide (RX1.out.below hb3); obtain ⟨a3, c3, rfl⟩ := own_form x3.row; clear x3)
        | (go_at_call 18; with_reducible refine (HC1.out _ hB0).mono ?_; rintro e w2 ⟨v2, us2, rfl, x2, hb2⟩; have hC2 := Below.next hdr hb2; have hB2 := Below.next hA hC2; have hS1 := (HS.out _ hC2).2; have RX1 := hide (RD.out _ _ _ _ _ x2); obtain ⟨a2, c2, rfl⟩ := own_form x2.row; clear x2))
  first | (refine hK.out _ _ (by ((try dsimp only) <;> (first | with_reducible exact hS3 | with_reducible exact hS2 | with_reducible exact hS1 | with_reducible exact hS0))) (fun hHeld => ?_)) | (go_wp2_with fail; refine hK.out _ _ (by ((try dsimp only) <;> (first | with_reducible exact hS3 | with_reducible exact hS2 | with_reducible exact hS1 | with_reducible exact hS0))) (fun hHeld => ?_))
  clear hK K
  (try simp only [Act.put, List.getElem_toArray, List.getElem_cons_succ, List.getElem_cons_zero, List.setIfInBounds_toArray, List.set_cons_zero, List.set_cons_succ])
  (refine wpAnyH_take (i := 9) (oi := _) (v := ?v184) rfl (by kernel_rfl) (by kernel_rfl) (by kernel_rfl) (fun _ _ _ h => h) (Or.inl ⟨by rfl, ?hy184⟩) (by assumption) ?rest184; (case hy184 => (first | (intro w hSw; (try dsimp only at hSw); go_simp; done) | (intro w hSw; (try dsimp only at hSw); go_simp; with_reducible rfl))); (try simp only [Act.put, List.getElem_toArray, List.getElem_cons_succ, List.getElem_cons_zero, List.setIfInBounds_toArray, List.set_cons_zero, List.set_cons_succ]))
  (refine wpAnyH_take (i := 10) (oi := _) (v := ?v185) rfl (by kernel_rfl) (by kernel_rfl) (by kernel_rfl) (fun _ _ _ h => h) (Or.inl ⟨by rfl, ?hy185⟩) (by assumption) ?rest185; (case hy185 => (first | (intro w hSw; (try dsimp only at hSw); go_simp; done) | (intro w hSw; (try dsimp only at hSw); go_simp; with_reducible rfl))); (try simp only [Act.put, List.getElem_toArray, List.getElem_cons_succ, List.getElem_cons_zero, List.setIfInBounds_toArray, List.set_cons_zero, List.set_cons_succ]))
  (refine wpAnyH_take (i := 11) (oi := _) (v := ?v186) rfl (by kernel_rfl) (by kernel_rfl) (by kernel_rfl) (fun _ _ _ h => h) (Or.inl ⟨by rfl, ?hy186⟩) (by assumption) ?rest186; (case hy186 => (first | (intro w hSw; (try dsimp only at hSw); go_simp; done) | (intro w hSw; (try dsimp only at hSw); go_simp; with_reducible rfl))); (try simp only [Act.put, List.getElem_toArray, List.getElem_cons_succ, List.getElem_cons_zero, List.setIfInBounds_toArray, List.set_cons_zero, List.set_cons_succ]))
  refine wpAnyH_done (by kernel_rfl) ?_ _
  clear hS0 hS1 hS2 hS3 HC1 HC2 HC3 RX1 RX2 RQ2 RD RP RE
  rw [Hnd.out] at RX3 ⊢
  rw [Hnp.out] at RQ3 ⊢
  rw [Hno.out] at RO3 ⊢
  obtain ⟨ta, tc, w5, hr5, hL5, hb5⟩ := HI.out _ hB4
  have RW := hide hL5
  have RX := hide (RX3.out.below hb5)
  have RQ := hide (RQ3.out.below hb5)
  have RO := hide (RO3.out.below hb5)
  have hC5' := Below.next hC4 hb5
  have hB5' := Below.next hA hC5'
  clear HI hL5 RX3 RQ3 RO3
  go_upto_region 3 with (at_builtin; refine Lib.wpList_append_run _ rfl _ _ _ _ rfl _ _ rfl rfl _ _ hr5 ?_)
  clear hr5
  have HSw := hide (fun V (hb : Below w5.heap.size w5 V) => HS.out V (Below.next hC5' hb))
  obtain ⟨⟨c0, c1, c2', c3', c4, c5, c6, c7⟩, d0, d1, d2⟩ := HSw.out _ (Below.refl _ _)
  go_upto_region 5 with (first
    | (go_at_call 8; refine (HA.out _ _ _ _ _ RW.out RX.out RQ.out RO.out).mono ?_; rintro e w6 ⟨v6, us6, rfl, x6, hb6⟩; have HM6 := hide x6; obtain ⟨a6, c6'', rfl⟩ := own_form x6.row; have Ht6 : Hid (∀ i g, i < al.length → (us6.getD i nov).ownBlock = some g → g < w6.heap.size) := fun i g hi hg => own_top (HM6.out.each i hi) g hg; clear x6; clear c0 c1 c2' c3' c4 c5 c6 c7 d0 d1 d2; obtain ⟨⟨c0, c1, c2', c3', c4, c5, c6, c7⟩, d0, d1, d2⟩ := HSw.out _ hb6)
    | (go_at_call 12; refine (HP.out _ _ _ _ (RW.out.below hb6) (RX.out.below hb6) (RQ.out.below hb6)).mono ?_; rintro e w7 ⟨v7, us7, rfl, x7, hb7⟩; have HM7 := hide x7; have HN6 := hide (HM6.out.below hb7); obtain ⟨a7, c7'', rfl⟩ := own_form x7.row; have hB7 := Below.next hb6 hb7; clear x7))
  have hs6 := hb6.size
  have hs7 := hb7.size
  clear HM6 HP c0 c1 c2' c3' c4 c5 c6 c7 d0 d1 d2 HW HS
  obtain ⟨na, HNa⟩ : ∃ na, Hid (al.length = na) := ⟨_, rfl⟩
  obtain ⟨nq0, HNq⟩ : ∃ nq0, Hid (po.length = nq0) := ⟨_, rfl⟩
  rw [HNa.out] at HN6 HAl Ht6 ⊢
  rw [HNq.out] at HM7 HPl ⊢
  have ha64 := HAl.out
  have hq64 := HPl.out
  go_wp2_with fail
  go_loopw [15] (fun vi wr => ∃ (i : Nat) (zss : List (List Int)), i ≤ na ∧ vi = .int .i64 i ∧ Hid (Bwd zss ∧ zss.length = na) ∧ Hid (Mtx wr w5.heap.size (.slice a6 na c6'') us6 zss) ∧ Hid (Mtx wr w6.heap.size (.slice a7 nq0 c7'') us7 po) ∧ Below w5.heap.size w5 wr) (fun vi _ => na - (intOf vi).toNat)
  case atStart => exact ⟨0, al, Nat.zero_le _, rfl, ⟨HB1.out, HNa.out⟩, HN6, HM7, hB7⟩
  case round =>
    clear HN6 HM7 hB7
    obtain ⟨i, zss, hi, rfl, HZ, HM, HQ, hB⟩ := hrel
    by_cases hlt : i < na
    · obtain ⟨G, cg, hv, _, hGt, hcg⟩ := HM.out.spell (by rw [HZ.out.2]; omega)
      rw [HZ.out.2] at hv hcg
      injection hv with hv _ hcv
      subst hv hcv
      have hcell := HM.out.cell (i := i) (by rw [HZ.out.2]; exact hlt)
      have hE := HM.out.each i (by rw [HZ.out.2]; exact hlt)
      have hws := HZ.out.1 i
      have hsz3 := hB.size
      have hsp := hide (Spoil_own _ _ w5.heap.size _ (5 : Int) wr (by omega) (by omega) hE hws.2 hws.1 hsz3)
      have hR : Hid (∀ w' zs, wr.grownBy w' (us6.getD i nov).ownBlock → Ws zs → w'.ownsRow w5.heap.size 50 1 (us6.getD i nov) (zss.getD i []).length (vals zs) → (Bwd (zss.set i zs) ∧ (zss.set i zs).length = na) ∧ Mtx w' w5.heap.size (.slice (some ⟨G, 0, none⟩) na c6'') us6 (zss.set i zs) ∧ Mtx w' w6.heap.size (.slice a7 nq0 c7'') us7 po ∧ Below w5.heap.size w5 w') := fun w' zs hg hz hO => by
        have hzl := own_len hO
        refine ⟨⟨HZ.out.1.set ⟨by rw [hzl]; exact hws.1, hz⟩, by rw [List.length_set]; exact HZ.out.2⟩, HM.out.spoilt (by rw [HZ.out.2]; exact hlt) hg hO, HQ.out.far hg (fun g hg' => Ht6.out i g hlt hg') (Nat.le_refl _), hB.grown hg hsz3 (fun g hg' => own_base hE g hg')⟩
      obtain ⟨a8, c8', hu8⟩ := own_form hE
      rw [hu8] at hcell hsp hR
      have ii0 : (0 : Int) ≤ (i : Int) := by omega
      have ii1 : (i : Int) < (na : Int) := by omega
      clear hE hws HZ HM HQ hu8
      generalize (zss.getD i []).length = m6 at *
      go_wp2_with (go_at_call 19; refine hsp.out.mono ?_; rintro e wA ⟨rfl, hgA, zs, hz, hO⟩; obtain ⟨t1, t2, t3, t4⟩ := hR.out _ _ hgA hz hO)
      have T1 := hide t1
      have T2 := hide t2
      have T3 := hide t3
      clear t1 t2 t3 hO hgA hz hR
      go_roundw
      case rel => exact ⟨i + 1, _, by omega, by go_num, T1, T2, T3, t4⟩
      case measure => simp [intOf]; omega
    · obtain rfl : i = na := by omega
      clear HZ HM
      go_wp2_with fail
      go_loopw [16] (fun vi wr => ∃ (i : Nat) (zss : List (List Int)), i ≤ nq0 ∧ vi = .int .i64 i ∧ Hid (Bwd zss ∧ zss.length = nq0) ∧ Hid (Mtx wr w6.heap.size (.slice a7 nq0 c7'') us7 zss) ∧ Below w5.heap.size w5 wr) (fun vi _ => nq0 - (intOf vi).toNat)
      case atStart => exact ⟨0, po, Nat.zero_le _, rfl, ⟨HB2.out, HNq.out⟩, HQ, hB⟩
      case round =>
        clear HQ hB
        obtain ⟨i, zss, hi, rfl, HZ, HM, hB⟩ := hrel
        by_cases hlt : i < nq0
        · obtain ⟨G, cg, hv, hGl, hGt, hcg⟩ := HM.out.spell (by rw [HZ.out.2]; omega)
          rw [HZ.out.2] at hv hcg
          injection hv with hv _ hcv
          subst hv hcv
          have hcell := HM.out.cell (i := i) (by rw [HZ.out.2]; exact hlt)
          have hE := HM.out.each i (by rw [HZ.out.2]; exact hlt)
          have hws := HZ.out.1 i
          have hsz3 := hB.size
          have hsp := hide (Spoil_own _ _ w6.heap.size _ (6 : Int) wr (by omega) (by omega) hE hws.2 hws.1 (by omega))
          have hR : Hid (∀ w' zs, wr.grownBy w' (us7.getD i nov).ownBlock → Ws zs → w'.ownsRow w6.heap.size 50 1 (us7.getD i nov) (zss.getD i []).length (vals zs) → (Bwd (zss.set i zs) ∧ (zss.set i zs).length = nq0) ∧ Mtx w' w6.heap.size (.slice (some ⟨G, 0, none⟩) nq0 c7'') us7 (zss.set i zs) ∧ Below w5.heap.size w5 w') := fun w' zs hg hz hO => by
            have hzl := own_len hO
            refine ⟨⟨HZ.out.1.set ⟨by rw [hzl]; exact hws.1, hz⟩, by rw [List.length_set]; exact HZ.out.2⟩, HM.out.spoilt (by rw [HZ.out.2]; exact hlt) hg hO, hB.grown hg hsz3 (fun g hg' => Nat.le_trans hs6 (own_base hE g hg'))⟩
          obtain ⟨a8, c8', hu8⟩ := own_form hE
          rw [hu8] at hcell hsp hR
          have ii0 : (0 : Int) ≤ (i : Int) := by omega
          have ii1 : (i : Int) < (nq0 : Int) := by omega
          clear hE hws HZ HM hu8
          generalize (zss.getD i []).length = m6 at *
          go_wp2_with (go_at_call 19; refine hsp.out.mono ?_; rintro e wA ⟨rfl, hgA, zs, hz, hO⟩; obtain ⟨t1, t2, t4⟩ := hR.out _ _ hgA hz hO)
          have T1 := hide t1
          have T2 := hide t2
          clear t1 t2 hO hgA hz hR
          go_roundw
          case rel => exact ⟨i + 1, _, by omega, by go_num, T1, T2, t4⟩
          case measure => simp [intOf]; omega
        · obtain rfl : i = nq0 := by omega
          clear HZ HM
          obtain ⟨⟨c0, c1, c2', c3', c4, c5, c6, c7⟩, d0, d1, d2⟩ := HSw.out _ hB
          go_upto_region 15 with (first
            | (go_at_call 8; refine (HA.out _ _ _ _ _ (RW.out.below hB) (RX.out.below hB) (RQ.out.below hB) (RO.out.below hB)).mono ?_; rintro e w8 ⟨v8, us8, rfl, x8, hb8⟩; have hC8 := Below.next hB hb8; have R8 := hide (RA.out _ _ _ _ x8); obtain ⟨a8, k8, rfl⟩ := own_form x8.row; clear x8; clear c0 c1 c2' c3' c4 c5 c6 c7 d0 d1 d2; obtain ⟨⟨c0, c1, c2', c3', c4, c5, c6, c7⟩, d0, d1, d2⟩ := HSw.out _ hC8)
            | (go_at_call 9; refine (HD.out _ (Below.next hB5' hC8)).mono ?_; rintro e w9 ⟨v9, rfl, x9, hb9⟩; have hC9 := Below.next hC8 hb9; have R9 := hide x9; have R8' := hide (R8.out.below hb9); obtain ⟨a9, k9, rfl, _⟩ := x9; clear c0 c1 c2' c3' c4 c5 c6 c7 d0 d1 d2))
          have hB9 := Below.next hB5' hC9
          have Q0 := hide (RW.out.below hC9)
          have Q3 := hide (R3.out.below hB9)
          clear R8
          rw [HNa.out] at R8' R9 ⊢
          go_wp2_with fail
          go_loopw [21] (fun vi wr => ∃ k : Nat, k ≤ nw ∧ vi = .int .i64 k ∧ Below w9.heap.size w9 wr) (fun vi _ => nw - (intOf vi).toNat)
          case atStart => exact ⟨0, Nat.zero_le _, rfl, Below.refl _ _⟩
          case round =>
            obtain ⟨k, hk, rfl, hBk⟩ := hrel
            by_cases hlk : k < nw
            · obtain ⟨b1, o1, c1', hv1, _, _⟩ := Q0.out.form (by rw [Hnw.out]; omega)
              rw [Hnw.out] at hv1
              injection hv1 with hv1 _ hcv1
              subst hv1 hcv1
              obtain ⟨b2, o2, c2', hv2, _, _⟩ := Q3.out.form (by rw [Hnw.out]; omega)
              rw [Hnw.out] at hv2
              injection hv2 with hv2 _ hcv2
              subst hv2 hcv2
              have d1 := (lmi_cell Q0.out hBk (k := k) (by rw [Hnw.out]; exact hlk)).2
              have d2 := (lmi_cell Q3.out hBk (k := k) (by rw [Hnw.out]; exact hlk)).2
              have k0 : (0 : Int) ≤ (k : Int) := by omega
              have k1 : (k : Int) < (nw : Int) := by omega
              clear Q0 Q3
              generalize who.getD k 0 = x at d1 d2
              go_wp2_with fail
              go_quiet (fail)
              have hB2 := below_drewN hBk nq
              clear hBk
              go_wp2
              go_roundw
              case rel => exact ⟨k + 1, by omega, by go_num, hB2⟩
              case measure => simp [intOf]; omega
            · have hD0 := Below.next hC9 hBk
              have S8 := hide (R8'.out.below hBk)
              have S9 := hide (R9.out.below hBk)
              clear R8' R9 Q0 Q3 hBk
              obtain ⟨⟨c0, c1, c2', c3', c4, c5, c6, c7⟩, d0, d1, d2⟩ := HSw.out _ hD0
              go_wp2_with (first
                | (go_at_call 11; refine (HX.out _).mono ?_; rintro e wa ⟨rfl, hba⟩; have hDa := Below.next hD0 hba; clear c0 c1 c2' c3' c4 c5 c6 c7 d0 d1 d2; obtain ⟨⟨c0, c1, c2', c3', c4, c5, c6, c7⟩, d0, d1, d2⟩ := HSw.out _ hDa)
                | (go_at_call 10; with_reducible refine (Rows_h _ _ _ _ (((((S8.out.below hba).below hbb).below hbc).below hbd)) ((((S9.out.below hba).below hbb).below hbc).below hbd)).mono ?_; rintro e we ⟨rfl, hbe⟩; have hDe := Below.next hDd hbe; clear c0 c1 c2' c3' c4 c5 c6 c7 d0 d1 d2)
                | (go_at_call 10; with_reducible refine (Rows_h _ _ _ _ (RO.out.below hDc) (R4.out.below (Below.next hB5' hDc))).mono ?_; rintro e wd ⟨rfl, hbd⟩; have hDd := Below.next hDc hbd; clear c0 c1 c2' c3' c4 c5 c6 c7 d0 d1 d2; obtain ⟨⟨c0, c1, c2', c3', c4, c5, c6, c7⟩, d0, d1, d2⟩ := HSw.out _ hDd)
                | (go_at_call 10; with_reducible refine (Rows_h _ _ _ _ (RQ.out.below hDb) (R2.out.below (Below.next hB5' hDb))).mono ?_; rintro e wc ⟨rfl, hbc⟩; have hDc := Below.next hDb hbc; clear c0 c1 c2' c3' c4 c5 c6 c7 d0 d1 d2; obtain ⟨⟨c0, c1, c2', c3', c4, c5, c6, c7⟩, d0, d1, d2⟩ := HSw.out _ hDc)
                | (go_at_call 10; with_reducible refine (Rows_h _ _ _ _ (RX.out.below hDa) (R1.out.below (Below.next hB5' hDa))).mono ?_; rintro e wb ⟨rfl, hbb⟩; have hDb := Below.next hDa hbb; clear c0 c1 c2' c3' c4 c5 c6 c7 d0 d1 d2; obtain ⟨⟨c0, c1, c2', c3', c4, c5, c6, c7⟩, d0, d1, d2⟩ := HSw.out _ hDb))
              go_ret
              exact ⟨rfl, Below.next hB5' hDe⟩

end Go.Proofs.YtpbfgcepmbpkdaaGreat
