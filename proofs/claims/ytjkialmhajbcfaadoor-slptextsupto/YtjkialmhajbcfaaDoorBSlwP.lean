/-
  Layer 9: the last line read: the program's call.
-/
import Derived.Test.YtjkialmhajbcfaaDoorBSlwO
namespace Go.Proofs.YtjkialmhajbcfaaDoor
open Go.RowKit Fld Slp
set_option linter.unusedVariables false
set_option linter.unusedSimpArgs false

/-- What stands behind the word outs. -/
def ouR (n own : Nat) (rs : List Tx) : Option (List Int) := if rs.length ≤ 64 then valsP n own rs else none
theorem valsP_ok {n own : Nat} {x : Tx} {r : List Tx} {v : Int} (h : valP n own x = some v) : valsP n own (x :: r) = (valsP n own r).map (v :: ·) := by
  show (match valP n own x, valsP n own r with | some v, some vs => some (v :: vs) | _, _ => none) = _
  rw [h]
  cases valsP n own r <;> rfl
theorem valsP_no {n own : Nat} {x : Tx} {r : List Tx} (h : valP n own x = none) : valsP n own (x :: r) = none := by
  show (match valP n own x, valsP n own r with | some v, some vs => some (v :: vs) | _, _ => none) = _
  rw [h]
/-- How far the words were read. -/
structure OuI (n own : Nat) (rs r : List Tx) (acc : List Int) : Prop where
  len : acc.length + r.length = rs.length
  eq : valsP n own rs = (valsP n own r).map (acc ++ ·)
theorem OuI.start (n own : Nat) (rs : List Tx) : OuI n own rs rs [] := ⟨by simp, by cases valsP n own rs <;> simp⟩
theorem OuI.step {n own : Nat} {rs r : List Tx} {acc : List Int} {x : Tx} {v : Int} (h : OuI n own rs (x :: r) acc) (hv : valP n own x = some v) : OuI n own rs r (acc ++ [v]) :=
  ⟨by have := h.len; simp at this ⊢; omega, by rw [h.eq, valsP_ok hv, Option.map_map]; congr 1; funext a; simp⟩
theorem OuI.no {n own : Nat} {rs r : List Tx} {acc : List Int} {x : Tx} (h : OuI n own rs (x :: r) acc) (hv : valP n own x = none) : ouR n own rs = none := by
  unfold ouR
  rw [h.eq, valsP_no hv]
  split <;> rfl
theorem OuI.many {n own : Nat} {rs r : List Tx} {acc : List Int} {x : Tx} (h : OuI n own rs (x :: r) acc) (ha : ¬ acc.length < 64) : ouR n own rs = none := by
  unfold ouR
  have := h.len
  simp at this
  rw [if_neg (by omega)]
theorem OuI.done {n own : Nat} {rs : List Tx} {acc : List Int} (h : OuI n own rs [] acc) (ha : acc.length ≤ 64) : ouR n own rs = some acc := by
  unfold ouR
  have := h.len
  simp at this
  rw [if_pos (by omega), h.eq]
  simp [valsP]
def lenAt (W : World) (a : Addr) : Nat := match W.cell? a with | some (.slice _ n _) => n | _ => 0

set_option maxRecDepth 100000 in
set_option maxHeartbeats 1000000 in
theorem sOuts (w : World) (rb lb mb n : Nat) (line : Int) (vo : Value) (ops : List O4) (vu : Value) (whole : Bool) (rs : List Tx) (hR : RdS w rb line (n : Int) vo ops vu [] whole) (hw : Wds w lb mb rs) (h1 : rb < lb) (h2 : rb < mb) (hn : n ≤ 64) (ho : ops.length ≤ 256) (hT : ∀ W, Fr rb w W → Tb9 W) :
    Calls Tryd.prog 66 #[.pointer (some ⟨rb, 0, none⟩), nx lb mb] w fun e w' => (∃ vs vu', ouR n (n + ops.length) rs = some vs ∧ e = .returned (.tuple #[]) ∧ RdS w' rb line (n : Int) vo ops vu' vs true ∧ Fr rb w w') ∨ (ouR n (n + ops.length) rs = none ∧ e = .panicked (pan line) ∧ Fr rb w w') := by
  have HT := hide hT
  clear hT
  have HN := sNext w lb mb rs hw
  unfold NextOk at HN
  have hlt := hR.lt
  have hsh := hw.short
  obtain ⟨d, HD0⟩ : ∃ d, Hid (rs.headD [] = d) := ⟨_, rfl⟩
  obtain ⟨m, HM0⟩ : ∃ m, Hid ((!rs.isEmpty) = m) := ⟨_, rfl⟩
  rw [HD0.out, HM0.out] at HN
  rw [HD0.out] at hsh
  unfold nx at *
  go_enter Tryd.func66, Tryd.ntmps66
  go_wp2_with (first
    | (go_at_call 64; refine HN.mono ?_; clear HN; rintro e W1 ⟨rfl, hw1, hk1⟩; have R1 := hR.kw hw hk1; have F1 := Kw.fr hk1 hw (Nat.le_of_lt h1) (Nat.le_of_lt h2) (Nat.le_of_lt hlt)))
  go_loopw [4, 5] (fun vw vm wr => ∃ (r : List Tx) (acc : List Int) (vu : Value) (x : Tx) (t : Bool), vw = tx x ∧ vm = .bool t ∧ Hid (r.headD [] = x) ∧ Hid ((!r.isEmpty) = t) ∧ x.length ≤ 281474976710656 ∧ acc.length ≤ 64 ∧ Hid (OuI n (n + ops.length) rs r acc) ∧ Hid (RdS wr rb line (n : Int) vo ops vu acc whole) ∧ Hid (Wds wr lb mb r.tail) ∧ Hid (Fr rb w wr)) (fun _ _ wr => 65 - lenAt wr ⟨rb, 3, none⟩)
  case atStart => exact ⟨rs, [], vu, d, m, rfl, rfl, HD0, HM0, hsh, by decide, OuI.start _ _ _, R1, hw1, F1⟩
  case round =>
    clear R1 hw1 F1 hsh hR hw hk1
    obtain ⟨r, acc, vu, x, t, rfl, rfl, HX, HM, hs, ha, HI, R, HW, F⟩ := hrel
    cases r with
    | nil =>
      obtain rfl : false = t := HM.out
      have d4 := R.out.c4
      have d5 := R.out.fz 4
      have HD := hide (HI.out.done ha)
      have HR2 := hide (R.out.setWhole true)
      have HF2 := hide (F.out.trans (setCell_fr (k := 4) (v := .bool true) (Nat.le_refl rb)))
      go_wp2
      go_end0
      exact .inl ⟨acc, vu, HD.out, rfl, HR2.out, HF2.out⟩
    | cons x' r =>
      obtain rfl : true = t := HM.out
      obtain rfl : x' = x := HX.out
      have d0 := R.out.c0
      have d3 := R.out.c3
      have hl3 : lenAt wr ⟨rb, 3, none⟩ = acc.length := by
        unfold lenAt; rw [d3]
        obtain ⟨au, cu, rfl⟩ := own_slice R.out.ru
        rfl
      obtain ⟨au, cu, rfl⟩ := own_slice R.out.ru
      by_cases hc : acc.length < 64
      · have hc' : (acc.length : Int) < 64 := by omega
        have HL3 := hide hl3
        clear hl3
        cases hv : valP n (n + ops.length) x' with
        | none =>
          have HNo := hide (HI.out.no hv)
          have HV := hide (sValue_no wr.drew rb n line vo ops _ acc whole x' (R.out.below (Below.refl _ wr).drew) hn ho hv hs ((HT.out _ F.out).below (Below.refl _ wr).drew))
          have HF1 := hide (fun W (hb : Below wr.drew.heap.size wr.drew W) => F.out.trans (Below.fr (Below.next (Below.refl wr.heap.size wr).drew hb) (Nat.le_of_lt R.out.lt)))
          clear hv
          go_wp2_with (first
            | (go_at_call 50; refine (sWant_ok rb _).mono ?_; rintro e w2 ⟨rfl, hw2⟩; rw [hw2]))
          have hS0 : wr.drew.cell? ⟨rb, 3, none⟩ = some (.slice au acc.length cu) := R.out.c3
          refine wp_region_mute (S := (fun W' => W'.cell? ⟨rb, 3, none⟩ = some (.slice au acc.length cu))) (by kernel_rfl) (by kernel_rfl) rfl (by ((try dsimp only) <;> (first | with_reducible exact hS0 | exact HF.out.elim))) (fun hHeld => ?_)
          simp only [muteL, mute]
          (refine wpAnyH_take (i := 0) (oi := _) (v := ?v1) rfl (by kernel_rfl) (by kernel_rfl) (by kernel_rfl) (fun _ _ _ h => h) (Or.inl ⟨by rfl, ?hy1⟩) (by assumption) ?rest1; (case hy1 => (first | (intro w hSw; (try dsimp only at hSw); go_simp; done) | (intro w hSw; (try dsimp only at hSw); go_simp; with_reducible rfl))); (try simp only [Act.put, List.getElem_toArray, List.getElem_cons_succ, List.getElem_cons_zero, List.setIfInBounds_toArray, List.set_cons_zero, List.set_cons_succ]))
          (refine wpAnyH_take (i := 1) (oi := _) (v := ?v2) rfl (by kernel_rfl) (by kernel_rfl) (by kernel_rfl) (fun _ _ _ h => h) (Or.inl ⟨by rfl, ?hy2⟩) (by assumption) ?rest2; (case hy2 => (first | (intro w hSw; (try dsimp only at hSw); go_simp; done) | (intro w hSw; (try dsimp only at hSw); go_simp; with_reducible rfl))); (try simp only [Act.put, List.getElem_toArray, List.getElem_cons_succ, List.getElem_cons_zero, List.setIfInBounds_toArray, List.set_cons_zero, List.set_cons_succ]))
          (refine wpAnyH_take (i := 2) (oi := _) (v := ?v3) rfl (by kernel_rfl) (by kernel_rfl) (by kernel_rfl) (fun _ _ _ h => h) (Or.inl ⟨by rfl, ?hy3⟩) (by assumption) ?rest3; (case hy3 => (first | (intro w hSw; (try dsimp only at hSw); go_simp; done) | (intro w hSw; (try dsimp only at hSw); go_simp; with_reducible rfl))); (try simp only [Act.put, List.getElem_toArray, List.getElem_cons_succ, List.getElem_cons_zero, List.setIfInBounds_toArray, List.set_cons_zero, List.set_cons_succ]))
          (refine wpAnyH_take (i := 3) (oi := _) (v := ?v4) rfl (by kernel_rfl) (by kernel_rfl) (by kernel_rfl) (fun _ _ _ h => h) (Or.inl ⟨by rfl, ?hy4⟩) (by assumption) ?rest4; (case hy4 => (first | (intro w hSw; (try dsimp only at hSw); go_simp; done) | (intro w hSw; (try dsimp only at hSw); go_simp; with_reducible rfl))); (try simp only [Act.put, List.getElem_toArray, List.getElem_cons_succ, List.getElem_cons_zero, List.setIfInBounds_toArray, List.set_cons_zero, List.set_cons_succ]))
          (refine wpAnyH_take (i := 4) (oi := _) (v := ?v5) rfl (by kernel_rfl) (by kernel_rfl) (by kernel_rfl) (fun _ _ _ h => h) (Or.inl ⟨by rfl, ?hy5⟩) (by assumption) ?rest5; (case hy5 => (first | (intro w hSw; (try dsimp only at hSw); go_simp; done) | (intro w hSw; (try dsimp only at hSw); go_simp; with_reducible rfl))); (try simp only [Act.put, List.getElem_toArray, List.getElem_cons_succ, List.getElem_cons_zero, List.setIfInBounds_toArray, List.set_cons_zero, List.set_cons_succ]))
          (refine wpAnyH_take (i := 5) (oi := _) (v := ?v6) rfl (by kernel_rfl) (by kernel_rfl) (by kernel_rfl) (fun _ _ _ h => h) (Or.inl ⟨by rfl, ?hy6⟩) (by assumption) ?rest6; (case hy6 => (first | (intro w hSw; (try dsimp only at hSw); go_simp; done) | (intro w hSw; (try dsimp only at hSw); go_simp; with_reducible rfl))); (try simp only [Act.put, List.getElem_toArray, List.getElem_cons_succ, List.getElem_cons_zero, List.setIfInBounds_toArray, List.set_cons_zero, List.set_cons_succ]))
          (refine wpAnyH_take (i := 6) (oi := _) (v := ?v7) rfl (by kernel_rfl) (by kernel_rfl) (by kernel_rfl) (fun _ _ _ h => h) (Or.inl ⟨by rfl, ?hy7⟩) (by assumption) ?rest7; (case hy7 => (first | (intro w hSw; (try dsimp only at hSw); go_simp; done) | (intro w hSw; (try dsimp only at hSw); go_simp; with_reducible rfl))); (try simp only [Act.put, List.getElem_toArray, List.getElem_cons_succ, List.getElem_cons_zero, List.setIfInBounds_toArray, List.set_cons_zero, List.set_cons_succ]))
          (refine wpAnyH_take (i := 7) (oi := _) (v := ?v8) rfl (by kernel_rfl) (by kernel_rfl) (by kernel_rfl) (fun _ _ _ h => h) (Or.inl ⟨by rfl, ?hy8⟩) (by assumption) ?rest8; (case hy8 => (first | (intro w hSw; (try dsimp only at hSw); go_simp; done) | (intro w hSw; (try dsimp only at hSw); go_simp; with_reducible rfl))); (try simp only [Act.put, List.getElem_toArray, List.getElem_cons_succ, List.getElem_cons_zero, List.setIfInBounds_toArray, List.set_cons_zero, List.set_cons_succ]))
          refine wpAnyH_ready (rs := [8]) (by kernel_rfl) (by simp) ?_
          refine AllReadyH.cons (o := _) rfl (fun K hK => ?_) AllReadyH.nil
          try simp only [List.getElem_toArray, List.getElem_cons_succ, List.getElem_cons_zero]
          go_simp
          (first
                | (go_at_call 76; refine panics_mono (.int .i64 0) HV.out (fun w3 hb3 => ⟨rfl, .inr ⟨HNo.out, rfl, HF1.out w3 hb3⟩⟩) ?_; intro hF; have HF := hide hF; clear hF; dsimp only)
                | (refine app_step (by rfl) _ _ _ _ (by rfl) _ _ (by rfl) (by rfl) (.slice none 0 0) wr HF.out.elim ?_))
          first | (refine hK.out _ _ (by ((try dsimp only) <;> (first | with_reducible exact hS0 | exact HF.out.elim))) (fun hHeld => ?_)) | (go_wp2_with fail; refine hK.out _ _ (by ((try dsimp only) <;> (first | with_reducible exact hS0 | exact HF.out.elim))) (fun hHeld => ?_))
          clear hK K
          (try simp only [Act.put, List.getElem_toArray, List.getElem_cons_succ, List.getElem_cons_zero, List.setIfInBounds_toArray, List.set_cons_zero, List.set_cons_succ])
          refine wpAnyH_ready (rs := [9]) (by kernel_rfl) (by simp) ?_
          refine AllReadyH.cons (o := _) rfl (fun K hK => ?_) AllReadyH.nil
          try simp only [List.getElem_toArray, List.getElem_cons_succ, List.getElem_cons_zero]
          go_simp
          refine hK.out _ _ (by ((try dsimp only) <;> (first | with_reducible exact hS0 | exact HF.out.elim))) (fun hHeld => ?_)
          clear hK K
          (try simp only [Act.put, List.getElem_toArray, List.getElem_cons_succ, List.getElem_cons_zero, List.setIfInBounds_toArray, List.set_cons_zero, List.set_cons_succ])
          refine wpAnyH_ready (rs := [10]) (by kernel_rfl) (by simp) ?_
          refine AllReadyH.cons (o := _) rfl (fun K hK => ?_) AllReadyH.nil
          (first
                | (go_at_call 76; refine panics_mono (.int .i64 0) HV.out (fun w3 hb3 => ⟨rfl, .inr ⟨HNo.out, rfl, HF1.out w3 hb3⟩⟩) ?_; intro hF; have HF := hide hF; clear hF; dsimp only)
                | (refine app_step (by rfl) _ _ _ _ (by rfl) _ _ (by rfl) (by rfl) (.slice none 0 0) wr HF.out.elim ?_))
          refine hK.out _ _ (by ((try dsimp only) <;> (first | with_reducible exact hS0 | exact HF.out.elim))) (fun hHeld => ?_)
          clear hK K
          (try simp only [Act.put, List.getElem_toArray, List.getElem_cons_succ, List.getElem_cons_zero, List.setIfInBounds_toArray, List.set_cons_zero, List.set_cons_succ])
          (refine wpAnyH_take (i := 11) (oi := _) (v := ?v9) rfl (by kernel_rfl) (by kernel_rfl) (by kernel_rfl) (fun _ _ _ h => h) (Or.inl ⟨by rfl, ?hy9⟩) (by assumption) ?rest9; (case hy9 => (first | (intro w hSw; (try dsimp only at hSw); go_simp; done) | (intro w hSw; (try dsimp only at hSw); go_simp; with_reducible rfl))); (try simp only [Act.put, List.getElem_toArray, List.getElem_cons_succ, List.getElem_cons_zero, List.setIfInBounds_toArray, List.set_cons_zero, List.set_cons_succ]))
          (refine wpAnyH_take (i := 12) (oi := _) (v := ?v10) rfl (by kernel_rfl) (by kernel_rfl) (by kernel_rfl) (fun _ _ _ h => h) (Or.inl ⟨by rfl, ?hy10⟩) (by assumption) ?rest10; (case hy10 => (first | (intro w hSw; (try dsimp only at hSw); go_simp; done) | (intro w hSw; (try dsimp only at hSw); go_simp; with_reducible rfl))); (try simp only [Act.put, List.getElem_toArray, List.getElem_cons_succ, List.getElem_cons_zero, List.setIfInBounds_toArray, List.set_cons_zero, List.set_cons_succ]))
          (refine wpAnyH_take (i := 13) (oi := _) (v := ?v11) rfl (by kernel_rfl) (by kernel_rfl) (by kernel_rfl) (fun _ _ _ h => h) (Or.inl ⟨by rfl, ?hy11⟩) (by assumption) ?rest11; (case hy11 => (first | (intro w hSw; (try dsimp only at hSw); go_simp; done) | (intro w hSw; (try dsimp only at hSw); go_simp; with_reducible rfl))); (try simp only [Act.put, List.getElem_toArray, List.getElem_cons_succ, List.getElem_cons_zero, List.setIfInBounds_toArray, List.set_cons_zero, List.set_cons_succ]))
          (refine wpAnyH_take (i := 14) (oi := _) (v := ?v12) rfl (by kernel_rfl) (by kernel_rfl) (by kernel_rfl) (fun _ _ _ h => h) (Or.inl ⟨by rfl, ?hy12⟩) (by assumption) ?rest12; (case hy12 => (first | (intro w hSw; (try dsimp only at hSw); go_simp; done) | (intro w hSw; (try dsimp only at hSw); go_simp; with_reducible rfl))); (try simp only [Act.put, List.getElem_toArray, List.getElem_cons_succ, List.getElem_cons_zero, List.setIfInBounds_toArray, List.set_cons_zero, List.set_cons_succ]))
          refine wpAnyH_done (by kernel_rfl) ?_ _
          all_goals exact HF.out.elim
        | some v =>
          have HI2 := hide (HI.out.step hv)
          have HV := hide (sValue_ok wr.drew rb n line vo ops _ acc whole x' v (R.out.below (Below.refl _ wr).drew) hn ho hv hs)
          have HA := hide (fun (W : World) (hb : Below wr.heap.size wr W) => RdS.app_outs ((R.out.below hb).below (alloc_below W (.cells #[.int .i64 v] 3))) ((HW.out.below hb).below (alloc_below W (.cells #[.int .i64 v] 3))) h1 h2 ⟨W.heap.size, 0, none⟩ v (by rw [Lib.cell_of_heap (heap_alloc_new W _)]; rfl) hc)
          have HF1 := hide (fun W (hb : Below wr.heap.size wr W) => F.out.trans ((Below.fr hb (Nat.le_of_lt R.out.lt)).trans (Below.fr (alloc_below W (.cells #[.int .i64 v] 3)) (Nat.le_trans (Nat.le_of_lt R.out.lt) hb.size))))
          have HS : Hid (∀ W, Below wr.heap.size wr W → W.cell? ⟨rb, 3, none⟩ = some (.slice au acc.length cu)) := fun W hb => (R.out.below hb).c3
          have hS0 := HS.out wr.drew (Below.refl _ wr).drew
          clear hv
          go_wp2_with (first
            | (go_at_call 50; refine (sWant_ok rb _).mono ?_; rintro e w2 ⟨rfl, hw2⟩; rw [hw2]))
          refine wp_region_mute (S := (fun W' => W'.cell? ⟨rb, 3, none⟩ = some (.slice au acc.length cu))) (by kernel_rfl) (by kernel_rfl) rfl (by ((try dsimp only) <;> (first | with_reducible exact hS0 | with_reducible exact hS1 | with_reducible exact hS2 _ | with_reducible exact hS4))) (fun hHeld => ?_)
          simp only [muteL, mute]
          (refine wpAnyH_take (i := 0) (oi := _) (v := ?v13) rfl (by kernel_rfl) (by kernel_rfl) (by kernel_rfl) (fun _ _ _ h => h) (Or.inl ⟨by rfl, ?hy13⟩) (by assumption) ?rest13; (case hy13 => (first | (intro w hSw; (try dsimp only at hSw); go_simp; done) | (intro w hSw; (try dsimp only at hSw); go_simp; with_reducible rfl))); (try simp only [Act.put, List.getElem_toArray, List.getElem_cons_succ, List.getElem_cons_zero, List.setIfInBounds_toArray, List.set_cons_zero, List.set_cons_succ]))
          (refine wpAnyH_take (i := 1) (oi := _) (v := ?v14) rfl (by kernel_rfl) (by kernel_rfl) (by kernel_rfl) (fun _ _ _ h => h) (Or.inl ⟨by rfl, ?hy14⟩) (by assumption) ?rest14; (case hy14 => (first | (intro w hSw; (try dsimp only at hSw); go_simp; done) | (intro w hSw; (try dsimp only at hSw); go_simp; with_reducible rfl))); (try simp only [Act.put, List.getElem_toArray, List.getElem_cons_succ, List.getElem_cons_zero, List.setIfInBounds_toArray, List.set_cons_zero, List.set_cons_succ]))
          (refine wpAnyH_take (i := 2) (oi := _) (v := ?v15) rfl (by kernel_rfl) (by kernel_rfl) (by kernel_rfl) (fun _ _ _ h => h) (Or.inl ⟨by rfl, ?hy15⟩) (by assumption) ?rest15; (case hy15 => (first | (intro w hSw; (try dsimp only at hSw); go_simp; done) | (intro w hSw; (try dsimp only at hSw); go_simp; with_reducible rfl))); (try simp only [Act.put, List.getElem_toArray, List.getElem_cons_succ, List.getElem_cons_zero, List.setIfInBounds_toArray, List.set_cons_zero, List.set_cons_succ]))
          (refine wpAnyH_take (i := 3) (oi := _) (v := ?v16) rfl (by kernel_rfl) (by kernel_rfl) (by kernel_rfl) (fun _ _ _ h => h) (Or.inl ⟨by rfl, ?hy16⟩) (by assumption) ?rest16; (case hy16 => (first | (intro w hSw; (try dsimp only at hSw); go_simp; done) | (intro w hSw; (try dsimp only at hSw); go_simp; with_reducible rfl))); (try simp only [Act.put, List.getElem_toArray, List.getElem_cons_succ, List.getElem_cons_zero, List.setIfInBounds_toArray, List.set_cons_zero, List.set_cons_succ]))
          (refine wpAnyH_take (i := 4) (oi := _) (v := ?v17) rfl (by kernel_rfl) (by kernel_rfl) (by kernel_rfl) (fun _ _ _ h => h) (Or.inl ⟨by rfl, ?hy17⟩) (by assumption) ?rest17; (case hy17 => (first | (intro w hSw; (try dsimp only at hSw); go_simp; done) | (intro w hSw; (try dsimp only at hSw); go_simp; with_reducible rfl))); (try simp only [Act.put, List.getElem_toArray, List.getElem_cons_succ, List.getElem_cons_zero, List.setIfInBounds_toArray, List.set_cons_zero, List.set_cons_succ]))
          (refine wpAnyH_take (i := 5) (oi := _) (v := ?v18) rfl (by kernel_rfl) (by kernel_rfl) (by kernel_rfl) (fun _ _ _ h => h) (Or.inl ⟨by rfl, ?hy18⟩) (by assumption) ?rest18; (case hy18 => (first | (intro w hSw; (try dsimp only at hSw); go_simp; done) | (intro w hSw; (try dsimp only at hSw); go_simp; with_reducible rfl))); (try simp only [Act.put, List.getElem_toArray, List.getElem_cons_succ, List.getElem_cons_zero, List.setIfInBounds_toArray, List.set_cons_zero, List.set_cons_succ]))
          (refine wpAnyH_take (i := 6) (oi := _) (v := ?v19) rfl (by kernel_rfl) (by kernel_rfl) (by kernel_rfl) (fun _ _ _ h => h) (Or.inl ⟨by rfl, ?hy19⟩) (by assumption) ?rest19; (case hy19 => (first | (intro w hSw; (try dsimp only at hSw); go_simp; done) | (intro w hSw; (try dsimp only at hSw); go_simp; with_reducible rfl))); (try simp only [Act.put, List.getElem_toArray, List.getElem_cons_succ, List.getElem_cons_zero, List.setIfInBounds_toArray, List.set_cons_zero, List.set_cons_succ]))
          (refine wpAnyH_take (i := 7) (oi := _) (v := ?v20) rfl (by kernel_rfl) (by kernel_rfl) (by kernel_rfl) (fun _ _ _ h => h) (Or.inl ⟨by rfl, ?hy20⟩) (by assumption) ?rest20; (case hy20 => (first | (intro w hSw; (try dsimp only at hSw); go_simp; done) | (intro w hSw; (try dsimp only at hSw); go_simp; with_reducible rfl))); (try simp only [Act.put, List.getElem_toArray, List.getElem_cons_succ, List.getElem_cons_zero, List.setIfInBounds_toArray, List.set_cons_zero, List.set_cons_succ]))
          refine wpAnyH_ready (rs := [8]) (by kernel_rfl) (by simp) ?_
          refine AllReadyH.cons (o := _) rfl (fun K hK => ?_) AllReadyH.nil
          try simp only [List.getElem_toArray, List.getElem_cons_succ, List.getElem_cons_zero]
          go_simp
          (first
                | (go_at_call 76; refine HV.out.mono ?_; rintro e w3 ⟨rfl, hb3⟩; have hB3 := Below.next (Below.refl wr.heap.size wr).drew hb3; have hS1 := HS.out w3 hB3; have hS2 := fun o => HS.out (w3.alloc o) (Below.next hB3 (alloc_below w3 o)); obtain ⟨au4, cu4, w4, hr4, hS4, hz4, HR4, HW4, HF4⟩ := HA.out w3 hB3; have HF5 := hide ((HF1.out w3 hB3).trans HF4); replace HR4 := hide HR4; replace HW4 := hide HW4)
                | (refine app_step (by rfl) _ _ _ _ (by rfl) _ _ (by rfl) (by rfl) _ w4 hr4 ?_))
          first | (refine hK.out _ _ (by ((try dsimp only) <;> (first | with_reducible exact hS0 | with_reducible exact hS1 | with_reducible exact hS2 _ | with_reducible exact hS4))) (fun hHeld => ?_)) | (go_wp2_with fail; refine hK.out _ _ (by ((try dsimp only) <;> (first | with_reducible exact hS0 | with_reducible exact hS1 | with_reducible exact hS2 _ | with_reducible exact hS4))) (fun hHeld => ?_))
          clear hK K
          (try simp only [Act.put, List.getElem_toArray, List.getElem_cons_succ, List.getElem_cons_zero, List.setIfInBounds_toArray, List.set_cons_zero, List.set_cons_succ])
          refine wpAnyH_ready (rs := [9]) (by kernel_rfl) (by simp) ?_
          refine AllReadyH.cons (o := _) rfl (fun K hK => ?_) AllReadyH.nil
          try simp only [List.getElem_toArray, List.getElem_cons_succ, List.getElem_cons_zero]
          go_simp
          refine hK.out _ _ (by ((try dsimp only) <;> (first | with_reducible exact hS0 | with_reducible exact hS1 | with_reducible exact hS2 _ | with_reducible exact hS4))) (fun hHeld => ?_)
          clear hK K
          (try simp only [Act.put, List.getElem_toArray, List.getElem_cons_succ, List.getElem_cons_zero, List.setIfInBounds_toArray, List.set_cons_zero, List.set_cons_succ])
          refine wpAnyH_ready (rs := [10]) (by kernel_rfl) (by simp) ?_
          refine AllReadyH.cons (o := _) rfl (fun K hK => ?_) AllReadyH.nil
          (first
                | (go_at_call 76; refine HV.out.mono ?_; rintro e w3 ⟨rfl, hb3⟩; have hB3 := Below.next (Below.refl wr.heap.size wr).drew hb3; have hS1 := HS.out w3 hB3; have hS2 := fun o => HS.out (w3.alloc o) (Below.next hB3 (alloc_below w3 o)); obtain ⟨au4, cu4, w4, hr4, hS4, hz4, HR4, HW4, HF4⟩ := HA.out w3 hB3; have HF5 := hide ((HF1.out w3 hB3).trans HF4); replace HR4 := hide HR4; replace HW4 := hide HW4)
                | (refine app_step (by rfl) _ _ _ _ (by rfl) _ _ (by rfl) (by rfl) _ w4 hr4 ?_))
          refine hK.out _ _ (by ((try dsimp only) <;> (first | with_reducible exact hS0 | with_reducible exact hS1 | with_reducible exact hS2 _ | with_reducible exact hS4))) (fun hHeld => ?_)
          clear hK K
          (try simp only [Act.put, List.getElem_toArray, List.getElem_cons_succ, List.getElem_cons_zero, List.setIfInBounds_toArray, List.set_cons_zero, List.set_cons_succ])
          (refine wpAnyH_take (i := 11) (oi := _) (v := ?v21) rfl (by kernel_rfl) (by kernel_rfl) (by kernel_rfl) (fun _ _ _ h => h) (Or.inl ⟨by rfl, ?hy21⟩) (by assumption) ?rest21; (case hy21 => (first | (intro w hSw; (try dsimp only at hSw); go_simp; done) | (intro w hSw; (try dsimp only at hSw); go_simp; with_reducible rfl))); (try simp only [Act.put, List.getElem_toArray, List.getElem_cons_succ, List.getElem_cons_zero, List.setIfInBounds_toArray, List.set_cons_zero, List.set_cons_succ]))
          (refine wpAnyH_take (i := 12) (oi := _) (v := ?v22) rfl (by kernel_rfl) (by kernel_rfl) (by kernel_rfl) (fun _ _ _ h => h) (Or.inl ⟨by rfl, ?hy22⟩) (by assumption) ?rest22; (case hy22 => (first | (intro w hSw; (try dsimp only at hSw); go_simp; done) | (intro w hSw; (try dsimp only at hSw); go_simp; with_reducible rfl))); (try simp only [Act.put, List.getElem_toArray, List.getElem_cons_succ, List.getElem_cons_zero, List.setIfInBounds_toArray, List.set_cons_zero, List.set_cons_succ]))
          (refine wpAnyH_take (i := 13) (oi := _) (v := ?v23) rfl (by kernel_rfl) (by kernel_rfl) (by kernel_rfl) (fun _ _ _ h => h) (Or.inl ⟨by rfl, ?hy23⟩) (by assumption) ?rest23; (case hy23 => (first | (intro w hSw; (try dsimp only at hSw); go_simp; done) | (intro w hSw; (try dsimp only at hSw); go_simp; with_reducible rfl))); (try simp only [Act.put, List.getElem_toArray, List.getElem_cons_succ, List.getElem_cons_zero, List.setIfInBounds_toArray, List.set_cons_zero, List.set_cons_succ]))
          (refine wpAnyH_take (i := 14) (oi := _) (v := ?v24) rfl (by kernel_rfl) (by kernel_rfl) (by kernel_rfl) (fun _ _ _ h => h) (Or.inl ⟨by rfl, ?hy24⟩) (by assumption) ?rest24; (case hy24 => (first | (intro w hSw; (try dsimp only at hSw); go_simp; done) | (intro w hSw; (try dsimp only at hSw); go_simp; with_reducible rfl))); (try simp only [Act.put, List.getElem_toArray, List.getElem_cons_succ, List.getElem_cons_zero, List.setIfInBounds_toArray, List.set_cons_zero, List.set_cons_succ]))
          refine wpAnyH_done (by kernel_rfl) ?_ _
          clear hS0 hS1 hS2 hr4 HV HA HF1 HS hb3 hB3 HF4
          simp only [muteQ]
          have HNx := sNext _ lb mb _ HW4.out
          unfold NextOk at HNx
          have hsh := HW4.out.short
          obtain ⟨d2, HD2⟩ : ∃ d2, Hid (((x' :: r).tail).headD [] = d2) := ⟨_, rfl⟩
          obtain ⟨m2, HM2⟩ : ∃ m2, Hid ((!((x' :: r).tail).isEmpty) = m2) := ⟨_, rfl⟩
          rw [HD2.out, HM2.out] at HNx
          rw [HD2.out] at hsh
          go_wp2_with (first
            | (go_at_call 64; refine HNx.mono ?_; clear HNx; rintro e W5 ⟨rfl, hw5, hk5⟩; have R5 := HR4.out.kw HW4.out hk5; have F5 := HF5.out.trans (Kw.fr hk5 HW4.out (Nat.le_of_lt h1) (Nat.le_of_lt h2) (Nat.le_of_lt HR4.out.lt)))
            )
          have hl5 : lenAt W5 ⟨rb, 3, none⟩ = acc.length + 1 := by
            unfold lenAt; rw [R5.c3]
          go_roundw
          case rel => exact ⟨r, acc ++ [v], _, d2, m2, rfl, rfl, HD2, HM2, hsh, by simp; omega, HI2, R5, hw5, F5⟩
          case measure => rw [hl5, HL3.out]; omega
      · have HNo := hide (HI.out.many hc)
        have hc' : ¬ (acc.length : Int) < 64 := by omega
        clear hl3
        go_wp2_with (first
          | (go_at_call 50; refine (sWant_no rb line _ d0).mono ?_; rintro e w2 ⟨rfl, hw2⟩; rw [hw2]))
        exact ⟨rfl, .inr ⟨HNo.out, rfl, F.out⟩⟩

end Go.Proofs.YtjkialmhajbcfaaDoor
