/-
  Layer 9: a line behind the first one read: the program's call.
-/
import Derived.Test.YtjkialmhajbcfaaDoorBSlwP
namespace Go.Proofs.YtjkialmhajbcfaaDoor
open Go.RowKit Fld Slp
set_option linter.unusedVariables false
set_option linter.unusedSimpArgs false

theorem stR_some {n own : Nat} {rs : List Tx} {o : O4} (h : stR n own rs = some o) : (∃ x c, rs = [[61], x] ∧ nmb x 18446744073709551615 = some c ∧ o = ⟨4, 0, 0, (c : Int)⟩) ∨ (∃ x s y k a b, rs = [[61], x, s, y] ∧ sgP s = some k ∧ valP n own x = some a ∧ valP n own y = some b ∧ o = ⟨k, a, b, 0⟩) := by
  match rs, h with
  | [e, w], h =>
    have h' : (if e = [61] then (match nmb w 18446744073709551615 with | some c => some (⟨4, 0, 0, (c : Int)⟩ : O4) | none => none) else none) = some o := h
    by_cases he : e = [61]
    · rw [if_pos he] at h'
      cases hn : nmb w 18446744073709551615 with
      | none => rw [hn] at h'; cases h'
      | some c => rw [hn] at h'; cases h'; exact .inl ⟨w, c, by rw [he], hn, rfl⟩
    · rw [if_neg he] at h'; cases h'
  | [e, x, g, y], h =>
    have h' : (if e = [61] then (match valP n own x, sgP g, valP n own y with | some a, some k, some b => some (⟨k, a, b, 0⟩ : O4) | _, _, _ => none) else none) = some o := h
    by_cases he : e = [61]
    · rw [if_pos he] at h'
      cases h1 : valP n own x with
      | none => rw [h1] at h'; cases h'
      | some a =>
        cases h2 : sgP g with
        | none => rw [h1, h2] at h'; cases h'
        | some k =>
          cases h3 : valP n own y with
          | none => rw [h1, h2, h3] at h'; cases h'
          | some b => rw [h1, h2, h3] at h'; cases h'; exact .inr ⟨x, g, y, k, a, b, by rw [he], h2, h1, h3, rfl⟩
    · rw [if_neg he] at h'; cases h'

theorem sStep_ok (w : World) (rb lb mb n : Nat) (line : Int) (vo : Value) (ops : List O4) (vu : Value) (outs : List Int) (whole : Bool) (rs : List Tx) (o : O4) (hR : RdS w rb line (n : Int) vo ops vu outs whole) (hw : Wds w lb mb rs) (h1 : rb < lb) (h2 : rb < mb) (hn : n ≤ 64) (ho : ops.length ≤ 256) (hs : stR n (n + ops.length) rs = some o) :
    Calls Tryd.prog 67 #[.pointer (some ⟨rb, 0, none⟩), nx lb mb] w fun e w' => e = .returned (opv o) ∧ RdS w' rb line (n : Int) vo ops vu outs whole ∧ Fr rb w w' := by
  rcases stR_some hs with ⟨x, c, rfl, hc, rfl⟩ | ⟨x, s, y, k, a, b, rfl, hk, ha, hb, rfl⟩
  · exact sStep_const w rb lb mb line n vo ops vu outs whole x c hR hw h1 h2 hc
  · exact sStep_bin w rb lb mb n line vo ops vu outs whole x s y k a b hR hw h1 h2 hn ho hk ha hb

/-- A line behind the first one. -/
def soR (n : Nat) (ops : List O4) (rs : List Tx) : Option (List O4 × List Int × Bool) :=
  if rs.headD [] = ouW then (ouR n (n + ops.length) rs.tail).map (fun vs => (ops, vs, true))
  else if ops.length < 256 ∧ rs.headD [] = 116 :: dec ops.length then (stR n (n + ops.length) rs.tail).map (fun o => (ops ++ [o], [], false))
  else none

def SoOk (w : World) (rb lb mb n : Nat) (line : Int) (ops : List O4) (rs : List Tx) : Prop :=
  Calls Tryd.prog 53 #[.pointer (some ⟨rb, 0, none⟩), nx lb mb] w fun e w' => (∃ ops' vs t vo' vu', soR n ops rs = some (ops', vs, t) ∧ e = .returned (.tuple #[]) ∧ RdS w' rb line (n : Int) vo' ops' vu' vs t ∧ Fr rb w w') ∨ (soR n ops rs = none ∧ e = .panicked (pan line) ∧ Fr rb w w')

set_option maxRecDepth 100000 in
set_option maxHeartbeats 1000000 in
theorem sSo (w : World) (rb lb mb n : Nat) (line : Int) (vo : Value) (ops : List O4) (vu : Value) (rs : List Tx) (hR : RdS w rb line (n : Int) vo ops vu [] false) (hw : Wds w lb mb rs) (h1 : rb < lb) (h2 : rb < mb) (hn : n ≤ 64) (ho : ops.length ≤ 256) (hT : ∀ W, Fr rb w W → Tb9 W) : SoOk w rb lb mb n line ops rs := by
  unfold SoOk
  have HT := hide hT
  clear hT
  have HN := sNext w lb mb rs hw
  unfold NextOk at HN
  have hlt := hR.lt
  obtain ⟨d, HD0⟩ : ∃ d, Hid (rs.headD [] = d) := ⟨_, rfl⟩
  obtain ⟨m, HM0⟩ : ∃ m, Hid ((!rs.isEmpty) = m) := ⟨_, rfl⟩
  rw [HD0.out, HM0.out] at HN
  have HW1 := hide (fun W (k : Kw lb mb w W) => hR.kw hw k)
  have HF1 := hide (fun W (k : Kw lb mb w W) => Kw.fr k hw (Nat.le_of_lt h1) (Nat.le_of_lt h2) (Nat.le_of_lt hlt))
  have hg := tx_guard d
  have e1 := eq_lit d [111, 117, 116, 115]
  by_cases hd : d = ouW
  · have HO := hide (fun W (k : Kw lb mb w W) (hw1 : Wds W lb mb rs.tail) => sOuts W rb lb mb n line vo ops vu false rs.tail (HW1.out W k) hw1 h1 h2 hn ho (fun W' f => HT.out W' ((HF1.out W k).trans f)))
    have HS : Hid (soR n ops rs = (ouR n (n + ops.length) rs.tail).map (fun vs => (ops, vs, true))) := by show _ = _; unfold soR; rw [if_pos (HD0.out.trans hd)]
    unfold nx at *
    rw [show (d == [111, 117, 116, 115]) = true from beq_iff_eq.2 hd] at e1
    clear hd
    generalize hT9 : tx d = T at *
    go_enter Tryd.func53, Tryd.ntmps53
    go_wp2_with (first
      | (go_at_call 64; refine HN.mono ?_; clear HN; rintro e W1 ⟨rfl, hw1, hk1⟩)
      | (go_at_call 66; refine (HO.out _ hk1 hw1).mono ?_; rintro e W2 (⟨vs, vu', ho2, rfl, R2, F2⟩ | ⟨ho2, rfl, F2⟩)))
    · refine bodyPost_ret (results_none rfl _ _ _) rfl ?_
      exact .inl ⟨ops, vs, true, vo, vu', by rw [HS.out, ho2]; rfl, rfl, R2, (HF1.out _ hk1).trans F2⟩
    · exact ⟨rfl, .inr ⟨by rw [HS.out, ho2]; rfl, rfl, (HF1.out _ hk1).trans F2⟩⟩
  · rw [show (d == [111, 117, 116, 115]) = false from beq_eq_false_iff_ne.2 hd] at e1
    obtain ⟨ao, co, rfl⟩ := own_slice hR.ro
    by_cases hc : ops.length < 256
    · have hc' : (ops.length : Int) < 256 := by omega
      have HI := hide (fun W (k : Kw lb mb w W) => lItoa ops.length W (by omega) (HT.out W (HF1.out W k)))
      have e2 : ∀ W, (binOp .add 9 (.string ⟨#[116]⟩) (tx (dec ops.length))).run Tryd.prog W = .ok (tx (116 :: dec ops.length)) W := fun W => tx_add [116] _ (by have := dec_20 (n := ops.length) (by omega); simp only [List.length_cons, List.length_nil]; omega) W
      have e3 := tx_guard2 d (116 :: dec ops.length)
      by_cases ht : d = 116 :: dec ops.length
      · have e4 := tx_same ht
        have HS : Hid (soR n ops rs = (stR n (n + ops.length) rs.tail).map (fun o => (ops ++ [o], [], false))) := by show _ = _; unfold soR; rw [if_neg (fun h => hd (HD0.out.symm.trans h)), if_pos ⟨hc, HD0.out.trans ht⟩]
        have HB := hide (fun W W2 (k : Kw lb mb w W) (hb : Below W.heap.size W W2) (R : RdS W2 rb line (n : Int) (.slice ao ops.length co) ops vu [] false) => show Fr rb w W2.drew from ((HF1.out W k).trans (Below.fr hb (Nat.le_of_lt (HW1.out W k).lt))).trans (Below.fr (Below.refl _ W2).drew (Nat.le_of_lt R.lt)))
        cases hs : stR n (n + ops.length) rs.tail with
        | none =>
          rw [hs] at HS
          have HP := hide (fun W2 (R : RdS W2 rb line (n : Int) (.slice ao ops.length co) ops vu [] false) (hw1 : Wds W2 lb mb rs.tail) (hF : Fr rb w W2.drew) => sStep_no W2.drew rb lb mb n line _ ops vu [] false rs.tail (R.below (Below.refl _ W2).drew) (hw1.below (Below.refl _ W2).drew) h1 h2 hn ho hs (fun W' f => HT.out W' (hF.trans f)))
          unfold nx at *
          clear hd ht hs
          generalize tx (116 :: dec ops.length) = T2 at *
          generalize tx (dec ops.length) = T1 at *
          generalize tx d = T at *
          go_enter Tryd.func53, Tryd.ntmps53
          go_wp2_with (first
            | (go_at_call 64; refine HN.mono ?_; clear HN; rintro e W1 ⟨rfl, hw1, hk1⟩; have R1 := HW1.out W1 hk1; have d2 := R1.c2)
            | (go_at_call 29; refine (HI.out _ hk1).mono ?_; rintro e W2 ⟨rfl, hb2⟩; have R2 := R1.below hb2; have F2 := HB.out W1 W2 hk1 hb2 R2; have hw2 := hw1.below hb2)
            | (go_at_call 50; refine (sWant_ok rb _).mono ?_; rintro e W3 ⟨rfl, hW3⟩; rw [hW3]))
          have hS0 : W2.drew.cell? ⟨rb, 2, none⟩ = some (.slice ao ops.length co) := R2.c2
          have HP2 := hide (HP.out W2 R2 hw2 F2)
          refine wp_region_mute (S := (fun W' => W'.cell? ⟨rb, 2, none⟩ = some (.slice ao ops.length co))) (by kernel_rfl) (by kernel_rfl) rfl (by ((try dsimp only) <;> (first | with_reducible exact hS0 | exact HF.out.elim))) (fun hHeld => ?_)
          simp only [muteL, mute]
          (refine wpAnyH_take (i := 0) (oi := _) (v := ?v25) rfl (by kernel_rfl) (by kernel_rfl) (by kernel_rfl) (fun _ _ _ h => h) (Or.inl ⟨by rfl, ?hy25⟩) (by assumption) ?rest25; (case hy25 => (first | (intro w hSw; (try dsimp only at hSw); go_simp; done) | (intro w hSw; (try dsimp only at hSw); go_simp; with_reducible rfl))); (try simp only [Act.put, List.getElem_toArray, List.getElem_cons_succ, List.getElem_cons_zero, List.setIfInBounds_toArray, List.set_cons_zero, List.set_cons_succ]))
          (refine wpAnyH_take (i := 1) (oi := _) (v := ?v26) rfl (by kernel_rfl) (by kernel_rfl) (by kernel_rfl) (fun _ _ _ h => h) (Or.inl ⟨by rfl, ?hy26⟩) (by assumption) ?rest26; (case hy26 => (first | (intro w hSw; (try dsimp only at hSw); go_simp; done) | (intro w hSw; (try dsimp only at hSw); go_simp; with_reducible rfl))); (try simp only [Act.put, List.getElem_toArray, List.getElem_cons_succ, List.getElem_cons_zero, List.setIfInBounds_toArray, List.set_cons_zero, List.set_cons_succ]))
          (refine wpAnyH_take (i := 2) (oi := _) (v := ?v27) rfl (by kernel_rfl) (by kernel_rfl) (by kernel_rfl) (fun _ _ _ h => h) (Or.inl ⟨by rfl, ?hy27⟩) (by assumption) ?rest27; (case hy27 => (first | (intro w hSw; (try dsimp only at hSw); go_simp; done) | (intro w hSw; (try dsimp only at hSw); go_simp; with_reducible rfl))); (try simp only [Act.put, List.getElem_toArray, List.getElem_cons_succ, List.getElem_cons_zero, List.setIfInBounds_toArray, List.set_cons_zero, List.set_cons_succ]))
          (refine wpAnyH_take (i := 3) (oi := _) (v := ?v28) rfl (by kernel_rfl) (by kernel_rfl) (by kernel_rfl) (fun _ _ _ h => h) (Or.inl ⟨by rfl, ?hy28⟩) (by assumption) ?rest28; (case hy28 => (first | (intro w hSw; (try dsimp only at hSw); go_simp; done) | (intro w hSw; (try dsimp only at hSw); go_simp; with_reducible rfl))); (try simp only [Act.put, List.getElem_toArray, List.getElem_cons_succ, List.getElem_cons_zero, List.setIfInBounds_toArray, List.set_cons_zero, List.set_cons_succ]))
          (refine wpAnyH_take (i := 4) (oi := _) (v := ?v29) rfl (by kernel_rfl) (by kernel_rfl) (by kernel_rfl) (fun _ _ _ h => h) (Or.inl ⟨by rfl, ?hy29⟩) (by assumption) ?rest29; (case hy29 => (first | (intro w hSw; (try dsimp only at hSw); go_simp; done) | (intro w hSw; (try dsimp only at hSw); go_simp; with_reducible rfl))); (try simp only [Act.put, List.getElem_toArray, List.getElem_cons_succ, List.getElem_cons_zero, List.setIfInBounds_toArray, List.set_cons_zero, List.set_cons_succ]))
          (refine wpAnyH_take (i := 5) (oi := _) (v := ?v30) rfl (by kernel_rfl) (by kernel_rfl) (by kernel_rfl) (fun _ _ _ h => h) (Or.inl ⟨by rfl, ?hy30⟩) (by assumption) ?rest30; (case hy30 => (first | (intro w hSw; (try dsimp only at hSw); go_simp; done) | (intro w hSw; (try dsimp only at hSw); go_simp; with_reducible rfl))); (try simp only [Act.put, List.getElem_toArray, List.getElem_cons_succ, List.getElem_cons_zero, List.setIfInBounds_toArray, List.set_cons_zero, List.set_cons_succ]))
          (refine wpAnyH_take (i := 6) (oi := _) (v := ?v31) rfl (by kernel_rfl) (by kernel_rfl) (by kernel_rfl) (fun _ _ _ h => h) (Or.inl ⟨by rfl, ?hy31⟩) (by assumption) ?rest31; (case hy31 => (first | (intro w hSw; (try dsimp only at hSw); go_simp; done) | (intro w hSw; (try dsimp only at hSw); go_simp; with_reducible rfl))); (try simp only [Act.put, List.getElem_toArray, List.getElem_cons_succ, List.getElem_cons_zero, List.setIfInBounds_toArray, List.set_cons_zero, List.set_cons_succ]))
          (refine wpAnyH_take (i := 7) (oi := _) (v := ?v32) rfl (by kernel_rfl) (by kernel_rfl) (by kernel_rfl) (fun _ _ _ h => h) (Or.inl ⟨by rfl, ?hy32⟩) (by assumption) ?rest32; (case hy32 => (first | (intro w hSw; (try dsimp only at hSw); go_simp; done) | (intro w hSw; (try dsimp only at hSw); go_simp; with_reducible rfl))); (try simp only [Act.put, List.getElem_toArray, List.getElem_cons_succ, List.getElem_cons_zero, List.setIfInBounds_toArray, List.set_cons_zero, List.set_cons_succ]))
          refine wpAnyH_ready (rs := [8]) (by kernel_rfl) (by simp) ?_
          refine AllReadyH.cons (o := _) rfl (fun K hK => ?_) AllReadyH.nil
          try simp only [List.getElem_toArray, List.getElem_cons_succ, List.getElem_cons_zero]
          go_simp
          (first
                | (go_at_call 67; refine panics_mono (opv ⟨0, 0, 0, 0⟩) HP2.out (fun w3 hf3 => ⟨rfl, .inr ⟨HS.out, rfl, F2.trans hf3⟩⟩) ?_; unfold opv; intro hF; have HF := hide hF; clear hF; dsimp only)
                | (refine app_step (by rfl) _ _ _ _ (by rfl) _ _ (by rfl) (by rfl) (.slice none 0 0) W2 HF.out.elim ?_))
          first | (refine hK.out _ _ (by ((try dsimp only) <;> (first | with_reducible exact hS0 | exact HF.out.elim))) (fun hHeld => ?_)) | (go_wp2_with fail; refine hK.out _ _ (by ((try dsimp only) <;> (first | with_reducible exact hS0 | exact HF.out.elim))) (fun hHeld => ?_))
          clear hK K
          (try simp only [Act.put, List.getElem_toArray, List.getElem_cons_succ, List.getElem_cons_zero, List.setIfInBounds_toArray, List.set_cons_zero, List.set_cons_succ])
          refine wpAnyH_ready (rs := [9]) (by kernel_rfl) (by simp) ?_
          refine AllReadyH.cons (o := _) rfl (fun K hK => ?_) AllReadyH.nil
          try simp only [List.getElem_toArray, List.getElem_cons_succ, List.getElem_cons_zero]
          go_simp
          refine hK.out _ _ (by ((try dsimp only) <;> (first | with_reducible exact hS0 | exact HF.out.elim))) (fun hHeld => ?_)
          clear hK K
          (try simp only [Act.put, List.getElem_toArray, List.getElem_cons_succ, List.getElem_cons_zero, List.setIfInBounds_toArray, List.set_cons_zero, List.set_cons_succ])
          refine wpAnyH_ready (rs := [10]) (by kernel_rfl) (by simp) ?_
          refine AllReadyH.cons (o := _) rfl (fun K hK => ?_) AllReadyH.nil
          (first
                | (go_at_call 67; refine panics_mono (opv ⟨0, 0, 0, 0⟩) HP2.out (fun w3 hf3 => ⟨rfl, .inr ⟨HS.out, rfl, F2.trans hf3⟩⟩) ?_; unfold opv; intro hF; have HF := hide hF; clear hF; dsimp only)
                | (refine app_step (by rfl) _ _ _ _ (by rfl) _ _ (by rfl) (by rfl) (.slice none 0 0) W2 HF.out.elim ?_))
          refine hK.out _ _ (by ((try dsimp only) <;> (first | with_reducible exact hS0 | exact HF.out.elim))) (fun hHeld => ?_)
          clear hK K
          (try simp only [Act.put, List.getElem_toArray, List.getElem_cons_succ, List.getElem_cons_zero, List.setIfInBounds_toArray, List.set_cons_zero, List.set_cons_succ])
          (refine wpAnyH_take (i := 11) (oi := _) (v := ?v33) rfl (by kernel_rfl) (by kernel_rfl) (by kernel_rfl) (fun _ _ _ h => h) (Or.inl ⟨by rfl, ?hy33⟩) (by assumption) ?rest33; (case hy33 => (first | (intro w hSw; (try dsimp only at hSw); go_simp; done) | (intro w hSw; (try dsimp only at hSw); go_simp; with_reducible rfl))); (try simp only [Act.put, List.getElem_toArray, List.getElem_cons_succ, List.getElem_cons_zero, List.setIfInBounds_toArray, List.set_cons_zero, List.set_cons_succ]))
          (refine wpAnyH_take (i := 12) (oi := _) (v := ?v34) rfl (by kernel_rfl) (by kernel_rfl) (by kernel_rfl) (fun _ _ _ h => h) (Or.inl ⟨by rfl, ?hy34⟩) (by assumption) ?rest34; (case hy34 => (first | (intro w hSw; (try dsimp only at hSw); go_simp; done) | (intro w hSw; (try dsimp only at hSw); go_simp; with_reducible rfl))); (try simp only [Act.put, List.getElem_toArray, List.getElem_cons_succ, List.getElem_cons_zero, List.setIfInBounds_toArray, List.set_cons_zero, List.set_cons_succ]))
          (refine wpAnyH_take (i := 13) (oi := _) (v := ?v35) rfl (by kernel_rfl) (by kernel_rfl) (by kernel_rfl) (fun _ _ _ h => h) (Or.inl ⟨by rfl, ?hy35⟩) (by assumption) ?rest35; (case hy35 => (first | (intro w hSw; (try dsimp only at hSw); go_simp; done) | (intro w hSw; (try dsimp only at hSw); go_simp; with_reducible rfl))); (try simp only [Act.put, List.getElem_toArray, List.getElem_cons_succ, List.getElem_cons_zero, List.setIfInBounds_toArray, List.set_cons_zero, List.set_cons_succ]))
          (refine wpAnyH_take (i := 14) (oi := _) (v := ?v36) rfl (by kernel_rfl) (by kernel_rfl) (by kernel_rfl) (fun _ _ _ h => h) (Or.inl ⟨by rfl, ?hy36⟩) (by assumption) ?rest36; (case hy36 => (first | (intro w hSw; (try dsimp only at hSw); go_simp; done) | (intro w hSw; (try dsimp only at hSw); go_simp; with_reducible rfl))); (try simp only [Act.put, List.getElem_toArray, List.getElem_cons_succ, List.getElem_cons_zero, List.setIfInBounds_toArray, List.set_cons_zero, List.set_cons_succ]))
          refine wpAnyH_done (by kernel_rfl) ?_ _
          all_goals exact HF.out.elim
        | some o =>
          rw [hs] at HS
          have HP := hide (fun W2 (R : RdS W2 rb line (n : Int) (.slice ao ops.length co) ops vu [] false) (hw1 : Wds W2 lb mb rs.tail) => sStep_ok W2.drew rb lb mb n line _ ops vu [] false rs.tail o (R.below (Below.refl _ W2).drew) (hw1.below (Below.refl _ W2).drew) h1 h2 hn ho hs)
          have HA := hide (fun (W : World) (R : RdS W rb line (n : Int) (.slice ao ops.length co) ops vu [] false) => RdS.app_ops (R.below (alloc_below W (.cells #[.int .u8 o.k, .int .i64 o.a, .int .i64 o.b, .int .u64 o.c] 47))) ⟨W.heap.size, 0, none⟩ o (fun j u hj => by
            have hj4 : j < 4 := by have := (List.getElem?_eq_some_iff.1 hj).1; simpa [opw] using this
            have e0 := heap_alloc_new W (.cells #[.int .u8 o.k, .int .i64 o.a, .int .i64 o.b, .int .u64 o.c] 47)
            rw [show (⟨W.heap.size, 0, none⟩ : Addr).add j = ⟨W.heap.size, j, none⟩ by unfold Addr.add; split <;> simp_all, Lib.cell_of_heap e0]
            match j, hj4, hj with
            | 0, _, hj => simpa [opw] using hj
            | 1, _, hj => simpa [opw] using hj
            | 2, _, hj => simpa [opw] using hj
            | 3, _, hj => simpa [opw] using hj) hc)
          have HF5 := hide (fun (W : World) (R : RdS W rb line (n : Int) (.slice ao ops.length co) ops vu [] false) => Below.fr (alloc_below W (.cells #[.int .u8 o.k, .int .i64 o.a, .int .i64 o.b, .int .u64 o.c] 47)) (Nat.le_of_lt R.lt))
          unfold nx opv at *
          clear hd ht hs
          generalize tx (116 :: dec ops.length) = T2 at *
          generalize tx (dec ops.length) = T1 at *
          generalize tx d = T at *
          go_enter Tryd.func53, Tryd.ntmps53
          go_wp2_with (first
            | (go_at_call 64; refine HN.mono ?_; clear HN; rintro e W1 ⟨rfl, hw1, hk1⟩; have R1 := HW1.out W1 hk1; have d2 := R1.c2)
            | (go_at_call 29; refine (HI.out _ hk1).mono ?_; rintro e W2 ⟨rfl, hb2⟩; have R2 := R1.below hb2; have F2 := HB.out W1 W2 hk1 hb2 R2; have hw2 := hw1.below hb2)
            | (go_at_call 50; refine (sWant_ok rb _).mono ?_; rintro e W3 ⟨rfl, hW3⟩; rw [hW3]))
          have hS0 : W2.drew.cell? ⟨rb, 2, none⟩ = some (.slice ao ops.length co) := R2.c2
          have HP2 := hide (HP.out W2 R2 hw2)
          refine wp_region_mute (S := (fun W' => W'.cell? ⟨rb, 2, none⟩ = some (.slice ao ops.length co))) (by kernel_rfl) (by kernel_rfl) rfl (by ((try dsimp only) <;> (first | with_reducible exact hS0 | with_reducible exact hS1 | with_reducible exact hS2 _ | with_reducible exact hS4))) (fun hHeld => ?_)
          simp only [muteL, mute]
          (refine wpAnyH_take (i := 0) (oi := _) (v := ?v37) rfl (by kernel_rfl) (by kernel_rfl) (by kernel_rfl) (fun _ _ _ h => h) (Or.inl ⟨by rfl, ?hy37⟩) (by assumption) ?rest37; (case hy37 => (first | (intro w hSw; (try dsimp only at hSw); go_simp; done) | (intro w hSw; (try dsimp only at hSw); go_simp; with_reducible rfl))); (try simp only [Act.put, List.getElem_toArray, List.getElem_cons_succ, List.getElem_cons_zero, List.setIfInBounds_toArray, List.set_cons_zero, List.set_cons_succ]))
          (refine wpAnyH_take (i := 1) (oi := _) (v := ?v38) rfl (by kernel_rfl) (by kernel_rfl) (by kernel_rfl) (fun _ _ _ h => h) (Or.inl ⟨by rfl, ?hy38⟩) (by assumption) ?rest38; (case hy38 => (first | (intro w hSw; (try dsimp only at hSw); go_simp; done) | (intro w hSw; (try dsimp only at hSw); go_simp; with_reducible rfl))); (try simp only [Act.put, List.getElem_toArray, List.getElem_cons_succ, List.getElem_cons_zero, List.setIfInBounds_toArray, List.set_cons_zero, List.set_cons_succ]))
          (refine wpAnyH_take (i := 2) (oi := _) (v := ?v39) rfl (by kernel_rfl) (by kernel_rfl) (by kernel_rfl) (fun _ _ _ h => h) (Or.inl ⟨by rfl, ?hy39⟩) (by assumption) ?rest39; (case hy39 => (first | (intro w hSw; (try dsimp only at hSw); go_simp; done) | (intro w hSw; (try dsimp only at hSw); go_simp; with_reducible rfl))); (try simp only [Act.put, List.getElem_toArray, List.getElem_cons_succ, List.getElem_cons_zero, List.setIfInBounds_toArray, List.set_cons_zero, List.set_cons_succ]))
          (refine wpAnyH_take (i := 3) (oi := _) (v := ?v40) rfl (by kernel_rfl) (by kernel_rfl) (by kernel_rfl) (fun _ _ _ h => h) (Or.inl ⟨by rfl, ?hy40⟩) (by assumption) ?rest40; (case hy40 => (first | (intro w hSw; (try dsimp only at hSw); go_simp; done) | (intro w hSw; (try dsimp only at hSw); go_simp; with_reducible rfl))); (try simp only [Act.put, List.getElem_toArray, List.getElem_cons_succ, List.getElem_cons_zero, List.setIfInBounds_toArray, List.set_cons_zero, List.set_cons_succ]))
          (refine wpAnyH_take (i := 4) (oi := _) (v := ?v41) rfl (by kernel_rfl) (by kernel_rfl) (by kernel_rfl) (fun _ _ _ h => h) (Or.inl ⟨by rfl, ?hy41⟩) (by assumption) ?rest41; (case hy41 => (first | (intro w hSw; (try dsimp only at hSw); go_simp; done) | (intro w hSw; (try dsimp only at hSw); go_simp; with_reducible rfl))); (try simp only [Act.put, List.getElem_toArray, List.getElem_cons_succ, List.getElem_cons_zero, List.setIfInBounds_toArray, List.set_cons_zero, List.set_cons_succ]))
          (refine wpAnyH_take (i := 5) (oi := _) (v := ?v42) rfl (by kernel_rfl) (by kernel_rfl) (by kernel_rfl) (fun _ _ _ h => h) (Or.inl ⟨by rfl, ?hy42⟩) (by assumption) ?rest42; (case hy42 => (first | (intro w hSw; (try dsimp only at hSw); go_simp; done) | (intro w hSw; (try dsimp only at hSw); go_simp; with_reducible rfl))); (try simp only [Act.put, List.getElem_toArray, List.getElem_cons_succ, List.getElem_cons_zero, List.setIfInBounds_toArray, List.set_cons_zero, List.set_cons_succ]))
          (refine wpAnyH_take (i := 6) (oi := _) (v := ?v43) rfl (by kernel_rfl) (by kernel_rfl) (by kernel_rfl) (fun _ _ _ h => h) (Or.inl ⟨by rfl, ?hy43⟩) (by assumption) ?rest43; (case hy43 => (first | (intro w hSw; (try dsimp only at hSw); go_simp; done) | (intro w hSw; (try dsimp only at hSw); go_simp; with_reducible rfl))); (try simp only [Act.put, List.getElem_toArray, List.getElem_cons_succ, List.getElem_cons_zero, List.setIfInBounds_toArray, List.set_cons_zero, List.set_cons_succ]))
          (refine wpAnyH_take (i := 7) (oi := _) (v := ?v44) rfl (by kernel_rfl) (by kernel_rfl) (by kernel_rfl) (fun _ _ _ h => h) (Or.inl ⟨by rfl, ?hy44⟩) (by assumption) ?rest44; (case hy44 => (first | (intro w hSw; (try dsimp only at hSw); go_simp; done) | (intro w hSw; (try dsimp only at hSw); go_simp; with_reducible rfl))); (try simp only [Act.put, List.getElem_toArray, List.getElem_cons_succ, List.getElem_cons_zero, List.setIfInBounds_toArray, List.set_cons_zero, List.set_cons_succ]))
          refine wpAnyH_ready (rs := [8]) (by kernel_rfl) (by simp) ?_
          refine AllReadyH.cons (o := _) rfl (fun K hK => ?_) AllReadyH.nil
          try simp only [List.getElem_toArray, List.getElem_cons_succ, List.getElem_cons_zero]
          go_simp
          (first
                | (go_at_call 67; refine HP2.out.mono ?_; rintro e w3 ⟨rfl, R3, F3⟩; have hS1 := R3.c2; have hS2 := fun q => (R3.below (alloc_below w3 q)).c2; obtain ⟨au4, cu4, w4, hr4, hS4, hz4, R4, F4⟩ := HA.out w3 R3; have F5 := HF5.out w3 R3)
                | (refine app_step (by rfl) _ _ _ _ (by rfl) _ _ (by rfl) (by rfl) _ w4 hr4 ?_))
          first | (refine hK.out _ _ (by ((try dsimp only) <;> (first | with_reducible exact hS0 | with_reducible exact hS1 | with_reducible exact hS2 _ | with_reducible exact hS4))) (fun hHeld => ?_)) | (go_wp2_with fail; refine hK.out _ _ (by ((try dsimp only) <;> (first | with_reducible exact hS0 | with_reducible exact hS1 | with_reducible exact hS2 _ | with_reducible exact hS4))) (fun hHeld => ?_))
          clear hK K
          (try simp only [Act.put, List.getElem_toArray, List.getElem_cons_succ, List.getElem_cons_zero, List.setIfInBounds_toArray, List.set_cons_zero, List.set_cons_succ])
          refine wpAnyH_ready (rs := [9]) (by kernel_rfl) (by simp) ?_
          refine AllReadyH.cons (o := _) rfl (fun K hK => ?_) AllReadyH.nil
          try simp only [List.getElem_toArray, List.getElem_cons_succ, List.getElem_cons_zero]
          go_simp
          refine hK.out _ _ (by ((try dsimp only) <;> (first | with_reducible exact hS0 | with_reducible exact hS1 | with_reducible exact hS2 _ | with_reducible exact hS4))) (fun hHeld => ?_)
          clear hK K
          (try simp only [Act.put, List.getElem_toArray, List.getElem_cons_succ, List.getElem_cons_zero, List.setIfInBounds_toArray, List.set_cons_zero, List.set_cons_succ])
          refine wpAnyH_ready (rs := [10]) (by kernel_rfl) (by simp) ?_
          refine AllReadyH.cons (o := _) rfl (fun K hK => ?_) AllReadyH.nil
          (first
                | (go_at_call 67; refine HP2.out.mono ?_; rintro e w3 ⟨rfl, R3, F3⟩; have hS1 := R3.c2; have hS2 := fun q => (R3.below (alloc_below w3 q)).c2; obtain ⟨au4, cu4, w4, hr4, hS4, hz4, R4, F4⟩ := HA.out w3 R3; have F5 := HF5.out w3 R3)
                | (refine app_step (by rfl) _ _ _ _ (by rfl) _ _ (by rfl) (by rfl) _ w4 hr4 ?_))
          refine hK.out _ _ (by ((try dsimp only) <;> (first | with_reducible exact hS0 | with_reducible exact hS1 | with_reducible exact hS2 _ | with_reducible exact hS4))) (fun hHeld => ?_)
          clear hK K
          (try simp only [Act.put, List.getElem_toArray, List.getElem_cons_succ, List.getElem_cons_zero, List.setIfInBounds_toArray, List.set_cons_zero, List.set_cons_succ])
          (refine wpAnyH_take (i := 11) (oi := _) (v := ?v45) rfl (by kernel_rfl) (by kernel_rfl) (by kernel_rfl) (fun _ _ _ h => h) (Or.inl ⟨by rfl, ?hy45⟩) (by assumption) ?rest45; (case hy45 => (first | (intro w hSw; (try dsimp only at hSw); go_simp; done) | (intro w hSw; (try dsimp only at hSw); go_simp; with_reducible rfl))); (try simp only [Act.put, List.getElem_toArray, List.getElem_cons_succ, List.getElem_cons_zero, List.setIfInBounds_toArray, List.set_cons_zero, List.set_cons_succ]))
          (refine wpAnyH_take (i := 12) (oi := _) (v := ?v46) rfl (by kernel_rfl) (by kernel_rfl) (by kernel_rfl) (fun _ _ _ h => h) (Or.inl ⟨by rfl, ?hy46⟩) (by assumption) ?rest46; (case hy46 => (first | (intro w hSw; (try dsimp only at hSw); go_simp; done) | (intro w hSw; (try dsimp only at hSw); go_simp; with_reducible rfl))); (try simp only [Act.put, List.getElem_toArray, List.getElem_cons_succ, List.getElem_cons_zero, List.setIfInBounds_toArray, List.set_cons_zero, List.set_cons_succ]))
          (refine wpAnyH_take (i := 13) (oi := _) (v := ?v47) rfl (by kernel_rfl) (by kernel_rfl) (by kernel_rfl) (fun _ _ _ h => h) (Or.inl ⟨by rfl, ?hy47⟩) (by assumption) ?rest47; (case hy47 => (first | (intro w hSw; (try dsimp only at hSw); go_simp; done) | (intro w hSw; (try dsimp only at hSw); go_simp; with_reducible rfl))); (try simp only [Act.put, List.getElem_toArray, List.getElem_cons_succ, List.getElem_cons_zero, List.setIfInBounds_toArray, List.set_cons_zero, List.set_cons_succ]))
          (refine wpAnyH_take (i := 14) (oi := _) (v := ?v48) rfl (by kernel_rfl) (by kernel_rfl) (by kernel_rfl) (fun _ _ _ h => h) (Or.inl ⟨by rfl, ?hy48⟩) (by assumption) ?rest48; (case hy48 => (first | (intro w hSw; (try dsimp only at hSw); go_simp; done) | (intro w hSw; (try dsimp only at hSw); go_simp; with_reducible rfl))); (try simp only [Act.put, List.getElem_toArray, List.getElem_cons_succ, List.getElem_cons_zero, List.setIfInBounds_toArray, List.set_cons_zero, List.set_cons_succ]))
          refine wpAnyH_done (by kernel_rfl) ?_ _
          simp only [muteQ]
          replace R4 := hide R4
          have F6 := hide (((F2.trans F3).trans F5).trans F4)
          clear F2 F3 F5 F4 R3 hS1 hS2 hr4 HP2 HA HP HF5
          go_wp2
          go_end0
          exact .inl ⟨ops ++ [o], [], false, _, vu, HS.out, rfl, R4.out, F6.out⟩
      · have e4 := tx_other ht
        have HS : Hid (soR n ops rs = none) := by show _ = _; unfold soR; rw [if_neg (fun h => hd (HD0.out.symm.trans h)), if_neg (fun h => ht (HD0.out.symm.trans h.2))]
        unfold nx at *
        clear hd ht
        generalize tx (116 :: dec ops.length) = T2 at *
        generalize tx (dec ops.length) = T1 at *
        generalize tx d = T at *
        go_enter Tryd.func53, Tryd.ntmps53
        go_wp2_with (first
          | (go_at_call 64; refine HN.mono ?_; clear HN; rintro e W1 ⟨rfl, hw1, hk1⟩; have R1 := HW1.out W1 hk1; have d2 := R1.c2)
          | (go_at_call 29; refine (HI.out _ hk1).mono ?_; rintro e W2 ⟨rfl, hb2⟩; have R2 := R1.below hb2; have F2 := (HF1.out _ hk1).trans (Below.fr hb2 (Nat.le_of_lt R1.lt)))
          | (go_at_call 50; refine (sWant_no rb line _ R2.c0).mono ?_; rintro e W3 ⟨rfl, hW3⟩; rw [hW3]))
        exact ⟨rfl, .inr ⟨HS.out, rfl, F2⟩⟩
    · have hc' : ¬ (ops.length : Int) < 256 := by omega
      have HS : Hid (soR n ops rs = none) := by show _ = _; unfold soR; rw [if_neg (fun h => hd (HD0.out.symm.trans h)), if_neg (fun h => hc h.1)]
      unfold nx at *
      clear hd
      generalize tx d = T at *
      go_enter Tryd.func53, Tryd.ntmps53
      go_wp2_with (first
        | (go_at_call 64; refine HN.mono ?_; clear HN; rintro e W1 ⟨rfl, hw1, hk1⟩; have R1 := HW1.out W1 hk1; have d2 := R1.c2)
        | (go_at_call 50; refine (sWant_no rb line _ R1.c0).mono ?_; rintro e W3 ⟨rfl, hW3⟩; rw [hW3]))
      exact ⟨rfl, .inr ⟨HS.out, rfl, HF1.out _ hk1⟩⟩

end Go.Proofs.YtjkialmhajbcfaaDoor
