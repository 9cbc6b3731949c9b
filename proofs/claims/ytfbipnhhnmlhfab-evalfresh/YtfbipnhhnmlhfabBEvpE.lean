/-
  Layer 11: a row's answer written by a closure that keeps the first error: the program's.
-/
import Derived.Test.YtfbipnhhnmlhfabBEvpD
import Derived.Test.YtfbipnhhnmlhfabBunK
import Derived.Test.YtfbipnhhnmlhfabBTreB
import Derived.Test.YtfbipnhhnmlhfabBQMute
namespace Go.Proofs.Ytfbipnhhnmlhfab
open Go.RowKit Fld Slp
set_option linter.unusedVariables false
set_option linter.unusedSimpArgs false

theorem sl_infoE : (Try.prog.info? 35).map (fun i => (i.zero, i.size, i.bytes)) = some (some (.slice none 0 0), 1, 24) := by kernel_rfl
set_option maxHeartbeats 200000 in
theorem eAhead (d e : Int) (w : World) : Calls Try.prog 17 #[.int .i64 d, .int .i64 e] w fun x w' => x = .returned (.int .i64 (ahd d e)) ∧ w' = w := by
  by_cases h1 : d = 0
  · have HE : Hid (ahd d e = e) := by show _ = _; unfold ahd; rw [if_pos (.inl h1)]
    rw [HE.out]
    go_enter Try.func17, Try.ntmps17
    go_wp2
    go_ret
    exact ⟨rfl, rfl⟩
  · by_cases h2 : e = 0
    · have HE : Hid (ahd d e = d) := by show _ = _; unfold ahd; rw [if_neg (by omega)]
      rw [HE.out]
      go_enter Try.func17, Try.ntmps17
      go_wp2
      go_ret
      exact ⟨rfl, rfl⟩
    · have t1 : (d == 0) = false := by simpa using h1
      have t2 : (e != 0) = true := bne_iff_ne.2 h2
      by_cases h3 : e < d
      · have HE : Hid (ahd d e = e) := by show _ = _; unfold ahd; rw [if_pos (.inr ⟨h2, h3⟩)]
        rw [HE.out]
        go_enter Try.func17, Try.ntmps17
        go_wp2
        go_ret
        exact ⟨rfl, rfl⟩
      · have HE : Hid (ahd d e = d) := by show _ = _; unfold ahd; rw [if_neg (by omega)]
        rw [HE.out]
        go_enter Try.func17, Try.ntmps17
        go_wp2
        go_ret
        exact ⟨rfl, rfl⟩

/-- What the closure stands on: its four boxes. -/
structure Ms (W : World) (f : Int) (q : Pr) (ao au : Option Addr) (co' cu b8 b3 b4 b9 : Nat) (er : Int) (va : Value) : Prop where
  c8 : W.heap[b8]? = some (.cells #[.int .i64 er] 30 (0, 0))
  c3 : W.heap[b3]? = some (.cells #[.int .u8 f] 27 (0, 0))
  c4 : W.heap[b4]? = some (.cells #[.int .i64 q.inp, .slice ao q.ops.length co', .slice au q.outs.length cu] 25 (0, 0))
  c9 : W.heap[b9]? = some (.cells #[va] 26 (0, 0))
theorem cell1 {W : World} {b : Nat} {x : Value} {T : TypeId} {fz : Nat × Nat} (h : W.heap[b]? = some (.cells #[x] T fz)) : W.cell? ⟨b, 0, none⟩ = some x := by
  unfold World.cell?; simp [h]
theorem Ms.below {W W' : World} {f : Int} {q : Pr} {ao au : Option Addr} {co' cu b8 b3 b4 b9 : Nat} {er : Int} {va : Value} (h : Ms W f q ao au co' cu b8 b3 b4 b9 er va) (hb : Below W.heap.size W W') : Ms W' f q ao au co' cu b8 b3 b4 b9 er va :=
  ⟨(hb.block _ (Array.getElem?_eq_some_iff.1 h.c8).1).trans h.c8, (hb.block _ (Array.getElem?_eq_some_iff.1 h.c3).1).trans h.c3, (hb.block _ (Array.getElem?_eq_some_iff.1 h.c4).1).trans h.c4, (hb.block _ (Array.getElem?_eq_some_iff.1 h.c9).1).trans h.c9⟩
theorem set_far {W : World} {b g k : Nat} {v : Value} (h : b ≠ g) : (W.setCell ⟨g, k, none⟩ v).heap[b]? = W.heap[b]? := Below.heap_setCell W ⟨g, k, none⟩ v b h
theorem Ms.put8 {W : World} {f : Int} {q : Pr} {ao au : Option Addr} {co' cu b8 b3 b4 b9 : Nat} {er : Int} {va : Value} (h : Ms W f q ao au co' cu b8 b3 b4 b9 er va) (n1 : b3 ≠ b8) (n2 : b4 ≠ b8) (n3 : b9 ≠ b8) (e : Int) : Ms (W.setCell ⟨b8, 0, none⟩ (.int .i64 e)) f q ao au co' cu b8 b3 b4 b9 e va :=
  ⟨by rw [set_blk h.c8]; rfl, by rw [set_far n1]; exact h.c3, by rw [set_far n2]; exact h.c4, by rw [set_far n3]; exact h.c9⟩
theorem Ms.put9 {W : World} {f : Int} {q : Pr} {ao au : Option Addr} {co' cu b8 b3 b4 b9 : Nat} {er : Int} {va : Value} (h : Ms W f q ao au co' cu b8 b3 b4 b9 er va) (n1 : b3 ≠ b9) (n2 : b4 ≠ b9) (n3 : b8 ≠ b9) (v : Value) : Ms (W.setCell ⟨b9, 0, none⟩ v) f q ao au co' cu b8 b3 b4 b9 er v :=
  ⟨by rw [set_far n3]; exact h.c8, by rw [set_far n1]; exact h.c3, by rw [set_far n2]; exact h.c4, by rw [set_blk h.c9]; rfl⟩


theorem Ms.grown {W W' : World} {f : Int} {q : Pr} {ao au : Option Addr} {co' cu b8 b3 b4 b9 lo n : Nat} {er : Int} {va v : Value} {us : List Value} {T : TypeId} {o : Obj} (h : Ms W f q ao au co' cu b8 b3 b4 b9 er va) (hr : W.ownsRow lo T 1 v n us) (hg : (W.alloc o).grownBy W' v.ownBlock) (h8 : b8 < lo) (h3 : b3 < lo) (h4 : b4 < lo) (h9 : b9 < lo) (hlo : lo ≤ W.heap.size) : Ms W' f q ao au co' cu b8 b3 b4 b9 er va := by
  have key : ∀ b, b < lo → W'.heap[b]? = W.heap[b]? := fun b hb => by
    rw [hg.block b (by simp; omega) (fun e => by have := own_base hr b e.symm; omega), (alloc_below W o).block b (by omega)]
  exact ⟨by rw [key _ h8]; exact h.c8, by rw [key _ h3]; exact h.c3, by rw [key _ h4]; exact h.c4, by rw [key _ h9]; exact h.c9⟩
theorem kq_set {S : Nat → Prop} {W : World} {g k : Nat} {v : Value} (h : ¬ S g) : Kq S W (W.setCell ⟨g, k, none⟩ v) := by
  refine ⟨rfl, rfl, rfl, by simp, fun j hj => ?_⟩
  exact set_far (fun e => h (by rw [← e]; exact hj))
theorem kq_lss {S : Nat → Prop} {w w' : World} {lo hi : Nat} {v : Value} {us : List Value} {xss : List (List Int)} (h : Kq S w w') (hL : Lss w lo hi v us xss) (hs : ∀ j, lo ≤ j → j < w.heap.size → S j) : Lss w' lo hi v us xss :=
  ⟨h.own hL.row (fun g hg => hs g (own_base hL.row g hg) (own_top hL.row g hg)), fun i hi => h.own (hL.each i hi) (fun g hg => hs g (own_base (hL.each i hi) g hg) (own_top (hL.each i hi) g hg)), hL.from_, hL.top, hL.up⟩
theorem lss_here {w : World} {lo hi : Nat} {v : Value} {us : List Value} {xss : List (List Int)} (h : Lss w lo hi v us xss) : Lss w lo w.heap.size v us xss :=
  ⟨h.row, h.each, h.from_, fun i g hg => by
    by_cases hi' : i < xss.length
    · exact own_top (h.each i hi') g hg
    · have : us.getD i nov = nov := by
        rw [List.getD_eq_getElem?_getD, List.getElem?_eq_none (by have := h.len; omega)]; rfl
      rw [this] at hg; simp [nov, Value.ownBlock] at hg, h.up⟩

theorem cells_grown {w4 w5 : World} {lo b9 b3 b4 n S : Nat} {v x y z1 z2 z3 : Value} {us : List Value} {T : TypeId} {o : Obj} (hr : w4.ownsRow lo T 1 v n us) (hg : (w4.alloc o).grownBy w5 v.ownBlock) (h9 : b9 < lo) (h3 : b3 < lo) (h4 : b4 < lo) (hlo : lo ≤ S) (hs : S ≤ w4.heap.size)
    (h : w4.cell? ⟨b9, 0, none⟩ = some x ∧ w4.cell? ⟨b3, 0, none⟩ = some y ∧ w4.cell? ⟨b4, 0, none⟩ = some z1 ∧ w4.cell? ⟨b4, 1, none⟩ = some z2 ∧ w4.cell? ⟨b4, 2, none⟩ = some z3) : w5.cell? ⟨b9, 0, none⟩ = some x ∧ w5.cell? ⟨b3, 0, none⟩ = some y ∧ w5.cell? ⟨b4, 0, none⟩ = some z1 ∧ w5.cell? ⟨b4, 1, none⟩ = some z2 ∧ w5.cell? ⟨b4, 2, none⟩ = some z3 := by
  have key : ∀ b k, b < lo → w5.cell? ⟨b, k, none⟩ = w4.cell? ⟨b, k, none⟩ := fun b k hb => by
    refine World.cell?_of_block ?_
    show w5.heap[b]? = w4.heap[b]?
    rw [hg.block b (by simp; omega) (fun e => by have := own_base hr b e.symm; omega), (alloc_below w4 o).block b (by omega)]
  rw [key _ _ h9, key _ _ h3, key _ _ h4, key _ _ h4, key _ _ h4]; exact h

set_option maxRecDepth 100000 in
set_option maxHeartbeats 400000 in
theorem mWrite (f : Int) (q : Pr) (vi : Value) (ao au : Option Addr) (co' cu b8 b3 b4 b9 lo : Nat) (er : Int) (va : Value) (us : List Value) (zss : List (List Int)) (xs : List Int) (w W : World)
    (hp : Pm w (.agg #[.int .i64 q.inp, .slice ao q.ops.length co', .slice au q.outs.length cu]) q) (hm : mayB q = true) (hr : Rw w vi xs) (hB : Below w.heap.size w W) (hM : Ms W f q ao au co' cu b8 b3 b4 b9 er va) (hL : Lss W lo W.heap.size va us zss)
    (hlo : lo ≤ W.heap.size) (g8 : w.heap.size ≤ b8 ∧ b8 < lo) (g3 : b3 < lo ∧ b3 ≠ b8 ∧ b3 ≠ b9) (g4 : b4 < lo ∧ b4 ≠ b8 ∧ b4 ≠ b9) (g9 : w.heap.size ≤ b9 ∧ b9 < lo ∧ b9 ≠ b8) (hz : er = 0 → zss.length ≤ 4096) :
    Calls Try.prog 16 #[vi, .pointer (some ⟨b8, 0, none⟩), .pointer (some ⟨b3, 0, none⟩), .pointer (some ⟨b4, 0, none⟩), .pointer (some ⟨b9, 0, none⟩)] W fun e w' => ∃ va' us' zss', e = .returned (.tuple #[]) ∧ Ms w' f q ao au co' cu b8 b3 b4 b9 (ahd er (rwE f q xs)) va' ∧ Lss w' lo w'.heap.size va' us' zss' ∧
      (ahd er (rwE f q xs) = 0 → zss' = zss ++ [rnO (Rf f) q xs]) ∧ Kq (fun j => j < lo ∧ j ≠ b8 ∧ j ≠ b9) W w' := by
  obtain ⟨i0, hi0, hz0, hz1, hz2⟩ := info_parts sl_infoE
  have HC := hide (fun V (hb : Below w.heap.size w V) => eCheckRow f q _ vi xs V (hp.below hb) (hr.below hb))
  have HA := hide (fun V => eAhead er (rwE f q xs) V)
  have HV : Hid (rwE f q xs = 0 → ∀ V (hb : Below w.heap.size w V), Calls Try.prog 20 #[elI f, .agg #[.int .i64 q.inp, .slice ao q.ops.length co', .slice au q.outs.length cu], vi] V fun e w' => ∃ v', e = .returned v' ∧ w'.ownsRow V.heap.size 36 1 v' (rns (Rf f) q xs).length (vals (rns (Rf f) q xs)) ∧ Below V.heap.size V w') := fun he V hb => by
    obtain ⟨h1, h2⟩ := rwE_zero he
    obtain ⟨p, wd, hf, hi⟩ := inF_fi h1
    obtain ⟨⟨j0, j1, l1, l2⟩, _, _⟩ := mayB_iff.1 hm
    exact eValues f p wd q _ vi xs V hf (hp.below hb) hm (hr.below hb) (els_of hi hr.words) (by omega)
  have HO : Hid (rwE f q xs = 0 → ∀ V B v' (hb : Below w.heap.size w V) (ho : V.ownsRow B 36 1 v' (rns (Rf f) q xs).length (vals (rns (Rf f) q xs))), Calls Try.prog 19 #[.agg #[.int .i64 q.inp, .slice ao q.ops.length co', .slice au q.outs.length cu], v'] V fun e w' => ∃ v', e = .returned v' ∧ w'.ownsRow V.heap.size 36 1 v' (rnO (Rf f) q xs).length (vals (rnO (Rf f) q xs)) ∧ Below V.heap.size V w') := fun he V B v' hb ho => by
    obtain ⟨h1, h2⟩ := rwE_zero he
    obtain ⟨p, wd, hf, hi⟩ := inF_fi h1
    have hx := els_of hi hr.words
    obtain ⟨⟨j0, j1, l1, l2⟩, _, _⟩ := mayB_iff.1 hm
    have hl : (rns (Rf f) q xs).length = q.inp.toNat + q.ops.length := by unfold rns; rw [rnL_len]; omega
    rw [rnO_len]
    exact eComing q _ v' _ V (hp.below hb) hm (rw_of_own ho (by omega) (els_words (el_all hf q.ops xs hx) hf.top)) hl
  obtain ⟨ai, ci, rfl, hci⟩ := hr.spell
  have HB := hide hB
  have HM := hide hM
  have HL := hide hL
  clear hp hm hr hB hM hL
  have HX : Hid (ahd er (rwE f q xs) = 0 → er = 0 ∧ rwE f q xs = 0) := fun h => by
    unfold ahd at h
    split at h
    · rename_i h1; omega
    · rename_i h1; omega
  have HS : Hid (∀ V, Below W.heap.size W V → V.cell? ⟨b8, 0, none⟩ = some (.int .i64 er) ∧ V.cell? ⟨b3, 0, none⟩ = some (.int .u8 f) ∧ V.cell? ⟨b4, 0, none⟩ = some (.int .i64 q.inp) ∧ V.cell? ⟨b4, 1, none⟩ = some (.slice ao q.ops.length co') ∧ V.cell? ⟨b4, 2, none⟩ = some (.slice au q.outs.length cu)) := fun V hb => by
    have h := HM.out.below hb
    exact ⟨cell1 h.c8, cell1 h.c3, (cell3 h.c4).1, (cell3 h.c4).2.1, (cell3 h.c4).2.2⟩
  have hdr : Below W.heap.size W W.drew := (Below.refl _ W).drew
  have hS0 := HS.out _ hdr
  have hBd := Below.next HB.out hdr
  generalize hee : rwE f q xs = ee at *
  go_enter Try.func16, Try.ntmps16
  go_upto_region 0 with fail
  refine wp_region_mute (S := (fun V => V.cell? ⟨b8, 0, none⟩ = some (.int .i64 er) ∧ V.cell? ⟨b3, 0, none⟩ = some (.int .u8 f) ∧ V.cell? ⟨b4, 0, none⟩ = some (.int .i64 q.inp) ∧ V.cell? ⟨b4, 1, none⟩ = some (.slice ao q.ops.length co') ∧ V.cell? ⟨b4, 2, none⟩ = some (.slice au q.outs.length cu))) (by kernel_rfl) (by kernel_rfl) rfl (by ((try dsimp only) <;> (first | with_reducible exact hS1 | with_reducible exact hS0))) (fun hHeld => ?_)
  simp only [muteL, mute]
  (refine wpAnyH_take (i := 0) (oi := _) (v := ?v91) rfl (by kernel_rfl) (by kernel_rfl) (by kernel_rfl) (fun _ _ _ h => h) (Or.inl ⟨by rfl, ?hy91⟩) (by assumption) ?rest91; (case hy91 => (first | (intro w hSw; (try dsimp only at hSw); go_simp; done) | (intro w hSw; (try dsimp only at hSw); go_simp; with_reducible rfl))); (try simp only [Act.put, List.getElem_toArray, List.getElem_cons_succ, List.getElem_cons_zero, List.setIfInBounds_toArray, List.set_cons_zero, List.set_cons_succ]))
  (refine wpAnyH_take (i := 1) (oi := _) (v := ?v92) rfl (by kernel_rfl) (by kernel_rfl) (by kernel_rfl) (fun _ _ _ h => h) (Or.inl ⟨by rfl, ?hy92⟩) (by assumption) ?rest92; (case hy92 => (first | (intro w hSw; (try dsimp only at hSw); go_simp; done) | (intro w hSw; (try dsimp only at hSw); go_simp; with_reducible rfl))); (try simp only [Act.put, List.getElem_toArray, List.getElem_cons_succ, List.getElem_cons_zero, List.setIfInBounds_toArray, List.set_cons_zero, List.set_cons_succ]))
  (refine wpAnyH_take (i := 2) (oi := _) (v := ?v93) rfl (by kernel_rfl) (by kernel_rfl) (by kernel_rfl) (fun _ _ _ h => h) (Or.inl ⟨by rfl, ?hy93⟩) (by assumption) ?rest93; (case hy93 => (first | (intro w hSw; (try dsimp only at hSw); go_simp; done) | (intro w hSw; (try dsimp only at hSw); go_simp; with_reducible rfl))); (try simp only [Act.put, List.getElem_toArray, List.getElem_cons_succ, List.getElem_cons_zero, List.setIfInBounds_toArray, List.set_cons_zero, List.set_cons_succ]))
  (refine wpAnyH_take (i := 3) (oi := _) (v := ?v94) rfl (by kernel_rfl) (by kernel_rfl) (by kernel_rfl) (fun _ _ _ h => h) (Or.inl ⟨by rfl, ?hy94⟩) (by assumption) ?rest94; (case hy94 => (first | (intro w hSw; (try dsimp only at hSw); go_simp; done) | (intro w hSw; (try dsimp only at hSw); go_simp; with_reducible rfl))); (try simp only [Act.put, List.getElem_toArray, List.getElem_cons_succ, List.getElem_cons_zero, List.setIfInBounds_toArray, List.set_cons_zero, List.set_cons_succ]))
  refine wpAnyH_ready (rs := [4]) (by kernel_rfl) (by simp) ?_
  refine AllReadyH.cons (o := _) rfl (fun K hK => ?_) AllReadyH.nil
  try simp only [List.getElem_toArray, List.getElem_cons_succ, List.getElem_cons_zero]
  go_simp
  (first
        | (go_at_call 18; refine (HC.out _ hBd).mono ?_; rintro e w1 ⟨rfl, hb1⟩; have hb1' := Below.next hdr hb1; have hS1 := HS.out _ hb1')
        | (go_at_call 17; refine (HA.out _).mono ?_; rintro e w2 ⟨rfl, hw⟩; rw [hw]; clear hw))
  first | (refine hK.out _ _ (by ((try dsimp only) <;> (first | with_reducible exact hS1 | with_reducible exact hS0))) (fun hHeld => ?_)) | (go_wp2_with fail; refine hK.out _ _ (by ((try dsimp only) <;> (first | with_reducible exact hS1 | with_reducible exact hS0))) (fun hHeld => ?_))
  clear hK K
  (try simp only [Act.put, List.getElem_toArray, List.getElem_cons_succ, List.getElem_cons_zero, List.setIfInBounds_toArray, List.set_cons_zero, List.set_cons_succ])
  refine wpAnyH_ready (rs := [5]) (by kernel_rfl) (by simp) ?_
  refine AllReadyH.cons (o := _) rfl (fun K hK => ?_) AllReadyH.nil
  try simp only [List.getElem_toArray, List.getElem_cons_succ, List.getElem_cons_zero]
  go_simp
  (first
        | (go_at_call 18; refine (HC.out _ hBd).mono ?_; rintro e w1 ⟨rfl, hb1⟩; have hb1' := Below.next hdr hb1; have hS1 := HS.out _ hb1')
        | (go_at_call 17; refine (HA.out _).mono ?_; rintro e w2 ⟨rfl, hw⟩; rw [hw]; clear hw))
  first | (refine hK.out _ _ (by ((try dsimp only) <;> (first | with_reducible exact hS1 | with_reducible exact hS0))) (fun hHeld => ?_)) | (go_wp2_with fail; refine hK.out _ _ (by ((try dsimp only) <;> (first | with_reducible exact hS1 | with_reducible exact hS0))) (fun hHeld => ?_))
  clear hK K
  (try simp only [Act.put, List.getElem_toArray, List.getElem_cons_succ, List.getElem_cons_zero, List.setIfInBounds_toArray, List.set_cons_zero, List.set_cons_succ])
  (refine wpAnyH_take (i := 6) (oi := _) (v := ?v95) rfl (by kernel_rfl) (by kernel_rfl) (by kernel_rfl) (fun _ _ _ h => h) (Or.inl ⟨by rfl, ?hy95⟩) (by assumption) ?rest95; (case hy95 => (first | (intro w hSw; (try dsimp only at hSw); go_simp; done) | (intro w hSw; (try dsimp only at hSw); go_simp; with_reducible rfl))); (try simp only [Act.put, List.getElem_toArray, List.getElem_cons_succ, List.getElem_cons_zero, List.setIfInBounds_toArray, List.set_cons_zero, List.set_cons_succ]))
  refine wpAnyH_done (by kernel_rfl) ?_ _
  simp only [muteQ]
  have M1 := HM.out.below hb1'
  have k8 := cell1 M1.c8
  have f8 : w1.frozen? ⟨b8, 0, none⟩ = false := Lib.frozen_of_heap M1.c8 0
  have L1 := HL.out.below hb1'
  have B1 := Below.next HB.out hb1'
  have hs1 := hb1'.size
  by_cases hr0 : ahd er ee = 0
  · obtain ⟨he0, he1⟩ := HX.out hr0
    subst he0
    subst he1
    have HV2 := hide (HV.out rfl)
    have HO2 := hide (HO.out rfl)
    have hzl := hz rfl
    rw [hr0]
    have M2 := hide (M1.put8 g3.2.1 g4.2.1 g9.2.2 0)
    have B2 := B1.setCell (p := ⟨b8, 0, none⟩) g8.1 (.int .i64 0)
    have L2 := hide (kq_lss (S := fun j => lo ≤ j) (kq_set (g := b8) (k := 0) (v := .int .i64 0) (by omega)) L1 (fun j h _ => h))
    have Q2 : Kq (fun j => j < lo ∧ j ≠ b8 ∧ j ≠ b9) W (w1.setCell ⟨b8, 0, none⟩ (.int .i64 0)) := Kq.trans (Below.kq hb1' (fun j hj => by omega)) (kq_set (by omega))
    have hs2 : W.heap.size ≤ (w1.setCell ⟨b8, 0, none⟩ (.int .i64 0)).heap.size := by simpa using hs1
    clear hS0 hS1 HS HA HC HV HO hBd hz M1 L1
    go_upto_region 2 with fail
    generalize w1.setCell ⟨b8, 0, none⟩ (.int .i64 0) = w2 at *
    have hdr2 : Below w2.heap.size w2 w2.drew := (Below.refl _ w2).drew
    have HS2 : Hid (∀ V, Below w2.heap.size w2 V → V.cell? ⟨b9, 0, none⟩ = some va ∧ V.cell? ⟨b3, 0, none⟩ = some (.int .u8 f) ∧ V.cell? ⟨b4, 0, none⟩ = some (.int .i64 q.inp) ∧ V.cell? ⟨b4, 1, none⟩ = some (.slice ao q.ops.length co') ∧ V.cell? ⟨b4, 2, none⟩ = some (.slice au q.outs.length cu)) := fun V hb => by
      have h := M2.out.below hb
      exact ⟨cell1 h.c9, cell1 h.c3, (cell3 h.c4).1, (cell3 h.c4).2.1, (cell3 h.c4).2.2⟩
    have hS0 := HS2.out _ hdr2
    have hBd := Below.next B2 hdr2
    have hlo2 : lo ≤ w2.heap.size := Nat.le_trans hlo hs2
    obtain ⟨aa, ca, rfl⟩ := own_form L2.out.row
    have hap : ∀ ob, Below w2.heap.size w2 (w2.alloc ob) := fun ob => alloc_below w2 ob
    unfold elI elv at HV2
    generalize rns (Rf f) q xs = ys at *
    obtain ⟨zs, HZ⟩ : ∃ zs, Hid (rnO (Rf f) q xs = zs) := ⟨_, rfl⟩
    rw [HZ.out] at HO2
    refine wp_region_mute (S := (fun V => V.cell? ⟨b9, 0, none⟩ = some (.slice aa zss.length ca) ∧ V.cell? ⟨b3, 0, none⟩ = some (.int .u8 f) ∧ V.cell? ⟨b4, 0, none⟩ = some (.int .i64 q.inp) ∧ V.cell? ⟨b4, 1, none⟩ = some (.slice ao q.ops.length co') ∧ V.cell? ⟨b4, 2, none⟩ = some (.slice au q.outs.length cu))) (by kernel_rfl) (by kernel_rfl) rfl (by ((try dsimp only) <;> (first | with_reducible exact hS6 | with_reducible exact hS5 _ | with_reducible exact hS4 | with_reducible exact hS3 | with_reducible exact hS0))) (fun hHeld => ?_)
    simp only [muteL, mute]
    (refine wpAnyH_take (i := 0) (oi := _) (v := ?v96) rfl (by kernel_rfl) (by kernel_rfl) (by kernel_rfl) (fun _ _ _ h => h) (Or.inl ⟨by rfl, ?hy96⟩) (by assumption) ?rest96; (case hy96 => (first | (intro w hSw; (try dsimp only at hSw); go_simp; done) | (intro w hSw; (try dsimp only at hSw); go_simp; with_reducible rfl))); (try simp only [Act.put, List.getElem_toArray, List.getElem_cons_succ, List.getElem_cons_zero, List.setIfInBounds_toArray, List.set_cons_zero, List.set_cons_succ]))
    (refine wpAnyH_take (i := 1) (oi := _) (v := ?v97) rfl (by kernel_rfl) (by kernel_rfl) (by kernel_rfl) (fun _ _ _ h => h) (Or.inl ⟨by rfl, ?hy97⟩) (by assumption) ?rest97; (case hy97 => (first | (intro w hSw; (try dsimp only at hSw); go_simp; done) | (intro w hSw; (try dsimp only at hSw); go_simp; with_reducible rfl))); (try simp only [Act.put, List.getElem_toArray, List.getElem_cons_succ, List.getElem_cons_zero, List.setIfInBounds_toArray, List.set_cons_zero, List.set_cons_succ]))
    (refine wpAnyH_take (i := 2) (oi := _) (v := ?v98) rfl (by kernel_rfl) (by kernel_rfl) (by kernel_rfl) (fun _ _ _ h => h) (Or.inl ⟨by rfl, ?hy98⟩) (by assumption) ?rest98; (case hy98 => (first | (intro w hSw; (try dsimp only at hSw); go_simp; done) | (intro w hSw; (try dsimp only at hSw); go_simp; with_reducible rfl))); (try simp only [Act.put, List.getElem_toArray, List.getElem_cons_succ, List.getElem_cons_zero, List.setIfInBounds_toArray, List.set_cons_zero, List.set_cons_succ]))
    (refine wpAnyH_take (i := 3) (oi := _) (v := ?v99) rfl (by kernel_rfl) (by kernel_rfl) (by kernel_rfl) (fun _ _ _ h => h) (Or.inl ⟨by rfl, ?hy99⟩) (by assumption) ?rest99; (case hy99 => (first | (intro w hSw; (try dsimp only at hSw); go_simp; done) | (intro w hSw; (try dsimp only at hSw); go_simp; with_reducible rfl))); (try simp only [Act.put, List.getElem_toArray, List.getElem_cons_succ, List.getElem_cons_zero, List.setIfInBounds_toArray, List.set_cons_zero, List.set_cons_succ]))
    (refine wpAnyH_take (i := 4) (oi := _) (v := ?v100) rfl (by kernel_rfl) (by kernel_rfl) (by kernel_rfl) (fun _ _ _ h => h) (Or.inl ⟨by rfl, ?hy100⟩) (by assumption) ?rest100; (case hy100 => (first | (intro w hSw; (try dsimp only at hSw); go_simp; done) | (intro w hSw; (try dsimp only at hSw); go_simp; with_reducible rfl))); (try simp only [Act.put, List.getElem_toArray, List.getElem_cons_succ, List.getElem_cons_zero, List.setIfInBounds_toArray, List.set_cons_zero, List.set_cons_succ]))
    (refine wpAnyH_take (i := 5) (oi := _) (v := ?v101) rfl (by kernel_rfl) (by kernel_rfl) (by kernel_rfl) (fun _ _ _ h => h) (Or.inl ⟨by rfl, ?hy101⟩) (by assumption) ?rest101; (case hy101 => (first | (intro w hSw; (try dsimp only at hSw); go_simp; done) | (intro w hSw; (try dsimp only at hSw); go_simp; with_reducible rfl))); (try simp only [Act.put, List.getElem_toArray, List.getElem_cons_succ, List.getElem_cons_zero, List.setIfInBounds_toArray, List.set_cons_zero, List.set_cons_succ]))
    (refine wpAnyH_take (i := 6) (oi := _) (v := ?v102) rfl (by kernel_rfl) (by kernel_rfl) (by kernel_rfl) (fun _ _ _ h => h) (Or.inl ⟨by rfl, ?hy102⟩) (by assumption) ?rest102; (case hy102 => (first | (intro w hSw; (try dsimp only at hSw); go_simp; done) | (intro w hSw; (try dsimp only at hSw); go_simp; with_reducible rfl))); (try simp only [Act.put, List.getElem_toArray, List.getElem_cons_succ, List.getElem_cons_zero, List.setIfInBounds_toArray, List.set_cons_zero, List.set_cons_succ]))
    refine wpAnyH_ready (rs := [7]) (by kernel_rfl) (by simp) ?_
    refine AllReadyH.cons (o := _) rfl (fun K hK => ?_) AllReadyH.nil
    try simp only [List.getElem_toArray, List.getElem_cons_succ, List.getElem_cons_zero]
    go_simp
    (first
          | (go_at_call 20; refine (HV2.out _ hBd).mono ?_; rintro e w3 ⟨v3, rfl, ho3, hb3⟩; have hb3' := Below.next hdr2 hb3; have hS3 := HS2.out _ hb3'; have B3 := Below.next B2 hb3')
          | (go_at_call 19; refine (HO2.out _ _ _ B3 ho3).mono ?_; rintro e w4 ⟨v4, rfl, ho4, hb4⟩; have hb4' := Below.next hb3' hb4; have hS4 := HS2.out _ hb4'; obtain ⟨a4, c4, rfl⟩ := own_form ho4; have L4 := hide (L2.out.below hb4'); have hS5 := fun ob => HS2.out (w4.alloc ob) (Below.next hb4' (alloc_below w4 ob)); have hsz4 := hb4'.size)
          | (refine step_append_lies _ (by rfl) _ _ _ (by rfl) lo 35 i0 _ 1 24 Try.underlying26 hi0 hz0 hz1 hz2 rfl (by omega) (.slice aa zss.length ca) zss.length us (by rfl) (L4.out.row.alloc _) ⟨w4.heap.size, 0, none⟩ 1 1 [.slice a4 zs.length c4] (by rfl) (by rfl) (World.news_of_block (cs := #[.slice a4 zs.length c4]) (t := 35) (fr := (0, 0)) (heap_alloc_new w4 _)) (by simp [Value.oneCell']) (by omega) (by unfold maxLen; omega) (by omega) (by simp; omega) (w4.heap.size + 1) (by simp) ?_; intro gg cap2 w5 hown5 hgrow5 hat hltg; have hS6 := cells_grown L4.out.row hgrow5 g9.2.1 g3.1 g4.1 hlo2 hsz4 hS4))
    first | (refine hK.out _ _ (by ((try dsimp only) <;> (first | with_reducible exact hS6 | with_reducible exact hS5 _ | with_reducible exact hS4 | with_reducible exact hS3 | with_reducible exact hS0))) (fun hHeld => ?_)) | (go_wp2_with fail; refine hK.out _ _ (by ((try dsimp only) <;> (first | with_reducible exact hS6 | with_reducible exact hS5 _ | with_reducible exact hS4 | with_reducible exact hS3 | with_reducible exact hS0))) (fun hHeld => ?_))
    clear hK K
    (try simp only [Act.put, List.getElem_toArray, List.getElem_cons_succ, List.getElem_cons_zero, List.setIfInBounds_toArray, List.set_cons_zero, List.set_cons_succ])
    refine wpAnyH_ready (rs := [8]) (by kernel_rfl) (by simp) ?_
    refine AllReadyH.cons (o := _) rfl (fun K hK => ?_) AllReadyH.nil
    try simp only [List.getElem_toArray, List.getElem_cons_succ, List.getElem_cons_zero]
    go_simp
    (first
          | (go_at_call 20; refine (HV2.out _ hBd).mono ?_; rintro e w3 ⟨v3, rfl, ho3, hb3⟩; have hb3' := Below.next hdr2 hb3; have hS3 := HS2.out _ hb3'; have B3 := Below.next B2 hb3')
          | (go_at_call 19; refine (HO2.out _ _ _ B3 ho3).mono ?_; rintro e w4 ⟨v4, rfl, ho4, hb4⟩; have hb4' := Below.next hb3' hb4; have hS4 := HS2.out _ hb4'; obtain ⟨a4, c4, rfl⟩ := own_form ho4; have L4 := hide (L2.out.below hb4'); have hS5 := fun ob => HS2.out (w4.alloc ob) (Below.next hb4' (alloc_below w4 ob)); have hsz4 := hb4'.size)
          | (refine step_append_lies _ (by rfl) _ _ _ (by rfl) lo 35 i0 _ 1 24 Try.underlying26 hi0 hz0 hz1 hz2 rfl (by omega) (.slice aa zss.length ca) zss.length us (by rfl) (L4.out.row.alloc _) ⟨w4.heap.size, 0, none⟩ 1 1 [.slice a4 zs.length c4] (by rfl) (by rfl) (World.news_of_block (cs := #[.slice a4 zs.length c4]) (t := 35) (fr := (0, 0)) (heap_alloc_new w4 _)) (by simp [Value.oneCell']) (by omega) (by unfold maxLen; omega) (by omega) (by simp; omega) (w4.heap.size + 1) (by simp) ?_; intro gg cap2 w5 hown5 hgrow5 hat hltg; have hS6 := cells_grown L4.out.row hgrow5 g9.2.1 g3.1 g4.1 hlo2 hsz4 hS4))
    first | (refine hK.out _ _ (by ((try dsimp only) <;> (first | with_reducible exact hS6 | with_reducible exact hS5 _ | with_reducible exact hS4 | with_reducible exact hS3 | with_reducible exact hS0))) (fun hHeld => ?_)) | (go_wp2_with fail; refine hK.out _ _ (by ((try dsimp only) <;> (first | with_reducible exact hS6 | with_reducible exact hS5 _ | with_reducible exact hS4 | with_reducible exact hS3 | with_reducible exact hS0))) (fun hHeld => ?_))
    clear hK K
    (try simp only [Act.put, List.getElem_toArray, List.getElem_cons_succ, List.getElem_cons_zero, List.setIfInBounds_toArray, List.set_cons_zero, List.set_cons_succ])
    refine wpAnyH_ready (rs := [9]) (by kernel_rfl) (by simp) ?_
    refine AllReadyH.cons (o := _) rfl (fun K hK => ?_) AllReadyH.nil
    try simp only [List.getElem_toArray, List.getElem_cons_succ, List.getElem_cons_zero]
    go_simp
    refine hK.out _ _ (by ((try dsimp only) <;> (first | with_reducible exact hS6 | with_reducible exact hS5 _ | with_reducible exact hS4 | with_reducible exact hS3 | with_reducible exact hS0))) (fun hHeld => ?_)
    clear hK K
    (try simp only [Act.put, List.getElem_toArray, List.getElem_cons_succ, List.getElem_cons_zero, List.setIfInBounds_toArray, List.set_cons_zero, List.set_cons_succ])
    refine wpAnyH_ready (rs := [10]) (by kernel_rfl) (by simp) ?_
    refine AllReadyH.cons (o := _) rfl (fun K hK => ?_) AllReadyH.nil
    (first
          | (go_at_call 20; refine (HV2.out _ hBd).mono ?_; rintro e w3 ⟨v3, rfl, ho3, hb3⟩; have hb3' := Below.next hdr2 hb3; have hS3 := HS2.out _ hb3'; have B3 := Below.next B2 hb3')
          | (go_at_call 19; refine (HO2.out _ _ _ B3 ho3).mono ?_; rintro e w4 ⟨v4, rfl, ho4, hb4⟩; have hb4' := Below.next hb3' hb4; have hS4 := HS2.out _ hb4'; obtain ⟨a4, c4, rfl⟩ := own_form ho4; have L4 := hide (L2.out.below hb4'); have hS5 := fun ob => HS2.out (w4.alloc ob) (Below.next hb4' (alloc_below w4 ob)); have hsz4 := hb4'.size)
          | (refine step_append_lies _ (by rfl) _ _ _ (by rfl) lo 35 i0 _ 1 24 Try.underlying26 hi0 hz0 hz1 hz2 rfl (by omega) (.slice aa zss.length ca) zss.length us (by rfl) (L4.out.row.alloc _) ⟨w4.heap.size, 0, none⟩ 1 1 [.slice a4 zs.length c4] (by rfl) (by rfl) (World.news_of_block (cs := #[.slice a4 zs.length c4]) (t := 35) (fr := (0, 0)) (heap_alloc_new w4 _)) (by simp [Value.oneCell']) (by omega) (by unfold maxLen; omega) (by omega) (by simp; omega) (w4.heap.size + 1) (by simp) ?_; intro gg cap2 w5 hown5 hgrow5 hat hltg; have hS6 := cells_grown L4.out.row hgrow5 g9.2.1 g3.1 g4.1 hlo2 hsz4 hS4))
    refine hK.out _ _ (by ((try dsimp only) <;> (first | with_reducible exact hS6 | with_reducible exact hS5 _ | with_reducible exact hS4 | with_reducible exact hS3 | with_reducible exact hS0))) (fun hHeld => ?_)
    clear hK K
    (try simp only [Act.put, List.getElem_toArray, List.getElem_cons_succ, List.getElem_cons_zero, List.setIfInBounds_toArray, List.set_cons_zero, List.set_cons_succ])
    (refine wpAnyH_take (i := 11) (oi := _) (v := ?v103) rfl (by kernel_rfl) (by kernel_rfl) (by kernel_rfl) (fun _ _ _ h => h) (Or.inl ⟨by rfl, ?hy103⟩) (by assumption) ?rest103; (case hy103 => (first | (intro w hSw; (try dsimp only at hSw); go_simp; done) | (intro w hSw; (try dsimp only at hSw); go_simp; with_reducible rfl))); (try simp only [Act.put, List.getElem_toArray, List.getElem_cons_succ, List.getElem_cons_zero, List.setIfInBounds_toArray, List.set_cons_zero, List.set_cons_succ]))
    refine wpAnyH_done (by kernel_rfl) ?_ _
    simp only [muteQ]
    have hwlo : w.heap.size ≤ lo := by omega
    have hb3s := hb3'.size
    have hb3e := hb3.size
    have hlo4 : lo ≤ w4.heap.size := Nat.le_trans hlo2 hsz4
    have R := hide (L4.out.push (w := w) (H := w3.heap.size) (by omega) (by omega) hwlo (Below.next B3 hb4) ho4 hown5 hgrow5)
    have M5 := (M2.out.below hb4').grown L4.out.row hgrow5 g8.2 g3.1 g4.1 g9.2.1 hlo4
    have k9 := cell1 M5.c9
    have f9 : w5.frozen? ⟨b9, 0, none⟩ = false := Lib.frozen_of_heap M5.c9 0
    have Q5 : Kq (fun j => j < lo ∧ j ≠ b8 ∧ j ≠ b9) W w5 := Kq.trans (Kq.trans (Kq.trans Q2 (Below.kq hb4' (fun j hj => by omega))) (Below.kq (alloc_below w4 _) (fun j hj => by omega))) (grown_kq hgrow5 (fun j hj => by simp; omega) (fun k hk hS => by have := own_base L4.out.row k hk; omega))
    have M6 := hide (M5.put9 g3.2.2 g4.2.2 (fun e => g9.2.2 e.symm) (.slice (some ⟨gg, 0, none⟩) (zss.length + 1) cap2))
    have L6 := hide (kq_lss (S := fun j => lo ≤ j) (kq_set (g := b9) (k := 0) (v := .slice (some ⟨gg, 0, none⟩) (zss.length + 1) cap2) (by omega)) R.out.1 (fun j h _ => h))
    have Q6 := Kq.trans Q5 (kq_set (S := fun j => j < lo ∧ j ≠ b8 ∧ j ≠ b9) (W := w5) (g := b9) (k := 0) (v := .slice (some ⟨gg, 0, none⟩) (zss.length + 1) cap2) (by omega))
    clear hS0 hS3 hS4 hS5 hS6 hown5 hgrow5 hat hltg R M5 Q5
    go_wp2_with fail
    go_end0
    rw [HZ.out]
    exact ⟨rfl, _, M6.out, _, _, lss_here L6.out, rfl, Q6⟩
  · have ht : (ahd er ee == 0) = false := by simpa using hr0
    have M2 := hide (M1.put8 g3.2.1 g4.2.1 g9.2.2 (ahd er ee))
    have L2 := hide (kq_lss (S := fun j => lo ≤ j) (kq_set (g := b8) (k := 0) (v := .int .i64 (ahd er ee)) (by omega)) L1 (fun j h _ => h))
    have Q2 : Kq (fun j => j < lo ∧ j ≠ b8 ∧ j ≠ b9) W (w1.setCell ⟨b8, 0, none⟩ (.int .i64 (ahd er ee))) := Kq.trans (Below.kq hb1' (fun j hj => by omega)) (kq_set (by omega))
    clear hS0 hS1 HS HA HC HV HO hBd hz M1 L1 HX
    obtain ⟨r, HR⟩ : ∃ r, Hid (ahd er ee = r) := ⟨_, rfl⟩
    rw [HR.out] at ht hr0 M2 L2 Q2 ⊢
    go_wp2
    go_end0
    rw [HR.out]
    exact ⟨va, us, zss, rfl, M2.out, lss_here L2.out, fun h => absurd h hr0, Q2⟩

end Go.Proofs.Ytfbipnhhnmlhfab
