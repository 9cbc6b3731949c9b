/-
  Layer 6: lists of lists laid together (slices.Concat), the remainders, the program's and the document's.
-/
import Derived.Test.YtnjcljnijgkoiaaGreatBTreE
import Derived.Lib.AppendZeros
import Derived.LoopN
namespace Go.Proofs.YtnjcljnijgkoiaaGreat
open Go.RowKit Fld
set_option linter.unusedVariables false

theorem sl_info : (Tryz.prog.info? 33).map (fun i => (i.zero, i.size, i.bytes)) = some (some (.slice none 0 0), 1, 24) := by kernel_rfl

/-- Noughts appended to nothing. -/
theorem zeros_nil (w : World) (k : Nat) (h0 : 0 < k) (hk : k ≤ 5864062014700) :
    ∃ cap w', (Builtin.append_ #[25, 3] 25 #[.slice none 0 0, .int .i64 (k : Int)]).run Tryz.prog w = .ok (.slice (some ⟨w.heap.size, 0, none⟩) k cap) w' ∧ w'.ownsRow w.heap.size 33 1 (.slice (some ⟨w.heap.size, 0, none⟩) 0 cap) 0 [] ∧ w.grownBy w' none := by
  obtain ⟨i0, hi0, hz0, hz1, hz2⟩ := info_parts sl_info
  have hr := Lib.run_append_nil_zeros (P := Tryz.prog) w 25 3 25 33 i0 (.slice none 0 0) .i64 .i64 Tryz.underlying25 Tryz.underlying3 hi0 hz0 k h0 (by omega) (by omega) (by rw [hz2]; omega)
  have hge := grownCap_ge w k 0 33
  have hcm : grownCap w k 0 33 ≤ maxLen := grownCap_le_maxLen w k 0 33 (by unfold maxLen; omega)
  refine ⟨_, _, hr, ⟨rfl, .inr ⟨w.heap.size, _, _, rfl, Nat.le_refl _, heap_alloc_new w.drew _, Nat.zero_le _, hcm, ?_, rfl⟩⟩, ⟨rfl, rfl, rfl, by simp, fun j hj _ => heap_alloc_old w.drew _ hj⟩⟩
  simp only [Array.size_append, size_zeroCells]
  simp [Value.cells]
  omega

set_option maxRecDepth 100000 in
set_option maxHeartbeats 200000 in
theorem Grow_nil (k : Nat) (w : World) (h0 : 0 < k) (hk : k ≤ 5864062014700) :
    Calls Tryz.prog 50 #[.slice none 0 0, .int .i64 (k : Int)] w fun e w' => ∃ cap, e = .returned (.slice (some ⟨w.heap.size, 0, none⟩) 0 cap) ∧ w'.ownsRow w.heap.size 33 1 (.slice (some ⟨w.heap.size, 0, none⟩) 0 cap) 0 [] ∧ Below w.heap.size w w' := by
  obtain ⟨cap, w1, hr, hO, hg⟩ := zeros_nil w k h0 hk
  have HO := hide hO
  have hB := below_grown_none hg
  clear hO hg
  go_enter Tryz.func50, Tryz.ntmps50
  go_wp2_with (at_builtin; refine Lib.wpList_append_run _ rfl _ _ _ _ rfl _ _ rfl rfl _ _ hr ?_)
  go_ret
  exact ⟨_, rfl, HO.out, hB⟩

/-- The values of the lists. -/
theorem Rws.values {w : World} {v : Value} {xss : List (List Int)} (h : Rws w v xss) : ∃ us : List Value, us.length = xss.length ∧ (∀ i, i < xss.length → Rw w (us.getD i nov) (xss.getD i [])) ∧ (∀ u ∈ us, u.oneCell' = true) ∧
    ∃ ao cap, v = .slice ao xss.length cap ∧ ∀ j u, us[j]? = some u → ∃ b off, ao = some ⟨b, off, none⟩ ∧ b < w.heap.size ∧ w.cell? ⟨b, off + j, none⟩ = some u := by
  obtain ⟨ao, cap, rfl, h1, h2, h3⟩ := h
  have pick : ∀ n, n ≤ xss.length → ∃ us : List Value, us.length = n ∧ ∀ i, i < n → Rw w (us.getD i nov) (xss.getD i []) ∧ ∃ b off, ao = some ⟨b, off, none⟩ ∧ b < w.heap.size ∧ w.cell? ⟨b, off + i, none⟩ = some (us.getD i nov) := by
    intro n
    induction n with
    | zero => intro _; exact ⟨[], rfl, fun i hi => by omega⟩
    | succ n ih =>
      intro hn
      obtain ⟨us, hl, hu⟩ := ih (by omega)
      obtain ⟨b, off, e, hb, hc⟩ := h3 (by intro e; rw [e] at hn; simp at hn)
      obtain ⟨u, hcu, hru⟩ := hc n (by omega)
      refine ⟨us ++ [u], by simp [hl], fun i hi => ?_⟩
      rw [getD_snoc, hl]
      by_cases hin : i < n
      · rw [if_pos hin]; exact hu i hin
      · have : i = n := by omega
        subst this
        rw [if_neg hin, if_pos rfl]
        exact ⟨hru, b, off, e, hb, hcu⟩
  obtain ⟨us, hl, hu⟩ := pick xss.length (Nat.le_refl _)
  refine ⟨us, hl, fun i hi => (hu i hi).1, fun u hm => ?_, ao, cap, rfl, fun j u hj => ?_⟩
  · obtain ⟨i, hi, rfl⟩ := List.mem_iff_getElem.1 hm
    have := (hu i (by omega)).1.spell
    rw [List.getD_eq_getElem?_getD, List.getElem?_eq_getElem hi] at this
    obtain ⟨a, c, e, _⟩ := this
    have e : us[i] = _ := e
    rw [e]; rfl
  · have hjl : j < us.length := by
      apply Nat.lt_of_not_le; intro hcn; rw [List.getElem?_eq_none hcn] at hj; cases hj
    obtain ⟨_, b, off, e, hb, hc⟩ := hu j (by omega)
    refine ⟨b, off, e, hb, ?_⟩
    rw [hc, List.getD_eq_getElem?_getD, hj]; rfl

theorem add_at (b off j : Nat) : (⟨b, off, none⟩ : Addr).add j = ⟨b, off + j, none⟩ := by unfold Addr.add; split <;> simp_all

set_option maxRecDepth 100000 in
set_option maxHeartbeats 400000 in
theorem Concat_any (vp vm : Value) (P : List Int) (xss : List (List Int)) (w : World) (b1 b : Nat) (hp : Rw w vp P) (hm : Rws w vm xss) (hl : xss.length ≤ 5864062014634) (c1 : w.cell? ⟨b1, 0, none⟩ = some vp) (hb1 : b1 < w.heap.size) (hT : Two b (.slice (some ⟨b1, 0, none⟩) 1 1) vm w) :
    Calls Tryz.prog 27 #[.slice (some ⟨b, 0, none⟩) 2 2] w fun e w' => ∃ v', e = .returned v' ∧ Rws w' v' (P :: xss) ∧ Below w.heap.size w w' := by
  obtain ⟨i0, hi0, hz0, hz1, hz2⟩ := info_parts sl_info
  obtain ⟨us, ul, hu, hone, ao, cap, rfl, hcell⟩ := hm.values
  obtain ⟨t1, t2, _, _, tl⟩ := hT
  have HG : Hid (∀ W, Calls Tryz.prog 50 #[.slice none 0 0, .int .i64 (1 + (xss.length : Int))] W fun e w' => ∃ cap, e = .returned (.slice (some ⟨W.heap.size, 0, none⟩) 0 cap) ∧ w'.ownsRow W.heap.size 33 1 (.slice (some ⟨W.heap.size, 0, none⟩) 0 cap) 0 [] ∧ Below W.heap.size W w') := fun W => by
    have := Grow_nil (1 + xss.length) W (by omega) (by omega)
    rw [Int.natCast_add] at this; exact this
  have HR : Hid (∀ W v, W.ownsRow w.heap.size 33 1 v (1 + xss.length) ([vp] ++ us) → Below w.heap.size w W → Rws W v (P :: xss)) := by
    intro W v hO hB
    rcases hO.2 with ⟨_, h⟩ | ⟨g, cap, cur, rfl, h2, h3, h4, h5, h6, h7⟩
    · omega
    · have e : (P :: xss).length = 1 + xss.length := by simp; omega
      refine ⟨_, cap, by rw [e], by rw [e]; omega, by rw [e]; exact h4, fun _ => ⟨g, 0, rfl, own_top hO g rfl, fun i hi => ?_⟩⟩
      rw [e] at hi
      refine ⟨([vp] ++ us).getD i nov, ?_, ?_⟩
      · rw [Nat.zero_add, hO.cellAt i (by omega), List.getD_eq_getElem?_getD, List.getElem?_eq_getElem (by simp; omega)]; rfl
      · cases i with
        | zero => exact hp.below hB
        | succ i =>
          have := (hu i (by omega)).below hB
          simpa using this
  have hvp : vp.oneCell' = true := by obtain ⟨a, c, rfl, _⟩ := hp.spell; rfl
  have hw1 : ∀ W, Below w.heap.size w W → W.cell? ⟨b, 0, none⟩ = some (.slice (some ⟨b1, 0, none⟩) 1 1) := fun W hb => (hb.cell (p := ⟨b, 0, none⟩) tl).trans t1
  have hw2 : ∀ W, Below w.heap.size w W → W.cell? ⟨b, 1, none⟩ = some (.slice ao xss.length cap) := fun W hb => (hb.cell (p := ⟨b, 1, none⟩) tl).trans t2
  have N1 : Hid (∀ W, Below w.heap.size w W → ∀ j u, [vp][j]? = some u → W.cell? ((⟨b1, 0, none⟩ : Addr).add j) = some u) := fun W hb j u hj => by
    have : j = 0 := by
      apply Classical.byContradiction; intro h; rw [List.getElem?_eq_none (by simp; omega)] at hj; cases hj
    subst this
    rw [add_at, (hb.cell (p := ⟨b1, 0 + 0, none⟩) hb1), c1]; exact hj
  have N2 : Hid (∀ W, Below w.heap.size w W → ∀ ad, ao = some ad → ∀ j u, us[j]? = some u → W.cell? (ad.add j) = some u) := fun W hb ad e j u hj => by
    obtain ⟨b2, off, e2, hb2, hc⟩ := hcell j u hj
    rw [e] at e2; cases e2
    rw [add_at, (hb.cell (p := ⟨b2, off + j, none⟩) hb2)]; exact hc
  have W1 := hide hw1
  have W2 := hide hw2
  have HU := hide hone
  have HUL := hide ul
  have H1 := hide hvp
  have d1 := W1.out w (Below.refl _ _)
  have d2 := W2.out w (Below.refl _ _)
  have hnil : ao = none → us = [] := fun e => by
    cases us with
    | nil => rfl
    | cons u us => obtain ⟨_, _, e2, _⟩ := hcell 0 u rfl; rw [e] at e2; cases e2
  clear hw1 hw2 hone ul hvp hcell hu hp hm t1 t2 c1
  generalize xss.length = n at *
  go_enter Tryz.func27, Tryz.ntmps27
  go_wp2
  refine wp_loop_rounds 3 ?_
  rw [rounds_succ]
  go_wp2
  rw [rounds_succ]
  go_wp2
  rw [rounds_succ]
  go_wp2_with fail
  refine (HG.out _).mono ?_
  rintro e w1 ⟨cp, rfl, hO, hB⟩
  have e1 := W1.out _ hB
  have e2 := W2.out _ hB
  have hbs := hB.size
  go_wp2_with fail
  refine wp_loop_rounds 3 ?_
  rw [rounds_succ]
  go_wp2_with (at_builtin; refine wpList_append_own _ rfl _ _ _ rfl w.heap.size 33 i0 _ 1 24 Tryz.underlying25 hi0 hz0 hz1 hz2 rfl (by omega) _ 0 [] rfl hO ⟨b1, 0, none⟩ 1 1 [vp] rfl rfl (N1.out _ hB) (by intro u hu; rw [List.mem_singleton.1 hu]; exact H1.out) (by unfold maxLen; omega) (by omega) (by omega) ?_; intro v2 w2 hO2 hg2 _)
  have hB2 := hB.grown hg2 hbs (own_base hO)
  have f2 := W2.out _ hB2
  have hbs2 := hB2.size
  have hv2 : ∃ g c, v2 = .slice (some ⟨g, 0, none⟩) 1 c := by
    obtain ⟨g, c, h, _⟩ := hO2.form (by omega); exact ⟨g, c, h⟩
  obtain ⟨g2, c2, rfl⟩ := hv2
  have hc2 : 1 ≤ c2 := by
    rcases hO2.2 with ⟨h, _⟩ | ⟨_, _, _, h, _, _, h4, _⟩
    · cases h
    · cases h; exact h4
  rw [rounds_succ]
  cases ao with
  | none =>
    have : us = [] := hnil rfl
    subst this
    have hn0 : n = 0 := by have := HUL.out; simpa using this.symm
    subst hn0
    go_wp2
    rw [rounds_succ]
    go_wp2
    go_ret
    exact ⟨_, rfl, HR.out _ _ (by simpa using hO2) hB2, hB2⟩
  | some ad =>
    go_wp2_with (at_builtin; refine wpList_append_own _ rfl _ _ _ rfl w.heap.size 33 i0 _ 1 24 Tryz.underlying25 hi0 hz0 hz1 hz2 rfl (by omega) _ 1 [vp] rfl hO2 ad n cap us rfl (by rw [HUL.out]; omega) (N2.out _ hB2 ad rfl) HU.out (by unfold maxLen; omega) (by omega) (by omega) ?_; intro v3 w3 hO3 hg3 _)
    have hB3 := hB2.grown hg3 hbs2 (own_base hO2)
    rw [rounds_succ]
    go_wp2
    go_ret
    exact ⟨_, rfl, HR.out _ _ hO3 hB3, hB3⟩

end Go.Proofs.YtnjcljnijgkoiaaGreat
