/-
  Layer 12: the widest plan, a plan without some workers: the program's.
-/
import Derived.Test.YtgjbfapmefpcjaaBPlpB
import Derived.Deep.CutRange
import Derived.Deep.CutBlock
import Derived.Laws.StructEq
namespace Go.Proofs.Ytgjbfapmefpcjaa
open Go.RowKit Pln
set_option linter.unusedVariables false
set_option linter.unusedSimpArgs false

/-- The plan with another K. -/
def kp (p : Pn) (k : Nat) : Pn := { p with k := (k : Int) }
/-- The greatest K that may be. -/
def tpK (p : Pn) : Nat := (64 - p.t).toNat
def wdP (p : Pn) (n : Nat) : Pn := if wide p n = 0 then zP else kp p (wide p n)
theorem kp_may {p : Pn} (h : mayP p = true) {k : Nat} (h1 : 1 ≤ k) (h2 : k ≤ tpK p) : mayP (kp p k) = true := by
  have hf := may_facts h
  unfold tpK at h2
  refine may_iff.2 ⟨(may_iff.1 h).1, ?_⟩
  unfold kp; dsimp only; omega
theorem kp_no {p : Pn} (h : mayP p = true) {k : Nat} (h2 : tpK p < k) : mayP (kp p k) = false := by
  cases hm : mayP (kp p k) with
  | false => rfl
  | true =>
    have h1 := may_facts h
    have h3 := may_facts hm
    unfold tpK at h2
    unfold kp at h3
    dsimp only at h3
    omega
theorem kp_ok {p : Pn} (h : Ok8p p) {k : Nat} (hk : k ≤ 64) : Ok8p (kp p k) := by
  obtain ⟨a, b, c, d⟩ := h
  exact ⟨a, b, by unfold I64 kp; dsimp only; omega, d⟩
theorem kp_step {p : Pn} (h : mayP p = true) {k : Nat} (h2 : k + 1 ≤ tpK p) : wide p (k + 1) = if acE (kp p (k + 1)) = 0 then k + 1 else wide p k := by
  rw [acE_yes (kp_may h (by omega) h2)]
  show (if _ then _ else _) = _
  by_cases c : dg (kp p (k + 1)) + p.s + 2 * p.e + 1 ≤ p.n
  · have hs : ¬ spare (kp p (k + 1)) < 0 := by unfold spare; show ¬ p.n - (dg (kp p (k + 1)) + p.s + 2 * p.e + 1) < 0; omega
    rw [if_neg hs, if_pos rfl]; exact if_pos c
  · have hs : spare (kp p (k + 1)) < 0 := by unfold spare; show p.n - (dg (kp p (k + 1)) + p.s + 2 * p.e + 1) < 0; omega
    rw [if_pos hs]; exact (if_neg c).trans (if_neg (by decide : ¬ (120 : Int) = 0)).symm
theorem tpK_le {p : Pn} (h : mayP p = true) : 1 ≤ tpK p ∧ tpK p ≤ 64 ∧ ((tpK p : Nat) : Int) = 64 - p.t := by
  have := may_facts h
  unfold tpK; omega
theorem ok_z : Ok8p zP := by unfold Ok8p I64 zP; decide

set_option maxRecDepth 100000 in
set_option maxHeartbeats 400000 in
theorem gWidest0 (p : Pn) (h : Ok8p p) (hm : mayP p = true) : Ans 28 #[plv p] (plv (wdP p (tpK p))) := by
  intro w
  have HA := hide (fun k (hk : k ≤ 64) => gAccept (kp p k) (kp_ok h hk))
  have HS := hide (fun k (hk : k + 1 ≤ tpK p) => kp_step hm hk)
  obtain ⟨n1, n2, n3⟩ := tpK_le hm
  have htf := (may_facts hm).2.2.1
  have hk1 := (may_facts hm).2.1
  obtain ⟨t0, t1⟩ := htf
  obtain ⟨k0, k1⟩ := hk1
  generalize hN : tpK p = N at *
  clear hN
  clear hm h
  obtain ⟨A, HR⟩ : ∃ A, Hid (plv (wdP p N) = A) := ⟨_, rfl⟩
  rw [HR.out]
  unfold plv plw
  go_enter Try.func28, Try.ntmps28
  go_upto_region 1 with fail
  generalize hW : World.alloc (World.alloc w _) _ = W
  obtain ⟨p2, p3, hB⟩ := pb_two p hW
  clear hW
  obtain ⟨c0, c1, c2, c3, c4, c5, c6, c7⟩ := p2.cells
  have fz := p2.free
  generalize hg : w.heap.size = g at *
  have hB0 := Below.size hB
  have q2 := p2.set (q := kp p N) 2 (.int .i64 (N : Int)) rfl
  have q3 := p3.other (g' := g) (by omega) 2 (.int .i64 (N : Int))
  have hB2 := below_set (k := 2) (v := .int .i64 (N : Int)) hB (g := g) (by omega)
  rw [n3] at q2 q3 hB2
  go_wp2
  clear c0 c1 c2 c3 c4 c5 c6 c7 fz p2 p3 hB hB0
  generalize W.setCell ⟨g, 2, none⟩ (.int .i64 (64 - p.t)) = W1 at *
  have H2 := hide q2
  have H3 := hide q3
  have HB := hide hB2
  clear q2 q3 hB2 n3
  have HG := hide hg
  clear hg
  go_loopw [9] (fun _ wr => ∃ k : Nat, k ≤ N ∧ Hid (wide p N = wide p k) ∧ Hid (Pb wr g (kp p k)) ∧ Hid (Pb wr (g + 1) zP) ∧ Hid (Below g w wr)) (fun _ wr => match wr.cell? ⟨g, 2, none⟩ with | some (.int _ n) => n.toNat | _ => 0)
  case atStart => exact ⟨N, Nat.le_refl _, rfl, H2.out, H3.out, HB.out⟩
  case round =>
    obtain ⟨k, hkN, HW, P2, P3, HB'⟩ := hrel
    obtain ⟨c0, c1, c2, c3, c4, c5, c6, c7⟩ := P2.out.cells
    obtain ⟨d0, d1, d2, d3, d4, d5, d6, d7⟩ := P3.out.cells
    have fz := P3.out.free
    unfold kp at c0 c1 c2 c3 c4 c5 c6 c7
    dsimp only at c0 c1 c2 c3 c4 c5 c6 c7
    rcases Nat.eq_zero_or_pos k with hk | hk
    · subst hk
      go_wp2
      have hA : A = plv zP := by rw [← HR.out]; unfold wdP; rw [HW.out]; rfl
      refine bodyPost_ret (v := plv zP) (resCell1 (a := 2) (t := 24) (ad := ⟨g + 1, 0, none⟩) rfl rfl (load_plan (P3.out.set8 (q := zP)))) rfl ?_
      refine ⟨by rw [hA], ?_⟩
      rw [HG.out]
      exact below_set8 (p := zP) HB'.out (by omega)
    · have HK := hide (HA.out k (by omega))
      have hst := HS.out (k - 1) (by omega)
      rw [show k - 1 + 1 = k by omega] at hst
      have HST := hide hst
      clear hst
      have hk0 : (0 : Int) < (k : Int) := by omega
      have hk64 : (k : Int) ≤ 64 := by omega
      unfold plv plw at HK
      by_cases hx : acE (kp p k) = 0
      · rw [hx] at HK
        have HSU : Hid (wide p k = k) := HST.out.trans (if_pos hx)
        clear HST
        unfold kp at HK
        dsimp only at HK
        clear hx hk
        go_wp2_with (go_at_call 16; refine (HK.out _).mono ?_; rintro e w2 ⟨rfl, hb2⟩; have P2' := hide (P2.out.below hb2); have P3' := hide (P3.out.below hb2); clear c0 c1 c2 c3 c4 c5 c6 c7 d0 d1 d2 d3 d4 d5 d6 d7 fz; obtain ⟨c0, c1, c2, c3, c4, c5, c6, c7⟩ := P2'.out.cells; obtain ⟨d0, d1, d2, d3, d4, d5, d6, d7⟩ := P3'.out.cells; have fz := P3'.out.free; unfold kp at c0 c1 c2 c3 c4 c5 c6 c7; dsimp only at c0 c1 c2 c3 c4 c5 c6 c7)
        have hA : A = plv (kp p k) := by
          rw [← HR.out]; unfold wdP; rw [HW.out, HSU.out, if_neg (by omega)]
        refine bodyPost_ret (v := plv (kp p k)) (resCell1 (a := 2) (t := 24) (ad := ⟨g + 1, 0, none⟩) rfl rfl (load_plan (P3'.out.set8 (q := kp p k)))) rfl ?_
        refine ⟨by rw [hA], ?_⟩
        rw [HG.out]
        exact below_set8 (p := kp p k) (HB'.out.trans (hb2.mono (Nat.le_trans (Nat.le_of_lt P2.out.lt) (Nat.le_refl _)))) (by omega)
      · generalize acE (kp p k) = x at *
        unfold kp at HK
        dsimp only at HK
        have HX := hide hx
        clear hk
        go_wp2_with (go_at_call 16; refine (HK.out _).mono ?_; rintro e w2 ⟨rfl, hb2⟩; have P2' := hide (P2.out.below hb2); have P3' := hide (P3.out.below hb2); clear c0 c1 c2 c3 c4 c5 c6 c7 d0 d1 d2 d3 d4 d5 d6 d7 fz; obtain ⟨c0, c1, c2, c3, c4, c5, c6, c7⟩ := P2'.out.cells; have fz := P2'.out.free; unfold kp at c0 c1 c2 c3 c4 c5 c6 c7; dsimp only at c0 c1 c2 c3 c4 c5 c6 c7)
        go_roundw
        case rel =>
          refine ⟨k - 1, by omega, ?_, ?_, ?_, ?_⟩
          · show _ = _
            rw [HW.out, HST.out, if_neg HX.out]
          · exact P2'.out.set (q := kp p (k - 1)) 2 _ (by unfold plw kp; simp; omega)
          · exact P3'.out.other (by omega) _ _
          · exact below_set (HB'.out.trans (hb2.mono (Nat.le_trans (Nat.le_of_lt P2.out.lt) (Nat.le_refl _)))) (Nat.le_refl _)
        case measure =>
          have e2 : (w2.setCell ⟨g, 2, none⟩ (.int .i64 ((k : Int) - 1))).cell? ⟨g, 2, none⟩ = some (.int .i64 ((k : Int) - 1)) := by
            have := (P2'.out.set (q := { p with k := (k : Int) - 1 }) 2 (.int .i64 ((k : Int) - 1)) rfl).cells.2.2.1
            exact this
          have e1 := P2.out.cells.2.2.1
          rw [e2, e1]
          unfold kp
          dsimp only
          omega

/-- What Widest and Without answer. -/
def wiE (p : Pn) : Int := if mayP p = true then (if wide p (tpK p) = 0 then 120 else 0) else 2
def wiP (p : Pn) : Pn := if mayP p = true then wdP p (tpK p) else zP
def woE (p : Pn) (c : Int) : Int := if mayP p = true ∧ 0 ≤ c ∧ c < p.n then 0 else 2
def woP (p : Pn) (c : Int) : Pn := if mayP p = true ∧ 0 ≤ c ∧ c < p.n then { p with n := p.n - c, e := if p.e - c < 0 then 0 else p.e - c } else zP

set_option maxRecDepth 100000 in
set_option maxHeartbeats 400000 in
theorem gWidest (p : Pn) (h : Ok8p p) : Ans 19 #[plv p] (.tuple #[plv (wiP p), .int .i64 (wiE p)]) := by
  intro w
  have HM := hide (gMay p h)
  cases hm : mayP p with
  | false =>
    rw [hm] at HM
    have e1 : wiP p = zP := by unfold wiP; rw [hm]; rfl
    have e2 : wiE p = 2 := by unfold wiE; rw [hm]; rfl
    rw [e1, e2]
    clear hm h e1 e2
    obtain ⟨A, HR⟩ : ∃ A, Hid (plv zP = A) := ⟨_, rfl⟩
    rw [HR.out]
    unfold plv plw at HM ⊢
    go_enter Try.func19, Try.ntmps19
    go_upto_region 1 with fail
    generalize hW : World.alloc (World.alloc w _) _ = W
    obtain ⟨p2, p3, hB⟩ := pb_two p hW
    clear hW
    obtain ⟨c0, c1, c2, c3, c4, c5, c6, c7⟩ := p2.cells
    have H3 := hide p3
    have HB := hide hB
    clear p2 p3 hB
    go_wp2_with (go_at_call 14; refine (HM.out _).mono ?_; rintro e w1 ⟨rfl, hb1⟩; have P3 := hide (H3.out.below hb1); clear c0 c1 c2 c3 c4 c5 c6 c7; obtain ⟨d0, d1, d2, d3, d4, d5, d6, d7⟩ := P3.out.cells; have fz := P3.out.free)
    refine bodyPost_ret (res_ct (a := 2) (b := 3) (v := plv zP) rfl rfl rfl (load_plan (P3.out.set8 (q := zP)))) rfl ?_
    refine ⟨by rw [HR.out]; rfl, ?_⟩
    exact below_set8 (p := zP) (Below.next HB.out hb1) (by omega)
  | true =>
    rw [hm] at HM
    have HD := hide (gWidest0 p h hm)
    have e1 : wiP p = wdP p (tpK p) := by unfold wiP; rw [if_pos hm]
    have e2 : wiE p = if wide p (tpK p) = 0 then 120 else 0 := by unfold wiE; rw [if_pos hm]
    rw [e1, e2]
    have hz : wide p (tpK p) = 0 → wdP p (tpK p) = zP := fun e => by unfold wdP; rw [if_pos e]
    have hf : ¬ wide p (tpK p) = 0 → ¬ (wdP p (tpK p)).f = 0 := fun e => by
      unfold wdP; rw [if_neg e]
      show ¬ p.f = 0
      intro h0
      have := (may_iff.1 hm).1
      rw [h0] at this
      exact absurd this (by decide)
    by_cases hc : wide p (tpK p) = 0
    · rw [if_pos hc, hz hc]
      rw [hz hc] at HD
      clear hm h e1 e2 hc hz hf
      obtain ⟨A, HR⟩ : ∃ A, Hid (plv zP = A) := ⟨_, rfl⟩
      rw [HR.out]
      unfold plv plw at HM HD ⊢
      unfold zP at HD
      go_enter Try.func19, Try.ntmps19
      go_upto_region 1 with fail
      generalize hW : World.alloc (World.alloc w _) _ = W
      obtain ⟨p2, p3, hB⟩ := pb_two p hW
      clear hW
      obtain ⟨c0, c1, c2, c3, c4, c5, c6, c7⟩ := p2.cells
      have H2 := hide p2
      have H3 := hide p3
      have HB := hide hB
      clear p2 p3 hB
      go_upto_region 4 with (first
        | (go_at_call 14; refine (HM.out _).mono ?_; rintro e w1 ⟨rfl, hb1⟩; have P2 := hide (H2.out.below hb1); have P3 := hide (H3.out.below hb1); clear c0 c1 c2 c3 c4 c5 c6 c7; obtain ⟨c0, c1, c2, c3, c4, c5, c6, c7⟩ := P2.out.cells)
        | (go_at_call 28; refine (HD.out _).mono ?_; rintro e w2 ⟨rfl, hb2⟩; have Q3 := hide (P3.out.below hb2); clear c0 c1 c2 c3 c4 c5 c6 c7))
      generalize hW4 : World.alloc w2 _ = W4
      have hB4 := Below.next (Below.next (Below.next HB.out hb1) hb2) (hW4 ▸ alloc_below w2 _)
      have P4 : Pb W4 w2.heap.size zP := hW4 ▸ pb_new w2 zP
      have R3 : Pb W4 (w.heap.size + 1) zP := Q3.out.below (hW4 ▸ alloc_below w2 _)
      clear hW4
      obtain ⟨c0, c1, c2, c3, c4, c5, c6, c7⟩ := P4.cells
      obtain ⟨d0, d1, d2, d3, d4, d5, d6, d7⟩ := R3.cells
      have fz := R3.free
      unfold zP at c0 c1 c2 c3 c4 c5 c6 c7
      dsimp only at c0 c1 c2 c3 c4 c5 c6 c7
      go_wp2
      refine bodyPost_ret (res_ct (a := 2) (b := 3) (v := plv zP) rfl rfl rfl (load_plan (R3.set8 (q := zP)))) rfl ?_
      exact ⟨by rw [HR.out]; rfl, below_set8 (p := zP) hB4 (by omega)⟩
    · rw [if_neg hc]
      have hq := hf hc
      generalize wdP p (tpK p) = q at *
      clear hm h e1 e2 hc hz hf
      obtain ⟨A, HR⟩ : ∃ A, Hid (plv q = A) := ⟨_, rfl⟩
      rw [HR.out]
      unfold plv plw at HM HD ⊢
      go_enter Try.func19, Try.ntmps19
      go_upto_region 1 with fail
      generalize hW : World.alloc (World.alloc w _) _ = W
      obtain ⟨p2, p3, hB⟩ := pb_two p hW
      clear hW
      obtain ⟨c0, c1, c2, c3, c4, c5, c6, c7⟩ := p2.cells
      have H2 := hide p2
      have H3 := hide p3
      have HB := hide hB
      clear p2 p3 hB
      go_upto_region 4 with (first
        | (go_at_call 14; refine (HM.out _).mono ?_; rintro e w1 ⟨rfl, hb1⟩; have P2 := hide (H2.out.below hb1); have P3 := hide (H3.out.below hb1); clear c0 c1 c2 c3 c4 c5 c6 c7; obtain ⟨c0, c1, c2, c3, c4, c5, c6, c7⟩ := P2.out.cells)
        | (go_at_call 28; refine (HD.out _).mono ?_; rintro e w2 ⟨rfl, hb2⟩; have Q3 := hide (P3.out.below hb2); clear c0 c1 c2 c3 c4 c5 c6 c7))
      generalize hW4 : World.alloc w2 _ = W4
      have hB4 := Below.next (Below.next (Below.next HB.out hb1) hb2) (hW4 ▸ alloc_below w2 _)
      have P4 : Pb W4 w2.heap.size q := hW4 ▸ pb_new w2 q
      have R3 : Pb W4 (w.heap.size + 1) zP := Q3.out.below (hW4 ▸ alloc_below w2 _)
      clear hW4
      obtain ⟨c0, c1, c2, c3, c4, c5, c6, c7⟩ := P4.cells
      obtain ⟨d0, d1, d2, d3, d4, d5, d6, d7⟩ := R3.cells
      have fz := R3.free
      go_wp2
      refine bodyPost_ret (res_ct (a := 2) (b := 3) (v := plv q) rfl rfl rfl (load_plan (R3.set8 (q := q)))) rfl ?_
      exact ⟨by rw [HR.out]; rfl, below_set8 (p := q) hB4 (by omega)⟩

set_option maxRecDepth 100000 in
set_option maxHeartbeats 400000 in
theorem gWithout (p : Pn) (c : Int) (h : Ok8p p) (hc : I64 c) : Ans 21 #[plv p, .int .i64 c] (.tuple #[plv (woP p c), .int .i64 (woE p c)]) := by
  intro w
  have HM := hide (gMay p h)
  have HI := hide (gWithin c 0 (p.n - 1))
  cases hm : mayP p with
  | false =>
    rw [hm] at HM
    have e1 : woP p c = zP := by unfold woP; rw [if_neg]; intro h; rw [hm] at h; cases h.1
    have e2 : woE p c = 2 := by unfold woE; rw [if_neg]; intro h; rw [hm] at h; cases h.1
    rw [e1, e2]
    clear hm h e1 e2
    obtain ⟨A, HR⟩ : ∃ A, Hid (plv zP = A) := ⟨_, rfl⟩
    rw [HR.out]
    unfold plv plw at HM ⊢
    go_enter Try.func21, Try.ntmps21
    go_upto_region 1 with fail
    generalize hW : World.alloc (World.alloc w _) _ = W
    obtain ⟨p2, p3, hB⟩ := pb_two p hW
    clear hW
    obtain ⟨c0, c1, c2, c3, c4, c5, c6, c7⟩ := p2.cells
    have H3 := hide p3
    have HB := hide hB
    clear p2 p3 hB
    go_wp2_with (go_at_call 14; refine (HM.out _).mono ?_; rintro e w1 ⟨rfl, hb1⟩; have P3 := hide (H3.out.below hb1); clear c0 c1 c2 c3 c4 c5 c6 c7; obtain ⟨d0, d1, d2, d3, d4, d5, d6, d7⟩ := P3.out.cells; have fz := P3.out.free)
    refine bodyPost_ret (res_ct (a := 4) (b := 5) (v := plv zP) rfl rfl rfl (load_plan (P3.out.set8 (q := zP)))) rfl ?_
    exact ⟨by rw [HR.out]; rfl, below_set8 (p := zP) (Below.next HB.out hb1) (by omega)⟩
  | true =>
    rw [hm] at HM
    obtain ⟨⟨n0, n1⟩, _, _, _, ⟨e0, e1⟩, _, _⟩ := may_facts hm
    unfold I64 at hc
    obtain ⟨hc0, hc1⟩ := hc
    by_cases hb : 0 ≤ c ∧ c < p.n
    · have e1 : woP p c = { p with n := p.n - c, e := if p.e - c < 0 then 0 else p.e - c } := by unfold woP; rw [if_pos ⟨hm, hb⟩]
      have e2 : woE p c = 0 := by unfold woE; rw [if_pos ⟨hm, hb⟩]
      have hbt : btw c 0 (p.n - 1) = true := btw_yes (by omega)
      rw [hbt] at HI
      rw [e1, e2]
      obtain ⟨b0, b1⟩ := hb
      clear hm h e1 e2 hbt
      obtain ⟨A, HR⟩ : ∃ A, Hid (plv { p with n := p.n - c, e := if p.e - c < 0 then 0 else p.e - c } = A) := ⟨_, rfl⟩
      rw [HR.out]
      unfold plv plw at HM ⊢
      go_enter Try.func21, Try.ntmps21
      go_upto_region 1 with fail
      generalize hW : World.alloc (World.alloc w _) _ = W
      obtain ⟨p2, p3, hB⟩ := pb_two p hW
      clear hW
      obtain ⟨c0, c1, c2, c3, c4, c5, c6, c7⟩ := p2.cells
      have H2 := hide p2
      have H3 := hide p3
      have HB := hide hB
      clear p2 p3 hB
      go_upto_region 3 with (first
        | (go_at_call 14; refine (HM.out _).mono ?_; rintro e w1 ⟨rfl, hb1⟩; have P2 := hide (H2.out.below hb1); have P3 := hide (H3.out.below hb1); clear c0 c1 c2 c3 c4 c5 c6 c7; obtain ⟨c0, c1, c2, c3, c4, c5, c6, c7⟩ := P2.out.cells; have fz := P2.out.free)
        | (go_at_call 25; refine (HI.out _).mono ?_; rintro e w2 ⟨rfl, hw2⟩; rw [hw2]; clear hw2))
      go_upto_region 4 with fail
      have P4 := hide (P2.out.set (q := { p with n := p.n - c }) 1 (.int .i64 (p.n - c)) rfl)
      have R4 := hide (P3.out.other (g' := w.heap.size) (by omega) 1 (.int .i64 (p.n - c)))
      have hB4 := below_set (k := 1) (v := .int .i64 (p.n - c)) (g := w.heap.size) (Below.next HB.out hb1) (Nat.le_refl _)
      generalize w1.setCell ⟨w.heap.size, 1, none⟩ (.int .i64 (p.n - c)) = W4 at *
      clear c0 c1 c2 c3 c4 c5 c6 c7 fz
      obtain ⟨c0, c1, c2, c3, c4, c5, c6, c7⟩ := P4.out.cells
      have fz := P4.out.free
      dsimp only at c0 c1 c2 c3 c4 c5 c6 c7
      have H4 := hide hB4
      clear hB4
      by_cases hd : p.e - c < 0
      · go_upto_region 5 with fail
        have P5 := hide (P4.out.set (q := { p with n := p.n - c, e := 0 }) 5 (.int .i64 (0)) rfl)
        have R5 := hide (R4.out.other (g' := w.heap.size) (by omega) 5 (.int .i64 (0)))
        have H5 := hide (below_set (k := 5) (v := .int .i64 (0)) (g := w.heap.size) H4.out (Nat.le_refl _))
        generalize W4.setCell ⟨w.heap.size, 5, none⟩ (.int .i64 (0)) = W5 at *
        clear c0 c1 c2 c3 c4 c5 c6 c7 fz
        obtain ⟨c0, c1, c2, c3, c4, c5, c6, c7⟩ := P5.out.cells
        obtain ⟨d0, d1, d2, d3, d4, d5, d6, d7⟩ := R5.out.cells
        have fz := R5.out.free
        dsimp only at c0 c1 c2 c3 c4 c5 c6 c7
        go_wp2
        refine bodyPost_ret (res_ct (a := 4) (b := 5) (v := plv { p with n := p.n - c, e := 0 }) rfl rfl rfl (load_plan (R5.out.set8 (q := { p with n := p.n - c, e := 0 })))) rfl ?_
        refine ⟨?_, below_set8 (p := { p with n := p.n - c, e := 0 }) H5.out (by omega)⟩
        rw [← HR.out, if_pos (by omega)]
        rfl
      · go_upto_region 5 with fail
        have P5 := hide (P4.out.set (q := { p with n := p.n - c, e := p.e - c }) 5 (.int .i64 (p.e - c)) rfl)
        have R5 := hide (R4.out.other (g' := w.heap.size) (by omega) 5 (.int .i64 (p.e - c)))
        have H5 := hide (below_set (k := 5) (v := .int .i64 (p.e - c)) (g := w.heap.size) H4.out (Nat.le_refl _))
        generalize W4.setCell ⟨w.heap.size, 5, none⟩ (.int .i64 (p.e - c)) = W5 at *
        clear c0 c1 c2 c3 c4 c5 c6 c7 fz
        obtain ⟨c0, c1, c2, c3, c4, c5, c6, c7⟩ := P5.out.cells
        obtain ⟨d0, d1, d2, d3, d4, d5, d6, d7⟩ := R5.out.cells
        have fz := R5.out.free
        dsimp only at c0 c1 c2 c3 c4 c5 c6 c7
        go_wp2
        refine bodyPost_ret (res_ct (a := 4) (b := 5) (v := plv { p with n := p.n - c, e := p.e - c }) rfl rfl rfl (load_plan (R5.out.set8 (q := { p with n := p.n - c, e := p.e - c })))) rfl ?_
        refine ⟨?_, below_set8 (p := { p with n := p.n - c, e := p.e - c }) H5.out (by omega)⟩
        rw [← HR.out, if_neg (by omega)]
        rfl
    · have e1 : woP p c = zP := by unfold woP; rw [if_neg]; exact fun h => hb h.2
      have e2 : woE p c = 2 := by unfold woE; rw [if_neg]; exact fun h => hb h.2
      have hbt : btw c 0 (p.n - 1) = false := decide_eq_false (by omega)
      rw [hbt] at HI
      rw [e1, e2]
      clear hm h e1 e2 hbt hb
      obtain ⟨A, HR⟩ : ∃ A, Hid (plv zP = A) := ⟨_, rfl⟩
      rw [HR.out]
      unfold plv plw at HM ⊢
      go_enter Try.func21, Try.ntmps21
      go_upto_region 1 with fail
      generalize hW : World.alloc (World.alloc w _) _ = W
      obtain ⟨p2, p3, hB⟩ := pb_two p hW
      clear hW
      obtain ⟨c0, c1, c2, c3, c4, c5, c6, c7⟩ := p2.cells
      have H2 := hide p2
      have H3 := hide p3
      have HB := hide hB
      clear p2 p3 hB
      go_wp2_with (first
        | (go_at_call 14; refine (HM.out _).mono ?_; rintro e w1 ⟨rfl, hb1⟩; have P2 := hide (H2.out.below hb1); have P3 := hide (H3.out.below hb1); clear c0 c1 c2 c3 c4 c5 c6 c7; obtain ⟨c0, c1, c2, c3, c4, c5, c6, c7⟩ := P2.out.cells; obtain ⟨d0, d1, d2, d3, d4, d5, d6, d7⟩ := P3.out.cells; have fz := P3.out.free)
        | (go_at_call 25; refine (HI.out _).mono ?_; rintro e w2 ⟨rfl, hw2⟩; rw [hw2]; clear hw2))
      refine bodyPost_ret (res_ct (a := 4) (b := 5) (v := plv zP) rfl rfl rfl (load_plan (P3.out.set8 (q := zP)))) rfl ?_
      exact ⟨by rw [HR.out]; rfl, below_set8 (p := zP) (Below.next HB.out hb1) (by omega)⟩

end Go.Proofs.Ytgjbfapmefpcjaa
