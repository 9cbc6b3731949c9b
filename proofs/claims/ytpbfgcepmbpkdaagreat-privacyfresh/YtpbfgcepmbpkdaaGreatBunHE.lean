/- Texts laid together: ShdA, ShdB. -/
import Derived.Test.YtpbfgcepmbpkdaaGreatBunHC
import Derived.Test.YtpbfgcepmbpkdaaGreatBPlrA
import Derived.Test.YtpbfgcepmbpkdaaGreatBunAU
import Derived.Test.YtpbfgcepmbpkdaaGreatBunJ
namespace Go.Proofs.YtpbfgcepmbpkdaaGreat
open Go.RowKit Fld Pln Shr
set_option linter.unusedVariables false
set_option linter.unusedSimpArgs false

/-- Why lists of blocks may not be. -/
def bdE (p : Pn) (l : List (List Int)) (n : Int) : Int := if elsB p.f l then (if blkB p.w n l then 0 else 3) else 2
theorem blkB_len {w n : Int} {l : List (List Int)} (h : ¬ (l.length : Int) = n) : blkB w n l = false := by
  unfold blkB
  rw [decide_eq_false h, Bool.and_false]

set_option maxRecDepth 100000 in
set_option maxHeartbeats 800000 in
theorem dBad1 (p : Pn) (n : Int) (v : Value) (l : List (List Int)) (w : World) (h : Rws w v l) : Calls Tryz.prog 52 #[plv p, v, .int .i64 n] w fun e w' => e = .returned (.int .i64 (bdE p l n)) ∧ Below w.heap.size w w' := by
  have HI := hide (fun W u xs (hr : Rw W u xs) => rIn_any p.f u xs W hr.1)
  have HN := hide (fun k hk hf => elsB_no (f := p.f) (l := l) (k := k) hk hf)
  have HY := hide (fun hy => elsB_yes (f := p.f) (l := l) hy)
  have HN2 := hide (fun k hk hf => blkB_no (w := p.w) (n := n) (l := l) (k := k) hk hf)
  have HY2 := hide (fun hy => blkB_yes (w := p.w) (n := n) (l := l) hy)
  have HL2 := hide (fun hy => blkB_len (w := p.w) (n := n) (l := l) hy)
  obtain ⟨pb, hA⟩ := pb_box (w := w) p
  have HS := hide (fun W' (hb : Below (w.alloc (.cells #[.int .u8 p.f, .int .i64 p.n, .int .i64 p.k, .int .i64 p.t, .int .i64 p.s, .int .i64 p.e, .int .i64 p.d, .int .i64 p.w] 24)).heap.size _ W') => (pb.below hb).cells)
  obtain ⟨ao, cap, rfl, hlen, hcap, hc⟩ := h
  unfold bdE
  generalize elsB p.f l = b1 at *
  generalize blkB p.w n l = b2 at *
  obtain ⟨res, HX⟩ : ∃ r : Int, Hid ((if b1 = true then (if b2 = true then 0 else 3) else 2) = r) := ⟨_, rfl⟩
  rw [HX.out]
  clear pb
  rw [plan_eq] at *
  go_enter Tryz.func52, Tryz.ntmps52
  go_wp2_with fail
  generalize w.alloc (.cells #[.int .u8 p.f, .int .i64 p.n, .int .i64 p.k, .int .i64 p.t, .int .i64 p.s, .int .i64 p.e, .int .i64 p.d, .int .i64 p.w] 24) = W0 at *
  go_loopw [7] (fun vi wr => ∃ k : Nat, k ≤ l.length ∧ vi = .int .i64 k ∧ Hid (∀ i, i < k → inF p.f (l.getD i []) = true) ∧ Below W0.heap.size W0 wr) (fun vi _ => l.length - (intOf vi).toNat)
  case atStart => exact ⟨0, Nat.zero_le _, rfl, fun i hi => by omega, Below.refl _ _⟩
  case round =>
    obtain ⟨k, hk, rfl, HQ, hB⟩ := hrel
    by_cases hlt : k < l.length
    · obtain ⟨b, off, rfl, hbl, hcell⟩ := hc (by intro h; rw [h] at hlt; simp at hlt)
      obtain ⟨u, hu, hR⟩ := hcell k hlt
      have hck := ((Below.next hA hB).cell (p := ⟨b, off + k, none⟩) hbl).trans hu
      have hin := hide (fun V (hb : Below w.heap.size w V) => HI.out V u _ (hR.below hb))
      obtain ⟨au, cu, rfl, _⟩ := hR.spell
      have k0 : (0 : Int) ≤ (k : Int) := by omega
      have k1 : (k : Int) < (l.length : Int) := by omega
      obtain ⟨c0, c1, c2, c3, c4, c5, c6, c7⟩ := HS.out _ hB
      have hBw := hide (fun nq => Below.next hA (below_drewN hB nq))
      clear hcell hc hR hu HI
      cases hi : inF p.f (l.getD k []) with
      | false =>
        have HR := hide (HN.out k hlt hi)
        rw [hi] at hin
        clear HN HY HN2 HY2 HL2 HQ hi
        generalize l.getD k [] = xs at *
        go_upto_region 4 with fail
        go_quiet (exact Calls.quiet_of_same (hin.out _ (hBw.out _)))
        go_wp2
        go_ret
        exact ⟨by have hr := HR.out; subst hr; rw [← HX.out]; rfl, hBw.out _⟩
      | true =>
        have HA2 : Hid (∀ i, i < k + 1 → inF p.f (l.getD i []) = true) := fun i h' => by
          rcases Nat.lt_or_eq_of_le (Nat.le_of_lt_succ h') with h1 | h1
          · exact HQ.out i h1
          · rw [h1]; exact hi
        rw [hi] at hin
        clear HN HY HN2 HY2 HL2 HQ hi
        generalize l.getD k [] = xs at *
        go_upto_region 4 with fail
        go_quiet (exact Calls.quiet_of_same (hin.out _ (hBw.out _)))
        have hB2 := below_drewN hB nq
        go_wp2
        go_roundw
        case rel => exact ⟨k + 1, by omega, by go_num, HA2, hB2⟩
        case measure => simp [intOf]; omega
    · obtain rfl : k = l.length := by omega
      have HR := hide (HY.out HQ.out)
      have hr := HR.out
      subst hr
      clear HN HY HQ HI HR
      obtain ⟨m, hm⟩ : ∃ m, m = l.length := ⟨_, rfl⟩
      have Hm := hide hm
      by_cases hi : (l.length : Int) = n
      · have hi2 : ((l.length : Int) != n) = false := by rw [hi]; simp
        have HY3 := HY2
        rw [decide_eq_true hi] at HY3
        clear hi hm HY2 HL2
        go_wp2_with fail
        obtain ⟨w9, Hw9⟩ : ∃ w9, Hid (wr = w9) := ⟨_, rfl⟩
        go_loopw [8] (fun vi wq => ∃ k : Nat, k ≤ l.length ∧ vi = .int .i64 k ∧ Hid (∀ i, i < k → ((l.getD i []).length : Int) = p.w) ∧ Below W0.heap.size W0 wq) (fun vi _ => l.length - (intOf vi).toNat)
        case atStart => exact ⟨0, Nat.zero_le _, rfl, fun i hi => by omega, hB⟩
        case round =>
          clear hB Hw9
          obtain ⟨k, hk, rfl, HQ, hB⟩ := hrel
          by_cases hlt : k < l.length
          · obtain ⟨b, off, rfl, hbl, hcell⟩ := hc (by intro h; rw [h] at hlt; simp at hlt)
            obtain ⟨u, hu, hR⟩ := hcell k hlt
            have hck := ((Below.next hA hB).cell (p := ⟨b, off + k, none⟩) hbl).trans hu
            obtain ⟨au, cu, rfl, _⟩ := hR.spell
            have k0 : (0 : Int) ≤ (k : Int) := by omega
            have k1 : (k : Int) < (l.length : Int) := by omega
            have hll := hR.len
            obtain ⟨c0, c1, c2, c3, c4, c5, c6, c7⟩ := HS.out _ hB
            clear hcell hc hR hu
            by_cases hi : ((l.getD k []).length : Int) = p.w
            · have HA2 : Hid (∀ i, i < k + 1 → ((l.getD i []).length : Int) = p.w) := fun i h' => by
                rcases Nat.lt_or_eq_of_le (Nat.le_of_lt_succ h') with h1 | h1
                · exact HQ.out i h1
                · rw [h1]; exact hi
              clear HN2 HY3 HQ
              generalize (l.getD k []).length = m2 at *
              have ht : ((m2 : Int) != p.w) = false := by rw [hi]; simp
              clear hi
              go_upto_region 11 with fail
              go_quiet (fail)
              have hB2 := below_drewN hB nq
              go_wp2
              go_roundw
              case rel => exact ⟨k + 1, by omega, by go_num, HA2, hB2⟩
              case measure => simp [intOf]; omega
            · have HR := hide (HN2.out k hlt hi)
              clear HN2 HY3 HQ
              generalize (l.getD k []).length = m2 at *
              have ht : ((m2 : Int) != p.w) = true := bne_iff_ne.2 hi
              clear hi
              go_upto_region 11 with fail
              go_quiet (fail)
              have hB2 := below_drewN hB nq
              go_wp2
              go_ret
              exact ⟨by have hr := HR.out; subst hr; rw [← HX.out]; rfl, Below.next hA hB2⟩
          · obtain rfl : k = l.length := by omega
            have HR := hide (HY3.out HQ.out)
            clear HN2 HY3 HQ hc
            go_wp2
            go_ret
            exact ⟨by have hr := HR.out; subst hr; rw [← HX.out]; rfl, Below.next hA hB⟩
      · have HR := hide (HL2.out hi)
        have ht : ((l.length : Int) != n) = true := bne_iff_ne.2 hi
        clear hi HN2 HY2 HL2 hc hm
        go_wp2
        go_ret
        exact ⟨by have hr := HR.out; subst hr; rw [← HX.out]; rfl, Below.next hA hB⟩

theorem bd_three (p : Pn) (l : List (List Int)) (n : Int) : bdE p l n = 0 ∨ bdE p l n = 2 ∨ bdE p l n = 3 := by
  unfold bdE; split
  · split
    · exact .inl rfl
    · exact .inr (.inr rfl)
  · exact .inr (.inl rfl)
theorem bk_bd {p : Pn} {dl pl : List (List Int)} (hm : mayP p = true) : bkE p dl pl [] = if bdE p dl p.k = 2 ∨ bdE p pl p.t = 2 then 2 else if bdE p dl p.k < bdE p pl p.t then bdE p pl p.t else bdE p dl p.k := by
  rw [bk_none, hm, Bool.true_and]
  unfold bdE
  cases elsB p.f dl <;> cases elsB p.f pl <;> cases blkB p.w p.k dl <;> cases blkB p.w p.t pl <;> simp

set_option maxRecDepth 100000 in
set_option maxHeartbeats 800000 in
theorem dBad14 (p : Pn) (vd vp : Value) (dl pl : List (List Int)) (w : World) (hp : Ok8p p) (h1 : Rws w vd dl) (h2 : Rws w vp pl) : Calls Tryz.prog 25 #[plv p, vd, vp] w fun e w' => e = .returned (.int .i64 (bkE p dl pl [])) ∧ Below w.heap.size w w' := by
  have HM := hide (dMayP p hp)
  have H1 := hide (fun W (hb : Below w.heap.size w W) => dBad1 p p.k vd dl W (h1.below hb))
  have H2 := hide (fun W (hb : Below w.heap.size w W) => dBad1 p p.t vp pl W (h2.below hb))
  have HB := hide (fun hm => bk_bd (p := p) (dl := dl) (pl := pl) hm)
  have HF : Hid (mayP p = false → bkE p dl pl [] = 2) := fun hm => by rw [bk_none, hm]; rfl
  have a3 := bd_three p dl p.k
  have b3 := bd_three p pl p.t
  obtain ⟨pb, hA⟩ := pb_box (w := w) p
  have HS := hide (fun W' (hb : Below (w.alloc (.cells #[.int .u8 p.f, .int .i64 p.n, .int .i64 p.k, .int .i64 p.t, .int .i64 p.s, .int .i64 p.e, .int .i64 p.d, .int .i64 p.w] 24)).heap.size _ W') => (pb.below hb).cells)
  obtain ⟨c0, c1, c2, c3, c4, c5, c6, c7⟩ := pb.cells
  obtain ⟨ad, cd, rfl, _, _, _⟩ := h1
  obtain ⟨ap, cp, rfl, _, _, _⟩ := h2
  clear pb hp
  generalize bkE p dl pl [] = res at *
  generalize bdE p dl p.k = ea at *
  generalize bdE p pl p.t = eb at *
  generalize dl.length = nd at *
  generalize pl.length = np at *
  rw [plan_eq] at *
  cases hm : mayP p with
  | false =>
    have hr := HF.out hm
    subst hr
    rw [hm] at HM
    clear HB HF H1 H2 a3 b3 hm
    go_enter Tryz.func25, Tryz.ntmps25
    go_wp2_with (go_at_call 51; refine (HM.out _).mono ?_; rintro e w1 ⟨rfl, hb1⟩)
    go_ret
    exact ⟨rfl, Below.next hA hb1⟩
  | true =>
    have HR := hide (HB.out hm)
    rw [hm] at HM
    clear HB HF hm
    go_enter Tryz.func25, Tryz.ntmps25
    go_upto_region 3 with (go_at_call 51; refine (HM.out _).mono ?_; rintro e w1 ⟨rfl, hb1⟩)
    have hC1 := hb1
    have hdr : Below w1.heap.size w1 w1.drew := (Below.refl _ w1).drew
    have hS0 := HS.out _ (Below.next hC1 hdr)
    have hB1 := Below.next hA (Below.next hC1 hdr)
    clear c0 c1 c2 c3 c4 c5 c6 c7
    refine wp_region_held_drew (S := (fun V => V.cell? ⟨w.heap.size, 0, none⟩ = some (.int .u8 p.f) ∧ V.cell? ⟨w.heap.size, 1, none⟩ = some (.int .i64 p.n) ∧ V.cell? ⟨w.heap.size, 2, none⟩ = some (.int .i64 p.k) ∧ V.cell? ⟨w.heap.size, 3, none⟩ = some (.int .i64 p.t) ∧ V.cell? ⟨w.heap.size, 4, none⟩ = some (.int .i64 p.s) ∧ V.cell? ⟨w.heap.size, 5, none⟩ = some (.int .i64 p.e) ∧ V.cell? ⟨w.heap.size, 6, none⟩ = some (.int .i64 p.d) ∧ V.cell? ⟨w.heap.size, 7, none⟩ = some (.int .i64 p.w))) (by kernel_rfl) (by ((try dsimp only) <;> (first | with_reducible exact hS2 | with_reducible exact hS1 | with_reducible exact hS0))) (fun hHeld => ?_)
    (refine wpAnyH_take (i := 0) (oi := _) (v := ?v57) rfl (by kernel_rfl) (by kernel_rfl) (by kernel_rfl) (fun _ _ _ h => h) (Or.inl ⟨by rfl, ?hy57⟩) (by assumption) ?rest57; (case hy57 => (first | (intro w hSw; (try dsimp only at hSw); go_simp; done) | (intro w hSw; (try dsimp only at hSw); go_simp; with_reducible rfl))); (try simp only [Act.put, List.getElem_toArray, List.getElem_cons_succ, List.getElem_cons_zero, List.setIfInBounds_toArray, List.set_cons_zero, List.set_cons_succ]))
    (refine wpAnyH_take (i := 1) (oi := _) (v := ?v58) rfl (by kernel_rfl) (by kernel_rfl) (by kernel_rfl) (fun _ _ _ h => h) (Or.inl ⟨by rfl, ?hy58⟩) (by assumption) ?rest58; (case hy58 => (first | (intro w hSw; (try dsimp only at hSw); go_simp; done) | (intro w hSw; (try dsimp only at hSw); go_simp; with_reducible rfl))); (try simp only [Act.put, List.getElem_toArray, List.getElem_cons_succ, List.getElem_cons_zero, List.setIfInBounds_toArray, List.set_cons_zero, List.set_cons_succ]))
    (refine wpAnyH_take (i := 2) (oi := _) (v := ?v59) rfl (by kernel_rfl) (by kernel_rfl) (by kernel_rfl) (fun _ _ _ h => h) (Or.inl ⟨by rfl, ?hy59⟩) (by assumption) ?rest59; (case hy59 => (first | (intro w hSw; (try dsimp only at hSw); go_simp; done) | (intro w hSw; (try dsimp only at hSw); go_simp; with_reducible rfl))); (try simp only [Act.put, List.getElem_toArray, List.getElem_cons_succ, List.getElem_cons_zero, List.setIfInBounds_toArray, List.set_cons_zero, List.set_cons_succ]))
    (refine wpAnyH_take (i := 3) (oi := _) (v := ?v60) rfl (by kernel_rfl) (by kernel_rfl) (by kernel_rfl) (fun _ _ _ h => h) (Or.inl ⟨by rfl, ?hy60⟩) (by assumption) ?rest60; (case hy60 => (first | (intro w hSw; (try dsimp only at hSw); go_simp; done) | (intro w hSw; (try dsimp only at hSw); go_simp; with_reducible rfl))); (try simp only [Act.put, List.getElem_toArray, List.getElem_cons_succ, List.getElem_cons_zero, List.setIfInBounds_toArray, List.set_cons_zero, List.set_cons_succ]))
    (refine wpAnyH_take (i := 5) (oi := _) (v := ?v61) rfl (by kernel_rfl) (by kernel_rfl) (by kernel_rfl) (fun _ _ _ h => h) (Or.inl ⟨by rfl, ?hy61⟩) (by assumption) ?rest61; (case hy61 => (first | (intro w hSw; (try dsimp only at hSw); go_simp; done) | (intro w hSw; (try dsimp only at hSw); go_simp; with_reducible rfl))); (try simp only [Act.put, List.getElem_toArray, List.getElem_cons_succ, List.getElem_cons_zero, List.setIfInBounds_toArray, List.set_cons_zero, List.set_cons_succ]))
    (refine wpAnyH_take (i := 6) (oi := _) (v := ?v62) rfl (by kernel_rfl) (by kernel_rfl) (by kernel_rfl) (fun _ _ _ h => h) (Or.inl ⟨by rfl, ?hy62⟩) (by assumption) ?rest62; (case hy62 => (first | (intro w hSw; (try dsimp only at hSw); go_simp; done) | (intro w hSw; (try dsimp only at hSw); go_simp; with_reducible rfl))); (try simp only [Act.put, List.getElem_toArray, List.getElem_cons_succ, List.getElem_cons_zero, List.setIfInBounds_toArray, List.set_cons_zero, List.set_cons_succ]))
    (refine wpAnyH_take (i := 7) (oi := _) (v := ?v63) rfl (by kernel_rfl) (by kernel_rfl) (by kernel_rfl) (fun _ _ _ h => h) (Or.inl ⟨by rfl, ?hy63⟩) (by assumption) ?rest63; (case hy63 => (first | (intro w hSw; (try dsimp only at hSw); go_simp; done) | (intro w hSw; (try dsimp only at hSw); go_simp; with_reducible rfl))); (try simp only [Act.put, List.getElem_toArray, List.getElem_cons_succ, List.getElem_cons_zero, List.setIfInBounds_toArray, List.set_cons_zero, List.set_cons_succ]))
    (refine wpAnyH_take (i := 8) (oi := _) (v := ?v64) rfl (by kernel_rfl) (by kernel_rfl) (by kernel_rfl) (fun _ _ _ h => h) (Or.inl ⟨by rfl, ?hy64⟩) (by assumption) ?rest64; (case hy64 => (first | (intro w hSw; (try dsimp only at hSw); go_simp; done) | (intro w hSw; (try dsimp only at hSw); go_simp; with_reducible rfl))); (try simp only [Act.put, List.getElem_toArray, List.getElem_cons_succ, List.getElem_cons_zero, List.setIfInBounds_toArray, List.set_cons_zero, List.set_cons_succ]))
    refine wpAnyH_ready (rs := [4]) (by kernel_rfl) (by simp) ?_
    refine AllReadyH.cons (o := _) rfl (fun K hK => ?_) AllReadyH.nil
    try simp only [List.getElem_toArray, List.getElem_cons_succ, List.getElem_cons_zero]
    go_simp
    (first
          | (go_at_call 52; with_reducible refine (H2.out _ hB2).mono ?_; rintro e w3 ⟨rfl, hb3⟩; have hC3 := Below.next hC2 hb3; have hB3 := Below.next hA hC3; have hS2 := HS.out _ hC3)
          | (go_at_call 52; with_reducible refine (H1.out _ hB1).mono ?_; rintro e w2 ⟨rfl, hb2⟩; have hC2 := Below.next (Below.next hC1 hdr) hb2; have hB2 := Below.next hA hC2; have hS1 := HS.out _ hC2))
    first | (refine hK.out _ _ (by ((try dsimp only) <;> (first | with_reducible exact hS2 | with_reducible exact hS1 | with_reducible exact hS0))) (fun hHeld => ?_)) | (go_wp2_with fail; refine hK.out _ _ (by ((try dsimp only) <;> (first | with_reducible exact hS2 | with_reducible exact hS1 | with_reducible exact hS0))) (fun hHeld => ?_))
    clear hK K
    (try simp only [Act.put, List.getElem_toArray, List.getElem_cons_succ, List.getElem_cons_zero, List.setIfInBounds_toArray, List.set_cons_zero, List.set_cons_succ])
    refine wpAnyH_ready (rs := [9]) (by kernel_rfl) (by simp) ?_
    refine AllReadyH.cons (o := _) rfl (fun K hK => ?_) AllReadyH.nil
    try simp only [List.getElem_toArray, List.getElem_cons_succ, List.getElem_cons_zero]
    go_simp
    (first
          | (go_at_call 52; with_reducible refine (H2.out _ hB2).mono ?_; rintro e w3 ⟨rfl, hb3⟩; have hC3 := Below.next hC2 hb3; have hB3 := Below.next hA hC3; have hS2 := HS.out _ hC3)
          | (go_at_call 52; with_reducible refine (H1.out _ hB1).mono ?_; rintro e w2 ⟨rfl, hb2⟩; have hC2 := Below.next (Below.next hC1 hdr) hb2; have hB2 := Below.next hA hC2; have hS1 := HS.out _ hC2))
    first | (refine hK.out _ _ (by ((try dsimp only) <;> (first | with_reducible exact hS2 | with_reducible exact hS1 | with_reducible exact hS0))) (fun hHeld => ?_)) | (go_wp2_with fail; refine hK.out _ _ (by ((try dsimp only) <;> (first | with_reducible exact hS2 | with_reducible exact hS1 | with_reducible exact hS0))) (fun hHeld => ?_))
    clear hK K
    (try simp only [Act.put, List.getElem_toArray, List.getElem_cons_succ, List.getElem_cons_zero, List.setIfInBounds_toArray, List.set_cons_zero, List.set_cons_succ])
    (refine wpAnyH_take (i := 10) (oi := _) (v := ?v65) rfl (by kernel_rfl) (by kernel_rfl) (by kernel_rfl) (fun _ _ _ h => h) (Or.inl ⟨by rfl, ?hy65⟩) (by assumption) ?rest65; (case hy65 => (first | (intro w hSw; (try dsimp only at hSw); go_simp; done) | (intro w hSw; (try dsimp only at hSw); go_simp; with_reducible rfl))); (try simp only [Act.put, List.getElem_toArray, List.getElem_cons_succ, List.getElem_cons_zero, List.setIfInBounds_toArray, List.set_cons_zero, List.set_cons_succ]))
    (refine wpAnyH_take (i := 11) (oi := _) (v := ?v66) rfl (by kernel_rfl) (by kernel_rfl) (by kernel_rfl) (fun _ _ _ h => h) (Or.inl ⟨by rfl, ?hy66⟩) (by assumption) ?rest66; (case hy66 => (first | (intro w hSw; (try dsimp only at hSw); go_simp; done) | (intro w hSw; (try dsimp only at hSw); go_simp; with_reducible rfl))); (try simp only [Act.put, List.getElem_toArray, List.getElem_cons_succ, List.getElem_cons_zero, List.setIfInBounds_toArray, List.set_cons_zero, List.set_cons_succ]))
    refine wpAnyH_done (by kernel_rfl) ?_ _
    rcases a3 with rfl | rfl | rfl <;> rcases b3 with rfl | rfl | rfl
    all_goals
      go_wp2
      go_ret
      exact ⟨by have hr := HR.out; subst hr; rfl, hB3⟩

end Go.Proofs.YtpbfgcepmbpkdaaGreat

namespace Go.Proofs.YtpbfgcepmbpkdaaGreat
open Go.RowKit Fld Pln Shr
set_option linter.unusedVariables false
set_option linter.unusedSimpArgs false

theorem vals_snocH (xs : List Int) (x : Int) : vals (xs ++ [x]) = vals xs ++ [.int .u64 x] := by simp [vals]
theorem col_take {l : List (List Int)} {k t : Nat} (hk : k < l.length) : col (l.take k) t ++ [co (l.getD k []) t] = col (l.take (k + 1)) t := by
  rw [List.take_succ_eq_append_getElem hk, col_app, List.getD_eq_getElem?_getD, List.getElem?_eq_getElem hk]; rfl

set_option maxRecDepth 100000 in
set_option maxHeartbeats 800000 in
theorem dColumn (v1 v2 : Value) (l1 l2 : List (List Int)) (t : Nat) (w : World) (h1 : Rws w v1 l1) (h2 : Rws w v2 l2) (hl : ∀ b ∈ l1 ++ l2, t < b.length) (n1 : l1.length + l2.length ≤ 1000) :
    Calls Tryz.prog 53 #[v1, v2, .int .i64 t] w fun e w' => ∃ v', e = .returned v' ∧ w'.ownsRow w.heap.size 50 1 v' (col (l1 ++ l2) t).length (vals (col (l1 ++ l2) t)) ∧ Below w.heap.size w w' := by
  obtain ⟨i0, hi0, hz0, hz1, hz2⟩ := info_parts w64_info
  have HT1 := hide (fun k hk => col_take (l := l1) (k := k) (t := t) hk)
  have HT2 : Hid (∀ k, k < l2.length → (col l1 t ++ col (l2.take k) t) ++ [co (l2.getD k []) t] = col l1 t ++ col (l2.take (k + 1)) t) := fun k hk => by rw [List.append_assoc, col_take hk]
  have HL1 : Hid (∀ k, k < l1.length → t < (l1.getD k []).length) := fun k hk => hl _ (List.mem_append.2 (.inl (getD_memA [] hk)))
  have HL2 : Hid (∀ k, k < l2.length → t < (l2.getD k []).length) := fun k hk => hl _ (List.mem_append.2 (.inr (getD_memA [] hk)))
  have HLn : Hid (∀ k, k ≤ l1.length → (col (l1.take k) t).length = k) := fun k hk => by rw [col_len, List.length_take]; omega
  have HLm : Hid (∀ k, k ≤ l2.length → (col l1 t ++ col (l2.take k) t).length = l1.length + k) := fun k hk => by rw [List.length_append, col_len, col_len, List.length_take]; omega
  have HEnd : Hid (col l1 t ++ col (l2.take l2.length) t = col (l1 ++ l2) t) := by show _ = _; rw [List.take_length, col_app]
  have HEl : Hid ((col (l1 ++ l2) t).length = l1.length + l2.length) := by show _ = _; rw [col_len, List.length_append]
  have R1 := hide h1
  have R2 := hide h2
  obtain ⟨a1, c1, rfl, _, _, _⟩ := h1
  obtain ⟨a2, c2, rfl, _, _, _⟩ := h2
  clear hl
  go_enter Tryz.func53, Tryz.ntmps53
  go_wp2_with fail
  go_loopw [7, 8] (fun vl vi wr => ∃ (k : Nat) (ao : Option Addr) (cap : Nat), k ≤ l1.length ∧ vi = .int .i64 k ∧ vl = .slice ao k cap ∧ Hid (wr.ownsRow w.heap.size 50 1 (.slice ao k cap) k (vals (col (l1.take k) t))) ∧ Below w.heap.size w wr) (fun _ vi _ => l1.length - (intOf vi).toNat)
  case atStart => exact ⟨0, none, 0, Nat.zero_le _, rfl, rfl, World.ownsRow_nil _ _ _ _, Below.refl _ _⟩
  case round =>
    obtain ⟨k, ao, cap, hk, rfl, rfl, HO, hB⟩ := hrel
    by_cases hlt : k < l1.length
    · obtain ⟨b, off, cp, hv, _⟩ := R1.out.some_ (by omega)
      injection hv with hv _ hcv
      subst hv hcv
      have hWj := HL1.out k hlt
      obtain ⟨b2, off2, cc, d1, d2⟩ := R1.out.elem hB hlt (k := t) hWj
      have k0 : (0 : Int) ≤ (k : Int) := by omega
      have k1 : (k : Int) < (l1.length : Int) := by omega
      have kl : (t : Int) < ((l1.getD k []).length : Int) := by omega
      have hT := HT1.out k hlt
      have hsz := hB.size
      clear HT1 HT2 HL1 HL2 HLn HLm HEnd HEl R1 R2
      generalize co (l1.getD k []) t = x at *
      generalize (l1.getD k []).length = m at *
      go_wp2_with (at_builtin; refine wpList_append_own _ rfl _ _ 45 rfl w.heap.size 50 i0 (.int .u64 0) 1 8 Tryz.underlying45 hi0 hz0 hz1 hz2 rfl (by decide) _ k (vals (col (l1.take k) t)) rfl (own_below HO.out (alloc_below wr _)) ⟨wr.heap.size, 0, none⟩ 1 1 [.int .u64 x] rfl rfl (cell_one_new _ _ _) (by simp [Value.oneCell']) (by unfold maxLen; omega) (by omega) (by simp; omega) ?_; intro v' w3 hown3 hg3 hnil3; clear hnil3; obtain ⟨a3, k3, rfl⟩ := own_form hown3)
      have HO3 : Hid (w3.ownsRow w.heap.size 50 1 (.slice a3 (k + 1) k3) (k + 1) (vals (col (l1.take (k + 1)) t))) := by
        show World.ownsRow _ _ _ _ _ _ _
        rw [← hT, vals_snocH]
        exact hown3
      have hB3 : Below w.heap.size w w3 := (Below.next hB (alloc_below wr _)).grown hg3 (by simp; omega) (fun j e => own_base HO.out j e)
      clear hown3 hg3 hT
      go_roundw
      case rel => exact ⟨k + 1, a3, k3, by omega, by go_num, rfl, HO3, hB3⟩
      case measure => simp [intOf]; omega
    · obtain rfl : k = l1.length := by omega
      have HO2 : Hid (wr.ownsRow w.heap.size 50 1 (.slice ao l1.length cap) (l1.length + 0) (vals (col l1 t ++ col (l2.take 0) t))) := by
        have := HO.out
        rw [List.take_length] at this
        rw [List.take_zero, show col [] t = [] from rfl, List.append_nil]
        exact this
      clear HO HT1 HL1 HLn R1
      generalize col l1 t = base at *
      generalize hnn : l1.length = m1 at *
      clear hnn
      go_wp2_with fail
      go_loopw [7, 9] (fun vl vi wq => ∃ (k : Nat) (ao : Option Addr) (cap : Nat), k ≤ l2.length ∧ vi = .int .i64 k ∧ vl = .slice ao (m1 + k) cap ∧ Hid (wq.ownsRow w.heap.size 50 1 (.slice ao (m1 + k) cap) (m1 + k) (vals (base ++ col (l2.take k) t))) ∧ Below w.heap.size w wq) (fun _ vi _ => l2.length - (intOf vi).toNat)
      case atStart => exact ⟨0, ao, cap, Nat.zero_le _, rfl, rfl, HO2, hB⟩
      case round =>
        clear hB HO2
        obtain ⟨k, ao, cap, hk, rfl, rfl, HO, hB⟩ := hrel
        by_cases hlt : k < l2.length
        · obtain ⟨b, off, cp, hv, _⟩ := R2.out.some_ (by omega)
          injection hv with hv _ hcv
          subst hv hcv
          have hWj := HL2.out k hlt
          obtain ⟨b2, off2, cc, d1, d2⟩ := R2.out.elem hB hlt (k := t) hWj
          have k0 : (0 : Int) ≤ (k : Int) := by omega
          have k1 : (k : Int) < (l2.length : Int) := by omega
          have kl : (t : Int) < ((l2.getD k []).length : Int) := by omega
          have hT := HT2.out k hlt
          have hsz := hB.size
          clear HT2 HL2 HLm HEnd HEl R2
          generalize co (l2.getD k []) t = x at *
          generalize (l2.getD k []).length = m at *
          go_wp2_with (at_builtin; refine wpList_append_own _ rfl _ _ 45 rfl w.heap.size 50 i0 (.int .u64 0) 1 8 Tryz.underlying45 hi0 hz0 hz1 hz2 rfl (by decide) _ (m1 + k) (vals (base ++ col (l2.take k) t)) rfl (own_below HO.out (alloc_below wr _)) ⟨wr.heap.size, 0, none⟩ 1 1 [.int .u64 x] rfl rfl (cell_one_new _ _ _) (by simp [Value.oneCell']) (by unfold maxLen; omega) (by omega) (by simp; omega) ?_; intro v' w3 hown3 hg3 hnil3; clear hnil3; obtain ⟨a3, k3, rfl⟩ := own_form hown3)
          have HO3 : Hid (w3.ownsRow w.heap.size 50 1 (.slice a3 (m1 + (k + 1)) k3) (m1 + (k + 1)) (vals (base ++ col (l2.take (k + 1)) t))) := by
            show World.ownsRow _ _ _ _ _ _ _
            rw [← hT, vals_snocH, ← Nat.add_assoc]
            exact hown3
          have hB3 : Below w.heap.size w w3 := (Below.next hB (alloc_below wr _)).grown hg3 (by simp; omega) (fun j e => own_base HO.out j e)
          clear hown3 hg3 hT
          go_roundw
          case rel => exact ⟨k + 1, a3, k3, by omega, by go_num, by rw [Nat.add_assoc], HO3, hB3⟩
          case measure => simp [intOf]; omega
        · obtain rfl : k = l2.length := by omega
          have HO2 := HO
          rw [HEnd.out] at HO2
          rw [← HEl.out] at HO2
          clear HO HT2 HL2 HLm HEnd R2
          go_wp2
          go_ret
          exact ⟨_, rfl, by rw [HEl.out] at *; exact HO2.out, hB⟩

theorem map_take_snoc {α : Type} (g : List Int → α) (l : List (List Int)) {k : Nat} (hk : k < l.length) : (l.take k).map g ++ [g (l.getD k [])] = (l.take (k + 1)).map g := by
  rw [List.take_succ_eq_append_getElem hk, List.map_append, List.getD_eq_getElem?_getD, List.getElem?_eq_getElem hk]; rfl

set_option maxRecDepth 100000 in
set_option maxHeartbeats 800000 in
theorem dAt (f q x : Int) (wd : Bool) (v : Value) (l : List (List Int)) (w : World) (hf : Fi f q wd) (h : Rws w v l) (he : ∀ b ∈ l, Els q b ∧ b.length ≤ 4096) (hx : El q x) (hn : l.length ≤ 1000) :
    Calls Tryz.prog 37 #[.int .u8 f, v, .int .u64 x] w fun e w' => ∃ v', e = .returned v' ∧ w'.ownsRow w.heap.size 50 1 v' (l.map (vl q x)).length (vals (l.map (vl q x))) ∧ Below w.heap.size w w' := by
  obtain ⟨i0, hi0, hz0, hz1, hz2⟩ := info_parts w64_info
  have HE : Hid (∀ k, k < l.length → ∀ W u, Rw W u (l.getD k []) → Calls Tryz.prog 31 #[.int .u8 f, u, .int .u64 x] W fun e w' => e = .returned (.tuple #[.int .u64 (vl q x (l.getD k [])), .int .i64 0]) ∧ Below W.heap.size W w') := fun k hk W u hR => by
    have := dEval_any f x u _ W (elWord hx hf.top) hR
    obtain ⟨e1, e2⟩ := he _ (getD_memA [] hk)
    have e0 : er f (l.getD k []) [x] = 0 := er_yes hf (allIn_of e1) (allIn_of (fun y hy => by rw [List.mem_singleton.1 hy]; exact hx)) e2 (by simp)
    unfold valE at this
    rw [e0, if_pos rfl, pOf_eq hf] at this
    exact this
  have HT := hide (fun k hk => map_take_snoc (vl q x) l (k := k) hk)
  have HEl : Hid ((l.map (vl q x)).length = l.length) := List.length_map ..
  obtain ⟨ao, cap, rfl, hlen, hcap, hc⟩ := h
  clear he hx hf
  go_enter Tryz.func37, Tryz.ntmps37
  go_wp2_with fail
  go_loopw [7, 8] (fun vs vi wr => ∃ (k : Nat) (ao : Option Addr) (cap : Nat), k ≤ l.length ∧ vi = .int .i64 k ∧ vs = .slice ao k cap ∧ Hid (wr.ownsRow w.heap.size 50 1 (.slice ao k cap) k (vals ((l.take k).map (vl q x)))) ∧ Below w.heap.size w wr) (fun _ vi _ => l.length - (intOf vi).toNat)
  case atStart => exact ⟨0, none, 0, Nat.zero_le _, rfl, rfl, World.ownsRow_nil _ _ _ _, Below.refl _ _⟩
  case round =>
    obtain ⟨k, ao2, cap2, hk, rfl, rfl, HO, hB⟩ := hrel
    by_cases hlt : k < l.length
    · obtain ⟨b, off, rfl, hbl, hcell⟩ := hc (by intro h; rw [h] at hlt; simp at hlt)
      obtain ⟨u, hu, hR⟩ := hcell k hlt
      have hck := (hB.cell (p := ⟨b, off + k, none⟩) hbl).trans hu
      have hev := hide (HE.out k hlt wr u (hR.below hB))
      obtain ⟨au, cu, rfl, _⟩ := hR.spell
      have hT := HT.out k hlt
      have k0 : (0 : Int) ≤ (k : Int) := by omega
      have k1 : (k : Int) < (l.length : Int) := by omega
      clear hcell hc hR hu HE HT HEl
      generalize vl q x (l.getD k []) = y at *
      generalize (l.getD k []).length = m at *
      go_wp2_with (first
        | (go_at_call 31; refine hev.out.mono ?_; rintro e w2 ⟨rfl, hb2⟩; have hB2 := Below.next hB hb2; have HO2 := hide (own_below HO.out hb2); have hsz := hB2.size)
        | (at_builtin; refine wpList_append_own _ rfl _ _ 45 rfl w.heap.size 50 i0 (.int .u64 0) 1 8 Tryz.underlying45 hi0 hz0 hz1 hz2 rfl (by decide) _ k (vals ((l.take k).map (vl q x))) rfl (own_below HO2.out (alloc_below w2 _)) ⟨w2.heap.size, 0, none⟩ 1 1 [.int .u64 y] rfl rfl (cell_one_new _ _ _) (by simp [Value.oneCell']) (by unfold maxLen; omega) (by omega) (by simp; omega) ?_; intro v' w3 hown3 hg3 hnil3; clear hnil3; obtain ⟨a3, k3, rfl⟩ := own_form hown3))
      have HO3 : Hid (w3.ownsRow w.heap.size 50 1 (.slice a3 (k + 1) k3) (k + 1) (vals ((l.take (k + 1)).map (vl q x)))) := by
        show World.ownsRow _ _ _ _ _ _ _
        rw [← hT, vals_snocH]
        exact hown3
      have hB3 : Below w.heap.size w w3 := (Below.next hB2 (alloc_below w2 _)).grown hg3 (by simp; omega) (fun j e => own_base HO2.out j e)
      clear hown3 hg3 hT
      go_roundw
      case rel => exact ⟨k + 1, a3, k3, by omega, by go_num, rfl, HO3, hB3⟩
      case measure => simp [intOf]; omega
    · obtain rfl : k = l.length := by omega
      have HO2 := HO
      rw [List.take_length] at HO2
      clear HO HE HT hc
      go_wp2
      go_ret
      exact ⟨_, rfl, by rw [HEl.out]; exact HO2.out, hB⟩

end Go.Proofs.YtpbfgcepmbpkdaaGreat

