/-
  Polynomials: the document's own Add, Sub and Eval.
-/
import Derived.Test.YtcjgjgkoeokooaaDoorBPolI
import Derived.Deep.QuietTactic
import Derived.BigQuiet
import Derived.Deep.AppendLies
namespace Go.Proofs.YtcjgjgkoeokooaaDoor
open Go.RowKit Fld
set_option linter.unusedVariables false

theorem app_step {w wr w1 : World} {v v1 : Value} {k : Nat} {F : Nat → Int} {y : Int} {T : TypeId} (hB : Below w.heap.size w wr) (hown : wr.ownsRow w.heap.size T 1 v k (vals (mk k F)))
    (h1 : w1.ownsRow w.heap.size T 1 v1 (k + 1) (vals (mk k F) ++ [.int .u64 y])) (hg : (wr.alloc (.cells #[.int .u64 y] T)).grownBy w1 v.ownBlock) (hy : F k = y) :
    w1.ownsRow w.heap.size T 1 v1 (k + 1) (vals (mk (k + 1) F)) ∧ Below w.heap.size w w1 := push_step hB hown h1 hg (by rw [← hy]; exact mk_snoc k F)

set_option maxRecDepth 100000 in
set_option maxHeartbeats 400000 in
theorem dEval_any (f t : Int) (v : Value) (xs : List Int) (w : World) (hc : 0 ≤ t ∧ t ≤ 18446744073709551615) (h1 : Rw w v xs) :
    Calls Tryd.prog 58 #[.int .u8 f, v, .int .u64 t] w fun e w' => e = .returned (.tuple #[.int .u64 (valE f t xs), .int .i64 (er f xs [t])]) ∧ Below w.heap.size w w' := by
  obtain ⟨a1, c1, rfl, _⟩ := h1.spell
  have hk := hide (fun T => rBad_any f _ _ xs [t] _ (h1.below (alloc_below _ _)) (rw1 w t hc T))
  unfold valE
  by_cases he : er f xs [t] = 0
  · obtain ⟨p, wd, h, i1, i2, m1, m2⟩ := er_zero he
    rw [if_pos he, he, pOf_eq h]
    rw [he] at hk
    have hte : El p t := els_of i2 (by simp [hc]) t (List.mem_singleton.2 rfl)
    have hp0 := h.pos
    have hp1 := h.top
    have hp2 : 1 < p := by have := h.md.bounds; omega
    have hP := hide (fun W => rP_yes f p wd W h)
    have HX := hide (els_of i1 h1.words)
    have H0 := hide (px_zero hp2 t)
    have H1 := hide (lw_zero p t xs)
    have t0 := hte.1
    have t1 := hc.2
    have HL : Hid (lw p t xs xs.length = vl p t xs) := rfl
    rw [← HL.out]
    obtain ⟨⟨a, c, hv, _, _, hcell⟩, _⟩ := h1
    cases hv
    clear h i1 i2 he HL
    go_enter Tryd.func58, Tryd.ntmps58
    go_wp2_with (go_at_call 31; refine (hk.out _).mono ?_; rintro e w1 ⟨rfl, hw⟩; rw [hw]; clear hw)
    go_loopw [9, 10, 11] (fun vs vp vi wr => ∃ k : Nat, k ≤ xs.length ∧ vi = .int .i64 k ∧ vs = .int .u64 (lw p t xs k) ∧ vp = .int .u64 (px p t k) ∧ Below w.heap.size w wr) (fun _ _ vi _ => xs.length - (intOf vi).toNat)
    case atStart => exact ⟨0, Nat.zero_le _, rfl, by rw [H1.out], by rw [H0.out], alloc_below _ _⟩
    case round =>
      obtain ⟨k, hkl, rfl, rfl, rfl, hB⟩ := hrel
      by_cases hlt : k < xs.length
      · obtain ⟨b, o, rfl, hbl, hcl⟩ := hcell (by intro h; rw [h] at hlt; simp at hlt)
        have d1 := (hB.cell (p := ⟨b, o + k, none⟩) hbl).trans (hcl k hlt)
        have HS := hide (lw_step p t xs k)
        have HQ := hide (px_step p t k)
        have e1 := lw_el hp0 t xs k
        have e2 := px_el hp0 t k
        have e3 := HX.out.co hp0 k
        have sm' := mul_el (a := co xs k) (b := px p t k) hp0
        have hco : xs.getD k 0 = co xs k := rfl
        rw [hco] at d1
        have k0 : (0 : Int) ≤ (k : Int) := Int.natCast_nonneg _
        have k1 : (k : Int) < (xs.length : Int) := by omega
        clear hco hcl hcell HX
        generalize co xs k = x at *
        generalize hs : lw p t xs k = s at *
        generalize hq : px p t k = q at *
        have sa := hide (fun W => rSum_any p s (mul p x q) W hp1 e1 sm')
        have sx := hide (fun W => rTimes_any p x q W hp1 e3 e2.1 (elWord e2 hp1).2)
        have st := hide (fun W => rTimes_any p q t W hp1 e2 t0 t1)
        rw [HS.out] at sa
        rw [HQ.out] at st
        clear e1 e2 e3 sm' hs hq HS HQ
        obtain ⟨s2, HS2⟩ : ∃ s2, Hid (lw p t xs (k + 1) = s2) := ⟨_, rfl⟩
        obtain ⟨q2, HQ2⟩ : ∃ q2, Hid (px p t (k + 1) = q2) := ⟨_, rfl⟩
        rw [HS2.out] at sa
        rw [HQ2.out] at st
        generalize mul p x q = z at *
        go_wp2_with fail
        go_quiet ((first
          | (go_at_call 24; exact Calls.quiet_of_same (hP.out _))
          | (go_at_call 23; exact Calls.quiet_of_same (sx.out _))
          | (go_at_call 32; exact Calls.quiet_of_same (sa.out _))))
        have hW2 := below_drewN hB nq
        clear hB d1
        go_wp2_with (first
          | (go_at_call 24; refine (hP.out _).mono ?_; rintro e w1 ⟨rfl, hw⟩; rw [hw]; clear hw)
          | (go_at_call 23; refine (st.out _).mono ?_; rintro e w1 ⟨rfl, hw⟩; rw [hw]; clear hw))
        go_roundw
        case rel => exact ⟨k + 1, by omega, by go_num, by rw [HS2.out], by rw [HQ2.out], hW2⟩
        case measure => simp [intOf]; omega
      · obtain rfl : k = xs.length := by omega
        clear hcell
        go_wp2
        go_ret2
        exact ⟨rfl, hB⟩
  · have ht : (er f xs [t] != 0) = true := bne_iff_ne.2 he
    rw [if_neg he]
    clear h1 he
    generalize er f xs [t] = e0 at *
    go_enter Tryd.func58, Tryd.ntmps58
    go_wp2_with (go_at_call 31; refine (hk.out _).mono ?_; rintro e w1 ⟨rfl, hw⟩; rw [hw]; clear hw)
    go_ret2
    exact ⟨rfl, alloc_below _ _⟩

end Go.Proofs.YtcjgjgkoeokooaaDoor
