/-
  Layer 6: Zero and Tree, the program's.
-/
import Derived.Test.YtifilgmjpflekaaBTreJ
namespace Go.Proofs.Ytifilgmjpflekaa
open Go.RowKit Fld
set_option linter.unusedVariables false

def zeroL (f : Int) (xs : List Int) : List Int := if chk f [xs] = 0 then zl (pOf f) xs else []
def TallE (f : Int) (xs : List Int) (N : Nat) : Prop := (chk f [xs] = 0 → Tall xs.length N) ∧ (chk f [xs] ≠ 0 → N = 0)
theorem Tall.only {n N M : Nat} (h : Tall n N) (k : Tall n M) : N = M := by
  rcases h with ⟨h1, h2⟩ | ⟨h1, L, rfl, h2, h3⟩
  · rcases k with ⟨_, k2⟩ | ⟨k1, _⟩
    · rw [h2, k2]
    · omega
  · rcases k with ⟨k1, _⟩ | ⟨_, K, rfl, k2, k3⟩
    · omega
    · rcases Nat.lt_trichotomy L K with h | h | h
      · have := k3 L h; omega
      · rw [h]
      · have := h3 K h; omega
theorem TallE.only {f : Int} {xs : List Int} {N M : Nat} (h : TallE f xs N) (k : TallE f xs M) : N = M := by
  by_cases he : chk f [xs] = 0
  · exact (h.1 he).only (k.1 he)
  · rw [h.2 he, k.2 he]
theorem cn_fits {n s : Nat} (hs : 0 < s) (h : cn n s = 1) : n ≤ s := by
  have := cn_lt (n := n) (i := 1) hs
  have h2 : ¬ 1 < cn n s := by omega
  rw [this] at h2; omega
theorem Tall.top {n L : Nat} (h : Tall n (L + 1)) : 0 < n ∧ cn n (2 ^ L) = 1 ∧ n ≤ 2 ^ L := by
  rcases h with ⟨_, h⟩ | ⟨h1, K, hK, h2, _⟩
  · omega
  · have : K = L := by omega
    subst this
    exact ⟨h1, h2, cn_fits (Nat.pow_pos (by decide)) h2⟩
theorem tre_top {p : Int} {xs : List Int} {L : Nat} (h : Tall xs.length (L + 1)) : tre p xs L = [zl p xs] := by
  obtain ⟨_, h2, h3⟩ := h.top
  unfold tre lvl
  rw [h2]
  show [zl p (ck xs (2 ^ L) 0)] = _
  rw [ck_all xs _ h3]
theorem Tall.le {n N : Nat} (h : Tall n N) (hn : n ≤ 2048) : N ≤ 12 := by
  rcases h with ⟨_, h⟩ | ⟨_, L, rfl, _, h3⟩
  · omega
  · apply Classical.byContradiction
    intro hc
    have h1 := h3 11 (by omega)
    have := (cn_lt (n := n) (i := 1) (s := 2 ^ 11) (by decide)).1 h1
    omega
/-- A level's cell, and the lists in it. -/
theorem Lvs.level {w : World} {lo N g cap : Nat} {cut : Nat → Nat} {vs : List Value} {uss : Nat → List Value} {A : Nat → List (List Int)} (h : Lvs w lo cut (.slice (some ⟨g, 0, none⟩) N cap) vs uss A N) {i : Nat} (hi : i < N) :
    w.cell? ⟨g, i, none⟩ = some (vs.getD i nov) := by
  have hl : vs.length = N := by have := h.row.1; omega
  rw [h.row.cellAt i (by omega), List.getD_eq_getElem?_getD, List.getElem?_eq_getElem (by omega)]; rfl
theorem Lss.list {w : World} {lo hi g cap : Nat} {us : List Value} {xss : List (List Int)} (h : Lss w lo hi (.slice (some ⟨g, 0, none⟩) xss.length cap) us xss) {i : Nat} (hi : i < xss.length) :
    w.cell? ⟨g, i, none⟩ = some (us.getD i nov) := by
  have hl := h.len
  rw [h.row.cellAt i (by omega), List.getD_eq_getElem?_getD, List.getElem?_eq_getElem (by omega)]; rfl

set_option maxRecDepth 100000 in
set_option maxHeartbeats 200000 in
theorem tZero_any (f : Int) (v : Value) (xs : List Int) (w : World) (h1 : Rw w v xs) : Gives 64 #[.int .u8 f, v] w (zeroL f xs) (chk f [xs]) := by
  have hk := hide (fun T => tcheck_one f v xs w h1 T)
  obtain ⟨a1, c1, rfl, _⟩ := h1.spell
  by_cases he : chk f [xs] = 0
  · obtain ⟨p, wd, h, i1, m1⟩ := chk_one he
    have HL : Hid (zeroL f xs = zl p xs) := by show _ = _; unfold zeroL; rw [if_pos he, pOf_eq h]
    have HG := hide (fun W (hb : Below w.heap.size w W) => grown_any f p wd _ xs W h (h1.below hb) (els_of i1 h1.words) m1)
    rw [he] at hk
    rw [HL.out, he]
    clear h1 h i1 he HL
    show Calls _ _ _ _ _
    go_enter Try.func64, Try.ntmps64
    go_wp2_with fail
    refine (hk.out _).mono ?_; rintro e w1 ⟨rfl, hb1⟩
    go_wp2_with fail
    refine (HG.out _ hb1).mono ?_; rintro e w2 ⟨v2, cut, vs, uss, N, rfl, hV, hT, hcu, hb2⟩
    have hB2 := Below.next hb1 hb2
    have hbs := hB2.size
    have hbs1 := hb1.size
    cases N with
    | zero =>
      obtain ⟨a2, c2, rfl⟩ := own_form hV.row
      have hn : xs = [] := by
        rcases hT with ⟨h, _⟩ | ⟨_, L, h, _⟩
        · exact List.length_eq_zero_iff.1 h
        · omega
      subst hn
      clear hV hT
      go_wp2
      go_ret2
      refine ⟨_, rfl, ?_, hB2.alloc hbs _⟩
      exact own_of_block (ys := [1]) hbs (heap_alloc_new w2 _) rfl (by decide)
    | succ L =>
      obtain ⟨g, cap, hv2, _, _⟩ := hV.row.form (by omega)
      subst hv2
      have hc1' := hV.level (i := L) (by omega)
      have hL := hV.each L (by omega)
      have hct := hV.cuts L (by omega) 0 (by omega)
      have hfr := hV.from_
      rw [tre_top hT] at hL
      obtain ⟨gl, capl, hvl, _, _⟩ := hL.row.form (by simp)
      rw [hvl] at hc1' hL
      have hc2' := hL.list (i := 0) (by simp)
      have hO := hide (own_mono (hL.each 0 (by simp)) (show w.heap.size ≤ cut L by omega))
      obtain ⟨a3, c3, he3⟩ := own_form hO.out
      rw [he3] at hc2' hO
      have hL12 := hT.le m1
      clear hV hL hT
      simp only [List.length_singleton] at *
      go_wp2
      go_ret2
      exact ⟨_, rfl, hO.out, hB2⟩
  · have ht : (chk f [xs] != 0) = true := bne_iff_ne.2 he
    have HL : Hid (zeroL f xs = []) := by show _ = _; unfold zeroL; rw [if_neg he]
    rw [HL.out]
    clear h1 he HL
    generalize chk f [xs] = e0 at *
    apply Gives.none
    go_enter Try.func64, Try.ntmps64
    go_wp2_with (go_at_call 75; refine (hk.out _).mono ?_; rintro e w1 ⟨rfl, hb⟩)
    go_ret2
    exact ⟨rfl, hb⟩

/-- A call that answers levels, in memory of its own, and an error. -/
def GivesT (k : FuncId) (args : Array Value) (W : World) (A : Nat → List (List Int)) (S : Nat → Prop) (e0 : Int) : Prop :=
  Calls Try.prog k args W fun e w' => ∃ v' cut vs uss N, e = .returned (.tuple #[v', .int .i64 e0]) ∧ Lvs w' W.heap.size cut v' vs uss A N ∧ S N ∧ cut N ≤ w'.heap.size ∧ Below W.heap.size W w'

end Go.Proofs.Ytifilgmjpflekaa
