import Derived.Test.YtnakbpaiidolbaaGreatBunAU
import Derived.Test.YtnakbpaiidolbaaGreatBunIB
import Derived.Test.YtnakbpaiidolbaaGreatBunHC
import Derived.Test.YtnakbpaiidolbaaGreatBunHE
namespace Go.Proofs.YtnakbpaiidolbaaGreat
open Go.RowKit Fld Pln
set_option linter.unusedVariables false
set_option linter.unusedSimpArgs false
theorem fi_one : Fi 1 2013265921 false := .inl ⟨rfl, rfl, rfl⟩
theorem pts_wd {a : Int} {n : Nat} (ha : 0 ≤ a) (hn : a + n ≤ 1000) : Wd (pts a n) := ⟨by rw [pts_len]; omega, pts_words ha hn⟩
end Go.Proofs.YtnakbpaiidolbaaGreat
namespace Go.Proofs.YtnakbpaiidolbaaGreat
open Go.RowKit Fld Pln Shr
set_option linter.unusedVariables false
set_option linter.unusedSimpArgs false
theorem Rows_h (v1 v2 : Value) (xss : List (List Int)) (w : World) (h1 : Rws w v1 xss) (h2 : Rws w v2 xss) : Calls Tryz.prog 14 #[v1, v2] w fun e w' => e = .returned (.bool true) ∧ Below w.heap.size w w' :=
 (Rows_quiet v1 v2 xss w h1 h2).mono fun e w' ⟨he, m, hw⟩ => ⟨he, by rw [hw]; exact drewN_below w m⟩
theorem rw_lit {W : World} {n : Nat} (hn : W.heap.size = n) (x : Int) (hx : 0 ≤ x ∧ x ≤ 18446744073709551615) (T : TypeId) : Rw (W.alloc (.cells #[.int .u64 x] T)) (.slice (some ⟨n, 0, none⟩) 1 1) [x] := by
 subst hn
 exact ⟨⟨_, _, rfl, by simp, by simp [hx], fun _ => ⟨_, _, rfl, by simp, fun i hi => by
  have : i = 0 := by simp at hi; omega
  subst this; simp [go_sem]⟩⟩, _, _, _, rfl, Nat.le_refl _⟩
theorem rws_lit1 {W : World} {n : Nat} (hn : W.heap.size = n) {u : Value} {xs : List Int} (h : Rw W u xs) (T : TypeId) : Rws (W.alloc (.cells #[u] T)) (.slice (some ⟨n, 0, none⟩) 1 1) [xs] := by
 subst hn
 refine ⟨_, _, rfl, by simp, by simp, fun _ => ⟨_, _, rfl, by simp, fun i hi => ?_⟩⟩
 have : i = 0 := by simp at hi; omega
 subst this
 exact ⟨u, by simp [go_sem], h.below (alloc_below _ _)⟩
theorem rws_lit2 {W : World} {n : Nat} (hn : W.heap.size = n) {u1 u2 : Value} {xs ys : List Int} (h1 : Rw W u1 xs) (h2 : Rw W u2 ys) (T : TypeId) : Rws (W.alloc (.cells #[u1, u2] T)) (.slice (some ⟨n, 0, none⟩) 2 2) [xs, ys] := by
 subst hn
 refine ⟨_, _, rfl, by simp, by simp, fun _ => ⟨_, _, rfl, by simp, fun i hi => ?_⟩⟩
 have : i = 0 ∨ i = 1 := by simp at hi; omega
 rcases this with rfl | rfl
 · exact ⟨u1, by simp [go_sem], h1.below (alloc_below _ _)⟩
 · exact ⟨u2, by simp [go_sem], h2.below (alloc_below _ _)⟩
theorem size_alloc {W : World} {n : Nat} (h : W.heap.size = n) (o : Obj) : (W.alloc o).heap.size = n + 1 := by subst h; simp
theorem four_py : py 2013265921 [0, 1, 2] [[5], [7], [9]] 0 = [5, 2] := by
 have hm := fi_one.md
 refine Thr.only hm (xs := [0, 1, 2]) (ys := col [[5], [7], [9]] 0) (by unfold Els El; decide) (by decide) (py_thr hm (by unfold Els El; decide) (by decide) (by unfold Els El; decide) 0) ⟨⟨by unfold Els El; decide, by decide +kernel⟩, by decide, fun i hi => ?_⟩
 have : i = 0 ∨ i = 1 ∨ i = 2 := by simp at hi; omega
 rcases this with rfl | rfl | rfl <;> decide +kernel
end Go.Proofs.YtnakbpaiidolbaaGreat
namespace Go.Proofs.YtnakbpaiidolbaaGreat
open Go.RowKit Fld Pln Shr
set_option linter.unusedVariables false
set_option linter.unusedSimpArgs false
theorem shr_wd {q : Int} {wd : Bool} {f : Int} (hf : Fi f q wd) (xs : List Int) {n : Nat} (hn : n ≤ 1000) (bl : List (List Int)) (x : Int) : Wd (shr q xs n bl x) := wd_els (shr_els hf.pos _ _ _ _) hf.top (by rw [shr_len]; omega)
theorem ans_wd {p : Pn} {dl pl : List (List Int)} (w1 : ∀ b ∈ dl, Wd b) (w2 : ∀ b ∈ pl, Wd b) : ((∀ b ∈ polL p dl pl, Wd b) ∧ (polL p dl pl).length ≤ 1000) ∧ ((∀ b ∈ allL p dl pl, Wd b) ∧ (allL p dl pl).length ≤ 1000) ∧ ∀ i, Wd (shaL p dl pl i) := by
 refine ⟨?_, ?_, fun i => ?_⟩
 · unfold polL
   by_cases hz : bkE p dl pl [] = 0
   · obtain ⟨q, wd, hm, hf, hbe, hbw, hdl, hpl, hbl, ie, inn, i64', oe, on, o64, d0, _⟩ := bk_facts hz w1 w2
     obtain ⟨_, _, _, _, _, _, w0, w1'⟩ := may_facts hm
     rw [if_pos hz, pOf_eq hf]
     refine ⟨fun b hb => ?_, by rw [pys_len]; omega⟩
     obtain ⟨e1, e2⟩ := pys_facts hf.md ie inn hbe p.w.toNat b hb
     exact wd_els e1 hf.top (by omega)
   · rw [if_neg hz]; exact ⟨fun b hb => (by cases hb), by simp⟩
 · unfold allL
   by_cases hz : bkE p dl pl [] = 0
   · obtain ⟨q, wd, hm, hf, hbe, hbw, hdl, hpl, hbl, ie, inn, i64', oe, on, o64, d0, _⟩ := bk_facts hz w1 w2
     obtain ⟨_, _, _, _, _, _, w0, w1'⟩ := may_facts hm
     rw [if_pos hz, pOf_eq hf]
     refine ⟨fun b hb => ?_, by rw [List.length_map]; omega⟩
     obtain ⟨x, _, rfl⟩ := List.mem_map.1 hb
     exact shr_wd hf _ (by omega) _ _
   · rw [if_neg hz]; exact ⟨fun b hb => (by cases hb), by simp⟩
 · unfold shaL
   by_cases hz : bkE p dl pl [i] = 0
   · obtain ⟨q, wd, hm, hf, _⟩ := bk_facts hz w1 w2
     obtain ⟨_, _, _, _, _, _, w0, w1'⟩ := may_facts hm
     rw [if_pos hz, pOf_eq hf]
     exact shr_wd hf _ (by omega) _ _
   · rw [if_neg hz]; exact wd_nil
end Go.Proofs.YtnakbpaiidolbaaGreat
