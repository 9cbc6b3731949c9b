/-
  Layer 6: the remainders, the program's.
-/
import Derived.Test.YtifilgmjpflekaaBTreF
import Derived.Test.YtifilgmjpflekaaBPolN
namespace Go.Proofs.Ytifilgmjpflekaa
open Go.RowKit Fld
set_option linter.unusedVariables false

/-- Which error the remainders have, and what they are. -/
def rmE (f : Int) (P : List Int) (xss : List (List Int)) : Int :=
  if chk f (P :: xss) = 0 then (if 2048 < xss.length then 4 else if xss.any (fun ys => decide (tr ys = [])) then 5 else 0) else chk f (P :: xss)
def RmE (f : Int) (P : List Int) (xss rss : List (List Int)) : Prop :=
  (rmE f P xss ≠ 0 → rss = []) ∧ (rmE f P xss = 0 → rss.length = xss.length ∧ ∀ i, i < xss.length → ∃ q, Dv (pOf f) P (xss.getD i []) q (rss.getD i []))
theorem rmE_zero {f : Int} {P : List Int} {xss : List (List Int)} (h : rmE f P xss = 0) : chk f (P :: xss) = 0 ∧ xss.length ≤ 2048 ∧ ∀ i, i < xss.length → tr (xss.getD i []) ≠ [] := by
  unfold rmE at h
  by_cases h1 : chk f (P :: xss) = 0
  · rw [if_pos h1] at h
    by_cases h2 : 2048 < xss.length
    · rw [if_pos h2] at h; exact absurd h (by decide)
    · rw [if_neg h2] at h
      refine ⟨h1, by omega, fun i hi hc => ?_⟩
      rw [if_pos (List.any_eq_true.2 ⟨_, getD_mem hi, decide_eq_true hc⟩)] at h
      exact absurd h (by decide)
  · rw [if_neg h1] at h; exact absurd h h1
theorem rmE_nought {f : Int} {P : List Int} {xss : List (List Int)} {k : Nat} (h1 : chk f (P :: xss) = 0) (h2 : xss.length ≤ 2048) (hk : k < xss.length) (hc : tr (xss.getD k []) = []) : rmE f P xss = 5 := by
  unfold rmE
  rw [if_pos h1, if_neg (by omega), if_pos (List.any_eq_true.2 ⟨_, getD_mem hk, decide_eq_true hc⟩)]
theorem rmE_ok {f : Int} {P : List Int} {xss : List (List Int)} (h1 : chk f (P :: xss) = 0) (h2 : xss.length ≤ 2048) (h : ∀ i, i < xss.length → tr (xss.getD i []) ≠ []) : rmE f P xss = 0 := by
  unfold rmE
  rw [if_pos h1, if_neg (by omega), if_neg]
  intro hc
  obtain ⟨x, hx, h3⟩ := List.any_eq_true.1 hc
  obtain ⟨i, hi, rfl⟩ := mem_getD hx
  exact h i hi (of_decide_eq_true h3)
theorem ext_getDD {xss yss : List (List Int)} (hl : xss.length = yss.length) (h : ∀ i, i < xss.length → xss.getD i [] = yss.getD i []) : xss = yss := by
  apply List.ext_getElem hl
  intro i h1 h2
  have := h i h1
  rw [List.getD_eq_getElem?_getD, List.getD_eq_getElem?_getD, List.getElem?_eq_getElem h1, List.getElem?_eq_getElem h2] at this
  exact this
theorem RmE.only {f : Int} {P : List Int} {xss rss sss : List (List Int)} (hw : ∀ i, ∀ x ∈ xss.getD i [], 0 ≤ x ∧ x ≤ 18446744073709551615) (h : RmE f P xss rss) (k : RmE f P xss sss) : rss = sss := by
  by_cases he : rmE f P xss = 0
  · obtain ⟨h1, _, _⟩ := rmE_zero he
    obtain ⟨a1, a2⟩ := h.2 he
    obtain ⟨b1, b2⟩ := k.2 he
    refine ext_getDD (by rw [a1, b1]) (fun i hi => ?_)
    rw [a1] at hi
    obtain ⟨q, hq⟩ := a2 i hi
    obtain ⟨s, hs⟩ := b2 i hi
    obtain ⟨hin, _⟩ := chk_zero h1 (List.mem_cons_of_mem _ (getD_mem hi))
    obtain ⟨p, wd, hf, hal⟩ := inF_fi hin
    rw [pOf_eq hf] at hq hs
    exact (hq.only hf.md (els_of hal (hw i)) hs).2
  · rw [h.1 he, k.1 he]
/-- A call that answers lists, in memory of its own, and an error. -/
def GivesR (k : FuncId) (args : Array Value) (W : World) (S : List (List Int) → Prop) (e0 : Int) : Prop :=
  Calls Try.prog k args W fun e w' => ∃ v' us rss, e = .returned (.tuple #[v', .int .i64 e0]) ∧ S rss ∧ Lss w' W.heap.size w'.heap.size v' us rss ∧ Below W.heap.size W w'
theorem GivesR.none {k : FuncId} {args : Array Value} {W : World} {S : List (List Int) → Prop} {e0 : Int} (hS : S []) (h : Calls Try.prog k args W fun e w' => e = .returned (.tuple #[.slice none 0 0, .int .i64 e0]) ∧ Below W.heap.size W w') : GivesR k args W S e0 :=
  h.mono fun e w' ⟨he, hb⟩ => ⟨_, [], [], he, hS, Lss.nil _ _ _, hb⟩
theorem Lss.more {w : World} {lo hi hi' : Nat} {v : Value} {us : List Value} {xss : List (List Int)} (h : Lss w lo hi v us xss) (hh : hi ≤ hi') : Lss w lo hi' v us xss :=
  ⟨h.row, h.each, h.from_, fun i g hg => Nat.lt_of_lt_of_le (h.top i g hg) hh, h.up⟩
theorem Lss.here {w : World} {lo hi : Nat} {v : Value} {us : List Value} {xss : List (List Int)} (h : Lss w lo hi v us xss) : Lss w lo w.heap.size v us xss :=
  ⟨h.row, h.each, h.from_, fun i g hg => by
    by_cases hi : i < xss.length
    · exact own_top (h.each i hi) g hg
    · rw [List.getD_eq_getElem?_getD, List.getElem?_eq_none (by rw [h.len]; omega)] at hg
      simp [nov, Value.ownBlock] at hg, h.up⟩

/-- What a division by one of them answers. -/
theorem div_of {f : Int} {P ys : List Int} {p : Int} {wd : Bool} (h : Fi f p wd) (hP : Els p P) (hY : Els p ys) (l1 : P.length ≤ 2048) (l2 : ys.length ≤ 2048) : divE f P ys = if tr ys = [] then 5 else 0 := by
  unfold divE
  rw [if_pos (er_yes h (allIn_of hP) (allIn_of hY) (by omega) (by omega))]
theorem dv_words {f p : Int} {wd : Bool} {P ys A B : List Int} (h : Fi f p wd) (l2 : ys.length ≤ 2048) (hd : Dv p P ys A B) : Wd B := by
  have := tr_len ys
  exact wd_els hd.2.1 h.top (by have := hd.2.2.2.2.1; omega)

theorem rem_push {p : Int} {P : List Int} {xss rss : List (List Int)} {k : Nat} {q r : List Int} (hl : rss.length = k) (h : ∀ i, i < k → ∃ q, Dv p P (xss.getD i []) q (rss.getD i [])) (hd : Dv p P (xss.getD k []) q r) : ∀ i, i < k + 1 → ∃ q, Dv p P (xss.getD i []) q ((rss ++ [r]).getD i []) := fun i hi => by
  rw [getD_snoc, hl]
  by_cases h2 : i < k
  · rw [if_pos h2]; exact h i h2
  · have : i = k := by omega
    subst this
    rw [if_neg h2, if_pos rfl]; exact ⟨q, hd⟩

end Go.Proofs.Ytifilgmjpflekaa
