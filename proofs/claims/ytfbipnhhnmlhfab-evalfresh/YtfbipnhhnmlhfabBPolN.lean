/-
  Polynomials: the program's divide, walked; DivMod, or its error.
-/
import Derived.Test.YtfbipnhhnmlhfabBPolL
namespace Go.Proofs.Ytfbipnhhnmlhfab
open Go.RowKit Fld
set_option linter.unusedVariables false

def divE (f : Int) (xs ys : List Int) : Int := if er f xs ys = 0 then (if tr ys = [] then 5 else 0) else er f xs ys
def DvE (f : Int) (xs ys A B : List Int) : Prop := (divE f xs ys ≠ 0 → A = [] ∧ B = []) ∧ (divE f xs ys = 0 → Dv (pOf f) xs ys A B)
theorem divE_zero {f : Int} {xs ys : List Int} (h : divE f xs ys = 0) : er f xs ys = 0 ∧ tr ys ≠ [] := by
  unfold divE at h
  by_cases he : er f xs ys = 0
  · rw [if_pos he] at h
    exact ⟨he, fun h0 => by rw [if_pos h0] at h; cases h⟩
  · rw [if_neg he] at h; exact absurd h he
theorem DvE.only {f : Int} {xs ys A B C D : List Int} (hy : ∀ x ∈ ys, 0 ≤ x ∧ x ≤ 18446744073709551615) (h : DvE f xs ys A B) (k : DvE f xs ys C D) : A = C ∧ B = D := by
  by_cases he : divE f xs ys = 0
  · obtain ⟨p, wd, hf, _, i2, _, _⟩ := er_zero (divE_zero he).1
    have h1 := h.2 he
    have k1 := k.2 he
    rw [pOf_eq hf] at h1 k1
    exact h1.only hf.md (els_of i2 hy) k1
  · have h1 := h.1 he
    have k1 := k.1 he
    rw [h1.1, h1.2, k1.1, k1.2]; exact ⟨rfl, rfl⟩
theorem dv_of_tr {p : Int} {xs ys A B : List Int} (h : Dv p xs (tr ys) A B) : Dv p xs ys A B := by
  obtain ⟨h1, h2, h3, h4, h5, h6⟩ := h
  rw [tr_tr] at h5
  refine ⟨h1, h2, h3, h4, h5, fun i => ?_⟩
  have e : cv (co A) (co ys) i = cv (co A) (co (tr ys)) i := cv_congr i (fun j _ => rfl) (fun j _ => (co_tr ys j).symm)
  show (cv (co A) (co ys) i + co B i) % p = _
  rw [e]; exact h6 i

/-- A call that answers two lists, in memory of its own, the first behind the second, and an error. -/
def Parts (k : FuncId) (args : Array Value) (W : World) (S : List Int → List Int → Prop) (e0 : Int) : Prop :=
  Calls Try.prog k args W fun e w' => ∃ vq vr A B b, e = .returned (.tuple #[vq, vr, .int .i64 e0]) ∧ S A B ∧ w'.ownsRow b 36 1 vq A.length (vals A) ∧ w'.ownsRow W.heap.size 36 1 vr B.length (vals B) ∧
    (∀ k, vr.ownBlock = some k → k < b) ∧ W.heap.size ≤ b ∧ Below W.heap.size W w'
theorem Parts.none {k : FuncId} {args : Array Value} {W : World} {S : List Int → List Int → Prop} {e0 : Int} (hS : S [] []) (h : Calls Try.prog k args W fun e w' => e = .returned (.tuple #[.slice none 0 0, .slice none 0 0, .int .i64 e0]) ∧ Below W.heap.size W w') : Parts k args W S e0 :=
  h.mono fun e w' ⟨he, hb⟩ => ⟨_, _, [], [], W.heap.size, he, hS, World.ownsRow_nil _ _ _ _, World.ownsRow_nil _ _ _ _, (fun k hk => by cases hk), Nat.le_refl _, hb⟩

end Go.Proofs.Ytfbipnhhnmlhfab
