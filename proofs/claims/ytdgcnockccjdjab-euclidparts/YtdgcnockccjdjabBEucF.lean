/-
  Euclid: the program's Partial, GCD, Modulo and Ratio, or their errors.
-/
import Derived.Test.YtdgcnockccjdjabBEucE
namespace Go.Proofs.Ytdgcnockccjdjab
open Go.RowKit Fld
set_option linter.unusedVariables false

def PtE (f : Int) (a b : List Int) (s : Int) (B : R3) : Prop := (stE f a b s ≠ 0 → B = R3.nil) ∧ (stE f a b s = 0 → ∃ A, Fnd (pOf f) s.toNat a b A B)
theorem PtE.only {f s : Int} {a b : List Int} {B C : R3} (ha : ∀ x ∈ a, 0 ≤ x ∧ x ≤ 18446744073709551615) (hb : ∀ x ∈ b, 0 ≤ x ∧ x ≤ 18446744073709551615) (h : PtE f a b s B) (k : PtE f a b s C) : B = C := by
  by_cases he : stE f a b s = 0
  · obtain ⟨p, wd, hf, i1, i2, _, _⟩ := chE_zero (stE_zero he).2
    obtain ⟨A, h1⟩ := h.2 he
    obtain ⟨D, k1⟩ := k.2 he
    rw [pOf_eq hf] at h1 k1
    exact (h1.only hf.md (els_of i1 ha) (els_of i2 hb) k1).2
  · rw [h.1 he, k.1 he]
def GcE (f : Int) (a b g : List Int) : Prop := (chE f a b ≠ 0 → g = []) ∧ (chE f a b = 0 → Gc (pOf f) a b g)
theorem GcE.only {f : Int} {a b g k : List Int} (h : GcE f a b g) (h' : GcE f a b k) : g = k := by
  by_cases he : chE f a b = 0
  · obtain ⟨p, wd, hf, _⟩ := chE_zero he
    have h1 := h.2 he
    have k1 := h'.2 he
    rw [pOf_eq hf] at h1 k1
    exact h1.only hf.md k1
  · rw [h.1 he, h'.1 he]
def moE (f : Int) (a m : List Int) : Int := if chE f a m = 0 then (if tr m = [] then 5 else 0) else chE f a m
def MoE (f : Int) (a m i : List Int) (ok : Bool) : Prop := (moE f a m ≠ 0 → i = [] ∧ ok = false) ∧ (moE f a m = 0 → Mo (pOf f) a m i ok)
theorem moE_zero {f : Int} {a m : List Int} (h : moE f a m = 0) : chE f a m = 0 ∧ tr m ≠ [] := by
  unfold moE at h
  by_cases he : chE f a m = 0
  · rw [if_pos he] at h
    exact ⟨he, fun e => by rw [if_pos e] at h; cases h⟩
  · rw [if_neg he] at h; exact absurd h he
theorem MoE.only {f : Int} {a m i j : List Int} {x y : Bool} (hm : ∀ x ∈ m, 0 ≤ x ∧ x ≤ 18446744073709551615) (h : MoE f a m i x) (k : MoE f a m j y) : i = j ∧ x = y := by
  by_cases he : moE f a m = 0
  · obtain ⟨p, wd, hf, _, i2, _, _⟩ := chE_zero (moE_zero he).1
    have h1 := h.2 he
    have k1 := k.2 he
    rw [pOf_eq hf] at h1 k1
    exact h1.only hf.md (els_of i2 hm) k1
  · have h1 := h.1 he
    have k1 := k.1 he
    rw [h1.1, h1.2, k1.1, k1.2]; exact ⟨rfl, rfl⟩
def raE (f : Int) (g m : List Int) (s : Int) : Int := if stE f g m s = 0 then (if tr m = [] then 5 else 0) else stE f g m s
def RaE (f : Int) (g m : List Int) (s : Int) (n d : List Int) (ok : Bool) : Prop := (raE f g m s ≠ 0 → n = [] ∧ d = [] ∧ ok = false) ∧ (raE f g m s = 0 → ∃ A B, Fnd (pOf f) s.toNat m g A B ∧ Ra (pOf f) B.x B.v n d ok)
theorem raE_zero {f s : Int} {g m : List Int} (h : raE f g m s = 0) : stE f g m s = 0 ∧ tr m ≠ [] := by
  unfold raE at h
  by_cases he : stE f g m s = 0
  · rw [if_pos he] at h
    exact ⟨he, fun e => by rw [if_pos e] at h; cases h⟩
  · rw [if_neg he] at h; exact absurd h he
theorem RaE.only {f s : Int} {g m n d k l : List Int} {x y : Bool} (hg : ∀ x ∈ g, 0 ≤ x ∧ x ≤ 18446744073709551615) (hm : ∀ x ∈ m, 0 ≤ x ∧ x ≤ 18446744073709551615) (h : RaE f g m s n d x) (h' : RaE f g m s k l y) : n = k ∧ d = l ∧ x = y := by
  by_cases he : raE f g m s = 0
  · obtain ⟨p, wd, hf, i1, i2, _, _⟩ := chE_zero (stE_zero (raE_zero he).1).2
    obtain ⟨A, B, f1, r1⟩ := h.2 he
    obtain ⟨C, D, f2, r2⟩ := h'.2 he
    rw [pOf_eq hf] at f1 r1 f2 r2
    have e1 := els_of i1 hg
    have e2 := els_of i2 hm
    obtain ⟨rfl, rfl⟩ := f1.only hf.md e2 e1 f2
    exact r1.only hf.md (f1.tm hf.md e2 e1).2.2.1.1 r2
  · have h1 := h.1 he
    have k1 := h'.1 he
    rw [h1.1, h1.2.1, h1.2.2, k1.1, k1.2.1, k1.2.2]; exact ⟨rfl, rfl, rfl⟩

/-- Two rows laid into memory. -/
theorem al_two (w : World) (T : TypeId) (c0 c1 c2 d0 d1 d2 : Value) (A B : R3) (RA : Rr w c0 c1 c2 A) (RB : Rr w d0 d1 d2 B) :
    Th T w.heap.size c0 c1 c2 ((w.alloc (.cells #[c0, c1, c2] T)).alloc (.cells #[d0, d1, d2] T)) ∧ Th T (w.heap.size + 1) d0 d1 d2 ((w.alloc (.cells #[c0, c1, c2] T)).alloc (.cells #[d0, d1, d2] T)) ∧
      Rr ((w.alloc (.cells #[c0, c1, c2] T)).alloc (.cells #[d0, d1, d2] T)) c0 c1 c2 A ∧ Rr ((w.alloc (.cells #[c0, c1, c2] T)).alloc (.cells #[d0, d1, d2] T)) d0 d1 d2 B ∧ Below w.heap.size w ((w.alloc (.cells #[c0, c1, c2] T)).alloc (.cells #[d0, d1, d2] T)) := by
  have a1 := alloc_below w (.cells #[c0, c1, c2] T)
  have a2 := alloc_below (w.alloc (.cells #[c0, c1, c2] T)) (.cells #[d0, d1, d2] T)
  have t2 := Th.first (w.alloc (.cells #[c0, c1, c2] T)) d0 d1 d2 T
  have e : (w.alloc (.cells #[c0, c1, c2] T)).heap.size = w.heap.size + 1 := by simp
  rw [e] at t2
  exact ⟨(Th.first w c0 c1 c2 T).below a2, t2, (RA.below a1).below a2, (RB.below a1).below a2, Below.next a1 a2⟩
theorem div_ok {f p : Int} {wd : Bool} (h : Fi f p wd) {xs ys : List Int} (hx : Els p xs) (hy : Tm p ys) (l1 : xs.length ≤ 4096) (l2 : ys.length ≤ 4096) : divE f xs ys = if ys = [] then 5 else 0 := by
  unfold divE
  rw [er_yes h (allIn_of hx) (allIn_of hy.1) l1 l2, if_pos rfl, hy.2]
theorem DvE.dv {f p : Int} {wd : Bool} (h : Fi f p wd) {xs ys A B : List Int} (he : divE f xs ys = 0) (hs : DvE f xs ys A B) : Dv p xs ys A B := by have := hs.2 he; rw [pOf_eq h] at this; exact this
theorem rr_nil (w : World) : Rr w (.slice none 0 0) (.slice none 0 0) (.slice none 0 0) R3.nil := ⟨rw0 _, rw0 _, rw0 _⟩

end Go.Proofs.Ytdgcnockccjdjab
