/- Texts laid together: SlxF. -/
import Derived.Test.YtfgokcphnkkgnaaBSlxE
namespace Go.Proofs.Ytfgokcphnkkgnaa
open Go.RowKit Fld Slp
set_option linter.unusedVariables false
set_option linter.unusedSimpArgs false

/-- An empty list of the call's own. -/
theorem own_zero (W : World) (T : TypeId) (s B : Nat) (hB : B ≤ W.heap.size) : (W.alloc (.cells #[] T)).ownsRow B T s (.slice (some ⟨W.heap.size, 0, none⟩) 0 0) 0 [] :=
  ⟨by simp, .inr ⟨W.heap.size, 0, #[], rfl, hB, heap_alloc_new W _, Nat.le_refl _, by unfold maxLen; omega, by simp, by simp⟩⟩
/-- Numbers appended to a list of the call's own. -/
theorem appI (W : World) (base : Nat) (u : Value) (A B : List Int) (vb : Value) (hO : W.ownsRow base 3 1 u A.length (A.flatMap iw)) (hB : Lm iw 1 W vb B) (hl : A.length + B.length ≤ 17592186044416) (hb : base ≤ W.heap.size) :
    ∃ v' W', (Builtin.append_ #[23, 23] 23 #[u, vb]).run Try.prog W = .ok v' W' ∧ W'.ownsRow base 3 1 v' (A.length + B.length) ((A ++ B).flatMap iw) ∧ Below base W W' ∧ W.grownBy W' u.ownBlock ∧ (v'.ownBlock = u.ownBlock ∨ v'.ownBlock = some W.heap.size) := by
  obtain ⟨i0, hi0, hz0, hz1, hz2⟩ := info_parts int_info
  obtain ⟨ao, cap, rfl, h1, h2⟩ := hB
  cases ao with
  | some ad =>
    obtain ⟨v', W', hr, ho, hg, _, hbk⟩ := run_append_own_at (P := Try.prog) (w := W) base 23 23 3 i0 (.int .i64 0) 1 8 Try.underlying23 hi0 hz0 hz1 hz2 rfl (by decide) u A.length (A.flatMap iw) hO ad B.length cap (B.flatMap iw) (flat_len iw 1 iw_len B) (Lm.news iw_len (by decide) ⟨some ad, cap, rfl, h1, h2⟩) (fun x hx => by
      obtain ⟨o, _, ho⟩ := List.mem_flatMap.1 hx
      simp [iw] at ho
      rw [ho]; rfl) (by unfold maxLen; omega) (by omega) hb
    refine ⟨v', W', hr, ?_, (Below.refl base W).grown hg hb (fun k hk => own_base hO k hk), hg, hbk⟩
    rw [List.flatMap_append]; exact ho
  | none =>
    have hB0 : B = [] := by
      cases B with
      | nil => rfl
      | cons o B => obtain ⟨b, off, e, _⟩ := h2 (by simp); cases e
    have hc0 := h1.2.2 rfl
    subst hB0 hc0
    refine ⟨u, W, run_append_owned_none (P := Try.prog) W base 23 23 3 i0 1 Try.underlying23 hi0 u A.length (A.flatMap iw) hO, by rw [List.append_nil]; exact hO, Below.refl _ _, ⟨rfl, rfl, rfl, Nat.le_refl _, fun _ _ _ => rfl⟩, .inl rfl⟩
/-- One number appended. -/
theorem appI1 (W : World) (base : Nat) (u : Value) (A : List Int) (a : Addr) (x : Int) (hO : W.ownsRow base 3 1 u A.length (A.flatMap iw)) (hc : W.cell? a = some (.int .i64 x)) (hl : A.length ≤ 100000) (hb : base ≤ W.heap.size) :
    ∃ (au' : Option Addr) (cu' : Nat) (W' : World), (Builtin.append_ #[23, 23] 23 #[u, .slice (some a) 1 1]).run Try.prog W = .ok (.slice au' (A.length + 1) cu') W' ∧ W'.ownsRow base 3 1 (.slice au' (A.length + 1) cu') (A ++ [x]).length ((A ++ [x]).flatMap iw) ∧ Below base W W' ∧ W.grownBy W' u.ownBlock ∧ ((Value.slice au' (A.length + 1) cu').ownBlock = u.ownBlock ∨ (Value.slice au' (A.length + 1) cu').ownBlock = some W.heap.size) := by
  obtain ⟨i0, hi0, hz0, hz1, hz2⟩ := info_parts int_info
  obtain ⟨v', W', hr, ho, hg, _, hbk⟩ := run_append_own_at (P := Try.prog) (w := W) base 23 23 3 i0 (.int .i64 0) 1 8 Try.underlying23 hi0 hz0 hz1 hz2 rfl (by decide) u A.length (A.flatMap iw) hO a 1 1 [.int .i64 x] rfl (fun j u hj => by
    cases j with
    | zero => simp at hj; rw [← hj]; exact hc
    | succ j => simp at hj) (by simp [Value.oneCell']) (by unfold maxLen; omega) (by omega) hb
  obtain ⟨au', cu', rfl⟩ := own_slice ho
  refine ⟨au', cu', W', hr, ?_, (Below.refl base W).grown hg hb (fun k hk => own_base hO k hk), hg, hbk⟩
  rw [List.flatMap_append, List.length_append]; exact ho
/-- How far the document's call has come: the program that it makes lies at b7, the values in vt. -/
structure Ad (w W : World) (p q : Pr) (vo vu xo xu : Value) (b7 : Nat) (yo yu : Value) (os : List O4) (us : List Int) (vt : Value) (ts : List Int) : Prop where
  af : Af w W p q vo vu xo xu b7 yo yu os us
  rt : W.ownsRow (w.heap.size + 3) 3 1 vt ts.length (ts.flatMap iw)
  ne : ∀ g, vt.ownBlock = some g → yu.ownBlock ≠ some g
theorem Ad.below {w W W' : World} {p q : Pr} {vo vu xo xu : Value} {b7 : Nat} {yo yu : Value} {os : List O4} {us : List Int} {vt : Value} {ts : List Int} (h : Ad w W p q vo vu xo xu b7 yo yu os us vt ts) (hb : Below W.heap.size W W') : Ad w W' p q vo vu xo xu b7 yo yu os us vt ts :=
  ⟨h.af.below hb, own_kept h.rt (below_own hb) (fun g _ => by simp), h.ne⟩
theorem Af.size {w W : World} {p q : Pr} {vo vu xo xu : Value} {b6 : Nat} {yo yu : Value} {os : List O4} {us : List Int} (h : Af w W p q vo vu xo xu b6 yo yu os us) : w.heap.size + 3 ≤ W.heap.size := h.bx.size
/-- A value appended to the values. -/
theorem Ad.val {w W : World} {p q : Pr} {vo vu xo xu : Value} {b7 : Nat} {yo yu : Value} {os : List O4} {us : List Int} {vt : Value} {ts : List Int} (h : Ad w W p q vo vu xo xu b7 yo yu os us vt ts) (a : Addr) (x : Int) (hc : W.cell? a = some (.int .i64 x)) (hl : ts.length ≤ 1000) :
    ∃ (au' : Option Addr) (cu' : Nat) (W' : World), (Builtin.append_ #[23, 23] 23 #[vt, .slice (some a) 1 1]).run Try.prog W = .ok (.slice au' (ts.length + 1) cu') W' ∧ W.grownBy W' vt.ownBlock ∧ Ad w W' p q vo vu xo xu b7 yo yu os us (.slice au' (ts.length + 1) cu') (ts ++ [x]) := by
  obtain ⟨au', cu', W', hr, ho, hb, hg, hbk⟩ := appI1 W (w.heap.size + 3) vt ts a x h.rt hc (by omega) h.af.size
  have hbx := h.af.bx.grown hg (fun k e => by have := own_base h.rt k e; omega)
  refine ⟨au', cu', W', hr, hg, ⟨⟨hbx, h.af.big, (hg.block _ (Array.getElem?_eq_some_iff.1 h.af.blk).1 (fun e => own_not h.rt h.af.blk (by decide) e.symm)).trans h.af.blk, own_kept h.af.ro hg (fun g hg' => ?_), own_kept h.af.ru hg (fun g hg' e => h.ne g e hg')⟩, ho, fun g hg' e => ?_⟩⟩
  · obtain ⟨cs, hcs⟩ := own_blk h.af.ro hg'
    exact own_not h.rt hcs (by decide)
  · rcases hbk with hbk | hbk
    · rw [hbk] at hg'; exact h.ne g hg' e
    · rw [hbk] at hg'
      have e1 := Option.some.inj hg'
      have := own_top h.af.ru g e
      omega

end Go.Proofs.Ytfgokcphnkkgnaa

