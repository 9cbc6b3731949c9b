/- Texts laid together: SlxF, SlxG, SlxJ. -/
import Derived.Test.YtfbipnhhnmlhfabBunL
namespace Go.Proofs.Ytfbipnhhnmlhfab
open Go.RowKit Fld Slp
set_option linter.unusedVariables false
set_option linter.unusedSimpArgs false

/-- An empty list of the call's own. -/
theorem own_zero (W : World) (T : TypeId) (s B : Nat) (hB : B ≤ W.heap.size) : (W.alloc (.cells #[] T)).ownsRow B T s (.slice (some ⟨W.heap.size, 0, none⟩) 0 0) 0 [] :=
  ⟨by simp, .inr ⟨W.heap.size, 0, #[], rfl, hB, heap_alloc_new W _, Nat.le_refl _, by unfold maxLen; omega, by simp, by simp⟩⟩
/-- Numbers appended to a list of the call's own. -/
theorem appI (W : World) (base : Nat) (u : Value) (A B : List Int) (vb : Value) (hO : W.ownsRow base 3 1 u A.length (A.flatMap iw)) (hB : Lm iw 1 W vb B) (hl : A.length + B.length ≤ 17592186044416) (hb : base ≤ W.heap.size) :
    ∃ v' W', (Builtin.append_ #[23, 23] 23 #[u, vb]).run Try.prog W = .ok v' W' ∧ W'.ownsRow base 3 1 v' (A.length + B.length) ((A ++ B).flatMap iw) ∧ Below base W W' ∧ W.grownBy W' u.ownBlock ∧ (v'.ownBlock = u.ownBlock ∨ v'.ownBlock = some W.heap.size) := by
  obtain ⟨i0, hi0, hz0, hz1, hz2⟩ := info_parts int_info
  obtain ⟨ao, cap, rfl, h1, h2⟩ := hB
  cases ao with
  | some ad =>
    obtain ⟨v', W', hr, ho, hg, _, hbk⟩ := run_append_own_at (P := Try.prog) (w := W) base 23 23 3 i0 (.int .i64 0) 1 8 Try.underlying23 hi0 hz0 hz1 hz2 rfl (by decide) u A.length (A.flatMap iw) hO ad B.length cap (B.flatMap iw) (flat_len iw 1 iw_len B) (Lm.news iw_len (by decide) ⟨some ad, cap, rfl, h1, h2⟩) (fun x hx => by
      obtain ⟨o, _, ho⟩ := List.mem_flatMap.1 hx
      simp [iw] at ho
      rw [ho]; rfl) (by unfold maxLen; omega) (by omega) hb
    refine ⟨v', W', hr, ?_, (Below.refl base W).grown hg hb (fun k hk => own_base hO k hk), hg, hbk⟩
    rw [List.flatMap_append]; exact ho
  | none =>
    have hB0 : B = [] := by
      cases B with
      | nil => rfl
      | cons o B => obtain ⟨b, off, e, _⟩ := h2 (by simp); cases e
    have hc0 := h1.2.2 rfl
    subst hB0 hc0
    refine ⟨u, W, run_append_owned_none (P := Try.prog) W base 23 23 3 i0 1 Try.underlying23 hi0 u A.length (A.flatMap iw) hO, by rw [List.append_nil]; exact hO, Below.refl _ _, ⟨rfl, rfl, rfl, Nat.le_refl _, fun _ _ _ => rfl⟩, .inl rfl⟩
/-- One number appended. -/
theorem appI1 (W : World) (base : Nat) (u : Value) (A : List Int) (a : Addr) (x : Int) (hO : W.ownsRow base 3 1 u A.length (A.flatMap iw)) (hc : W.cell? a = some (.int .i64 x)) (hl : A.length ≤ 100000) (hb : base ≤ W.heap.size) :
    ∃ (au' : Option Addr) (cu' : Nat) (W' : World), (Builtin.append_ #[23, 23] 23 #[u, .slice (some a) 1 1]).run Try.prog W = .ok (.slice au' (A.length + 1) cu') W' ∧ W'.ownsRow base 3 1 (.slice au' (A.length + 1) cu') (A ++ [x]).length ((A ++ [x]).flatMap iw) ∧ Below base W W' ∧ W.grownBy W' u.ownBlock ∧ ((Value.slice au' (A.length + 1) cu').ownBlock = u.ownBlock ∨ (Value.slice au' (A.length + 1) cu').ownBlock = some W.heap.size) := by
  obtain ⟨i0, hi0, hz0, hz1, hz2⟩ := info_parts int_info
  obtain ⟨v', W', hr, ho, hg, _, hbk⟩ := run_append_own_at (P := Try.prog) (w := W) base 23 23 3 i0 (.int .i64 0) 1 8 Try.underlying23 hi0 hz0 hz1 hz2 rfl (by decide) u A.length (A.flatMap iw) hO a 1 1 [.int .i64 x] rfl (fun j u hj => by
    cases j with
    | zero => simp at hj; rw [← hj]; exact hc
    | succ j => simp at hj) (by simp [Value.oneCell']) (by unfold maxLen; omega) (by omega) hb
  obtain ⟨au', cu', rfl⟩ := own_slice ho
  refine ⟨au', cu', W', hr, ?_, (Below.refl base W).grown hg hb (fun k hk => own_base hO k hk), hg, hbk⟩
  rw [List.flatMap_append, List.length_append]; exact ho
/-- How far the document's call has come: the program that it makes lies at b7, the values in vt. -/
structure Ad (w W : World) (p q : Pr) (vo vu xo xu : Value) (b7 : Nat) (yo yu : Value) (os : List O4) (us : List Int) (vt : Value) (ts : List Int) : Prop where
  af : Af w W p q vo vu xo xu b7 yo yu os us
  rt : W.ownsRow (w.heap.size + 3) 3 1 vt ts.length (ts.flatMap iw)
  ne : ∀ g, vt.ownBlock = some g → yu.ownBlock ≠ some g
theorem Ad.below {w W W' : World} {p q : Pr} {vo vu xo xu : Value} {b7 : Nat} {yo yu : Value} {os : List O4} {us : List Int} {vt : Value} {ts : List Int} (h : Ad w W p q vo vu xo xu b7 yo yu os us vt ts) (hb : Below W.heap.size W W') : Ad w W' p q vo vu xo xu b7 yo yu os us vt ts :=
  ⟨h.af.below hb, own_kept h.rt (below_own hb) (fun g _ => by simp), h.ne⟩
theorem Af.size {w W : World} {p q : Pr} {vo vu xo xu : Value} {b6 : Nat} {yo yu : Value} {os : List O4} {us : List Int} (h : Af w W p q vo vu xo xu b6 yo yu os us) : w.heap.size + 3 ≤ W.heap.size := h.bx.size
/-- A value appended to the values. -/
theorem Ad.val {w W : World} {p q : Pr} {vo vu xo xu : Value} {b7 : Nat} {yo yu : Value} {os : List O4} {us : List Int} {vt : Value} {ts : List Int} (h : Ad w W p q vo vu xo xu b7 yo yu os us vt ts) (a : Addr) (x : Int) (hc : W.cell? a = some (.int .i64 x)) (hl : ts.length ≤ 1000) :
    ∃ (au' : Option Addr) (cu' : Nat) (W' : World), (Builtin.append_ #[23, 23] 23 #[vt, .slice (some a) 1 1]).run Try.prog W = .ok (.slice au' (ts.length + 1) cu') W' ∧ W.grownBy W' vt.ownBlock ∧ Ad w W' p q vo vu xo xu b7 yo yu os us (.slice au' (ts.length + 1) cu') (ts ++ [x]) := by
  obtain ⟨au', cu', W', hr, ho, hb, hg, hbk⟩ := appI1 W (w.heap.size + 3) vt ts a x h.rt hc (by omega) h.af.size
  have hbx := h.af.bx.grown hg (fun k e => by have := own_base h.rt k e; omega)
  refine ⟨au', cu', W', hr, hg, ⟨⟨hbx, h.af.big, (hg.block _ (Array.getElem?_eq_some_iff.1 h.af.blk).1 (fun e => own_not h.rt h.af.blk (by decide) e.symm)).trans h.af.blk, own_kept h.af.ro hg (fun g hg' => ?_), own_kept h.af.ru hg (fun g hg' e => h.ne g e hg')⟩, ho, fun g hg' e => ?_⟩⟩
  · obtain ⟨cs, hcs⟩ := own_blk h.af.ro hg'
    exact own_not h.rt hcs (by decide)
  · rcases hbk with hbk | hbk
    · rw [hbk] at hg'; exact h.ne g hg' e
    · rw [hbk] at hg'
      have e1 := Option.some.inj hg'
      have := own_top h.af.ru g e
      omega

end Go.Proofs.Ytfbipnhhnmlhfab

namespace Go.Proofs.Ytfbipnhhnmlhfab
open Go.RowKit Fld Slp
set_option linter.unusedVariables false
set_option linter.unusedSimpArgs false

theorem set1_grown (W : World) (g k : Nat) (v : Value) : W.grownBy (W.setCell ⟨g, k, none⟩ v) (some g) := ⟨rfl, rfl, rfl, (KeepsWalks.setCell W _ v).size, fun j _ hj => Below.heap_setCell _ _ _ j (fun e => hj (by rw [e]))⟩
theorem Ad.op {w W : World} {p q : Pr} {vo vu xo xu : Value} {b7 : Nat} {yo yu : Value} {os : List O4} {us : List Int} {vt : Value} {ts : List Int} (h : Ad w W p q vo vu xo xu b7 yo yu os us vt ts) (a : Addr) (x : O4) (hc : ∀ j u, (opw x)[j]? = some u → W.cell? (a.add j) = some u) (hl : os.length < 256) :
    ∃ (au' : Option Addr) (cu' : Nat) (W' : World), (Builtin.append_ #[22, 22] 22 #[yo, .slice (some a) 1 1]).run Try.prog W = .ok (.slice au' (os.length + 1) cu') W' ∧ W'.cell? ⟨b7, 1, none⟩ = some yo ∧ W'.frozen? ⟨b7, 1, none⟩ = false ∧ Ad w (W'.setCell ⟨b7, 1, none⟩ (.slice au' (os.length + 1) cu')) p q vo vu xo xu b7 (.slice au' (os.length + 1) cu') yu (os ++ [x]) us vt ts := by
  obtain ⟨i0, hi0, hz0, hz1, hz2⟩ := info_parts op_info
  obtain ⟨v', W', hr, ho, hg, _, hb⟩ := run_append_own_at (P := Try.prog) (w := W) (w.heap.size + 3) 22 22 67 i0 (.agg #[.int .u8 0, .int .i64 0, .int .i64 0, .int .u64 0]) 4 32 Try.underlying22 hi0 hz0 hz1 hz2 rfl (by decide) yo os.length (os.flatMap opw) h.af.ro a 1 1 (opw x) rfl hc (by simp [opw, Value.oneCell']) (by unfold maxLen; omega) (by omega) h.af.size
  have hblk : W'.heap[b7]? = _ := (hg.block b7 (Array.getElem?_eq_some_iff.1 h.af.blk).1 (fun e => own_not h.af.ro h.af.blk (by decide) e.symm)).trans h.af.blk
  have hru : W'.ownsRow (w.heap.size + 3) 3 1 yu us.length (us.flatMap iw) := own_kept h.af.ru hg (fun g hg' => by
    obtain ⟨cs, hcs⟩ := own_blk h.af.ru hg'
    exact own_not h.af.ro hcs (by decide))
  have hrt : W'.ownsRow (w.heap.size + 3) 3 1 vt ts.length (ts.flatMap iw) := own_kept h.rt hg (fun g hg' => by
    obtain ⟨cs, hcs⟩ := own_blk h.rt hg'
    exact own_not h.af.ro hcs (by decide))
  have hset := set1_grown W' b7 1 v'
  have hfl : (os ++ [x]).flatMap opw = os.flatMap opw ++ opw x := by rw [List.flatMap_append]; simp
  have hln : (os ++ [x]).length = os.length + 1 := by simp
  obtain ⟨au', cu', rfl⟩ := own_slice ho
  have hbx := h.af.bx.grown hg (fun k e => by have := own_base h.af.ro k e; omega)
  refine ⟨au', cu', W', hr, by rw [Lib.cell_of_heap hblk]; rfl, Lib.frozen_of_heap hblk 1, ⟨⟨hbx.grown hset (fun k e => by cases e; exact h.af.big), h.af.big, set_blk hblk 1 _, ?_, own_kept hru hset (fun g hg' e => own_not hru hblk (by decide) (hg'.trans e.symm))⟩, own_kept hrt hset (fun g hg' e => own_not hrt hblk (by decide) (hg'.trans e.symm)), h.ne⟩⟩
  rw [hfl, hln]
  exact own_kept ho hset (fun g hg' e => own_not ho hblk (by decide) (hg'.trans e.symm))
theorem Ad.out {w W : World} {p q : Pr} {vo vu xo xu : Value} {b7 : Nat} {yo yu : Value} {os : List O4} {us : List Int} {vt : Value} {ts : List Int} (h : Ad w W p q vo vu xo xu b7 yo yu os us vt ts) (a : Addr) (x : Int) (hc : W.cell? a = some (.int .i64 x)) (hl : us.length < 64) :
    ∃ (au' : Option Addr) (cu' : Nat) (W' : World), (Builtin.append_ #[23, 23] 23 #[yu, .slice (some a) 1 1]).run Try.prog W = .ok (.slice au' (us.length + 1) cu') W' ∧ W'.cell? ⟨b7, 2, none⟩ = some yu ∧ W'.frozen? ⟨b7, 2, none⟩ = false ∧ Bx w W' p q vo vu xo xu (.int .i64 0) (.slice none 0 0) (.slice none 0 0) ∧ W'.ownsRow (w.heap.size + 3) 3 1 vt ts.length (ts.flatMap iw) ∧ Ad w (W'.setCell ⟨b7, 2, none⟩ (.slice au' (us.length + 1) cu')) p q vo vu xo xu b7 yo (.slice au' (us.length + 1) cu') os (us ++ [x]) vt ts := by
  obtain ⟨au', cu', W', hr, ho, hb, hg, hbk⟩ := appI1 W (w.heap.size + 3) yu us a x h.af.ru hc (by omega) h.af.size
  have hblk : W'.heap[b7]? = _ := (hg.block b7 (Array.getElem?_eq_some_iff.1 h.af.blk).1 (fun e => own_not h.af.ru h.af.blk (by decide) e.symm)).trans h.af.blk
  have hro : W'.ownsRow (w.heap.size + 3) 67 4 yo os.length (os.flatMap opw) := own_kept h.af.ro hg (fun g hg' => by
    obtain ⟨cs, hcs⟩ := own_blk h.af.ro hg'
    exact own_not h.af.ru hcs (by decide))
  have hrt : W'.ownsRow (w.heap.size + 3) 3 1 vt ts.length (ts.flatMap iw) := own_kept h.rt hg (fun g hg' e => h.ne g hg' e)
  have hset := set1_grown W' b7 2 (.slice au' (us.length + 1) cu')
  have hbx := h.af.bx.grown hg (fun k e => by have := own_base h.af.ru k e; omega)
  refine ⟨au', cu', W', hr, by rw [Lib.cell_of_heap hblk]; rfl, Lib.frozen_of_heap hblk 2, hbx, hrt, ⟨⟨hbx.grown hset (fun k e => by cases e; exact h.af.big), h.af.big, set_blk hblk 2 _, own_kept hro hset (fun g hg' e => own_not hro hblk (by decide) (hg'.trans e.symm)), own_kept ho hset (fun g hg' e => own_not ho hblk (by decide) (hg'.trans e.symm))⟩, own_kept hrt hset (fun g hg' e => own_not hrt hblk (by decide) (hg'.trans e.symm)), fun g hg' e => ?_⟩⟩
  rcases hbk with hbk | hbk
  · rw [hbk] at e; exact h.ne g hg' e
  · rw [hbk] at e
    have e1 := Option.some.inj e
    have := own_top h.rt g hg'
    omega

end Go.Proofs.Ytfbipnhhnmlhfab

namespace Go.Proofs.Ytfbipnhhnmlhfab
open Go.RowKit Fld Slp
set_option linter.unusedVariables false
set_option linter.unusedSimpArgs false

theorem cell4 {W : World} {g : Nat} {a b c d : Value} {T : TypeId} (h : W.heap[g]? = some (.cells #[a, b, c, d] T (0, 0))) : W.cell? ⟨g, 0, none⟩ = some a ∧ W.cell? ⟨g, 1, none⟩ = some b ∧ W.cell? ⟨g, 2, none⟩ = some c ∧ W.cell? ⟨g, 3, none⟩ = some d :=
  ⟨by rw [Lib.cell_of_heap h]; rfl, by rw [Lib.cell_of_heap h]; rfl, by rw [Lib.cell_of_heap h]; rfl, by rw [Lib.cell_of_heap h]; rfl⟩
theorem Ad.round {w W : World} {p q : Pr} {vo vu xo xu : Value} {b7 : Nat} {yo yu : Value} {os : List O4} {us : List Int} {vt : Value} {ts : List Int} (h : Ad w W p q vo vu xo xu b7 yo yu os us vt ts) (val : Int) (x : O4) (g : Nat)
    (hg : W.heap[g]? = some (.cells #[.int .u8 x.k, .int .i64 x.a, .int .i64 x.b, .int .u64 x.c] 67 (0, 0))) (hl : ts.length ≤ 1000) (hl2 : os.length < 256) (N : Nat) (hN0 : W.heap.size = N) :
    ∃ (ta : Option Addr) (tc : Nat) (W3 : World) (ya : Option Addr) (yc : Nat) (W4 : World), (Builtin.append_ #[23, 23] 23 #[vt, .slice (some ⟨N, 0, none⟩) 1 1]).run Try.prog (W.alloc (.cells #[.int .i64 val] 3)) = .ok (.slice ta (ts.length + 1) tc) W3 ∧
      W3.cell? ⟨b7, 1, none⟩ = some yo ∧ (W3.cell? ⟨g, 0, none⟩ = some (.int .u8 x.k) ∧ W3.cell? ⟨g, 1, none⟩ = some (.int .i64 x.a) ∧ W3.cell? ⟨g, 2, none⟩ = some (.int .i64 x.b) ∧ W3.cell? ⟨g, 3, none⟩ = some (.int .u64 x.c)) ∧
      (Builtin.append_ #[22, 22] 22 #[yo, .slice (some ⟨W3.heap.size, 0, none⟩) 1 1]).run Try.prog (W3.alloc (.cells #[.int .u8 x.k, .int .i64 x.a, .int .i64 x.b, .int .u64 x.c] 67)) = .ok (.slice ya (os.length + 1) yc) W4 ∧ W4.cell? ⟨b7, 1, none⟩ = some yo ∧ W4.frozen? ⟨b7, 1, none⟩ = false ∧
      Hid (Ad w (W4.setCell ⟨b7, 1, none⟩ (.slice ya (os.length + 1) yc)) p q vo vu xo xu b7 (.slice ya (os.length + 1) yc) yu (os ++ [x]) us (.slice ta (ts.length + 1) tc) (ts ++ [val])) := by
  subst hN0
  have hA := alloc_below W (.cells #[.int .i64 val] 3)
  have h1 := h.below hA
  obtain ⟨ta, tc, W3, hr3, hg3, h3⟩ := h1.val ⟨W.heap.size, 0, none⟩ val (by rw [Lib.cell_of_heap (heap_alloc_new W _)]; rfl) hl
  have hlt := (Array.getElem?_eq_some_iff.1 hg).1
  have hgA := (hA.block g hlt).trans hg
  have hg4 : W3.heap[g]? = _ := (hg3.block g (Array.getElem?_eq_some_iff.1 hgA).1 (fun e => own_not h1.rt hgA (by decide) e.symm)).trans hgA
  have hA3 := alloc_below W3 (.cells #[.int .u8 x.k, .int .i64 x.a, .int .i64 x.b, .int .u64 x.c] 67)
  have hN := heap_alloc_new W3 (.cells #[.int .u8 x.k, .int .i64 x.a, .int .i64 x.b, .int .u64 x.c] 67)
  obtain ⟨ya, yc, W4, hr4, y4, z4, h4⟩ := (h3.below hA3).op ⟨W3.heap.size, 0, none⟩ x (fun j u hj => by
    rw [Addr.add]
    obtain ⟨c0, c1, c2, c3⟩ := cell4 hN
    match j, hj with
    | 0, hj => simp [opw] at hj; subst hj; exact c0
    | 1, hj => simp [opw] at hj; subst hj; exact c1
    | 2, hj => simp [opw] at hj; subst hj; exact c2
    | 3, hj => simp [opw] at hj; subst hj; exact c3
    | j + 4, hj => simp [opw] at hj) hl2
  exact ⟨ta, tc, W3, ya, yc, W4, hr3, (cell3 h3.af.blk).2.1, cell4 hg4, hr4, y4, z4, h4⟩

end Go.Proofs.Ytfbipnhhnmlhfab

