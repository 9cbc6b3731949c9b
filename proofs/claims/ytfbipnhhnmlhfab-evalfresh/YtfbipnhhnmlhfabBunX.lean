/- Texts laid together: SlxB. -/
import Derived.Test.YtfbipnhhnmlhfabBMemB
namespace Go.Proofs.Ytfbipnhhnmlhfab
open Go.RowKit Fld Slp
set_option linter.unusedVariables false
set_option linter.unusedSimpArgs false

theorem flat_set (o : O4) : ∀ (os : List O4) (k : Nat), k < os.length → (((((os.flatMap opw).set (k * 4) (.int .u8 o.k)).set (k * 4 + 1) (.int .i64 o.a)).set (k * 4 + 2) (.int .i64 o.b)).set (k * 4 + 3) (.int .u64 o.c)) = (os.set k o).flatMap opw
  | [], k, h => by simp at h
  | x :: os, 0, h => by simp [opw]
  | x :: os, k + 1, h => by
    have ih := flat_set o os k (by simpa using h)
    have e : ∀ (l : List Value) (j : Nat) (v : Value), ([Value.int .u8 x.k, .int .i64 x.a, .int .i64 x.b, .int .u64 x.c] ++ l).set (4 + j) v = [Value.int .u8 x.k, .int .i64 x.a, .int .i64 x.b, .int .u64 x.c] ++ l.set j v := fun l j v => by
      rw [Nat.add_comm]; rfl
    show ((((([Value.int .u8 x.k, .int .i64 x.a, .int .i64 x.b, .int .u64 x.c] ++ os.flatMap opw).set ((k + 1) * 4) _).set ((k + 1) * 4 + 1) _).set ((k + 1) * 4 + 2) _).set ((k + 1) * 4 + 3) _) = [Value.int .u8 x.k, .int .i64 x.a, .int .i64 x.b, .int .u64 x.c] ++ (os.set k o).flatMap opw
    rw [show (k + 1) * 4 = 4 + k * 4 by omega, e, show 4 + k * 4 + 1 = 4 + (k * 4 + 1) by omega, e, show 4 + k * 4 + 2 = 4 + (k * 4 + 2) by omega, e, show 4 + k * 4 + 3 = 4 + (k * 4 + 3) by omega, e, ih]
def set4 (W : World) (g i : Nat) (o : O4) : World := (((W.setCell ⟨g, i, none⟩ (.int .u8 o.k)).setCell ⟨g, i + 1, none⟩ (.int .i64 o.a)).setCell ⟨g, i + 2, none⟩ (.int .i64 o.b)).setCell ⟨g, i + 3, none⟩ (.int .u64 o.c)
theorem set4_grown (W : World) (g i : Nat) (o : O4) : W.grownBy (set4 W g i o) (some g) :=
  ⟨rfl, rfl, rfl, by simp [set4, World.setCell], fun j _ hj => by
    have h : j ≠ g := fun e => hj (by rw [e])
    unfold set4
    rw [Below.heap_setCell _ _ _ j h, Below.heap_setCell _ _ _ j h, Below.heap_setCell _ _ _ j h, Below.heap_setCell _ _ _ j h]⟩
theorem own_set4 {W : World} {base g n cap : Nat} {os : List O4} {k : Nat} (h : W.ownsRow base 67 4 (.slice (some ⟨g, 0, none⟩) n cap) n (os.flatMap opw)) (hk : k < os.length) (o : O4) : (set4 W g (k * 4) o).ownsRow base 67 4 (.slice (some ⟨g, 0, none⟩) n cap) n ((os.set k o).flatMap opw) := by
  have hn : os.length = n := by
    have := h.1
    rw [flat_len opw 4 opw_len] at this; omega
  rcases h.2 with ⟨e, _⟩ | ⟨g', cap', cur, e, hb, hgb, hnc, hcm, hcs, htake⟩
  · cases e
  · cases e
    have hs := set_blk (set_blk (set_blk (set_blk hgb (k * 4) (.int .u8 o.k)) (k * 4 + 1) (.int .i64 o.a)) (k * 4 + 2) (.int .i64 o.b)) (k * 4 + 3) (.int .u64 o.c)
    refine ⟨by rw [flat_len opw 4 opw_len, List.length_set, hn], .inr ⟨g, cap, _, rfl, hb, hs, hnc, hcm, by simpa using hcs, ?_⟩⟩
    simp only [Array.toList_setIfInBounds, List.take_set, htake]
    exact flat_set o os k hk
/-- How far the call has come: the program that it makes lies at b6. -/
structure Af (w W : World) (p q : Pr) (vo vu xo xu : Value) (b6 : Nat) (yo yu : Value) (os : List O4) (us : List Int) : Prop where
  bx : Bx w W p q vo vu xo xu (.int .i64 0) (.slice none 0 0) (.slice none 0 0)
  big : w.heap.size + 2 < b6
  blk : W.heap[b6]? = some (.cells #[.int .i64 q.inp, yo, yu] 25 (0, 0))
  ro : W.ownsRow (w.heap.size + 3) 67 4 yo os.length (os.flatMap opw)
  ru : W.ownsRow (w.heap.size + 3) 3 1 yu us.length (us.flatMap iw)
theorem Af.below {w W W' : World} {p q : Pr} {vo vu xo xu : Value} {b6 : Nat} {yo yu : Value} {os : List O4} {us : List Int} (h : Af w W p q vo vu xo xu b6 yo yu os us) (hb : Below W.heap.size W W') : Af w W' p q vo vu xo xu b6 yo yu os us :=
  ⟨h.bx.below hb, h.big, (hb.block _ (Array.getElem?_eq_some_iff.1 h.blk).1).trans h.blk, own_kept h.ro (below_own hb) (fun g _ => by simp), own_kept h.ru (below_own hb) (fun g _ => by simp)⟩
theorem Bx.grown {w W W' : World} {p q : Pr} {vo vu xo xu r0 r1 r2 : Value} {g : Option Nat} (h : Bx w W p q vo vu xo xu r0 r1 r2) (hg : W.grownBy W' g) (hb : ∀ k, g = some k → w.heap.size + 2 < k) : Bx w W' p q vo vu xo xu r0 r1 r2 := by
  refine ⟨(hg.block _ (Array.getElem?_eq_some_iff.1 h.p).1 (fun e => by have := hb _ e.symm; omega)).trans h.p, (hg.block _ (Array.getElem?_eq_some_iff.1 h.q).1 (fun e => by have := hb _ e.symm; omega)).trans h.q, (hg.block _ (Array.getElem?_eq_some_iff.1 h.r).1 (fun e => by have := hb _ e.symm; omega)).trans h.r, h.b.grown hg (by have := (Array.getElem?_eq_some_iff.1 h.p).1; omega) (fun k e => by have := hb k e; omega)⟩
theorem Af.put {w W : World} {p q : Pr} {vo vu xo xu : Value} {b6 g n cap : Nat} {yu : Value} {os : List O4} {us : List Int} {k : Nat} (h : Af w W p q vo vu xo xu b6 (.slice (some ⟨g, 0, none⟩) n cap) yu os us) (hk : k < os.length) (o : O4) : Af w (set4 W g (k * 4) o) p q vo vu xo xu b6 (.slice (some ⟨g, 0, none⟩) n cap) yu (os.set k o) us := by
  have hn : os.length = n := by
    have := h.ro.1
    obtain ⟨a, c, e⟩ := own_slice h.ro
    cases e; rfl
  subst hn
  have hg := set4_grown W g (k * 4) o
  have hgb := own_base h.ro g rfl
  obtain ⟨cs, hcs⟩ := own_blk h.ro (g := g) rfl
  have h6 : b6 ≠ g := fun e => by
    have := h.blk
    rw [e, hcs] at this; cases this
  refine ⟨h.bx.grown hg (fun j e => by cases e; omega), h.big, (hg.block _ (Array.getElem?_eq_some_iff.1 h.blk).1 (fun e => h6 (Option.some.inj e))).trans h.blk, ?_, own_kept h.ru hg (fun j hj e => ?_)⟩
  · rw [List.length_set]; exact own_set4 h.ro hk o
  · obtain ⟨cs2, hcs2⟩ := own_blk h.ru hj
    have := Option.some.inj e
    subst this
    rw [hcs] at hcs2; cases hcs2
/-- A number appended to the numbers. -/
theorem Af.app {w W : World} {p q : Pr} {vo vu xo xu : Value} {b6 : Nat} {yo yu : Value} {os : List O4} {us : List Int} (h : Af w W p q vo vu xo xu b6 yo yu os us) (a : Addr) (x : Int) (hc : W.cell? a = some (.int .i64 x)) (hl : us.length < 64) :
    ∃ (au' : Option Addr) (cu' : Nat) (W' : World), (Builtin.append_ #[23, 23] 23 #[yu, .slice (some a) 1 1]).run Try.prog W = .ok (.slice au' (us.length + 1) cu') W' ∧ W'.cell? ⟨b6, 2, none⟩ = some yu ∧ W'.frozen? ⟨b6, 2, none⟩ = false ∧ Af w (W'.setCell ⟨b6, 2, none⟩ (.slice au' (us.length + 1) cu')) p q vo vu xo xu b6 yo (.slice au' (us.length + 1) cu') os (us ++ [x]) := by
  obtain ⟨i0, hi0, hz0, hz1, hz2⟩ := info_parts int_info
  have hsz : w.heap.size + 3 ≤ W.heap.size := by have := (Array.getElem?_eq_some_iff.1 h.blk).1; have := h.big; omega
  obtain ⟨v', W', hr, ho, hg, _, hb⟩ := run_append_own_at (P := Try.prog) (w := W) (w.heap.size + 3) 23 23 3 i0 (.int .i64 0) 1 8 Try.underlying23 hi0 hz0 hz1 hz2 rfl (by decide) yu us.length (us.flatMap iw) h.ru a 1 1 [.int .i64 x] rfl (fun j u hj => by
    cases j with
    | zero => simp at hj; rw [← hj]; exact hc
    | succ j => simp at hj) (by simp [Value.oneCell']) (by unfold maxLen; omega) (by omega) hsz
  have hblk : W'.heap[b6]? = _ := (hg.block b6 (Array.getElem?_eq_some_iff.1 h.blk).1 (fun e => own_not h.ru h.blk (by decide) e.symm)).trans h.blk
  have hro : W'.ownsRow (w.heap.size + 3) 67 4 yo os.length (os.flatMap opw) := own_kept h.ro hg (fun g hg' => by
    obtain ⟨cs, hcs⟩ := own_blk h.ro hg'
    exact own_not h.ru hcs (by decide))
  have hset : W'.grownBy (W'.setCell ⟨b6, 2, none⟩ v') (some b6) := ⟨rfl, rfl, rfl, (KeepsWalks.setCell W' _ v').size, fun j _ hj => Below.heap_setCell _ _ _ j (fun e => hj (by rw [e]))⟩
  have hfl : (us ++ [x]).flatMap iw = us.flatMap iw ++ [.int .i64 x] := by rw [List.flatMap_append]; rfl
  have hln : (us ++ [x]).length = us.length + 1 := by simp
  obtain ⟨au', cu', rfl⟩ := own_slice ho
  have hbx := h.bx.grown hg (fun k e => by have := own_base h.ru k e; omega)
  refine ⟨au', cu', W', hr, by rw [Lib.cell_of_heap hblk]; rfl, Lib.frozen_of_heap hblk 2, ⟨hbx.grown hset (fun k e => by cases e; exact h.big), h.big, set_blk hblk 2 _, own_kept hro hset (fun g hg' e => ?_), ?_⟩⟩
  · exact own_not hro hblk (by decide) (hg'.trans e.symm)
  · rw [hfl, hln]
    exact own_kept ho hset (fun g hg' e => own_not ho hblk (by decide) (hg'.trans e.symm))

theorem aftE_zero {p q : Pr} (h : aftE p q = 0) : mayB p = true ∧ mayB q = true ∧ (q.outs.length : Int) = p.inp ∧ p.ops.length + q.ops.length ≤ 256 := by
  unfold aftE at h
  split at h
  · rename_i h1
    split at h
    · cases h
    · exact ⟨h1.1, h1.2.1, h1.2.2, by omega⟩
  · cases h

theorem af_new {w W : World} {p q : Pr} {vo vu xo xu yo : Value} {b6 B : Nat} {os : List O4} {r0 r1 r2 : Value} (hb : Bx w W p q vo vu xo xu (.int .i64 0) (.slice none 0 0) (.slice none 0 0)) (h6 : W.heap[b6]? = some (.cells #[r0, r1, r2] 25 (0, 0))) (h2 : w.heap.size + 2 < b6) (hB : w.heap.size + 3 ≤ B) (ho : W.ownsRow B 67 4 yo os.length (os.flatMap opw)) :
    Af w (((W.setCell ⟨b6, 0, none⟩ (.int .i64 q.inp)).setCell ⟨b6, 1, none⟩ yo).setCell ⟨b6, 2, none⟩ (.slice none 0 0)) p q vo vu xo xu b6 yo (.slice none 0 0) os [] := by
  have hg := set3_grown W b6 (.int .i64 q.inp) yo (.slice none 0 0)
  refine ⟨hb.grown hg (fun k e => by cases e; exact h2), h2, set_blk (set_blk (set_blk h6 0 _) 1 _) 2 _, own_mono (own_kept ho hg (fun g hg' e => ?_)) hB, own_nil _ _ _ _⟩
  exact own_not ho h6 (by decide) (hg'.trans e.symm)

theorem af_new2 {w W : World} {p q : Pr} {vo vu xo xu yo : Value} {B : Nat} {os : List O4} (hb : Bx w W p q vo vu xo xu (.int .i64 0) (.slice none 0 0) (.slice none 0 0)) (hB : w.heap.size + 3 ≤ B) (ho : W.ownsRow B 67 4 yo os.length (os.flatMap opw)) :
    Af w (W.alloc (.cells #[.int .i64 q.inp, yo, .slice none 0 0] 25)) p q vo vu xo xu W.heap.size yo (.slice none 0 0) os [] := by
  have hA := alloc_below W (.cells #[.int .i64 q.inp, yo, .slice none 0 0] 25)
  refine ⟨hb.below hA, by have := (Array.getElem?_eq_some_iff.1 hb.r).1; omega, heap_alloc_new W _, own_mono (own_kept ho (below_own hA) (fun g _ => by simp)) hB, own_nil _ _ _ _⟩

theorem alloc2' (w : World) (A B : Obj) : ((w.drew.alloc A).alloc B).heap[w.heap.size]? = some A ∧ ((w.drew.alloc A).alloc B).heap[w.heap.size + 1]? = some B ∧ Below w.drew.heap.size w.drew ((w.drew.alloc A).alloc B) := alloc2 w.drew A B

theorem Bx.drew {w W : World} {p q : Pr} {vo vu xo xu r0 r1 r2 : Value} (h : Bx w W p q vo vu xo xu r0 r1 r2) : Bx w W.drew p q vo vu xo xu r0 r1 r2 := ⟨h.p, h.q, h.r, h.b.drew⟩

theorem Bx.size {w W : World} {p q : Pr} {vo vu xo xu r0 r1 r2 : Value} (h : Bx w W p q vo vu xo xu r0 r1 r2) : w.heap.size + 3 ≤ W.heap.size := by have := (Array.getElem?_eq_some_iff.1 h.r).1; omega

theorem Af.drew {w W : World} {p q : Pr} {vo vu xo xu : Value} {b6 : Nat} {yo yu : Value} {os : List O4} {us : List Int} (h : Af w W p q vo vu xo xu b6 yo yu os us) : Af w W.drew p q vo vu xo xu b6 yo yu os us := h.below (Below.refl _ W).drew

theorem cell_off (W : World) (g a b : Nat) (v : Value) (h : a ≠ b) : (W.setCell ⟨g, a, none⟩ v).cell? ⟨g, b, none⟩ = W.cell? ⟨g, b, none⟩ := by
  cases hg : W.heap[g]? with
  | none =>
    have h2 : (W.setCell ⟨g, a, none⟩ v).heap[g]? = none := by
      apply Array.getElem?_eq_none
      have : (W.setCell ⟨g, a, none⟩ v).heap.size = W.heap.size := by simp [World.setCell]
      rw [this]
      exact Nat.le_of_not_lt (fun hc => by rw [Array.getElem?_eq_getElem hc] at hg; cases hg)
    simp [World.cell?, hg, h2]
  | some o => simp [World.cell?, World.setCell, h, hg, Array.getElem?_modify]; cases o <;> simp [h]

theorem row_there {W : World} {base g n cap s : Nat} {T : TypeId} {xs : List Value} (h : W.ownsRow base T s (.slice (some ⟨g, 0, none⟩) n cap) n xs) {j : Nat} (hj : j < n * s) : (∃ c, W.cell? ⟨g, j, none⟩ = some c) ∧ W.frozen? ⟨g, j, none⟩ = false := by
  rcases h.2 with ⟨e, _⟩ | ⟨g', cap', cur, e, hb, hgb, hnc, hcm, hcs, htake⟩
  · cases e
  · cases e
    have h1 : j < cur.size := by
      rw [hcs]; exact Nat.lt_of_lt_of_le hj (Nat.mul_le_mul_right _ hnc)
    refine ⟨⟨cur[j], ?_⟩, Lib.frozen_of_heap hgb j⟩
    rw [Lib.cell_of_heap hgb, Array.getElem?_eq_getElem h1]

end Go.Proofs.Ytfbipnhhnmlhfab

