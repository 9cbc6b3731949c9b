/-
  Layer 9: After, the document's: a step and a number appended.
-/
import Derived.Test.YtjkialmhajbcfaaDoorBSlxF
namespace Go.Proofs.YtjkialmhajbcfaaDoor
open Go.RowKit Fld Slp
set_option linter.unusedVariables false
set_option linter.unusedSimpArgs false

theorem set1_grown (W : World) (g k : Nat) (v : Value) : W.grownBy (W.setCell ⟨g, k, none⟩ v) (some g) := ⟨rfl, rfl, rfl, (KeepsWalks.setCell W _ v).size, fun j _ hj => Below.heap_setCell _ _ _ j (fun e => hj (by rw [e]))⟩
theorem Ad.op {w W : World} {p q : Pr} {vo vu xo xu : Value} {b7 : Nat} {yo yu : Value} {os : List O4} {us : List Int} {vt : Value} {ts : List Int} (h : Ad w W p q vo vu xo xu b7 yo yu os us vt ts) (a : Addr) (x : O4) (hc : ∀ j u, (opw x)[j]? = some u → W.cell? (a.add j) = some u) (hl : os.length < 256) :
    ∃ (au' : Option Addr) (cu' : Nat) (W' : World), (Builtin.append_ #[22, 22] 22 #[yo, .slice (some a) 1 1]).run Tryd.prog W = .ok (.slice au' (os.length + 1) cu') W' ∧ W'.cell? ⟨b7, 1, none⟩ = some yo ∧ W'.frozen? ⟨b7, 1, none⟩ = false ∧ Ad w (W'.setCell ⟨b7, 1, none⟩ (.slice au' (os.length + 1) cu')) p q vo vu xo xu b7 (.slice au' (os.length + 1) cu') yu (os ++ [x]) us vt ts := by
  obtain ⟨i0, hi0, hz0, hz1, hz2⟩ := info_parts op_info
  obtain ⟨v', W', hr, ho, hg, _, hb⟩ := run_append_own_at (P := Tryd.prog) (w := W) (w.heap.size + 3) 22 22 47 i0 (.agg #[.int .u8 0, .int .i64 0, .int .i64 0, .int .u64 0]) 4 32 Tryd.underlying22 hi0 hz0 hz1 hz2 rfl (by decide) yo os.length (os.flatMap opw) h.af.ro a 1 1 (opw x) rfl hc (by simp [opw, Value.oneCell']) (by unfold maxLen; omega) (by omega) h.af.size
  have hblk : W'.heap[b7]? = _ := (hg.block b7 (Array.getElem?_eq_some_iff.1 h.af.blk).1 (fun e => own_not h.af.ro h.af.blk (by decide) e.symm)).trans h.af.blk
  have hru : W'.ownsRow (w.heap.size + 3) 3 1 yu us.length (us.flatMap iw) := own_kept h.af.ru hg (fun g hg' => by
    obtain ⟨cs, hcs⟩ := own_blk h.af.ru hg'
    exact own_not h.af.ro hcs (by decide))
  have hrt : W'.ownsRow (w.heap.size + 3) 3 1 vt ts.length (ts.flatMap iw) := own_kept h.rt hg (fun g hg' => by
    obtain ⟨cs, hcs⟩ := own_blk h.rt hg'
    exact own_not h.af.ro hcs (by decide))
  have hset := set1_grown W' b7 1 v'
  have hfl : (os ++ [x]).flatMap opw = os.flatMap opw ++ opw x := by rw [List.flatMap_append]; simp
  have hln : (os ++ [x]).length = os.length + 1 := by simp
  obtain ⟨au', cu', rfl⟩ := own_slice ho
  have hbx := h.af.bx.grown hg (fun k e => by have := own_base h.af.ro k e; omega)
  refine ⟨au', cu', W', hr, by rw [Lib.cell_of_heap hblk]; rfl, Lib.frozen_of_heap hblk 1, ⟨⟨hbx.grown hset (fun k e => by cases e; exact h.af.big), h.af.big, set_blk hblk 1 _, ?_, own_kept hru hset (fun g hg' e => own_not hru hblk (by decide) (hg'.trans e.symm))⟩, own_kept hrt hset (fun g hg' e => own_not hrt hblk (by decide) (hg'.trans e.symm)), h.ne⟩⟩
  rw [hfl, hln]
  exact own_kept ho hset (fun g hg' e => own_not ho hblk (by decide) (hg'.trans e.symm))
theorem Ad.out {w W : World} {p q : Pr} {vo vu xo xu : Value} {b7 : Nat} {yo yu : Value} {os : List O4} {us : List Int} {vt : Value} {ts : List Int} (h : Ad w W p q vo vu xo xu b7 yo yu os us vt ts) (a : Addr) (x : Int) (hc : W.cell? a = some (.int .i64 x)) (hl : us.length < 64) :
    ∃ (au' : Option Addr) (cu' : Nat) (W' : World), (Builtin.append_ #[23, 23] 23 #[yu, .slice (some a) 1 1]).run Tryd.prog W = .ok (.slice au' (us.length + 1) cu') W' ∧ W'.cell? ⟨b7, 2, none⟩ = some yu ∧ W'.frozen? ⟨b7, 2, none⟩ = false ∧ Bx w W' p q vo vu xo xu (.int .i64 0) (.slice none 0 0) (.slice none 0 0) ∧ W'.ownsRow (w.heap.size + 3) 3 1 vt ts.length (ts.flatMap iw) ∧ Ad w (W'.setCell ⟨b7, 2, none⟩ (.slice au' (us.length + 1) cu')) p q vo vu xo xu b7 yo (.slice au' (us.length + 1) cu') os (us ++ [x]) vt ts := by
  obtain ⟨au', cu', W', hr, ho, hb, hg, hbk⟩ := appI1 W (w.heap.size + 3) yu us a x h.af.ru hc (by omega) h.af.size
  have hblk : W'.heap[b7]? = _ := (hg.block b7 (Array.getElem?_eq_some_iff.1 h.af.blk).1 (fun e => own_not h.af.ru h.af.blk (by decide) e.symm)).trans h.af.blk
  have hro : W'.ownsRow (w.heap.size + 3) 47 4 yo os.length (os.flatMap opw) := own_kept h.af.ro hg (fun g hg' => by
    obtain ⟨cs, hcs⟩ := own_blk h.af.ro hg'
    exact own_not h.af.ru hcs (by decide))
  have hrt : W'.ownsRow (w.heap.size + 3) 3 1 vt ts.length (ts.flatMap iw) := own_kept h.rt hg (fun g hg' e => h.ne g hg' e)
  have hset := set1_grown W' b7 2 (.slice au' (us.length + 1) cu')
  have hbx := h.af.bx.grown hg (fun k e => by have := own_base h.af.ru k e; omega)
  refine ⟨au', cu', W', hr, by rw [Lib.cell_of_heap hblk]; rfl, Lib.frozen_of_heap hblk 2, hbx, hrt, ⟨⟨hbx.grown hset (fun k e => by cases e; exact h.af.big), h.af.big, set_blk hblk 2 _, own_kept hro hset (fun g hg' e => own_not hro hblk (by decide) (hg'.trans e.symm)), own_kept ho hset (fun g hg' e => own_not ho hblk (by decide) (hg'.trans e.symm))⟩, own_kept hrt hset (fun g hg' e => own_not hrt hblk (by decide) (hg'.trans e.symm)), fun g hg' e => ?_⟩⟩
  rcases hbk with hbk | hbk
  · rw [hbk] at e; exact h.ne g hg' e
  · rw [hbk] at e
    have e1 := Option.some.inj e
    have := own_top h.rt g hg'
    omega

end Go.Proofs.YtjkialmhajbcfaaDoor
