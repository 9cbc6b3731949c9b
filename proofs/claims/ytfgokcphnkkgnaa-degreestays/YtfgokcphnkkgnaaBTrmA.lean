/-
  Layer 10: a program that a call makes, step by step, beside blocks that stay.
-/
import Derived.Test.YtfgokcphnkkgnaaBArrA
import Derived.Test.YtfgokcphnkkgnaaBunY
import Derived.Test.YtfgokcphnkkgnaaBDegC
namespace Go.Proofs.Ytfgokcphnkkgnaa
open Go.RowKit Fld Slp
set_option linter.unusedVariables false
set_option linter.unusedSimpArgs false

/-- The program that came in lies at b0, the call's result at b1, what it makes at b7 with its rows: these from B on. -/
structure Tk (w W : World) (p : Pr) (vo vu : Value) (b0 b1 B b7 : Nat) (yo yu : Value) (os : List O4) (us : List Int) : Prop where
  lo : w.heap.size ≤ b0
  l1 : b0 < b1
  l2 : b1 < B
  l3 : B ≤ b7
  pb : W.heap[b0]? = some (.cells #[.int .i64 p.inp, vo, vu] 25 (0, 0))
  rb : W.heap[b1]? = some (.cells #[.int .i64 0, .slice none 0 0, .slice none 0 0] 25 (0, 0))
  blk : W.heap[b7]? = some (.cells #[.int .i64 p.inp, yo, yu] 25 (0, 0))
  ro : W.ownsRow B 52 4 yo os.length (os.flatMap opw)
  ru : W.ownsRow B 3 1 yu us.length (us.flatMap iw)
  bl : Below w.heap.size w W
theorem Ar.bel {α : Type} {f : α → Value} {T : TypeId} {n : Nat} {W W' : World} {g B : Nat} {xs : List α} (h : Ar f T n W g xs) (hb : Below B W W') (hg : g < B) : Ar f T n W' g xs := ⟨h.1, (hb.block g hg).trans h.2⟩
section
variable {w W W' : World} {p : Pr} {vo vu : Value} {b0 b1 B b7 : Nat} {yo yu : Value} {os : List O4} {us : List Int}
theorem Tk.size (h : Tk w W p vo vu b0 b1 B b7 yo yu os us) : B ≤ W.heap.size := by
  have := (Array.getElem?_eq_some_iff.1 h.blk).1
  have := h.l3
  omega
theorem Tk.below (h : Tk w W p vo vu b0 b1 B b7 yo yu os us) (hb : Below W.heap.size W W') : Tk w W' p vo vu b0 b1 B b7 yo yu os us :=
  ⟨h.lo, h.l1, h.l2, h.l3, (hb.block _ (Array.getElem?_eq_some_iff.1 h.pb).1).trans h.pb, (hb.block _ (Array.getElem?_eq_some_iff.1 h.rb).1).trans h.rb, (hb.block _ (Array.getElem?_eq_some_iff.1 h.blk).1).trans h.blk, own_kept h.ro (below_own hb) (fun g _ => by simp), own_kept h.ru (below_own hb) (fun g _ => by simp), Below.next h.bl hb⟩
/-- A cell of a block that is none of them. -/
theorem Tk.put (h : Tk w W p vo vu b0 b1 B b7 yo yu os us) {g : Nat} (h1 : b1 < g) (h2 : g < B) (k : Nat) (v : Value) : Tk w (W.setCell ⟨g, k, none⟩ v) p vo vu b0 b1 B b7 yo yu os us := by
  have hg := set1_grown W g k v
  have := h.l1
  have := h.l3
  have := h.lo
  refine ⟨h.lo, h.l1, h.l2, h.l3, (hg.block _ (Array.getElem?_eq_some_iff.1 h.pb).1 (fun e => by have := Option.some.inj e; omega)).trans h.pb, (hg.block _ (Array.getElem?_eq_some_iff.1 h.rb).1 (fun e => by have := Option.some.inj e; omega)).trans h.rb, (hg.block _ (Array.getElem?_eq_some_iff.1 h.blk).1 (fun e => by have := Option.some.inj e; omega)).trans h.blk, own_kept h.ro hg (fun r hr e => ?_), own_kept h.ru hg (fun r hr e => ?_), h.bl.setCell (p := ⟨g, k, none⟩) (by show w.heap.size ≤ g; omega) _⟩
  · have := own_base h.ro r hr
    have := Option.some.inj e
    omega
  · have := own_base h.ru r hr
    have := Option.some.inj e
    omega
/-- A step appended to what is made. -/
theorem Tk.op (h : Tk w W p vo vu b0 b1 B b7 yo yu os us) (a : Addr) (x : O4) (hc : ∀ j u, (opw x)[j]? = some u → W.cell? (a.add j) = some u) (hl : os.length < 256) :
    ∃ (au' : Option Addr) (cu' : Nat) (W' : World), (Builtin.append_ #[22, 22] 22 #[yo, .slice (some a) 1 1]).run Try.prog W = .ok (.slice au' (os.length + 1) cu') W' ∧ W'.cell? ⟨b7, 1, none⟩ = some yo ∧ W'.frozen? ⟨b7, 1, none⟩ = false ∧ Tk w (W'.setCell ⟨b7, 1, none⟩ (.slice au' (os.length + 1) cu')) p vo vu b0 b1 B b7 (.slice au' (os.length + 1) cu') yu (os ++ [x]) us ∧ Below B W (W'.setCell ⟨b7, 1, none⟩ (.slice au' (os.length + 1) cu')) := by
  obtain ⟨i0, hi0, hz0, hz1, hz2⟩ := info_parts op_info
  obtain ⟨v', W', hr, ho, hg, _, hb⟩ := run_append_own_at (P := Try.prog) (w := W) B 22 22 52 i0 (.agg #[.int .u8 0, .int .i64 0, .int .i64 0, .int .u64 0]) 4 32 Try.underlying22 hi0 hz0 hz1 hz2 rfl (by decide) yo os.length (os.flatMap opw) h.ro a 1 1 (opw x) rfl hc (by simp [opw, Value.oneCell']) (by unfold maxLen; omega) (by omega) h.size
  have hblk : W'.heap[b7]? = _ := (hg.block b7 (Array.getElem?_eq_some_iff.1 h.blk).1 (fun e => own_not h.ro h.blk (by decide) e.symm)).trans h.blk
  have hpb : W'.heap[b0]? = _ := (hg.block b0 (Array.getElem?_eq_some_iff.1 h.pb).1 (fun e => own_not h.ro h.pb (by decide) e.symm)).trans h.pb
  have hrb : W'.heap[b1]? = _ := (hg.block b1 (Array.getElem?_eq_some_iff.1 h.rb).1 (fun e => own_not h.ro h.rb (by decide) e.symm)).trans h.rb
  have hru : W'.ownsRow B 3 1 yu us.length (us.flatMap iw) := own_kept h.ru hg (fun g hg' => by
    obtain ⟨cs, hcs⟩ := own_blk h.ru hg'
    exact own_not h.ro hcs (by decide))
  have hset := set1_grown W' b7 1 v'
  have hfl : (os ++ [x]).flatMap opw = os.flatMap opw ++ opw x := by rw [List.flatMap_append]; simp
  have hln : (os ++ [x]).length = os.length + 1 := by simp
  obtain ⟨au', cu', rfl⟩ := own_slice ho
  have := h.l1
  have := h.l2
  have := h.l3
  have := h.lo
  have hsz := h.size
  have hBB : Below B W W' := (Below.refl B W).grown hg hsz (fun k e => own_base h.ro k e)
  have hBs : Below B W (W'.setCell ⟨b7, 1, none⟩ (.slice au' (os.length + 1) cu')) := hBB.setCell (p := ⟨b7, 1, none⟩) h.l3 _
  refine ⟨au', cu', W', hr, by rw [Lib.cell_of_heap hblk]; rfl, Lib.frozen_of_heap hblk 1, ⟨h.lo, h.l1, h.l2, h.l3, (hBs.block b0 (by omega)).trans h.pb, (hBs.block b1 (by omega)).trans h.rb, set_blk hblk 1 _, ?_, own_kept hru hset (fun g hg' e => own_not hru hblk (by decide) (hg'.trans e.symm)), h.bl.trans (hBs.mono (by omega))⟩, hBs⟩
  rw [hfl, hln]
  exact own_kept ho hset (fun g hg' e => own_not ho hblk (by decide) (hg'.trans e.symm))
/-- A number appended to its Outs. -/
theorem Tk.out (h : Tk w W p vo vu b0 b1 B b7 yo yu os us) (a : Addr) (x : Int) (hc : W.cell? a = some (.int .i64 x)) (hl : us.length ≤ 1000) :
    ∃ (au' : Option Addr) (cu' : Nat) (W' : World), (Builtin.append_ #[23, 23] 23 #[yu, .slice (some a) 1 1]).run Try.prog W = .ok (.slice au' (us.length + 1) cu') W' ∧ W'.cell? ⟨b7, 2, none⟩ = some yu ∧ W'.frozen? ⟨b7, 2, none⟩ = false ∧ Below B W W' ∧ Tk w (W'.setCell ⟨b7, 2, none⟩ (.slice au' (us.length + 1) cu')) p vo vu b0 b1 B b7 yo (.slice au' (us.length + 1) cu') os (us ++ [x]) ∧ Below B W (W'.setCell ⟨b7, 2, none⟩ (.slice au' (us.length + 1) cu')) := by
  obtain ⟨au', cu', W', hr, ho, hb, hg, hbk⟩ := appI1 W B yu us a x h.ru hc (by omega) h.size
  have hblk : W'.heap[b7]? = _ := (hg.block b7 (Array.getElem?_eq_some_iff.1 h.blk).1 (fun e => own_not h.ru h.blk (by decide) e.symm)).trans h.blk
  have hro : W'.ownsRow B 52 4 yo os.length (os.flatMap opw) := own_kept h.ro hg (fun g hg' => by
    obtain ⟨cs, hcs⟩ := own_blk h.ro hg'
    exact own_not h.ru hcs (by decide))
  have hset := set1_grown W' b7 2 (.slice au' (us.length + 1) cu')
  have := h.l1
  have := h.l2
  have := h.l3
  have := h.lo
  have hBs : Below B W (W'.setCell ⟨b7, 2, none⟩ (.slice au' (us.length + 1) cu')) := hb.setCell (p := ⟨b7, 2, none⟩) h.l3 _
  exact ⟨au', cu', W', hr, by rw [Lib.cell_of_heap hblk]; rfl, Lib.frozen_of_heap hblk 2, hb, ⟨h.lo, h.l1, h.l2, h.l3, (hBs.block b0 (by omega)).trans h.pb, (hBs.block b1 (by omega)).trans h.rb, set_blk hblk 2 _, own_kept hro hset (fun g hg' e => own_not hro hblk (by decide) (hg'.trans e.symm)), own_kept ho hset (fun g hg' e => own_not ho hblk (by decide) (hg'.trans e.symm)), h.bl.trans (hBs.mono (by omega))⟩, hBs⟩
/-- What is made is stored as the result. -/
theorem Tk.res (h : Tk w W p vo vu b0 b1 B b7 yo yu os us) : (((W.setCell ⟨b1, 0, none⟩ (.int .i64 p.inp)).setCell ⟨b1, 1, none⟩ yo).setCell ⟨b1, 2, none⟩ yu).heap[b1]? = some (.cells #[.int .i64 p.inp, yo, yu] 25 (0, 0)) ∧ (((W.setCell ⟨b1, 0, none⟩ (.int .i64 p.inp)).setCell ⟨b1, 1, none⟩ yo).setCell ⟨b1, 2, none⟩ yu).ownsRow w.heap.size 52 4 yo os.length (os.flatMap opw) ∧ (((W.setCell ⟨b1, 0, none⟩ (.int .i64 p.inp)).setCell ⟨b1, 1, none⟩ yo).setCell ⟨b1, 2, none⟩ yu).ownsRow w.heap.size 3 1 yu us.length (us.flatMap iw) ∧ Below w.heap.size w (((W.setCell ⟨b1, 0, none⟩ (.int .i64 p.inp)).setCell ⟨b1, 1, none⟩ yo).setCell ⟨b1, 2, none⟩ yu) := by
  have hg := set3_grown W b1 (.int .i64 p.inp) yo yu
  have := h.l1
  have := h.l2
  have := h.lo
  have hlt := (Array.getElem?_eq_some_iff.1 h.rb).1
  exact ⟨set_blk (set_blk (set_blk h.rb 0 _) 1 _) 2 _, own_mono (own_kept h.ro hg (fun g hg' e => own_not h.ro h.rb (by decide) (hg'.trans e.symm))) (by omega), own_mono (own_kept h.ru hg (fun g hg' e => own_not h.ru h.rb (by decide) (hg'.trans e.symm))) (by omega), h.bl.grown hg h.bl.size (fun k e => by cases e; omega)⟩
end

/-- What Trim answers. -/
def trE (p : Pr) : Int := if mayB p = true then 0 else 2
def trR (p : Pr) : Pr := if mayB p = true then trP p else pz
def IsTrim (N : Nat) (v : Value) (w : World) (p : Pr) : Prop :=
  Calls Try.prog N #[v] w fun e w' => ∃ vo vu, e = .returned (.tuple #[.agg #[.int .i64 (trR p).inp, vo, vu], .int .i64 (trE p)]) ∧ w'.ownsRow w.heap.size 52 4 vo (trR p).ops.length ((trR p).ops.flatMap opw) ∧ w'.ownsRow w.heap.size 3 1 vu (trR p).outs.length ((trR p).outs.flatMap iw) ∧ Below w.heap.size w w'

end Go.Proofs.Ytfgokcphnkkgnaa
