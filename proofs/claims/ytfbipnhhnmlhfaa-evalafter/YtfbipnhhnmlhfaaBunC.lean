/- Texts laid together: TrmA, TrmB, TrmE. -/
import Derived.Test.YtfbipnhhnmlhfaaBunG
import Derived.Test.YtfbipnhhnmlhfaaBunY
import Derived.Test.YtfbipnhhnmlhfaaBunD
namespace Go.Proofs.Ytfbipnhhnmlhfaa
open Go.RowKit Fld Slp
set_option linter.unusedVariables false
set_option linter.unusedSimpArgs false

/-- The program that came in lies at b0, the call's result at b1, what it makes at b7 with its rows: these from B on. -/
structure Tk (w W : World) (p : Pr) (vo vu : Value) (b0 b1 B b7 : Nat) (yo yu : Value) (os : List O4) (us : List Int) : Prop where
  lo : w.heap.size ≤ b0
  l1 : b0 < b1
  l2 : b1 < B
  l3 : B ≤ b7
  pb : W.heap[b0]? = some (.cells #[.int .i64 p.inp, vo, vu] 25 (0, 0))
  rb : W.heap[b1]? = some (.cells #[.int .i64 0, .slice none 0 0, .slice none 0 0] 25 (0, 0))
  blk : W.heap[b7]? = some (.cells #[.int .i64 p.inp, yo, yu] 25 (0, 0))
  ro : W.ownsRow B 68 4 yo os.length (os.flatMap opw)
  ru : W.ownsRow B 3 1 yu us.length (us.flatMap iw)
  bl : Below w.heap.size w W
theorem Ar.bel {α : Type} {f : α → Value} {T : TypeId} {n : Nat} {W W' : World} {g B : Nat} {xs : List α} (h : Ar f T n W g xs) (hb : Below B W W') (hg : g < B) : Ar f T n W' g xs := ⟨h.1, (hb.block g hg).trans h.2⟩
section
variable {w W W' : World} {p : Pr} {vo vu : Value} {b0 b1 B b7 : Nat} {yo yu : Value} {os : List O4} {us : List Int}
theorem Tk.size (h : Tk w W p vo vu b0 b1 B b7 yo yu os us) : B ≤ W.heap.size := by
  have := (Array.getElem?_eq_some_iff.1 h.blk).1
  have := h.l3
  omega
theorem Tk.below (h : Tk w W p vo vu b0 b1 B b7 yo yu os us) (hb : Below W.heap.size W W') : Tk w W' p vo vu b0 b1 B b7 yo yu os us :=
  ⟨h.lo, h.l1, h.l2, h.l3, (hb.block _ (Array.getElem?_eq_some_iff.1 h.pb).1).trans h.pb, (hb.block _ (Array.getElem?_eq_some_iff.1 h.rb).1).trans h.rb, (hb.block _ (Array.getElem?_eq_some_iff.1 h.blk).1).trans h.blk, own_kept h.ro (below_own hb) (fun g _ => by simp), own_kept h.ru (below_own hb) (fun g _ => by simp), Below.next h.bl hb⟩
/-- A cell of a block that is none of them. -/
theorem Tk.put (h : Tk w W p vo vu b0 b1 B b7 yo yu os us) {g : Nat} (h1 : b1 < g) (h2 : g < B) (k : Nat) (v : Value) : Tk w (W.setCell ⟨g, k, none⟩ v) p vo vu b0 b1 B b7 yo yu os us := by
  have hg := set1_grown W g k v
  have := h.l1
  have := h.l3
  have := h.lo
  refine ⟨h.lo, h.l1, h.l2, h.l3, (hg.block _ (Array.getElem?_eq_some_iff.1 h.pb).1 (fun e => by have := Option.some.inj e; omega)).trans h.pb, (hg.block _ (Array.getElem?_eq_some_iff.1 h.rb).1 (fun e => by have := Option.some.inj e; omega)).trans h.rb, (hg.block _ (Array.getElem?_eq_some_iff.1 h.blk).1 (fun e => by have := Option.some.inj e; omega)).trans h.blk, own_kept h.ro hg (fun r hr e => ?_), own_kept h.ru hg (fun r hr e => ?_), h.bl.setCell (p := ⟨g, k, none⟩) (by show w.heap.size ≤ g; omega) _⟩
  · have := own_base h.ro r hr
    have := Option.some.inj e
    omega
  · have := own_base h.ru r hr
    have := Option.some.inj e
    omega
/-- A step appended to what is made. -/
theorem Tk.op (h : Tk w W p vo vu b0 b1 B b7 yo yu os us) (a : Addr) (x : O4) (hc : ∀ j u, (opw x)[j]? = some u → W.cell? (a.add j) = some u) (hl : os.length < 256) :
    ∃ (au' : Option Addr) (cu' : Nat) (W' : World), (Builtin.append_ #[22, 22] 22 #[yo, .slice (some a) 1 1]).run Try.prog W = .ok (.slice au' (os.length + 1) cu') W' ∧ W'.cell? ⟨b7, 1, none⟩ = some yo ∧ W'.frozen? ⟨b7, 1, none⟩ = false ∧ Tk w (W'.setCell ⟨b7, 1, none⟩ (.slice au' (os.length + 1) cu')) p vo vu b0 b1 B b7 (.slice au' (os.length + 1) cu') yu (os ++ [x]) us ∧ Below B W (W'.setCell ⟨b7, 1, none⟩ (.slice au' (os.length + 1) cu')) := by
  obtain ⟨i0, hi0, hz0, hz1, hz2⟩ := info_parts op_info
  obtain ⟨v', W', hr, ho, hg, _, hb⟩ := run_append_own_at (P := Try.prog) (w := W) B 22 22 68 i0 (.agg #[.int .u8 0, .int .i64 0, .int .i64 0, .int .u64 0]) 4 32 Try.underlying22 hi0 hz0 hz1 hz2 rfl (by decide) yo os.length (os.flatMap opw) h.ro a 1 1 (opw x) rfl hc (by simp [opw, Value.oneCell']) (by unfold maxLen; omega) (by omega) h.size
  have hblk : W'.heap[b7]? = _ := (hg.block b7 (Array.getElem?_eq_some_iff.1 h.blk).1 (fun e => own_not h.ro h.blk (by decide) e.symm)).trans h.blk
  have hpb : W'.heap[b0]? = _ := (hg.block b0 (Array.getElem?_eq_some_iff.1 h.pb).1 (fun e => own_not h.ro h.pb (by decide) e.symm)).trans h.pb
  have hrb : W'.heap[b1]? = _ := (hg.block b1 (Array.getElem?_eq_some_iff.1 h.rb).1 (fun e => own_not h.ro h.rb (by decide) e.symm)).trans h.rb
  have hru : W'.ownsRow B 3 1 yu us.length (us.flatMap iw) := own_kept h.ru hg (fun g hg' => by
    obtain ⟨cs, hcs⟩ := own_blk h.ru hg'
    exact own_not h.ro hcs (by decide))
  have hset := set1_grown W' b7 1 v'
  have hfl : (os ++ [x]).flatMap opw = os.flatMap opw ++ opw x := by rw [List.flatMap_append]; simp
  have hln : (os ++ [x]).length = os.length + 1 := by simp
  obtain ⟨au', cu', rfl⟩ := own_slice ho
  have := h.l1
  have := h.l2
  have := h.l3
  have := h.lo
  have hsz := h.size
  have hBB : Below B W W' := (Below.refl B W).grown hg hsz (fun k e => own_base h.ro k e)
  have hBs : Below B W (W'.setCell ⟨b7, 1, none⟩ (.slice au' (os.length + 1) cu')) := hBB.setCell (p := ⟨b7, 1, none⟩) h.l3 _
  refine ⟨au', cu', W', hr, by rw [Lib.cell_of_heap hblk]; rfl, Lib.frozen_of_heap hblk 1, ⟨h.lo, h.l1, h.l2, h.l3, (hBs.block b0 (by omega)).trans h.pb, (hBs.block b1 (by omega)).trans h.rb, set_blk hblk 1 _, ?_, own_kept hru hset (fun g hg' e => own_not hru hblk (by decide) (hg'.trans e.symm)), h.bl.trans (hBs.mono (by omega))⟩, hBs⟩
  rw [hfl, hln]
  exact own_kept ho hset (fun g hg' e => own_not ho hblk (by decide) (hg'.trans e.symm))
/-- A number appended to its Outs. -/
theorem Tk.out (h : Tk w W p vo vu b0 b1 B b7 yo yu os us) (a : Addr) (x : Int) (hc : W.cell? a = some (.int .i64 x)) (hl : us.length ≤ 1000) :
    ∃ (au' : Option Addr) (cu' : Nat) (W' : World), (Builtin.append_ #[23, 23] 23 #[yu, .slice (some a) 1 1]).run Try.prog W = .ok (.slice au' (us.length + 1) cu') W' ∧ W'.cell? ⟨b7, 2, none⟩ = some yu ∧ W'.frozen? ⟨b7, 2, none⟩ = false ∧ Below B W W' ∧ Tk w (W'.setCell ⟨b7, 2, none⟩ (.slice au' (us.length + 1) cu')) p vo vu b0 b1 B b7 yo (.slice au' (us.length + 1) cu') os (us ++ [x]) ∧ Below B W (W'.setCell ⟨b7, 2, none⟩ (.slice au' (us.length + 1) cu')) := by
  obtain ⟨au', cu', W', hr, ho, hb, hg, hbk⟩ := appI1 W B yu us a x h.ru hc (by omega) h.size
  have hblk : W'.heap[b7]? = _ := (hg.block b7 (Array.getElem?_eq_some_iff.1 h.blk).1 (fun e => own_not h.ru h.blk (by decide) e.symm)).trans h.blk
  have hro : W'.ownsRow B 68 4 yo os.length (os.flatMap opw) := own_kept h.ro hg (fun g hg' => by
    obtain ⟨cs, hcs⟩ := own_blk h.ro hg'
    exact own_not h.ru hcs (by decide))
  have hset := set1_grown W' b7 2 (.slice au' (us.length + 1) cu')
  have := h.l1
  have := h.l2
  have := h.l3
  have := h.lo
  have hBs : Below B W (W'.setCell ⟨b7, 2, none⟩ (.slice au' (us.length + 1) cu')) := hb.setCell (p := ⟨b7, 2, none⟩) h.l3 _
  exact ⟨au', cu', W', hr, by rw [Lib.cell_of_heap hblk]; rfl, Lib.frozen_of_heap hblk 2, hb, ⟨h.lo, h.l1, h.l2, h.l3, (hBs.block b0 (by omega)).trans h.pb, (hBs.block b1 (by omega)).trans h.rb, set_blk hblk 2 _, own_kept hro hset (fun g hg' e => own_not hro hblk (by decide) (hg'.trans e.symm)), own_kept ho hset (fun g hg' e => own_not ho hblk (by decide) (hg'.trans e.symm)), h.bl.trans (hBs.mono (by omega))⟩, hBs⟩
/-- What is made is stored as the result. -/
theorem Tk.res (h : Tk w W p vo vu b0 b1 B b7 yo yu os us) : (((W.setCell ⟨b1, 0, none⟩ (.int .i64 p.inp)).setCell ⟨b1, 1, none⟩ yo).setCell ⟨b1, 2, none⟩ yu).heap[b1]? = some (.cells #[.int .i64 p.inp, yo, yu] 25 (0, 0)) ∧ (((W.setCell ⟨b1, 0, none⟩ (.int .i64 p.inp)).setCell ⟨b1, 1, none⟩ yo).setCell ⟨b1, 2, none⟩ yu).ownsRow w.heap.size 68 4 yo os.length (os.flatMap opw) ∧ (((W.setCell ⟨b1, 0, none⟩ (.int .i64 p.inp)).setCell ⟨b1, 1, none⟩ yo).setCell ⟨b1, 2, none⟩ yu).ownsRow w.heap.size 3 1 yu us.length (us.flatMap iw) ∧ Below w.heap.size w (((W.setCell ⟨b1, 0, none⟩ (.int .i64 p.inp)).setCell ⟨b1, 1, none⟩ yo).setCell ⟨b1, 2, none⟩ yu) := by
  have hg := set3_grown W b1 (.int .i64 p.inp) yo yu
  have := h.l1
  have := h.l2
  have := h.lo
  have hlt := (Array.getElem?_eq_some_iff.1 h.rb).1
  exact ⟨set_blk (set_blk (set_blk h.rb 0 _) 1 _) 2 _, own_mono (own_kept h.ro hg (fun g hg' e => own_not h.ro h.rb (by decide) (hg'.trans e.symm))) (by omega), own_mono (own_kept h.ru hg (fun g hg' e => own_not h.ru h.rb (by decide) (hg'.trans e.symm))) (by omega), h.bl.grown hg h.bl.size (fun k e => by cases e; omega)⟩
end

/-- What Trim answers. -/
def trE (p : Pr) : Int := if mayB p = true then 0 else 2
def trR (p : Pr) : Pr := if mayB p = true then trP p else pz
def IsTrim (N : Nat) (v : Value) (w : World) (p : Pr) : Prop :=
  Calls Try.prog N #[v] w fun e w' => ∃ vo vu, e = .returned (.tuple #[.agg #[.int .i64 (trR p).inp, vo, vu], .int .i64 (trE p)]) ∧ w'.ownsRow w.heap.size 68 4 vo (trR p).ops.length ((trR p).ops.flatMap opw) ∧ w'.ownsRow w.heap.size 3 1 vu (trR p).outs.length ((trR p).outs.flatMap iw) ∧ Below w.heap.size w w'

end Go.Proofs.Ytfbipnhhnmlhfaa

namespace Go.Proofs.Ytfbipnhhnmlhfaa
open Go.RowKit Fld Slp
set_option linter.unusedVariables false
set_option linter.unusedSimpArgs false

/-- Ahead of what is made: the program, the result, the marks, the places. -/
structure Pk (w W : World) (p : Pr) (vo vu : Value) (b0 b1 gm gp : Nat) (xs : List Int) : Prop where
  lo : w.heap.size ≤ b0
  l1 : b0 < b1
  l2 : b1 < gm
  l3 : gm < gp
  pb : W.heap[b0]? = some (.cells #[.int .i64 p.inp, vo, vu] 25 (0, 0))
  rb : W.heap[b1]? = some (.cells #[.int .i64 0, .slice none 0 0, .slice none 0 0] 25 (0, 0))
  ma : Ar Value.bool 93 320 W gm (ar9 false (wtd p))
  pl : Ar (Value.int .i64) 95 320 W gp xs
  bl : Below w.heap.size w W
theorem Pk.set {w W : World} {p : Pr} {vo vu : Value} {b0 b1 gm gp : Nat} {xs : List Int} (h : Pk w W p vo vu b0 b1 gm gp xs) (k : Nat) (x : Int) : Pk w (W.setCell ⟨gp, k, none⟩ (.int .i64 x)) p vo vu b0 b1 gm gp (xs.set k x) := by
  have := h.l1
  have := h.l2
  have := h.l3
  have := h.lo
  exact ⟨h.lo, h.l1, h.l2, h.l3, (Below.heap_setCell _ _ _ b0 (by show b0 ≠ gp; omega)).trans h.pb, (Below.heap_setCell _ _ _ b1 (by show b1 ≠ gp; omega)).trans h.rb, h.ma.other (by omega) k _, h.pl.set k x, h.bl.setCell (p := ⟨gp, k, none⟩) (by show w.heap.size ≤ gp; omega) _⟩
theorem tk_new {w W : World} {p : Pr} {vo vu : Value} {b0 b1 gm gp : Nat} {xs : List Int} (h : Pk w W p vo vu b0 b1 gm gp xs) : Tk w (W.alloc (.cells #[.int .i64 p.inp, .slice none 0 0, .slice none 0 0] 25)) p vo vu b0 b1 W.heap.size W.heap.size (.slice none 0 0) (.slice none 0 0) [] [] := by
  have hA := alloc_below W (.cells #[.int .i64 p.inp, .slice none 0 0, .slice none 0 0] 25)
  have := h.pl.lt
  have := h.l2
  have := h.l3
  exact ⟨h.lo, h.l1, by omega, Nat.le_refl _, (hA.block _ (Array.getElem?_eq_some_iff.1 h.pb).1).trans h.pb, (hA.block _ (Array.getElem?_eq_some_iff.1 h.rb).1).trans h.rb, heap_alloc_last W _, own_nil _ _ _ _, own_nil _ _ _ _, Below.next h.bl hA⟩
/-- The places hold what is wanted of them. -/
def Pp (p : Pr) (n j : Nat) (xs : List Int) : Prop := ∀ v, v < n + j → (v < n ∨ (wtd p).getD v false = true) → xs.getD v 0 = (trS p j).1.getD v 0
theorem seti_get (l : List Int) (k v : Nat) (x : Int) (hk : k < l.length) : (l.set k x).getD v 0 = if v = k then x else l.getD v 0 := by
  rw [List.getD_eq_getElem?_getD, List.getElem?_set]
  by_cases h : v = k
  · subst h; simp [hk]
  · rw [if_neg (fun e => h e.symm), if_neg h, ← List.getD_eq_getElem?_getD]
theorem Pp.no {p : Pr} {n j : Nat} {xs : List Int} (h : Pp p n j xs) (hn : p.inp.toNat = n) (hw : (wtd p).getD (n + j) false = false) : Pp p n (j + 1) xs := by
  intro v hv hc
  by_cases e : v = n + j
  · subst e
    rcases hc with hc | hc
    · omega
    · rw [hw] at hc; cases hc
  · rw [h v (by omega) hc, ← trS_at p (i := j) (n := j + 1) (by omega) (by omega)]
theorem Pp.yes {p : Pr} {n j : Nat} {xs : List Int} (h : Pp p n j xs) (hn : p.inp.toNat = n) (hl : n + j < xs.length) (hw : (wtd p).getD (n + j) false = true) : Pp p n (j + 1) (xs.set (n + j) (p.inp + ((trS p j).2.length : Int))) := by
  intro v hv hc
  rw [seti_get _ _ _ _ hl]
  by_cases e : v = n + j
  · subst e
    rw [if_pos rfl, ← hn, trS_step (by omega) (by rw [hn]; exact hw)]
  · rw [if_neg e, h v (by omega) hc, ← trS_at p (i := j) (n := j + 1) (by omega) (by omega)]
theorem Pp.zero {p : Pr} {n : Nat} (hn : p.inp.toNat = n) : Pp p n 0 (ar9 0 ((List.range n).map (fun i : Nat => (i : Int)))) := by
  intro v hv _
  rw [ar9_get, trS_low p (by omega), List.getD_eq_getElem?_getD]
  have : v < n := by omega
  simp [this]
theorem range_next (n : Nat) : (List.range (n + 1)).map (fun i : Nat => (i : Int)) = (List.range n).map (fun i : Nat => (i : Int)) ++ [(n : Int)] := by rw [List.range_succ]; simp
/-- A step that is written over at its two places. -/
theorem op_set2 {W : World} {g : Nat} {k a b c : Value} (h : W.heap[g]? = some (.cells #[k, a, b, c] 68 (0, 0))) (x y : Value) : ((W.setCell ⟨g, 1, none⟩ x).setCell ⟨g, 2, none⟩ y).heap[g]? = some (.cells #[k, x, y, c] 68 (0, 0)) := set_blk (set_blk h 1 x) 2 y
theorem op_cells {W : World} {g : Nat} {x : O4} (h : W.heap[g]? = some (.cells #[.int .u8 x.k, .int .i64 x.a, .int .i64 x.b, .int .u64 x.c] 68 (0, 0))) : ∀ j u, (opw x)[j]? = some u → W.cell? ((⟨g, 0, none⟩ : Addr).add j) = some u := fun j u hj => by
  rw [Addr.add]
  obtain ⟨c0, c1, c2, c3⟩ := cell4 h
  match j, hj with
  | 0, hj => simp [opw] at hj; subst hj; exact c0
  | 1, hj => simp [opw] at hj; subst hj; exact c1
  | 2, hj => simp [opw] at hj; subst hj; exact c2
  | 3, hj => simp [opw] at hj; subst hj; exact c3
  | j + 4, hj => simp [opw] at hj
theorem trs_two (p : Pr) (i : Nat) (h : i < p.ops.length) (hw : (wtd p).getD (p.inp.toNat + i) false = true) : (trS p (i + 1)).2 = (trS p i).2 ++ [shO (trS p i).1 p.ops[i]] := by
  have e : p.ops.getD i ⟨0, 0, 0, 0⟩ = p.ops[i] := by rw [List.getD_eq_getElem?_getD, List.getElem?_eq_getElem h]; rfl
  rw [trS_yes hw, e]
theorem trs_two_no (p : Pr) (i : Nat) (hw : (wtd p).getD (p.inp.toNat + i) false = false) : (trS p (i + 1)).2 = (trS p i).2 := by rw [trS_no (by rw [hw]; simp)]
/-- The Outs when so many are there. -/
def ouJ (p : Pr) (j : Nat) : List Int := (p.outs.take j).map (fun v => (trS p p.ops.length).1.getD v.toNat 0)
theorem ouJ_next (p : Pr) {j : Nat} (h : j < p.outs.length) : ouJ p (j + 1) = ouJ p j ++ [(trS p p.ops.length).1.getD p.outs[j].toNat 0] := by
  unfold ouJ; rw [List.take_succ_eq_append_getElem h, List.map_append, List.map_singleton]
theorem ouJ_len (p : Pr) {j : Nat} (h : j ≤ p.outs.length) : (ouJ p j).length = j := by unfold ouJ; rw [List.length_map, List.length_take]; omega
theorem ouJ_end (p : Pr) : ouJ p p.outs.length = (trP p).outs := by unfold ouJ trP; rw [List.take_length]

end Go.Proofs.Ytfbipnhhnmlhfaa

namespace Go.Proofs.Ytfbipnhhnmlhfaa
open Go.RowKit Fld Slp
set_option linter.unusedVariables false
set_option linter.unusedSimpArgs false

/-- What Trim answers is a program in memory. -/
theorem tr_pm {w w' : World} {v vo vu : Value} {p : Pr} {B : Nat} (h : Pm w v p) (ho : w'.ownsRow B 68 4 vo (trR p).ops.length ((trR p).ops.flatMap opw)) (hu : w'.ownsRow B 3 1 vu (trR p).outs.length ((trR p).outs.flatMap iw)) : Pm w' (.agg #[.int .i64 (trR p).inp, vo, vu]) (trR p) := by
  cases hm : mayB p with
  | true =>
    have e : trR p = trP p := by unfold trR; rw [if_pos hm]
    rw [e] at ho hu ⊢
    obtain ⟨⟨i0, i1, l1, l2⟩, mo, mu⟩ := mayB_iff.1 hm
    obtain ⟨⟨j0, j1, k1, k2⟩, qo, qu⟩ := mayB_iff.1 (tr_may hm)
    refine ⟨⟨vo, vu, rfl, lm_of_own opw_len (by decide) ho (by omega), lm_of_own iw_len (by decide) hu (by omega)⟩, by omega, ?_, ?_⟩
    · intro o hoo
      obtain ⟨j, hj, rfl⟩ := List.mem_iff_getElem.1 hoo
      obtain ⟨i, h1, h2, h3⟩ := trS_from p p.ops.length j hj
      subst h3
      obtain ⟨hl, e2⟩ := trS_get h1 h1 h2
      have e3 : (trP p).ops[(trS p i).2.length]'hj = shO (trS p i).1 p.ops[i] := e2
      have hop := opsM_get (trP p).inp (trP p).ops 0 _ hj qo
      have ok := h.okb p.ops[i] (List.getElem_mem h1)
      rw [e3] at hop ⊢
      rw [Nat.zero_add] at hop
      unfold shO at hop ⊢
      by_cases h4 : p.ops[i].k = 4
      · rw [if_pos h4]; exact ok
      · rw [if_neg h4] at hop ⊢
        have hin : (trP p).inp = p.inp := rfl
        have hl2 := (trS_len p i).2
        unfold opM at hop
        split at hop
        · have := of_decide_eq_true hop
          dsimp only at this
          exact ⟨ok.1, by dsimp only; omega, by dsimp only; omega, ok.2.2.2⟩
        · first | (cases hop; done) | (rw [if_neg (by exact h4)] at hop; cases hop)
    · intro x hx
      have := of_decide_eq_true (List.all_eq_true.1 qu x hx)
      have hin : (trP p).inp = p.inp := rfl
      omega
  | false =>
    have e : trR p = pz := by unfold trR; rw [hm]; rfl
    rw [e] at ho hu ⊢
    exact ⟨⟨vo, vu, rfl, lm_of_own opw_len (by decide) ho (by decide), lm_of_own iw_len (by decide) hu (by decide)⟩, by decide, (fun o ho => by cases ho), (fun x hx => by cases hx)⟩

end Go.Proofs.Ytfbipnhhnmlhfaa

