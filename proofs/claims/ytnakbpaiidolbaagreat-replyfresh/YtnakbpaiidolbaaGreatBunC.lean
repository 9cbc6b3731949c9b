import Derived.Test.YtnakbpaiidolbaaGreatBunG
import Derived.Test.YtnakbpaiidolbaaGreatBMemB
import Derived.Test.YtnakbpaiidolbaaGreatBunS
import Derived.Test.YtnakbpaiidolbaaGreatBQMute
import Derived.Test.YtnakbpaiidolbaaGreatBTkA
namespace Go.Proofs.YtnakbpaiidolbaaGreat
open Go.RowKit Fld Slp
set_option linter.unusedVariables false
set_option linter.unusedSimpArgs false
structure Tk (w W : World) (p : Pr) (vo vu : Value) (b0 b1 B b7 : Nat) (yo yu : Value) (os : List O4) (us : List Int) : Prop where
 lo : w.heap.size ≤ b0
 l1 : b0 < b1
 l2 : b1 < B
 l3 : B ≤ b7
 pb : W.heap[b0]? = some (.cells #[.int .i64 p.inp, vo, vu] 28 (0, 0))
 rb : W.heap[b1]? = some (.cells #[.int .i64 0, .slice none 0 0, .slice none 0 0] 28 (0, 0))
 blk : W.heap[b7]? = some (.cells #[.int .i64 p.inp, yo, yu] 28 (0, 0))
 ro : W.ownsRow B 78 4 yo os.length (os.flatMap opw)
 ru : W.ownsRow B 3 1 yu us.length (us.flatMap iw)
 bl : Below w.heap.size w W
theorem Ar.bel {α : Type} {f : α → Value} {T : TypeId} {n : Nat} {W W' : World} {g B : Nat} {xs : List α} (h : Ar f T n W g xs) (hb : Below B W W') (hg : g < B) : Ar f T n W' g xs := ⟨h.1, (hb.block g hg).trans h.2⟩
section
variable {w W W' : World} {p : Pr} {vo vu : Value} {b0 b1 B b7 : Nat} {yo yu : Value} {os : List O4} {us : List Int}
theorem Tk.size (h : Tk w W p vo vu b0 b1 B b7 yo yu os us) : B ≤ W.heap.size := by
 have := (Array.getElem?_eq_some_iff.1 h.blk).1
 have := h.l3
 omega
theorem Tk.below (h : Tk w W p vo vu b0 b1 B b7 yo yu os us) (hb : Below W.heap.size W W') : Tk w W' p vo vu b0 b1 B b7 yo yu os us :=
 ⟨h.lo, h.l1, h.l2, h.l3, (hb.block _ (Array.getElem?_eq_some_iff.1 h.pb).1).trans h.pb, (hb.block _ (Array.getElem?_eq_some_iff.1 h.rb).1).trans h.rb, (hb.block _ (Array.getElem?_eq_some_iff.1 h.blk).1).trans h.blk, own_kept h.ro (below_own hb) (fun g _ => by simp), own_kept h.ru (below_own hb) (fun g _ => by simp), Below.next h.bl hb⟩
theorem Tk.put (h : Tk w W p vo vu b0 b1 B b7 yo yu os us) {g : Nat} (h1 : b1 < g) (h2 : g < B) (k : Nat) (v : Value) : Tk w (W.setCell ⟨g, k, none⟩ v) p vo vu b0 b1 B b7 yo yu os us := by
 have hg := set1_grown W g k v
 have := h.l1
 have := h.l3
 have := h.lo
 refine ⟨h.lo, h.l1, h.l2, h.l3, (hg.block _ (Array.getElem?_eq_some_iff.1 h.pb).1 (fun e => by have := Option.some.inj e; omega)).trans h.pb, (hg.block _ (Array.getElem?_eq_some_iff.1 h.rb).1 (fun e => by have := Option.some.inj e; omega)).trans h.rb, (hg.block _ (Array.getElem?_eq_some_iff.1 h.blk).1 (fun e => by have := Option.some.inj e; omega)).trans h.blk, own_kept h.ro hg (fun r hr e => ?_), own_kept h.ru hg (fun r hr e => ?_), h.bl.setCell (p := ⟨g, k, none⟩) (by show w.heap.size ≤ g; omega) _⟩
 · have := own_base h.ro r hr
   have := Option.some.inj e
   omega
 · have := own_base h.ru r hr
   have := Option.some.inj e
   omega
theorem Tk.op (h : Tk w W p vo vu b0 b1 B b7 yo yu os us) (a : Addr) (x : O4) (hc : ∀ j u, (opw x)[j]? = some u → W.cell? (a.add j) = some u) (hl : os.length < 256) :
 ∃ (au' : Option Addr) (cu' : Nat) (W' : World), (Builtin.append_ #[25, 25] 25 #[yo, .slice (some a) 1 1]).run Tryz.prog W = .ok (.slice au' (os.length + 1) cu') W' ∧ W'.cell? ⟨b7, 1, none⟩ = some yo ∧ W'.frozen? ⟨b7, 1, none⟩ = false ∧ Tk w (W'.setCell ⟨b7, 1, none⟩ (.slice au' (os.length + 1) cu')) p vo vu b0 b1 B b7 (.slice au' (os.length + 1) cu') yu (os ++ [x]) us ∧ Below B W (W'.setCell ⟨b7, 1, none⟩ (.slice au' (os.length + 1) cu')) := by
 obtain ⟨i0, hi0, hz0, hz1, hz2⟩ := info_parts op_info
 obtain ⟨v', W', hr, ho, hg, _, hb⟩ := run_append_own_at (P := Tryz.prog) (w := W) B 25 25 78 i0 (.agg #[.int .u8 0, .int .i64 0, .int .i64 0, .int .u64 0]) 4 32 Tryz.underlying25 hi0 hz0 hz1 hz2 rfl (by decide) yo os.length (os.flatMap opw) h.ro a 1 1 (opw x) rfl hc (by simp [opw, Value.oneCell']) (by unfold maxLen; omega) (by omega) h.size
 have hblk : W'.heap[b7]? = _ := (hg.block b7 (Array.getElem?_eq_some_iff.1 h.blk).1 (fun e => own_not h.ro h.blk (by decide) e.symm)).trans h.blk
 have hpb : W'.heap[b0]? = _ := (hg.block b0 (Array.getElem?_eq_some_iff.1 h.pb).1 (fun e => own_not h.ro h.pb (by decide) e.symm)).trans h.pb
 have hrb : W'.heap[b1]? = _ := (hg.block b1 (Array.getElem?_eq_some_iff.1 h.rb).1 (fun e => own_not h.ro h.rb (by decide) e.symm)).trans h.rb
 have hru : W'.ownsRow B 3 1 yu us.length (us.flatMap iw) := own_kept h.ru hg (fun g hg' => by
  obtain ⟨cs, hcs⟩ := own_blk h.ru hg'
  exact own_not h.ro hcs (by decide))
 have hset := set1_grown W' b7 1 v'
 have hfl : (os ++ [x]).flatMap opw = os.flatMap opw ++ opw x := by rw [List.flatMap_append]; simp
 have hln : (os ++ [x]).length = os.length + 1 := by simp
 obtain ⟨au', cu', rfl⟩ := own_slice ho
 have := h.l1
 have := h.l2
 have := h.l3
 have := h.lo
 have hsz := h.size
 have hBB : Below B W W' := (Below.refl B W).grown hg hsz (fun k e => own_base h.ro k e)
 have hBs : Below B W (W'.setCell ⟨b7, 1, none⟩ (.slice au' (os.length + 1) cu')) := hBB.setCell (p := ⟨b7, 1, none⟩) h.l3 _
 refine ⟨au', cu', W', hr, by rw [Lib.cell_of_heap hblk]; rfl, Lib.frozen_of_heap hblk 1, ⟨h.lo, h.l1, h.l2, h.l3, (hBs.block b0 (by omega)).trans h.pb, (hBs.block b1 (by omega)).trans h.rb, set_blk hblk 1 _, ?_, own_kept hru hset (fun g hg' e => own_not hru hblk (by decide) (hg'.trans e.symm)), h.bl.trans (hBs.mono (by omega))⟩, hBs⟩
 rw [hfl, hln]
 exact own_kept ho hset (fun g hg' e => own_not ho hblk (by decide) (hg'.trans e.symm))
theorem Tk.out (h : Tk w W p vo vu b0 b1 B b7 yo yu os us) (a : Addr) (x : Int) (hc : W.cell? a = some (.int .i64 x)) (hl : us.length ≤ 1000) :
 ∃ (au' : Option Addr) (cu' : Nat) (W' : World), (Builtin.append_ #[26, 26] 26 #[yu, .slice (some a) 1 1]).run Tryz.prog W = .ok (.slice au' (us.length + 1) cu') W' ∧ W'.cell? ⟨b7, 2, none⟩ = some yu ∧ W'.frozen? ⟨b7, 2, none⟩ = false ∧ Below B W W' ∧ Tk w (W'.setCell ⟨b7, 2, none⟩ (.slice au' (us.length + 1) cu')) p vo vu b0 b1 B b7 yo (.slice au' (us.length + 1) cu') os (us ++ [x]) ∧ Below B W (W'.setCell ⟨b7, 2, none⟩ (.slice au' (us.length + 1) cu')) := by
 obtain ⟨au', cu', W', hr, ho, hb, hg, hbk⟩ := appI1 W B yu us a x h.ru hc (by omega) h.size
 have hblk : W'.heap[b7]? = _ := (hg.block b7 (Array.getElem?_eq_some_iff.1 h.blk).1 (fun e => own_not h.ru h.blk (by decide) e.symm)).trans h.blk
 have hro : W'.ownsRow B 78 4 yo os.length (os.flatMap opw) := own_kept h.ro hg (fun g hg' => by
  obtain ⟨cs, hcs⟩ := own_blk h.ro hg'
  exact own_not h.ru hcs (by decide))
 have hset := set1_grown W' b7 2 (.slice au' (us.length + 1) cu')
 have := h.l1
 have := h.l2
 have := h.l3
 have := h.lo
 have hBs : Below B W (W'.setCell ⟨b7, 2, none⟩ (.slice au' (us.length + 1) cu')) := hb.setCell (p := ⟨b7, 2, none⟩) h.l3 _
 exact ⟨au', cu', W', hr, by rw [Lib.cell_of_heap hblk]; rfl, Lib.frozen_of_heap hblk 2, hb, ⟨h.lo, h.l1, h.l2, h.l3, (hBs.block b0 (by omega)).trans h.pb, (hBs.block b1 (by omega)).trans h.rb, set_blk hblk 2 _, own_kept hro hset (fun g hg' e => own_not hro hblk (by decide) (hg'.trans e.symm)), own_kept ho hset (fun g hg' e => own_not ho hblk (by decide) (hg'.trans e.symm)), h.bl.trans (hBs.mono (by omega))⟩, hBs⟩
theorem Tk.res (h : Tk w W p vo vu b0 b1 B b7 yo yu os us) : (((W.setCell ⟨b1, 0, none⟩ (.int .i64 p.inp)).setCell ⟨b1, 1, none⟩ yo).setCell ⟨b1, 2, none⟩ yu).heap[b1]? = some (.cells #[.int .i64 p.inp, yo, yu] 28 (0, 0)) ∧ (((W.setCell ⟨b1, 0, none⟩ (.int .i64 p.inp)).setCell ⟨b1, 1, none⟩ yo).setCell ⟨b1, 2, none⟩ yu).ownsRow w.heap.size 78 4 yo os.length (os.flatMap opw) ∧ (((W.setCell ⟨b1, 0, none⟩ (.int .i64 p.inp)).setCell ⟨b1, 1, none⟩ yo).setCell ⟨b1, 2, none⟩ yu).ownsRow w.heap.size 3 1 yu us.length (us.flatMap iw) ∧ Below w.heap.size w (((W.setCell ⟨b1, 0, none⟩ (.int .i64 p.inp)).setCell ⟨b1, 1, none⟩ yo).setCell ⟨b1, 2, none⟩ yu) := by
 have hg := set3_grown W b1 (.int .i64 p.inp) yo yu
 have := h.l1
 have := h.l2
 have := h.lo
 have hlt := (Array.getElem?_eq_some_iff.1 h.rb).1
 exact ⟨set_blk (set_blk (set_blk h.rb 0 _) 1 _) 2 _, own_mono (own_kept h.ro hg (fun g hg' e => own_not h.ro h.rb (by decide) (hg'.trans e.symm))) (by omega), own_mono (own_kept h.ru hg (fun g hg' e => own_not h.ru h.rb (by decide) (hg'.trans e.symm))) (by omega), h.bl.grown hg h.bl.size (fun k e => by cases e; omega)⟩
end
def trE (p : Pr) : Int := if mayB p = true then 0 else 2
def trR (p : Pr) : Pr := if mayB p = true then trP p else pz
def IsTrim (N : Nat) (v : Value) (w : World) (p : Pr) : Prop :=
 Calls Tryz.prog N #[v] w fun e w' => ∃ vo vu, e = .returned (.tuple #[.agg #[.int .i64 (trR p).inp, vo, vu], .int .i64 (trE p)]) ∧ w'.ownsRow w.heap.size 78 4 vo (trR p).ops.length ((trR p).ops.flatMap opw) ∧ w'.ownsRow w.heap.size 3 1 vu (trR p).outs.length ((trR p).outs.flatMap iw) ∧ Below w.heap.size w w'
end Go.Proofs.YtnakbpaiidolbaaGreat
namespace Go.Proofs.YtnakbpaiidolbaaGreat
open Go.RowKit Fld Slp
set_option linter.unusedVariables false
set_option linter.unusedSimpArgs false
structure Pk (w W : World) (p : Pr) (vo vu : Value) (b0 b1 gm gp : Nat) (xs : List Int) : Prop where
 lo : w.heap.size ≤ b0
 l1 : b0 < b1
 l2 : b1 < gm
 l3 : gm < gp
 pb : W.heap[b0]? = some (.cells #[.int .i64 p.inp, vo, vu] 28 (0, 0))
 rb : W.heap[b1]? = some (.cells #[.int .i64 0, .slice none 0 0, .slice none 0 0] 28 (0, 0))
 ma : Ar Value.bool 135 320 W gm (ar9 false (wtd p))
 pl : Ar (Value.int .i64) 131 320 W gp xs
 bl : Below w.heap.size w W
theorem Pk.set {w W : World} {p : Pr} {vo vu : Value} {b0 b1 gm gp : Nat} {xs : List Int} (h : Pk w W p vo vu b0 b1 gm gp xs) (k : Nat) (x : Int) : Pk w (W.setCell ⟨gp, k, none⟩ (.int .i64 x)) p vo vu b0 b1 gm gp (xs.set k x) := by
 have := h.l1
 have := h.l2
 have := h.l3
 have := h.lo
 exact ⟨h.lo, h.l1, h.l2, h.l3, (Below.heap_setCell _ _ _ b0 (by show b0 ≠ gp; omega)).trans h.pb, (Below.heap_setCell _ _ _ b1 (by show b1 ≠ gp; omega)).trans h.rb, h.ma.other (by omega) k _, h.pl.set k x, h.bl.setCell (p := ⟨gp, k, none⟩) (by show w.heap.size ≤ gp; omega) _⟩
theorem tk_new {w W : World} {p : Pr} {vo vu : Value} {b0 b1 gm gp : Nat} {xs : List Int} (h : Pk w W p vo vu b0 b1 gm gp xs) : Tk w (W.alloc (.cells #[.int .i64 p.inp, .slice none 0 0, .slice none 0 0] 28)) p vo vu b0 b1 W.heap.size W.heap.size (.slice none 0 0) (.slice none 0 0) [] [] := by
 have hA := alloc_below W (.cells #[.int .i64 p.inp, .slice none 0 0, .slice none 0 0] 28)
 have := h.pl.lt
 have := h.l2
 have := h.l3
 exact ⟨h.lo, h.l1, by omega, Nat.le_refl _, (hA.block _ (Array.getElem?_eq_some_iff.1 h.pb).1).trans h.pb, (hA.block _ (Array.getElem?_eq_some_iff.1 h.rb).1).trans h.rb, heap_alloc_last W _, own_nil _ _ _ _, own_nil _ _ _ _, Below.next h.bl hA⟩
def Pp (p : Pr) (n j : Nat) (xs : List Int) : Prop := ∀ v, v < n + j → (v < n ∨ (wtd p).getD v false = true) → xs.getD v 0 = (trS p j).1.getD v 0
theorem seti_get (l : List Int) (k v : Nat) (x : Int) (hk : k < l.length) : (l.set k x).getD v 0 = if v = k then x else l.getD v 0 := by
 rw [List.getD_eq_getElem?_getD, List.getElem?_set]
 by_cases h : v = k
 · subst h; simp [hk]
 · rw [if_neg (fun e => h e.symm), if_neg h, ← List.getD_eq_getElem?_getD]
theorem Pp.no {p : Pr} {n j : Nat} {xs : List Int} (h : Pp p n j xs) (hn : p.inp.toNat = n) (hw : (wtd p).getD (n + j) false = false) : Pp p n (j + 1) xs := by
 intro v hv hc
 by_cases e : v = n + j
 · subst e
   rcases hc with hc | hc
   · omega
   · rw [hw] at hc; cases hc
 · rw [h v (by omega) hc, ← trS_at p (i := j) (n := j + 1) (by omega) (by omega)]
theorem Pp.yes {p : Pr} {n j : Nat} {xs : List Int} (h : Pp p n j xs) (hn : p.inp.toNat = n) (hl : n + j < xs.length) (hw : (wtd p).getD (n + j) false = true) : Pp p n (j + 1) (xs.set (n + j) (p.inp + ((trS p j).2.length : Int))) := by
 intro v hv hc
 rw [seti_get _ _ _ _ hl]
 by_cases e : v = n + j
 · subst e
   rw [if_pos rfl, ← hn, trS_step (by omega) (by rw [hn]; exact hw)]
 · rw [if_neg e, h v (by omega) hc, ← trS_at p (i := j) (n := j + 1) (by omega) (by omega)]
theorem Pp.zero {p : Pr} {n : Nat} (hn : p.inp.toNat = n) : Pp p n 0 (ar9 0 ((List.range n).map (fun i : Nat => (i : Int)))) := by
 intro v hv _
 rw [ar9_get, trS_low p (by omega), List.getD_eq_getElem?_getD]
 have : v < n := by omega
 simp [this]
theorem range_next (n : Nat) : (List.range (n + 1)).map (fun i : Nat => (i : Int)) = (List.range n).map (fun i : Nat => (i : Int)) ++ [(n : Int)] := by rw [List.range_succ]; simp
theorem op_set2 {W : World} {g : Nat} {k a b c : Value} (h : W.heap[g]? = some (.cells #[k, a, b, c] 78 (0, 0))) (x y : Value) : ((W.setCell ⟨g, 1, none⟩ x).setCell ⟨g, 2, none⟩ y).heap[g]? = some (.cells #[k, x, y, c] 78 (0, 0)) := set_blk (set_blk h 1 x) 2 y
theorem op_cells {W : World} {g : Nat} {x : O4} (h : W.heap[g]? = some (.cells #[.int .u8 x.k, .int .i64 x.a, .int .i64 x.b, .int .u64 x.c] 78 (0, 0))) : ∀ j u, (opw x)[j]? = some u → W.cell? ((⟨g, 0, none⟩ : Addr).add j) = some u := fun j u hj => by
 rw [Addr.add]
 obtain ⟨c0, c1, c2, c3⟩ := cell4 h
 match j, hj with
 | 0, hj => simp [opw] at hj; subst hj; exact c0
 | 1, hj => simp [opw] at hj; subst hj; exact c1
 | 2, hj => simp [opw] at hj; subst hj; exact c2
 | 3, hj => simp [opw] at hj; subst hj; exact c3
 | j + 4, hj => simp [opw] at hj
theorem trs_two (p : Pr) (i : Nat) (h : i < p.ops.length) (hw : (wtd p).getD (p.inp.toNat + i) false = true) : (trS p (i + 1)).2 = (trS p i).2 ++ [shO (trS p i).1 p.ops[i]] := by
 have e : p.ops.getD i ⟨0, 0, 0, 0⟩ = p.ops[i] := by rw [List.getD_eq_getElem?_getD, List.getElem?_eq_getElem h]; rfl
 rw [trS_yes hw, e]
theorem trs_two_no (p : Pr) (i : Nat) (hw : (wtd p).getD (p.inp.toNat + i) false = false) : (trS p (i + 1)).2 = (trS p i).2 := by rw [trS_no (by rw [hw]; simp)]
def ouJ (p : Pr) (j : Nat) : List Int := (p.outs.take j).map (fun v => (trS p p.ops.length).1.getD v.toNat 0)
theorem ouJ_next (p : Pr) {j : Nat} (h : j < p.outs.length) : ouJ p (j + 1) = ouJ p j ++ [(trS p p.ops.length).1.getD p.outs[j].toNat 0] := by
 unfold ouJ; rw [List.take_succ_eq_append_getElem h, List.map_append, List.map_singleton]
theorem ouJ_len (p : Pr) {j : Nat} (h : j ≤ p.outs.length) : (ouJ p j).length = j := by unfold ouJ; rw [List.length_map, List.length_take]; omega
theorem ouJ_end (p : Pr) : ouJ p p.outs.length = (trP p).outs := by unfold ouJ trP; rw [List.take_length]
end Go.Proofs.YtnakbpaiidolbaaGreat
namespace Go.Proofs.YtnakbpaiidolbaaGreat
open Go.RowKit Fld Slp
set_option linter.unusedVariables false
set_option linter.unusedSimpArgs false
set_option maxRecDepth 100000 in
set_option maxHeartbeats 1000000 in
theorem gTrim (v : Value) (p : Pr) (w : World) (h : Pm w v p) : IsTrim 62 v w p := by
 unfold IsTrim
 have M := hide (fun W (hb : Below w.heap.size w W) => sMay v p W (h.below hb))
 have HP := hide h
 obtain ⟨vo, vu, rfl, ho, hu⟩ := h.form
 obtain ⟨ao, co, rfl, _⟩ := ho.spell
 obtain ⟨au, cu, rfl, _⟩ := hu.spell
 have HO := hide ho
 have HU := hide hu
 obtain ⟨n1, n2, hA⟩ := alloc2 w (.cells #[.int .i64 p.inp, .slice ao p.ops.length co, .slice au p.outs.length cu] 28) (.cells #[.int .i64 0, .slice none 0 0, .slice none 0 0] 28)
 clear h ho hu
 cases hm : mayB p with
 | false =>
  have E1 : Hid (trE p = 2) := by show _ = _; unfold trE; rw [hm]; rfl
  have E2 : Hid (trR p = pz) := by show _ = _; unfold trR; rw [hm]; rfl
  rw [hm] at M
  clear hm
  go_enter Tryz.func62, Tryz.ntmps62
  go_wp2_with (go_at_call 88; refine (M.out _ hA).mono ?_; rintro e w1 ⟨rfl, hb1⟩; have r1 := (hb1.block _ (Array.getElem?_eq_some_iff.1 n2).1).trans n2; obtain ⟨r10, r11, r12⟩ := cell3 r1; have rf := fun k => Lib.frozen_of_heap r1 k)
  have hg := set3_grown w1 (w.heap.size + 1) (.int .i64 0) (.slice none 0 0) (.slice none 0 0)
  have hB1 := Below.next hA hb1
  rw [E1.out, E2.out]
  exact bodyPost_ret (res_ct (a := 2) (b := 3) rfl rfl rfl (load_prog (set_blk (set_blk (set_blk r1 0 (.int .i64 0)) 1 (.slice none 0 0)) 2 (.slice none 0 0)))) rfl ⟨_, _, rfl, own_nil _ _ _ _, own_nil _ _ _ _, hB1.grown hg hB1.size (fun k e => by cases e; omega)⟩
 | true =>
  rw [hm] at M
  have HD := hide (fun W (hb : Below w.heap.size w W) => gWanted _ p W (HP.out.below hb) hm)
  have HM := hide hm
  obtain ⟨⟨i0, i1, l1, l2⟩, _, _⟩ := mayB_iff.1 hm
  obtain ⟨n, hn⟩ := Int.eq_ofNat_of_zero_le i0
  have Hn := hide hn
  have HN : Hid (p.inp.toNat = n) := by show _ = _; omega
  have hlen : (wtd p).length = n + p.ops.length := by rw [wtd_len, HN.out]
  clear hm i0 hn
  go_enter Tryz.func62, Tryz.ntmps62
  go_upto_region 3 with (go_at_call 88; refine (M.out _ hA).mono ?_; rintro e w1 ⟨rfl, hb1⟩; have hB1 := Below.next hA hb1; have m1 := (hb1.block _ (Array.getElem?_eq_some_iff.1 n1).1).trans n1; have m2 := (hb1.block _ (Array.getElem?_eq_some_iff.1 n2).1).trans n2; obtain ⟨p0, p1, p2⟩ := cell3 m1)
  refine wp_region_lit ?_
  refine rowVal rfl (.agg #[.int .i64 p.inp, .slice ao p.ops.length co, .slice au p.outs.length cu]) (by simp [go_sem, execOp, p0, p1, p2]) ?_
  refine rowCall rfl 92 #[.agg #[.int .i64 p.inp, .slice ao p.ops.length co, .slice au p.outs.length cu]] (by simp [go_sem, execOp]) (HD.out _ hB1) ?_
  rintro e w2 ⟨rfl, hb2⟩
  refine ⟨_, rfl, ?_⟩
  have hl9 : (ar9 false (wtd p)).length = 320 := ar9_len (by rw [hlen]; have := Hn.out; omega)
  refine wpList_alloc_row rfl _ rfl _ bools_zero ?_
  refine rowStore rfl _ _ _ rfl w2.heap.size _ _ _ rfl rfl (heap_alloc_last w2 _) (bv_size hl9) (by rw [List.size_toArray, List.size_toArray, List.length_map, List.length_map, List.length_replicate, hl9]) (bv_one _) ?_
  rw [World.setRow_alloc_new]
  go_upto_region 4 with fail
  refine wp_region_lit ?_
  refine wpList_alloc_row rfl _ rfl _ ints_zero ?_
  have hA2 := alloc_below w2 (.cells ((ar9 false (wtd p)).map Value.bool).toArray 135)
  have A2 : Ar Value.bool 135 320 (w2.alloc (.cells ((ar9 false (wtd p)).map Value.bool).toArray 135)) w2.heap.size (ar9 false (wtd p)) := ar_new w2 _ hl9
  have hz2 : w2.heap.size < (w2.alloc (.cells ((ar9 false (wtd p)).map Value.bool).toArray 135)).heap.size := A2.lt
  generalize w2.alloc (.cells ((ar9 false (wtd p)).map Value.bool).toArray 135) = w3 at *
  have hA3 := alloc_below w3 (.cells ((List.replicate 320 (0 : Int)).map (Value.int .i64)).toArray 131)
  have A3 : Ar (Value.int .i64) 131 320 (w3.alloc (.cells ((List.replicate 320 (0 : Int)).map (Value.int .i64)).toArray 131)) w3.heap.size (List.replicate 320 0) := ar_new w3 _ List.length_replicate
  have K0 : Pk w (w3.alloc (.cells ((List.replicate 320 (0 : Int)).map (Value.int .i64)).toArray 131)) p (.slice ao p.ops.length co) (.slice au p.outs.length cu) w.heap.size (w.heap.size + 1) w2.heap.size w3.heap.size (ar9 0 ((List.range 0).map (fun i : Nat => (i : Int)))) := by
   have q1 := (Array.getElem?_eq_some_iff.1 m1).1
   have q2 := (Array.getElem?_eq_some_iff.1 m2).1
   have hb23 := Below.next hb2 hA2
   have := hb23.size
   have hb4 := Below.next hb23 hA3
   exact ⟨Nat.le_refl _, Nat.lt_succ_self _, Nat.lt_of_lt_of_le q2 hb2.size, hz2, (hb4.block _ q1).trans m1, (hb4.block _ q2).trans m2, A2.below hA3, A3, Below.next hB1 hb4⟩
  generalize w3.alloc (.cells ((List.replicate 320 (0 : Int)).map (Value.int .i64)).toArray 131) = w4 at *
  generalize w3.heap.size = gp at *
  generalize w2.heap.size = gm at *
  generalize w.heap.size + 1 = b1 at *
  clear hA2 A2 hz2 hA3 A3 m1 m2 p0 p1 p2 hb2 hb1 hB1 n1 n2 hA M HD
  obtain ⟨p0, p1, p2⟩ := cell3 K0.pb
  have hn := Hn.out
  go_wp2_with fail
  go_loopw [20] (fun vi wr => ∃ (i : Nat), i ≤ n ∧ vi = .int .i64 i ∧ Hid (Pk w wr p (.slice ao p.ops.length co) (.slice au p.outs.length cu) w.heap.size b1 gm gp (ar9 0 ((List.range i).map (fun i : Nat => (i : Int)))))) (fun vi _ => n - (intOf vi).toNat)
  case atStart => exact ⟨0, Nat.zero_le _, rfl, K0⟩
  case round =>
   clear K0 p0 p1 p2
   obtain ⟨i, hi, rfl, F⟩ := hrel
   by_cases hlt : i < n
   · have i320 : (i : Int) < 320 := by omega
     have i00 : (0 : Int) ≤ (i : Int) := by omega
     have i11 : (i : Int) < (n : Int) := by omega
     have cA := F.out.pl.cell i 0 (by omega)
     have fA := F.out.pl.free i
     have F2 := F.out.set i (i : Int)
     have e : (ar9 (0 : Int) ((List.range i).map (fun i : Nat => (i : Int)))).set i (i : Int) = ar9 0 ((List.range (i + 1)).map (fun i : Nat => (i : Int))) := by
      have := ar9_set (z := (0 : Int)) (l := (List.range i).map (fun i : Nat => (i : Int))) (by simp; omega) (i : Int)
      rw [List.length_map, List.length_range] at this
      rw [this, range_next]
     rw [e] at F2
     have HF2 := hide F2
     clear F2 e
     go_wp2_with fail
     go_roundw
     case rel => exact ⟨i + 1, by omega, by go_num, HF2⟩
     case measure => simp [intOf]; omega
   · obtain rfl : i = n := by omega
     clear hlt
     have T0 := tk_new F.out
     have hA5 := alloc_below wr (.cells #[.int .i64 p.inp, .slice none 0 0, .slice none 0 0] 28)
     have M0 := F.out.ma.below hA5
     have L0 := F.out.pl.below hA5
     obtain ⟨p0, p1, p2⟩ := cell3 F.out.pb
     go_upto_region 11 with fail
     rw [hn] at T0 hA5 M0 L0
     have hgB : gp < wr.heap.size := F.out.pl.lt
     have hmB : gm < wr.heap.size := F.out.ma.lt
     have hbg : b1 < gm := F.out.l2
     have hmg : gm < gp := F.out.l3
     generalize wr.alloc (.cells #[.int .i64 (i : Int), .slice none 0 0, .slice none 0 0] 28) = w5 at *
     generalize wr.heap.size = B at *
     have Hgs : Hid (gp < B ∧ gm < B ∧ b1 < gm ∧ gm < gp) := ⟨hgB, hmB, hbg, hmg⟩
     clear F hA5 hgB hmB hbg hmg p0 p1 p2
     obtain ⟨p0, p1, p2⟩ := cell3 T0.pb
     go_wp2_with fail
     go_loopw [33] (fun vi wr => ∃ (j : Nat) (ya : Option Addr) (yc : Nat) (xs : List Int), j ≤ p.ops.length ∧ vi = .int .i64 j ∧ Hid (Tk w wr p (.slice ao p.ops.length co) (.slice au p.outs.length cu) w.heap.size b1 B B (.slice ya (trS p j).2.length yc) (.slice none 0 0) (trS p j).2 []) ∧ Hid (Ar Value.bool 135 320 wr gm (ar9 false (wtd p))) ∧ Hid (Ar (Value.int .i64) 131 320 wr gp xs) ∧ Hid (Pp p i j xs)) (fun vi _ => p.ops.length - (intOf vi).toNat)
     case atStart => exact ⟨0, none, 0, _, Nat.zero_le _, rfl, T0, M0, L0, Pp.zero HN.out⟩
     case round =>
      clear T0 M0 L0 p0 p1 p2
      obtain ⟨j, ya, yc, xs, hj, rfl, T, Ma, Pl, HPp⟩ := hrel
      obtain ⟨p0, p1, p2⟩ := cell3 T.out.pb
      by_cases hlt : j < p.ops.length
      · obtain ⟨b, off, co', hv, _, hbl⟩ := HO.out.form (by omega)
        cases hv
        obtain ⟨ca, cb, cc, cd⟩ := HO.out.op T.out.bl hlt
        have hAr := may_args HM.out j hlt
        have hWa : (wtd p).getD (i + j) false = true → ¬ p.ops[j].k = 4 → (wtd p).getD p.ops[j].a.toNat false = true ∧ (wtd p).getD p.ops[j].b.toNat false = true := fun h1 h2 => wt_arg HM.out hlt (by rw [HN.out]; exact h1) h2
        have HT2 : Hid ((wtd p).getD (i + j) false = true → (trS p (j + 1)).2 = (trS p j).2 ++ [shO (trS p j).1 p.ops[j]]) := fun h => trs_two p j hlt (by rw [HN.out]; exact h)
        have HT3 : Hid ((wtd p).getD (i + j) false = false → (trS p (j + 1)).2 = (trS p j).2) := fun h => trs_two_no p j (by rw [HN.out]; exact h)
        have HTl := hide (trS_len p j).2
        rw [HN.out] at hAr
        generalize p.ops[j] = o at *
        obtain ⟨ok, oa, ob, oc⟩ := o
        dsimp only at *
        have hA6 := alloc_below wr (.cells #[.int .u8 ok, .int .i64 oa, .int .i64 ob, .int .u64 oc] 78)
        have N6 := heap_alloc_last wr (.cells #[.int .u8 ok, .int .i64 oa, .int .i64 ob, .int .u64 oc] 78)
        have HT6 := hide (T.out.below hA6)
        have HM6 := hide (Ma.out.below hA6)
        have HL6 := hide (Pl.out.below hA6)
        obtain ⟨q0, q1, q2⟩ := cell3 HT6.out.pb
        have cN := HM6.out.cell (i + j) false (by omega)
        rw [ar9_get] at cN
        have ij0 : (0 : Int) ≤ (i : Int) + (j : Int) := by omega
        have ij1 : (i : Int) + (j : Int) < 320 := by omega
        have ijn : ((i : Int) + (j : Int)).toNat = i + j := by omega
        have hj0 : (0 : Int) ≤ (j : Int) := by omega
        have hj1 : (j : Int) < (p.ops.length : Int) := by omega
        cases hmk : (wtd p).getD (i + j) false with
        | false =>
         rw [hmk] at cN
         have e2 := HT3.out hmk
         have HPq := hide (HPp.out.no HN.out hmk)
         have HE2 := hide e2
         clear hmk e2 N6 hWa hAr
         go_wp2_with fail
         go_roundw
         case rel => exact ⟨j + 1, ya, yc, xs, by omega, by go_num, by rw [HE2.out]; exact HT6, HM6, HL6, HPq⟩
         case measure => simp [intOf]; omega
        | true =>
         rw [hmk] at cN
         have HE2 := hide (HT2.out hmk)
         have hxl : i + j < xs.length := by rw [HL6.out.1]; omega
         have HPq := hide (HPp.out.yes HN.out hxl hmk)
         rw [hn] at HPq
         obtain ⟨g, Hg⟩ : ∃ g, Hid (wr.heap.size = g) := ⟨_, rfl⟩
         have Hgg : Hid (gp < g) := by show _ < _; rw [← Hg.out]; exact Pl.out.lt
         clear hxl
         by_cases h4 : ok = 4
         · have HSh : Hid (shO (trS p j).1 ⟨ok, oa, ob, oc⟩ = ⟨ok, oa, ob, oc⟩) := by show _ = _; unfold shO; rw [if_pos h4]
           have hq4 : (ok != 4) = false := by rw [h4]; rfl
           clear h4 hmk hWa hAr
           go_upto_region 17 with fail
           rw [Hg.out] at N6
           simp only [Hg.out]
           clear hA6 q0 q1 q2 p0 p1 p2 ca cb cc cd cN
           generalize wr.alloc (.cells #[.int .u8 ok, .int .i64 oa, .int .i64 ob, .int .u64 oc] 78) = w6 at *
           have hgs := Hgs.out
           obtain ⟨y0, y1, y2⟩ := cell3 HT6.out.blk
           obtain ⟨q0, q1, q2⟩ := cell3 HT6.out.pb
           have cP := HL6.out.cell (i + j) 0 (by omega)
           have fP := HL6.out.free (i + j)
           have hm1 : ((trS p j).2.length : Int) ≤ 256 := by have := HTl.out; omega
           have hm0 : (0 : Int) ≤ ((trS p j).2.length : Int) := by omega
           go_upto_region 18 with fail
           have T7 := HT6.out.put (g := gp) (by omega) hgs.1 (i + j) (.int .i64 ((i : Int) + ((trS p j).2.length : Int)))
           have M7 := HM6.out.other (g' := gp) (by omega) (i + j) (.int .i64 ((i : Int) + ((trS p j).2.length : Int)))
           have L7 := HL6.out.set (i + j) ((i : Int) + ((trS p j).2.length : Int))
           have N7 : (w6.setCell ⟨gp, i + j, none⟩ (.int .i64 ((i : Int) + ((trS p j).2.length : Int)))).heap[g]? = _ := (Below.heap_setCell _ _ _ g (by show g ≠ gp; have := Hgg.out; omega)).trans N6
           clear y0 y1 y2 q0 q1 q2 cP fP N6 HT6 HM6 HL6
           generalize w6.setCell ⟨gp, i + j, none⟩ (.int .i64 ((i : Int) + ((trS p j).2.length : Int))) = w7 at *
           have hA8 := alloc_below w7 (.cells #[.int .u8 ok, .int .i64 oa, .int .i64 ob, .int .u64 oc] 78)
           obtain ⟨yz, yd, W9, hr, y9, z9, T9, B9⟩ := (T7.below hA8).op ⟨w7.heap.size, 0, none⟩ ⟨ok, oa, ob, oc⟩ (op_cells (heap_alloc_last w7 _)) (by have := HTl.out; omega)
           have HT9 := hide T9
           have HM9 := hide ((M7.below hA8).bel B9 hgs.2.1)
           have HL9 := hide ((L7.below hA8).bel B9 hgs.1)
           obtain ⟨o0, o1, o2, o3⟩ := cell4 N7
           obtain ⟨y0, y1, y2⟩ := cell3 T7.blk
           clear T9 M7 L7 B9 hA8 T7
           go_wp2_with (at_builtin; refine Lib.wpList_append_run _ rfl _ _ _ _ rfl _ _ rfl rfl _ _ hr ?_)
           go_roundw
           case rel => exact ⟨j + 1, yz, yd, _, by omega, by go_num, by rw [HE2.out, HSh.out, List.length_append]; exact HT9, HM9, HL9, HPq⟩
           case measure => simp [intOf]; omega
         · have hWa2 := hWa hmk h4
           obtain ⟨⟨a0, a1⟩, a2, a3⟩ := hAr h4
           obtain ⟨a, rfl⟩ := Int.eq_ofNat_of_zero_le a0
           obtain ⟨c, rfl⟩ := Int.eq_ofNat_of_zero_le a1
           rw [Int.toNat_natCast] at a2 a3
           rw [Int.toNat_natCast, Int.toNat_natCast] at hWa2
           have hxa := HPp.out a a2 (.inr hWa2.1)
           have hxc := HPp.out c a3 (.inr hWa2.2)
           have HSh : Hid (shO (trS p j).1 ⟨ok, (a : Int), (c : Int), oc⟩ = ⟨ok, xs.getD a 0, xs.getD c 0, oc⟩) := by show _ = _; unfold shO; rw [if_neg h4, hxa, hxc]; rfl
           have hq4 : (ok != 4) = true := bne_iff_ne.2 h4
           have cA := HL6.out.cell a 0 (by omega)
           have cC := HL6.out.cell c 0 (by omega)
           clear h4 hmk hWa hAr hxa hxc hWa2
           go_upto_region 16 with fail
           rw [Hg.out] at N6
           simp only [Hg.out]
           have hsz : wr.heap.size ≤ g := by rw [Hg.out]; exact Nat.le_refl _
           clear q0 q1 q2 p0 p1 p2 ca cb cc cd cN
           have hBw : Below wr.heap.size (wr.alloc (.cells #[.int .u8 ok, .int .i64 (a : Int), .int .i64 (c : Int), .int .u64 oc] 78)) (((wr.alloc (.cells #[.int .u8 ok, .int .i64 (a : Int), .int .i64 (c : Int), .int .u64 oc] 78)).setCell ⟨g, 1, none⟩ (.int .i64 (xs.getD a 0))).setCell ⟨g, 2, none⟩ (.int .i64 (xs.getD c 0))) := ((Below.refl _ _).setCell (p := ⟨g, 1, none⟩) hsz _).setCell (p := ⟨g, 2, none⟩) hsz _
           have hgs := Hgs.out
           have hg2 : gp < g := Hgg.out
           generalize wr.alloc (.cells #[.int .u8 ok, .int .i64 (a : Int), .int .i64 (c : Int), .int .u64 oc] 78) = w5 at *
           have N8 := op_set2 N6 (.int .i64 (xs.getD a 0)) (.int .i64 (xs.getD c 0))
           have N7 := set_blk N6 1 (.int .i64 (xs.getD a 0))
           obtain ⟨o0, o1, o2, o3⟩ := cell4 N6
           have of := fun k => Lib.frozen_of_heap N6 k
           have of2 := fun k => Lib.frozen_of_heap N7 k
           have o2' : (w5.setCell ⟨g, 1, none⟩ (.int .i64 (xs.getD a 0))).cell? ⟨g, 2, none⟩ = some (.int .i64 (c : Int)) := by rw [Lib.cell_of_heap N7]; rfl
           have cA' : (w5.setCell ⟨g, 1, none⟩ (.int .i64 (xs.getD a 0))).cell? ⟨gp, a, none⟩ = _ := (World.cell?_setCell_other w5 _ _ _ (addr_ne (by show _ ≠ _; omega))).trans cA
           have cC' : (w5.setCell ⟨g, 1, none⟩ (.int .i64 (xs.getD a 0))).cell? ⟨gp, c, none⟩ = _ := (World.cell?_setCell_other w5 _ _ _ (addr_ne (by show _ ≠ _; omega))).trans cC
           have aa0 : (0 : Int) ≤ (a : Int) := by omega
           have aa1 : (a : Int) < 320 := by omega
           have cc0 : (0 : Int) ≤ (c : Int) := by omega
           have cc1 : (c : Int) < 320 := by omega
           have HN8 := hide N8
           clear N6 N7 N8
           generalize xs.getD a 0 = A at *
           generalize xs.getD c 0 = C at *
           go_region
           have hBx : Below wr.heap.size wr ((w5.setCell ⟨g, 1, none⟩ (.int .i64 A)).setCell ⟨g, 2, none⟩ (.int .i64 C)).drew := (hA6.trans hBw).drew
           have N6 : ((w5.setCell ⟨g, 1, none⟩ (.int .i64 A)).setCell ⟨g, 2, none⟩ (.int .i64 C)).drew.heap[g]? = some (.cells #[.int .u8 ok, .int .i64 A, .int .i64 C, .int .u64 oc] 78 (0, 0)) := HN8.out
           clear HT6 HM6 HL6 HN8 o0 o1 o2 o3 of of2 o2' cA' cC' cA cC hA6 hBw hgs hg2
           generalize ((w5.setCell ⟨g, 1, none⟩ (.int .i64 A)).setCell ⟨g, 2, none⟩ (.int .i64 C)).drew = w6 at *
           have HT6 := hide (T.out.below hBx)
           have HM6 := hide (Ma.out.below hBx)
           have HL6 := hide (Pl.out.below hBx)
           clear hBx
           go_upto_region 17 with fail
           have hgs := Hgs.out
           obtain ⟨y0, y1, y2⟩ := cell3 HT6.out.blk
           obtain ⟨q0, q1, q2⟩ := cell3 HT6.out.pb
           have cP := HL6.out.cell (i + j) 0 (by omega)
           have fP := HL6.out.free (i + j)
           have hm1 : ((trS p j).2.length : Int) ≤ 256 := by have := HTl.out; omega
           have hm0 : (0 : Int) ≤ ((trS p j).2.length : Int) := by omega
           go_upto_region 18 with fail
           have T7 := HT6.out.put (g := gp) (by omega) hgs.1 (i + j) (.int .i64 ((i : Int) + ((trS p j).2.length : Int)))
           have M7 := HM6.out.other (g' := gp) (by omega) (i + j) (.int .i64 ((i : Int) + ((trS p j).2.length : Int)))
           have L7 := HL6.out.set (i + j) ((i : Int) + ((trS p j).2.length : Int))
           have N7 : (w6.setCell ⟨gp, i + j, none⟩ (.int .i64 ((i : Int) + ((trS p j).2.length : Int)))).heap[g]? = _ := (Below.heap_setCell _ _ _ g (by show g ≠ gp; have := Hgg.out; omega)).trans N6
           clear y0 y1 y2 q0 q1 q2 cP fP N6 HT6 HM6 HL6
           generalize w6.setCell ⟨gp, i + j, none⟩ (.int .i64 ((i : Int) + ((trS p j).2.length : Int))) = w7 at *
           have hA8 := alloc_below w7 (.cells #[.int .u8 ok, .int .i64 A, .int .i64 C, .int .u64 oc] 78)
           obtain ⟨yz, yd, W9, hr, y9, z9, T9, B9⟩ := (T7.below hA8).op ⟨w7.heap.size, 0, none⟩ ⟨ok, A, C, oc⟩ (op_cells (heap_alloc_last w7 _)) (by have := HTl.out; omega)
           have HT9 := hide T9
           have HM9 := hide ((M7.below hA8).bel B9 hgs.2.1)
           have HL9 := hide ((L7.below hA8).bel B9 hgs.1)
           obtain ⟨o0, o1, o2, o3⟩ := cell4 N7
           obtain ⟨y0, y1, y2⟩ := cell3 T7.blk
           clear T9 M7 L7 B9 hA8 T7
           go_wp2_with (at_builtin; refine Lib.wpList_append_run _ rfl _ _ _ _ rfl _ _ rfl rfl _ _ hr ?_)
           go_roundw
           case rel => exact ⟨j + 1, yz, yd, _, by omega, by go_num, by rw [HE2.out, HSh.out, List.length_append]; exact HT9, HM9, HL9, HPq⟩
           case measure => simp [intOf]; omega
      · obtain rfl : j = p.ops.length := by omega
        have HPo : Hid (∀ v ∈ p.outs, 0 ≤ v ∧ v.toNat < i + p.ops.length ∧ xs.getD v.toNat 0 = (trS p p.ops.length).1.getD v.toNat 0) := fun v hv => by
         have h1 := may_out HM.out v hv
         rw [HN.out] at h1
         exact ⟨h1.1, h1.2, HPp.out _ h1.2 (.inr (wt_out HM.out hv))⟩
        clear HPp Ma HO hlt
        go_wp2_with fail
        go_loopw [79] (fun vi wr => ∃ (k : Nat) (za : Option Addr) (zc : Nat), k ≤ p.outs.length ∧ vi = .int .i64 k ∧ Hid (Tk w wr p (.slice ao p.ops.length co) (.slice au p.outs.length cu) w.heap.size b1 B B (.slice ya (trS p p.ops.length).2.length yc) (.slice za k zc) (trS p p.ops.length).2 (ouJ p k)) ∧ Hid (Ar (Value.int .i64) 131 320 wr gp xs)) (fun vi _ => p.outs.length - (intOf vi).toNat)
        case atStart => exact ⟨0, none, 0, Nat.zero_le _, rfl, T, Pl⟩
        case round =>
         clear T Pl p0 p1 p2
         obtain ⟨k, za, zc, hk, rfl, T, Pl⟩ := hrel
         by_cases hlt : k < p.outs.length
         · obtain ⟨b, off, cu', hv, _, hbl⟩ := HU.out.form (by omega)
           cases hv
           have ca := HU.out.int T.out.bl hlt
           have hok := HPo.out _ (List.getElem_mem hlt)
           have HNx := hide (ouJ_next p hlt)
           have Hul := hide (ouJ_len p hk)
           generalize p.outs[k] = u at *
           obtain ⟨a, rfl⟩ := Int.eq_ofNat_of_zero_le hok.1
           rw [Int.toNat_natCast] at hok HNx
           rw [← hok.2.2] at HNx
           have a0 : (0 : Int) ≤ (a : Int) := by omega
           have a1 : (a : Int) < 320 := by omega
           have cA := Pl.out.cell a 0 (by omega)
           clear hok
           generalize xs.getD a 0 = A at *
           have hk2 : k ≤ 64 := by omega
           obtain ⟨za4, zc4, w4, hr4, hS4, hz4, B4, T4, B5⟩ := Tk.out ((T.out.below (Below.refl _ wr).drew).below (alloc_below wr.drew (.cells #[.int .i64 A] 3))) ⟨wr.heap.size, 0, none⟩ A (show (wr.alloc (.cells #[.int .i64 A] 3)).cell? ⟨wr.heap.size, 0, none⟩ = _ by rw [Lib.cell_of_heap (heap_alloc_new wr _)]; rfl) (by rw [Hul.out]; omega)
           have HS : Hid (∀ W, Below wr.heap.size wr W → W.cell? ⟨B, 2, none⟩ = some (.slice za k zc) ∧ W.cell? ⟨gp, a, none⟩ = some (.int .i64 A)) := fun W hb => ⟨(cell3 (T.out.below hb).blk).2.2, (hb.cell (cell_in cA)).trans cA⟩
           have hS0 := HS.out wr.drew (Below.refl _ wr).drew
           have hS2 := fun ob => HS.out (wr.alloc ob).drew ((alloc_below wr ob).drew)
           have hS5 : w4.cell? ⟨B, 2, none⟩ = some (.slice za k zc) ∧ w4.cell? ⟨gp, a, none⟩ = some (.int .i64 A) := ⟨hS4, (B4.cell (p := ⟨gp, a, none⟩) Hgs.out.1).trans (hS2 (.cells #[.int .i64 A] 3)).2⟩
           have HL4 := hide (((Pl.out.drew).below (alloc_below wr.drew (.cells #[.int .i64 A] 3))).bel B5 Hgs.out.1)
           rw [Hul.out] at hr4 T4 HL4
           have HT4 := hide T4
           clear T4 B4 B5 hS4
           go_upto_region 23 with fail
           refine wp_region_mute (S := (fun W' => W'.cell? ⟨B, 2, none⟩ = some (.slice za k zc) ∧ W'.cell? ⟨gp, a, none⟩ = some (.int .i64 A))) (by kernel_rfl) (by kernel_rfl) rfl (by ((try dsimp only) <;> (first | with_reducible exact hS0 | with_reducible exact hS2 _ | with_reducible exact hS5))) (fun hHeld => ?_)
           simp only [muteL, mute]
           (refine tkY 0 ?_; (try simp only [ly0, ly1, ly2, ly3, ly4, ly5, ly6, ly7]))
           (refine tkY 1 ?_; (try simp only [ly0, ly1, ly2, ly3, ly4, ly5, ly6, ly7]))
           (refine tkY 2 ?_; (try simp only [ly0, ly1, ly2, ly3, ly4, ly5, ly6, ly7]))
           (refine tkY 3 ?_; (try simp only [ly0, ly1, ly2, ly3, ly4, ly5, ly6, ly7]))
           (refine tkY 4 ?_; (try simp only [ly0, ly1, ly2, ly3, ly4, ly5, ly6, ly7]))
           refine rd1 5 (fun K hK => ?_)
           (try simp only [ly0, ly1, ly2, ly3, ly4, ly5, ly6, ly7])
           go_simp
           refine hK.out _ _ (by ((try dsimp only) <;> (first | with_reducible exact hS0 | with_reducible exact hS2 _ | with_reducible exact hS5))) (fun hHeld => ?_)
           clear hK K
           (try simp only [ly0, ly1, ly2, ly3, ly4, ly5, ly6, ly7])
           refine rd1 6 (fun K hK => ?_)
           (refine app_mute (by rfl) _ _ _ _ (by rfl) _ _ (by rfl) (by rfl) _ w4 hr4 ?_)
           refine hK.out _ _ (by ((try dsimp only) <;> (first | with_reducible exact hS0 | with_reducible exact hS2 _ | with_reducible exact hS5))) (fun hHeld => ?_)
           clear hK K
           (try simp only [ly0, ly1, ly2, ly3, ly4, ly5, ly6, ly7])
           (refine tkY 7 ?_; (try simp only [ly0, ly1, ly2, ly3, ly4, ly5, ly6, ly7]))
           (refine tkY 8 ?_; (try simp only [ly0, ly1, ly2, ly3, ly4, ly5, ly6, ly7]))
           refine wpAnyH_done (by kernel_rfl) ?_ _
           simp only [muteQ]
           have hy := hS5.1
           clear hr4 hS0 hS2 hS5
           go_wp2_with fail
           go_roundw
           case rel => exact ⟨k + 1, za4, zc4, by omega, by go_num, by rw [HNx.out]; exact HT4, HL4⟩
           case measure => simp [intOf]; omega
         · obtain rfl : k = p.outs.length := by omega
           have HEn := hide (ouJ_end p)
           rw [HEn.out] at T
           obtain ⟨y0, y1, y2⟩ := cell3 T.out.blk
           obtain ⟨r0, r1, r2⟩ := cell3 T.out.rb
           have rf := fun k => Lib.frozen_of_heap T.out.rb k
           have HR := hide T.out.res
           have E1 : Hid (trE p = 0) := by show _ = _; unfold trE; rw [if_pos HM.out]
           have E2 : Hid (trR p = trP p) := by show _ = _; unfold trR; rw [if_pos HM.out]
           go_wp2_with fail
           rw [E1.out, E2.out]
           have eI : (trP p).inp = (i : Int) := hn
           rw [eI]
           obtain ⟨h1, h2, h3, h4⟩ := HR.out
           rw [hn] at h1 h2 h3 h4
           exact bodyPost_ret (res_ct (a := 2) (b := 3) rfl rfl rfl (load_prog h1)) rfl ⟨_, _, rfl, h2, h3, h4⟩
end Go.Proofs.YtnakbpaiidolbaaGreat
namespace Go.Proofs.YtnakbpaiidolbaaGreat
open Go.RowKit Fld Slp
set_option linter.unusedVariables false
set_option linter.unusedSimpArgs false
theorem tr_pm {w w' : World} {v vo vu : Value} {p : Pr} {B : Nat} (h : Pm w v p) (ho : w'.ownsRow B 78 4 vo (trR p).ops.length ((trR p).ops.flatMap opw)) (hu : w'.ownsRow B 3 1 vu (trR p).outs.length ((trR p).outs.flatMap iw)) : Pm w' (.agg #[.int .i64 (trR p).inp, vo, vu]) (trR p) := by
 cases hm : mayB p with
 | true =>
  have e : trR p = trP p := by unfold trR; rw [if_pos hm]
  rw [e] at ho hu ⊢
  obtain ⟨⟨i0, i1, l1, l2⟩, mo, mu⟩ := mayB_iff.1 hm
  obtain ⟨⟨j0, j1, k1, k2⟩, qo, qu⟩ := mayB_iff.1 (tr_may hm)
  refine ⟨⟨vo, vu, rfl, lm_of_own opw_len (by decide) ho (by omega), lm_of_own iw_len (by decide) hu (by omega)⟩, by omega, ?_, ?_⟩
  · intro o hoo
    obtain ⟨j, hj, rfl⟩ := List.mem_iff_getElem.1 hoo
    obtain ⟨i, h1, h2, h3⟩ := trS_from p p.ops.length j hj
    subst h3
    obtain ⟨hl, e2⟩ := trS_get h1 h1 h2
    have e3 : (trP p).ops[(trS p i).2.length]'hj = shO (trS p i).1 p.ops[i] := e2
    have hop := opsM_get (trP p).inp (trP p).ops 0 _ hj qo
    have ok := h.okb p.ops[i] (List.getElem_mem h1)
    rw [e3] at hop ⊢
    rw [Nat.zero_add] at hop
    unfold shO at hop ⊢
    by_cases h4 : p.ops[i].k = 4
    · rw [if_pos h4]; exact ok
    · rw [if_neg h4] at hop ⊢
      have hin : (trP p).inp = p.inp := rfl
      have hl2 := (trS_len p i).2
      unfold opM at hop
      split at hop
      · have := of_decide_eq_true hop
        dsimp only at this
        exact ⟨ok.1, by dsimp only; omega, by dsimp only; omega, ok.2.2.2⟩
      · first | (cases hop; done) | (rw [if_neg (by exact h4)] at hop; cases hop)
  · intro x hx
    have := of_decide_eq_true (List.all_eq_true.1 qu x hx)
    have hin : (trP p).inp = p.inp := rfl
    omega
 | false =>
  have e : trR p = pz := by unfold trR; rw [hm]; rfl
  rw [e] at ho hu ⊢
  exact ⟨⟨vo, vu, rfl, lm_of_own opw_len (by decide) ho (by decide), lm_of_own iw_len (by decide) hu (by decide)⟩, by decide, (fun o ho => by cases ho), (fun x hx => by cases hx)⟩
end Go.Proofs.YtnakbpaiidolbaaGreat
namespace Go.Proofs.YtnakbpaiidolbaaGreat
open Go.RowKit Fld Slp
set_option linter.unusedVariables false
set_option linter.unusedSimpArgs false
end Go.Proofs.YtnakbpaiidolbaaGreat
