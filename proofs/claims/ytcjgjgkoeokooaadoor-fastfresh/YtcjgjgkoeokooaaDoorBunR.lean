/- Texts laid together: RootA, RootB, RootC, RootD, RootE, RootP, RootR, RootS, RootQ. -/
import Derived.Test.YtcjgjgkoeokooaaDoorBunW
import Derived.WalkMore
import Derived.Deep.WholeRow
import Derived.Deep.RegionWith
import Derived.Deep.CutRange
import Derived.Laws.CopyOwn
import Derived.Laws.BitsLemmas
import Derived.OwnWalk
import Derived.Laws.OwnMore
import Derived.Deep.AppendLies
namespace Go.Proofs.YtcjgjgkoeokooaaDoor
open Go.RowKit Fld
set_option linter.unusedVariables false

/-- Which field has which log, and of which base its roots are powers. -/
def Lb (f p : Int) (wd : Bool) (L : Nat) (g : Int) : Prop :=
  (f = 1 ∧ p = 2013265921 ∧ wd = false ∧ L = 27 ∧ g = 31) ∨ (f = 2 ∧ p = 18446744069414584321 ∧ wd = true ∧ L = 32 ∧ g = 7)
theorem Lb.fi {f p : Int} {wd : Bool} {L : Nat} {g : Int} (h : Lb f p wd L g) : Fi f p wd := by
  rcases h with ⟨a, b, c, _, _⟩ | ⟨a, b, c, _, _⟩
  · exact .inl ⟨a, b, c⟩
  · exact .inr ⟨a, b, c⟩
theorem Lb.le {f p : Int} {wd : Bool} {L : Nat} {g : Int} (h : Lb f p wd L g) : 27 ≤ L ∧ L ≤ 32 := by
  rcases h with ⟨_, _, _, h, _⟩ | ⟨_, _, _, h, _⟩ <;> omega
theorem Lb.base {f p : Int} {wd : Bool} {L : Nat} {g : Int} (h : Lb f p wd L g) : El p g := by
  rcases h with ⟨_, h, _, _, k⟩ | ⟨_, h, _, _, k⟩ <;> exact ⟨by omega, by omega⟩
theorem Lb_or (f : Int) : (∃ p wd L g, Lb f p wd L g) ∨ (f ≠ 1 ∧ f ≠ 2) := by
  by_cases h1 : f = 1
  · exact .inl ⟨_, _, _, _, .inl ⟨h1, rfl, rfl, rfl, rfl⟩⟩
  by_cases h2 : f = 2
  · exact .inl ⟨_, _, _, _, .inr ⟨h2, rfl, rfl, rfl, rfl⟩⟩
  exact .inr ⟨h1, h2⟩

/-- a squared k times. -/
def sq (p a : Int) : Nat → Int
  | 0 => a
  | k + 1 => mul p (sq p a k) (sq p a k)
theorem sq_el {p a : Int} (hp : 0 < p) (ha : El p a) (k : Nat) : El p (sq p a k) := by
  cases k with
  | zero => exact ha
  | succ k => exact mul_el hp

/-- A struct of an int and a word, boxed right behind w0. -/
def Box2 (w0 : World) (a b : Int) (w : World) : Prop :=
  w.cell? ⟨w0.heap.size, 0, none⟩ = some (.int .i64 a) ∧ w.cell? ⟨w0.heap.size, 1, none⟩ = some (.int .u64 b) ∧ w0.heap.size < w.heap.size ∧ Below w0.heap.size w0 w
theorem Box2.below {w0 w w1 : World} {a b : Int} (h : Box2 w0 a b w) (hb : Below w.heap.size w w1) : Box2 w0 a b w1 :=
  ⟨(hb.cell (p := ⟨w0.heap.size, 0, none⟩) h.2.2.1).trans h.1, (hb.cell (p := ⟨w0.heap.size, 1, none⟩) h.2.2.1).trans h.2.1, Nat.lt_of_lt_of_le h.2.2.1 hb.size, h.2.2.2.trans (hb.mono h.2.2.2.size)⟩
theorem Box2.first (w : World) (a b : Int) (T : TypeId) : Box2 w a b (w.alloc (.cells #[.int .i64 a, .int .u64 b] T)) :=
  ⟨by simp [go_sem], by simp [go_sem], by simp, (Below.refl _ _).alloc (Nat.le_refl _) _⟩

set_option maxHeartbeats 200000 in
theorem unityOf_yes (f p : Int) (wd : Bool) (L : Nat) (g : Int) (w : World) (h : Lb f p wd L g) :
    Calls Tryd.prog 71 #[.int .u8 f] w fun e w' => e = .returned (.tuple #[.agg #[.int .i64 L, .int .u64 g], .bool true]) ∧ Below w.heap.size w w' := by
  rcases h with ⟨rfl, rfl, rfl, rfl, rfl⟩ | ⟨rfl, rfl, rfl, rfl, rfl⟩
  · go_enter Tryd.func71, Tryd.ntmps71
    go_wp2
    exact bodyPost_ret (v := .tuple #[.agg #[.int .i64 27, .int .u64 31], .bool true]) (by simp [results, Tryd.results71, go_sem]) rfl ⟨rfl, (Below.refl _ _).alloc (Nat.le_refl _) _⟩
  · go_enter Tryd.func71, Tryd.ntmps71
    go_wp2
    exact bodyPost_ret (v := .tuple #[.agg #[.int .i64 32, .int .u64 7], .bool true]) (by simp [results, Tryd.results71, go_sem]) rfl ⟨rfl, (Below.refl _ _).alloc (Nat.le_refl _) _⟩

set_option maxHeartbeats 200000 in
theorem unityOf_no (f : Int) (w : World) (h1 : f ≠ 1) (h2 : f ≠ 2) :
    Calls Tryd.prog 71 #[.int .u8 f] w fun e w' => e = .returned (.tuple #[.agg #[.int .i64 0, .int .u64 0], .bool false]) ∧ Below w.heap.size w w' := by
  have e1 : (f == 1) = false := beq_eq_false_iff_ne.2 h1
  have e2 : (f == 2) = false := beq_eq_false_iff_ne.2 h2
  clear h1 h2
  go_enter Tryd.func71, Tryd.ntmps71
  go_wp2
  exact bodyPost_ret (v := .tuple #[.agg #[.int .i64 0, .int .u64 0], .bool false]) (by simp [results, Tryd.results71, go_sem]) rfl ⟨rfl, (Below.refl _ _).alloc (Nat.le_refl _) _⟩

end Go.Proofs.YtcjgjgkoeokooaaDoor

namespace Go.Proofs.YtcjgjgkoeokooaaDoor
open Go.RowKit Fld
set_option linter.unusedVariables false

/-- A list of one word, one block behind. -/
theorem row1b (w : World) (o : Obj) (a : Int) (ha : 0 ≤ a ∧ a ≤ 18446744073709551615) (T : TypeId) :
    Row ((w.alloc o).alloc (.cells #[.int .u64 a] T)) (.slice (some ⟨w.heap.size + 1, 0, none⟩) 1 1) [a] := by
  have := row1 (w.alloc o) a ha T
  simpa using this

end Go.Proofs.YtcjgjgkoeokooaaDoor

namespace Go.Proofs.YtcjgjgkoeokooaaDoor
open Go.RowKit Fld
set_option linter.unusedVariables false

/-- A block that holds an array of 33 words. -/
def Arr (w : World) (g : Nat) (ys : List Int) : Prop := ys.length = 33 ∧ w.heap[g]? = some (.cells (vals ys).toArray 82 (0, 0))
theorem Arr.lt {w : World} {g : Nat} {ys : List Int} (h : Arr w g ys) : g < w.heap.size := by
  apply Nat.lt_of_not_le; intro hc; have := h.2; rw [Array.getElem?_eq_none hc] at this; cases this
theorem Arr.below {w w' : World} {g : Nat} {ys : List Int} (h : Arr w g ys) (hb : Below w.heap.size w w') : Arr w' g ys := ⟨h.1, by rw [hb.block g h.lt]; exact h.2⟩
theorem Arr.drew {w : World} {g : Nat} {ys : List Int} (h : Arr w g ys) : Arr w.drew g ys := h.below (Below.refl _ _).drew
theorem Arr.cell {w : World} {g : Nat} {ys : List Int} (h : Arr w g ys) (k : Nat) (hk : k < 33) : w.cell? ⟨g, k, none⟩ = some (.int .u64 (ys.getD k 0)) := by
  rw [cell_of_row w g k _ _ _ h.2]
  have := vals_at ys k (by rw [h.1]; exact hk)
  simpa using this
theorem Arr.free {w : World} {g : Nat} {ys : List Int} (h : Arr w g ys) (k : Nat) : w.frozen? ⟨g, k, none⟩ = false := by
  simp [World.frozen?, h.2]
theorem Arr.set {w : World} {g : Nat} {ys : List Int} (h : Arr w g ys) (k : Nat) (x : Int) : Arr (w.setCell ⟨g, k, none⟩ (.int .u64 x)) g (ys.set k x) := by
  refine ⟨by simpa using h.1, ?_⟩
  rw [heap_setCell_same w g k _ _ _ h.2, ← vals_set]
  simp
theorem Arr.other {w : World} {g g' : Nat} {ys : List Int} (h : Arr w g ys) (hne : g ≠ g') (k : Nat) (u : Value) : Arr (w.setCell ⟨g', k, none⟩ u) g ys :=
  ⟨h.1, by rw [heap_setCell_other w _ g u hne]; exact h.2⟩
theorem Box2.set {w W : World} {a b : Int} {g k : Nat} (h : Box2 w a b W) (hg : w.heap.size < g) (u : Value) : Box2 w a b (W.setCell ⟨g, k, none⟩ u) := by
  obtain ⟨h1, h2, h3, h4⟩ := h
  exact ⟨(World.cell?_setCell_other W _ _ u (addr_ne (by omega))).trans h1, (World.cell?_setCell_other W _ _ u (addr_ne (by omega))).trans h2, by simpa using h3, h4.setCell (Nat.le_of_lt hg) u⟩

theorem vals_zeros : (vals (List.replicate 33 0)).toArray = #[.int .u64 0, .int .u64 0, .int .u64 0, .int .u64 0, .int .u64 0, .int .u64 0, .int .u64 0, .int .u64 0, .int .u64 0, .int .u64 0, .int .u64 0, .int .u64 0, .int .u64 0, .int .u64 0, .int .u64 0, .int .u64 0, .int .u64 0, .int .u64 0, .int .u64 0, .int .u64 0, .int .u64 0, .int .u64 0, .int .u64 0, .int .u64 0, .int .u64 0, .int .u64 0, .int .u64 0, .int .u64 0, .int .u64 0, .int .u64 0, .int .u64 0, .int .u64 0, .int .u64 0] := rfl

/-- A whole array out of a block. -/
theorem wpList_load_row {P : Program} {w : World} {ops : Array Oper} {rest : List Oper} {o : Oper} {a : Act} {Q : Exit → Act → World → Prop} (hg : o.guard = none) (t : TypeId) (x : Operand) (hop : o.op = .load t x)
    (g n : Nat) (e ty : TypeId) (cs : Array Value) (hx : a.eval x = .pointer (some ⟨g, 0, none⟩)) (hh : w.heap[g]? = some (.cells cs ty (0, 0))) (hu : P.underlying t = some (.array n e)) (hi : (P.info? t).map (·.size) = some cs.size)
    (hK : wpList P ops Q rest (a.put o.dst (.agg cs)) w) : wpList P ops Q (o :: rest) a w := by
  refine wpList_plain hg fun K hK' => ?_
  unfold Oper.wp
  have : (execOp a.eval o).run P w = .ok (.value (.agg cs)) w := by
    simp [execOp, hop, hx, Instr.loadAt, Instr.sureAddr, run_loadVar_row w g ty t cs (0, 0) _ hh hu rfl hi]
  rw [this]; exact hK' _ _ hK

/-- A whole array into a block. -/
theorem wpList_store_row {P : Program} {w : World} {ops : Array Oper} {rest : List Oper} {o : Oper} {a : Act} {Q : Exit → Act → World → Prop} (hg : o.guard = none) (t : TypeId) (x y : Operand) (hop : o.op = .store t x y)
    (g : Nat) (ty : TypeId) (old cs : Array Value) (hx : a.eval x = .pointer (some ⟨g, 0, none⟩)) (hy : a.eval y = .agg cs) (hh : w.heap[g]? = some (.cells old ty (0, 0))) (hi : (P.info? t).map (·.size) = some cs.size) (ho : old.size = cs.size) (h1 : cs.all (·.oneCell') = true)
    (hK : wpList P ops Q rest (a.put o.dst undef) (w.setRow g cs)) : wpList P ops Q (o :: rest) a w := by
  refine wpList_plain hg fun K hK' => ?_
  unfold Oper.wp
  have : (execOp a.eval o).run P w = .ok .skip (w.setRow g cs) := by
    simp [execOp, hop, hx, hy, Instr.storeAt, Instr.sureAddr, run_storeVar_row w g ty t old cs hh hi ho h1]
  rw [this]; exact hK' _ _ hK

/-- What a function answers that has one variable of memory for its result. -/
theorem results_cell1 {P : Program} {fn : Func} {tmps : Array Value} {w : World} {a : Nat} {t : TypeId} {ad : Addr} {v : Value} (hr : fn.results = #[.cell a t]) (ha : tmps.getD a undef = .pointer (some ad)) (hl : (loadVar t ad).run P w = .ok v w) :
    (results fn tmps).run P w = .ok v w := by
  have ha2 : tmps[a]?.getD undef = .pointer (some ad) := by rw [← ha]; simp
  simp [results, hr, ha2, asAddr, hl]

theorem vals_ones (ys : List Int) : (vals ys).toArray.all (·.oneCell') = true := by simp [vals, Value.oneCell']

theorem roots_start (w w1 : World) (L g : Int) (T : TypeId) (hb : Below (((w.alloc (.cells #[.int .i64 L, .int .u64 g] T)).alloc (.cells (vals (List.replicate 33 0)).toArray 82)).alloc (.cells (vals (List.replicate 33 0)).toArray 82)).heap.size (((w.alloc (.cells #[.int .i64 L, .int .u64 g] T)).alloc (.cells (vals (List.replicate 33 0)).toArray 82)).alloc (.cells (vals (List.replicate 33 0)).toArray 82)) w1) :
    Box2 w L g w1 ∧ Arr w1 (w.heap.size + 1) (List.replicate 33 0) ∧ Arr w1 (w.heap.size + 2) (List.replicate 33 0) := by
  have a1 : ∀ (W : World), Arr (W.alloc (.cells (vals (List.replicate 33 0)).toArray 82)) W.heap.size (List.replicate 33 0) := fun W => ⟨by simp, heap_alloc_last W _⟩
  have up : ∀ (W : World) (o : Obj), Below W.heap.size W (W.alloc o) := fun W o => (Below.refl _ _).alloc (Nat.le_refl _) o
  refine ⟨(((Box2.first w L g T).below (up _ _)).below (up _ _)).below hb, ?_, ?_⟩
  · have := ((a1 (w.alloc (.cells #[.int .i64 L, .int .u64 g] T))).below (up _ (.cells (vals (List.replicate 33 0)).toArray 82))).below hb
    simpa using this
  · have := (a1 ((w.alloc (.cells #[.int .i64 L, .int .u64 g] T)).alloc (.cells (vals (List.replicate 33 0)).toArray 82))).below hb
    simpa using this


theorem shift_of {p : Int} {L : Nat} (h0 : 1 ≤ p) (h1 : p ≤ 18446744073709551615) : IntKind.u64.wrap (p - 1) / 2 ^ L = (p - 1) / 2 ^ L := by
  have e : IntKind.u64.wrap (p - 1) = p - 1 := by rw [IntKind.wrap_u64]; omega
  rw [e]

theorem shift_word {p : Int} {L : Nat} (h0 : 1 ≤ p) (h1 : p ≤ 18446744073709551615) : 0 ≤ (p - 1) / 2 ^ L ∧ (p - 1) / 2 ^ L ≤ 18446744073709551615 := word_shift (p - 1) L (by omega) (by omega)

/-- What the array holds, from the place k on. -/
def rt (p R : Int) (L k j : Nat) : Int := if k ≤ j ∧ j ≤ L then sq p R (L - j) else 0

theorem rep_getD (n j : Nat) : (List.replicate n (0 : Int)).getD j 0 = 0 := by
  rw [List.getD_eq_getElem?_getD, List.getElem?_replicate]; split <;> rfl
theorem rt_start (p R : Int) (L : Nat) (hL : L < 33) : ∀ j, j < 33 → ((List.replicate 33 (0 : Int)).set L R).getD j 0 = rt p R L L j := by
  intro j hj
  unfold rt
  rw [set_getD _ L j R (by simpa using hL)]
  by_cases h : j = L
  · rw [if_pos h, if_pos (by omega), h, Nat.sub_self]; rfl
  · rw [if_neg h, if_neg (by omega), rep_getD]

theorem rt_next {p R : Int} {L k : Nat} {ys : List Int} (hL : L < 33) (hk : k + 1 ≤ L) (hl : ys.length = 33) (h : ∀ j, j < 33 → ys.getD j 0 = rt p R L (k + 1) j) :
    ∀ j, j < 33 → (ys.set k (mul p (ys.getD (k + 1) 0) (ys.getD (k + 1) 0))).getD j 0 = rt p R L k j := by
  intro j hj
  have h1 := h (k + 1) (by omega)
  have h2 : rt p R L (k + 1) (k + 1) = sq p R (L - (k + 1)) := by unfold rt; rw [if_pos (by omega)]
  rw [set_getD _ k j _ (by omega), h1, h2]
  clear h1 h2
  unfold rt at *
  by_cases e : j = k
  · rw [if_pos e, if_pos (by omega), e]
    have : L - k = (L - (k + 1)) + 1 := by omega
    rw [this]; rfl
  · rw [if_neg e, h j hj]
    by_cases h2 : k + 1 ≤ j ∧ j ≤ L
    · rw [if_pos h2, if_pos (by omega)]
    · rw [if_neg h2, if_neg (by omega)]

theorem rt_el {p R : Int} {L k j : Nat} (hp : 0 < p) (hR : El p R) : El p (rt p R L k j) := by
  unfold rt; split
  · exact sq_el hp hR _
  · exact ⟨Int.le_refl 0, hp⟩

set_option maxRecDepth 100000 in
set_option maxHeartbeats 1000000 in
theorem rootsOf_yes (f p : Int) (wd : Bool) (L : Nat) (g R : Int) (w : World) (h : Lb f p wd L g) (hR : pow p g ((p - 1) / 2 ^ L) = R) :
    Calls Tryd.prog 72 #[.agg #[.int .i64 L, .int .u64 g], .int .u8 f] w fun e w' => e = .returned (.agg (vals ((List.range 33).map (rt p R L 0))).toArray) ∧ Below w.heap.size w w' := by
  have hx := hide (fun W => Prime_yes f p wd W h.fi)
  have hz := vals_zeros
  have HS := hide (roots_start w)
  have hp1 : 1 ≤ p := by have := h.fi.pos; omega
  have hL0 : (0 : Int) ≤ (L : Int) := Int.natCast_nonneg _
  have hL1 : (L : Int) < 33 := by have := h.le; omega
  have HL2 := hide h.le.2
  have hpw := hide (fun W => Pow_yes f p g ((p - 1) / 2 ^ L) wd W h.fi h.base (shift_word hp1 h.fi.top))
  rw [hR, ← shift_of hp1 h.fi.top] at hpw
  have HR : Hid (El p R) := by have := pow_el (a := g) (n := (p - 1) / 2 ^ L) h.fi.pos; rw [hR] at this; exact this
  have HM := hide (fun W x (hx : El p x) => Mul_yes f p x x wd W h.fi hx hx)
  have HP := hide h.fi.pos
  rw [hz] at HS
  clear h hp1 hz hR
  go_enter Tryd.func72, Tryd.ntmps72
  go_wp2_with (first
    | (go_at_call 81; refine (hx.out _).mono ?_; rintro e w1 ⟨rfl, hb⟩; obtain ⟨hB, hC, hA⟩ := HS.out _ _ _ _ hb; clear hb HS))
  have hc0 := hB.1
  have hc1 := hB.2.1
  go_upto_region 3 with fail
  go_cut [] from 14 to 28 (fun wx => Arr wx (w.heap.size + 2) ((List.replicate 33 0).set L R) ∧ Arr wx (w.heap.size + 1) (List.replicate 33 0) ∧ Box2 w L g wx)
  case first =>
    go_region_with (go_at_call 87; refine (hpw.out _).mono ?_; rintro e w2 ⟨rfl, hb2⟩; have hA2 := hA.drew.below hb2; have ha2 := hA2.cell L (by have := HL2.out; omega); have hf2 := hA2.free L; have hB2 := (hB.below (Below.refl _ w1).drew).below hb2; have hd0 := hB2.1; have hd1 := hB2.2.1)
    all_goals
      go_wp2_with fail
      go_meet
      exact ⟨hA2.set L R, (hC.drew.below hb2).other (g' := w.heap.size + 2) (by omega) L (.int .u64 R), hB2.set (g := w.heap.size + 2) (k := L) (by omega) (.int .u64 R)⟩
  case rest =>
    clear hA hB hC hc0 hc1 hpw
    obtain ⟨hA3, hC3, hB3⟩ := hcut
    have HY := hide (rt_start p R L (by have := HL2.out; omega))
    have hc0 := hB3.1
    have hc1 := hB3.2.1
    go_wp2_with fail
    go_loopw [8] (fun vk wr => ∃ (k : Nat) (ys : List Int), k ≤ L ∧ vk = .int .i64 k ∧ Arr wr (w.heap.size + 2) ys ∧ Arr wr (w.heap.size + 1) (List.replicate 33 0) ∧ Box2 w L g wr ∧ Hid (∀ j, j < 33 → ys.getD j 0 = rt p R L k j)) (fun vk _ => (intOf vk).toNat)
    case atStart => exact ⟨L, _, Nat.le_refl _, rfl, hA3, hC3, hB3, HY⟩
    case round =>
      clear hA3 hC3 hB3 HY hc0 hc1
      obtain ⟨k, ys, hk, rfl, hA, hC, hB, HY⟩ := hrel
      by_cases hpos : 0 < k
      · obtain ⟨j, HJ⟩ : ∃ j, Hid (k = j + 1) := ⟨k - 1, by show k = k - 1 + 1; omega⟩
        have hwr : IntKind.i64.wrap ((k : Int) - 1) = (j : Int) := by rw [IntKind.wrap_i64]; have := HJ.out; have := HL2.out; omega
        have ha := hA.cell k (by have := HL2.out; omega)
        have HE : Hid (El p (ys.getD k 0)) := by rw [HY.out k (by have := HL2.out; omega)]; exact rt_el HP.out HR.out
        have hm := hide (fun W => HM.out W _ HE.out)
        have HN : Hid (∀ i, i < 33 → (ys.set j (mul p (ys.getD k 0) (ys.getD k 0))).getD i 0 = rt p R L j i) := by
          have e := HJ.out
          have := HY.out
          subst e
          exact rt_next (by have := HL2.out; omega) hk hA.1 this
        have k0 : (0 : Int) ≤ (k : Int) := Int.natCast_nonneg _
        have k1 : (k : Int) < 33 := by omega
        have j0 : (0 : Int) ≤ (j : Int) := Int.natCast_nonneg _
        have j1 : (j : Int) < 33 := by have := HJ.out; omega
        generalize ys.getD k 0 = x at *
        go_wp2_with fail
        go_region_with (go_at_call 60; refine (hm.out _).mono ?_; rintro e w4 ⟨rfl, hb4⟩; have hA4 := hA.drew.below hb4; have ha4 := hA4.cell j (by have := HL2.out; have := HJ.out; omega); have hf4 := hA4.free j; have hg4 := hA4.cell k (by have := HL2.out; omega))
        all_goals
          have hA5 := hA4.set j (mul p x x)
          have hC5 := (hC.drew.below hb4).other (g' := w.heap.size + 2) (by omega) j (.int .u64 (mul p x x))
          have hB5 := ((hB.below (Below.refl _ wr).drew).below hb4).set (g := w.heap.size + 2) (k := j) (by omega) (.int .u64 (mul p x x))
          clear hA4 ha4 hf4 hg4 hb4 ha
          go_wp2
          go_roundw
          case rel => exact ⟨j, _, by have := HJ.out; omega, by have := HJ.out; have := HL2.out; go_num, hA5, hC5, hB5, HN⟩
          case measure => have := HJ.out; simp [intOf]; omega
      · obtain rfl : k = 0 := by omega
        have hAs : (vals ys).toArray.size = 33 := by simp [vals, hA.1]
        have hZs : (vals (List.replicate 33 (0 : Int))).toArray.size = 33 := by simp [vals]
        have HI : Hid ((Tryd.prog.info? 82).map (·.size) = some 33) := by show _ = _; kernel_rfl
        have HV : Hid (vals ys = vals ((List.range 33).map (rt p R L 0))) := by
          show _ = _
          rw [ext_getD ys ((List.range 33).map (rt p R L 0)) (by simp [hA.1]) (fun j hj => by
            have h33 : j < 33 := by have := hA.1; omega
            rw [HY.out j h33]
            simp [List.getD_eq_getElem?_getD, h33])]
        go_upto_region 8 with fail
        refine wp_region_lit ?_
        refine wpList_load_row rfl _ _ rfl (w.heap.size + 2) 33 39 _ _ rfl hA.2 Tryd.underlying82 (by rw [hAs]; exact HI.out) ?_
        refine wpList_store_row rfl _ _ _ rfl (w.heap.size + 1) _ _ _ rfl rfl hC.2 (by rw [hAs]; exact HI.out) (by rw [hAs, hZs]) (vals_ones ys) ?_
        go_wp2
        refine bodyPost_ret (v := .agg (vals ys).toArray) ?_ rfl ⟨by rw [HV.out], below_setRow hB.2.2.2 (by omega) _⟩
        have hl := run_loadVar_row (P := Tryd.prog) (wr.setRow (w.heap.size + 1) (vals ys).toArray) (w.heap.size + 1) _ 82 _ _ _ (setRow_heap wr _ _ (vals ys).toArray _ _ hC.2) Tryd.underlying82 rfl (by rw [hAs]; exact HI.out)
        exact results_cell1 Tryd.results72 rfl hl

end Go.Proofs.YtcjgjgkoeokooaaDoor

namespace Go.Proofs.YtcjgjgkoeokooaaDoor
open Go.RowKit Fld
set_option linter.unusedVariables false

/-- The field's root of the log k. -/
def rv (p g : Int) (k : Nat) : Int := pow p g ((p - 1) / 2 ^ k)
theorem rv_el {p g : Int} {k : Nat} (hp : 0 < p) : El p (rv p g k) := pow_el hp

theorem sq_pow (p g : Int) (m : Int) (hm : 0 ≤ m) (n : Nat) : sq p (pow p g m) n = pow p g (m * 2 ^ n) := by
  induction n with
  | zero => rw [Int.pow_zero, Int.mul_one]; rfl
  | succ n ih =>
    have h0 : 0 ≤ m * 2 ^ n := Int.mul_nonneg hm (Int.le_of_lt (Int.pow_pos (by decide)))
    show mul p (sq p (pow p g m) n) (sq p (pow p g m) n) = _
    rw [ih, pow_add_law p g _ _ h0 h0, Int.pow_succ]
    congr 1
    rw [← Int.mul_assoc]; omega

theorem Lb.dvd {f p : Int} {wd : Bool} {L : Nat} {g : Int} (h : Lb f p wd L g) : (p - 1) / 2 ^ L * 2 ^ L = p - 1 := by
  rcases h with ⟨_, rfl, _, rfl, _⟩ | ⟨_, rfl, _, rfl, _⟩ <;> decide

theorem rv_sq {f p : Int} {wd : Bool} {L : Nat} {g : Int} (h : Lb f p wd L g) (k : Nat) (hk : k ≤ L) : sq p (rv p g L) (L - k) = rv p g k := by
  have h0 : 0 ≤ (p - 1) / 2 ^ L := (shift_word (p := p) (L := L) (by have := h.fi.pos; omega) h.fi.top).1
  unfold rv
  rw [sq_pow p g _ h0]
  congr 1
  have hd := h.dvd
  generalize (p - 1) / 2 ^ L = m at *
  rw [← hd]
  have e : (2 : Int) ^ L = 2 ^ (L - k) * 2 ^ k := by rw [← Int.pow_add]; congr 1; omega
  rw [e, ← Int.mul_assoc, Int.mul_ediv_cancel _ (Int.ne_of_gt (Int.pow_pos (by decide)))]

theorem rt_at {f p : Int} {wd : Bool} {L : Nat} {g : Int} (h : Lb f p wd L g) (k : Nat) (hk : k ≤ L) : (vals ((List.range 33).map (rt p (rv p g L) L 0))).toArray[k]? = some (.int .u64 (rv p g k)) := by
  have h33 : k < 33 := by have := h.le; omega
  have e : rt p (rv p g L) L 0 k = rv p g k := by unfold rt; rw [if_pos ⟨Nat.zero_le _, hk⟩]; exact rv_sq h k hk
  simp [vals, h33, e]

theorem Root_nof (f l : Int) (w : World) (h1 : f ≠ 1) (h2 : f ≠ 2) :
    Calls Tryd.prog 53 #[.int .u8 f, .int .i64 l] w fun e w' => e = .returned (.tuple #[.int .u64 0, .int .i64 2]) ∧ Below w.heap.size w w' := by
  have hx := hide (fun W => unityOf_no f W h1 h2)
  clear h1 h2
  go_enter Tryd.func53, Tryd.ntmps53
  go_wp2_with (go_at_call 71; refine (hx.out _).mono ?_; rintro e w1 ⟨rfl, hb⟩)
  go_ret2
  exact ⟨rfl, hb.alloc hb.size _⟩

theorem Root_out (f p : Int) (wd : Bool) (L : Nat) (g l : Int) (w : World) (h : Lb f p wd L g) (hl : l < 0 ∨ (L : Int) < l) :
    Calls Tryd.prog 53 #[.int .u8 f, .int .i64 l] w fun e w' => e = .returned (.tuple #[.int .u64 0, .int .i64 2]) ∧ Below w.heap.size w w' := by
  have hx := hide (fun W => unityOf_yes f p wd L g W h)
  clear h
  by_cases h1 : l < 0
  · clear hl
    go_enter Tryd.func53, Tryd.ntmps53
    go_wp2_with (go_at_call 71; refine (hx.out _).mono ?_; rintro e w1 ⟨rfl, hb⟩)
    go_ret2
    exact ⟨rfl, hb.alloc hb.size _⟩
  · have h2 : (L : Int) < l := by omega
    clear hl
    go_enter Tryd.func53, Tryd.ntmps53
    go_wp2_with (go_at_call 71; refine (hx.out _).mono ?_; rintro e w1 ⟨rfl, hb⟩)
    go_ret2
    exact ⟨rfl, hb.alloc hb.size _⟩

theorem index_arr (cs : Array Value) (k : Nat) (v : Value) (hk : k < 33) (hc : cs[k]? = some v) (W : World) : (Instr.index 82 (.agg cs) (.int .i64 (k : Int))).run Tryd.prog W = .ok v W := by
  have h0 : (0 : Int) ≤ (k : Int) := Int.natCast_nonneg _
  simp [Instr.index, part, isAgg, go_sem, run_underlying Tryd.underlying82, hc]
  intro h; omega

set_option maxHeartbeats 400000 in
theorem Root_yes (f p : Int) (wd : Bool) (L : Nat) (g : Int) (k : Nat) (w : World) (h : Lb f p wd L g) (hk : k ≤ L) :
    Calls Tryd.prog 53 #[.int .u8 f, .int .i64 k] w fun e w' => e = .returned (.tuple #[.int .u64 (rv p g k), .int .i64 0]) ∧ Below w.heap.size w w' := by
  have hx := hide (fun W => unityOf_yes f p wd L g W h)
  have hy := hide (fun W => rootsOf_yes f p wd L g (rv p g L) W h rfl)
  have ha := rt_at h k hk
  have hs : (vals ((List.range 33).map (rt p (rv p g L) L 0))).toArray.size = 33 := by simp [vals]
  have hL := h.le
  have k0 : (0 : Int) ≤ (k : Int) := Int.natCast_nonneg _
  have k1 : (k : Int) < 33 := by omega
  have hidx := index_arr _ k _ (by omega) ha
  clear h
  generalize (vals ((List.range 33).map (rt p (rv p g L) L 0))).toArray = cs at *
  generalize rv p g k = x at *
  go_enter Tryd.func53, Tryd.ntmps53
  go_wp2_with (first
    | (go_at_call 71; refine (hx.out _).mono ?_; rintro e w1 ⟨rfl, hb⟩)
    | (go_at_call 72; refine (hy.out _).mono ?_; rintro e w2 ⟨rfl, hb2⟩))
  go_ret2
  have := hb.size
  exact ⟨rfl, (hb.alloc hb.size _).trans (hb2.mono (by simp; omega))⟩

end Go.Proofs.YtcjgjgkoeokooaaDoor

namespace Go.Proofs.YtcjgjgkoeokooaaDoor
open Go.RowKit Fld
set_option linter.unusedVariables false

/-- The lowest i bits of n, the other way round. -/
def fr (n : Nat) : Nat → Nat
  | 0 => 0
  | i + 1 => 2 * fr n i + n / 2 ^ i % 2

theorem fr_lt (n i : Nat) : fr n i < 2 ^ i := by
  induction i with
  | zero => exact Nat.zero_lt_one
  | succ i ih => unfold fr; rw [Nat.pow_succ]; omega

theorem wraps_i64 (n : Int) (h0 : 0 ≤ n) (h1 : n < 2 ^ 63) : IntKind.i64.wrap n = n := by
  have e : (2 : Int) ^ 63 = 9223372036854775808 := by decide
  rw [e] at h1; rw [IntKind.wrap_i64]; omega

theorem and1_i64 (N : Int) (h0 : 0 ≤ N) (h1 : N ≤ 4294967295) : bits BinOp.and IntKind.i64 N 1 = N % 2 := by
  have e : (2 : Int) ^ 63 = 9223372036854775808 := by decide
  have h := bits_mask .i64 63 (by decide) wraps_i64 1 (by decide) N h0 (by rw [e]; omega)
  exact h

theorem or1_i64 (M b : Int) (h0 : 0 ≤ M) (h1 : M ≤ 4294967295) (b0 : 0 ≤ b) (b1 : b < 2) : bits BinOp.or IntKind.i64 (M * 2) b = 2 * M + b := by
  have e : (2 : Int) ^ 63 = 9223372036854775808 := by decide
  have h := bits_join .i64 63 (by decide) wraps_i64 1 (M * 2) b (by omega) (by show M * 2 % 2 = 0; omega) (by rw [e]; omega) b0 b1 (by rw [e]; omega)
  rw [h]; omega

theorem pow_le32 {i L : Nat} (h : i ≤ L) (hL : L ≤ 32) : 2 ^ i ≤ 4294967296 := Nat.le_trans (Nat.pow_le_pow_right (by decide) (Nat.le_trans h hL)) (by decide)

theorem half_nat (n i : Nat) : ((n / 2 ^ i : Nat) : Int) / 2 = ((n / 2 ^ (i + 1) : Nat) : Int) := by
  rw [Nat.pow_succ, ← Nat.div_div_eq_div_mul]; omega

theorem fr_step (n i : Nat) : 2 * ((fr n i : Nat) : Int) + ((n / 2 ^ i : Nat) : Int) % 2 = ((fr n (i + 1) : Nat) : Int) := by
  show _ = ((2 * fr n i + n / 2 ^ i % 2 : Nat) : Int)
  omega

set_option maxHeartbeats 200000 in
theorem Flip_yes (n L : Nat) (w : World) (hL : L ≤ 32) (hn : n < 2 ^ L) :
    Calls Tryd.prog 90 #[.int .i64 n, .int .i64 L] w fun e w' => e = .returned (.tuple #[.int .i64 (fr n L), .int .i64 0]) ∧ w' = w := by
  have hn2 : n ≤ 4294967295 := by have := pow_le32 (Nat.le_refl L) hL; omega
  have hz : ((n : Int) / 2 ^ L) = 0 := by
    have : n / 2 ^ L = 0 := Nat.div_eq_of_lt hn
    have e : ((n / 2 ^ L : Nat) : Int) = (n : Int) / 2 ^ L := by rw [Int.natCast_ediv, Int.natCast_pow]; rfl
    rw [← e, this]; rfl
  clear hn
  go_enter Tryd.func90, Tryd.ntmps90
  go_wp2
  clear hz
  go_loop [0, 6, 24] (fun vn vm vi => ∃ i : Nat, i ≤ L ∧ vn = .int .i64 ((n / 2 ^ i : Nat) : Int) ∧ vm = .int .i64 ((fr n i : Nat) : Int) ∧ vi = .int .i64 i) (fun _ _ vi => L - (intOf vi).toNat)
  case atStart => exact ⟨0, Nat.zero_le _, by simp, rfl, rfl⟩
  case round =>
    obtain ⟨i, hi, rfl, rfl, rfl⟩ := hrel
    by_cases hlt : i < L
    · have HN := hide (half_nat n i)
      have HM := hide (fr_step n i)
      have hN0 : 0 ≤ ((n / 2 ^ i : Nat) : Int) := Int.natCast_nonneg _
      have hN1 : ((n / 2 ^ i : Nat) : Int) ≤ 4294967295 := by have := Nat.div_le_self n (2 ^ i); omega
      have hM0 : 0 ≤ ((fr n i : Nat) : Int) := Int.natCast_nonneg _
      have hM1 : ((fr n i : Nat) : Int) ≤ 4294967295 := by have := fr_lt n i; have := pow_le32 hi hL; omega
      generalize ((n / 2 ^ i : Nat) : Int) = N at *
      generalize ((fr n i : Nat) : Int) = M at *
      have e1 := and1_i64 N hN0 hN1
      have e2 := or1_i64 M (N % 2) hM0 hM1 (by omega) (by omega)
      go_wp2
      go_round
      case rel => exact ⟨i + 1, by omega, by rw [HN.out], by rw [← HM.out], by go_num⟩
      case measure => simp [intOf]; omega
    · obtain rfl : i = L := by omega
      generalize ((n / 2 ^ i : Nat) : Int) = N at *
      obtain ⟨M, HM⟩ : ∃ M : Int, Hid (((fr n i : Nat) : Int) = M) := ⟨_, rfl⟩
      rw [HM.out]
      go_wp2
      go_ret2
      refine ⟨?_, rfl⟩
      show Ending.returned (.tuple #[.int .i64 M, .int .i64 0]) = _
      rw [← HM.out]

/-- What Flip refuses. -/
def NoFlip (n l : Int) : Prop := l < 0 ∨ 32 < l ∨ n < 0 ∨ ∃ L : Nat, l = L ∧ L ≤ 32 ∧ ∃ m : Nat, n = m ∧ 2 ^ L ≤ m

set_option maxHeartbeats 200000 in
theorem Flip_no (n l : Int) (w : World) (h : NoFlip n l) :
    Calls Tryd.prog 90 #[.int .i64 n, .int .i64 l] w fun e w' => e = .returned (.tuple #[.int .i64 0, .int .i64 2]) ∧ w' = w := by
  by_cases h1 : l < 0
  · clear h
    go_enter Tryd.func90, Tryd.ntmps90
    go_wp2
    go_ret2
    exact ⟨rfl, rfl⟩
  by_cases h2 : 32 < l
  · clear h
    go_enter Tryd.func90, Tryd.ntmps90
    go_wp2
    go_ret2
    exact ⟨rfl, rfl⟩
  by_cases h3 : n < 0
  · clear h
    go_enter Tryd.func90, Tryd.ntmps90
    go_wp2
    go_ret2
    exact ⟨rfl, rfl⟩
  · obtain ⟨L, rfl, hL, m, rfl, hm⟩ : ∃ L : Nat, l = L ∧ L ≤ 32 ∧ ∃ m : Nat, n = m ∧ 2 ^ L ≤ m := by
      rcases h with h | h | h | h
      · exact absurd h h1
      · exact absurd h h2
      · exact absurd h h3
      · exact h
    have hz : ((m : Int) / 2 ^ L != 0) = true := by
      have : 0 < m / 2 ^ L := Nat.div_pos hm (Nat.pow_pos (by decide))
      have e : ((m / 2 ^ L : Nat) : Int) = (m : Int) / 2 ^ L := by rw [Int.natCast_ediv, Int.natCast_pow]; rfl
      rw [← e, bne_iff_ne]; omega
    clear h1 h2 h3 hm
    go_enter Tryd.func90, Tryd.ntmps90
    go_wp2
    go_ret2
    exact ⟨rfl, rfl⟩

theorem cast_pow (L : Nat) : ((2 ^ L : Nat) : Int) = 2 ^ L := by rw [Int.natCast_pow]; rfl
theorem wrap_pow (L : Nat) (hL : L ≤ 32) : IntKind.i64.wrap (2 ^ L) = 2 ^ L := by
  have h := pow_le32 (Nat.le_refl L) hL
  rw [← cast_pow]
  generalize (2 ^ L : Nat) = q at *
  rw [IntKind.wrap_i64]; omega

end Go.Proofs.YtcjgjgkoeokooaaDoor

namespace Go.Proofs.YtcjgjgkoeokooaaDoor
open Go.RowKit Fld
set_option linter.unusedVariables false

/-- a to the power i, one factor at a time. -/
def pw (p a : Int) : Nat → Int
  | 0 => 1
  | i + 1 => mul p (pw p a i) a
def pws (p a : Int) (n : Nat) : List Int := (List.range n).map (pw p a)
theorem pws_len (p a : Int) (n : Nat) : (pws p a n).length = n := by simp [pws]
theorem pws_snoc (p a : Int) (n : Nat) : pws p a n ++ [pw p a n] = pws p a (n + 1) := by simp [pws, List.range_succ]
theorem pws_at (p a : Int) (n i : Nat) (h : i < n) : (pws p a n).getD i 0 = pw p a i := by simp [pws, List.getD_eq_getElem?_getD, h]
theorem pw_el {p a : Int} {wd : Bool} (hm : Md p wd) (i : Nat) : El p (pw p a i) := by
  cases i with
  | zero => exact one_el hm
  | succ i => exact mul_el (by have := hm.bounds; omega)
theorem pws_words {p a : Int} {wd : Bool} (hm : Md p wd) (n : Nat) : ∀ x ∈ pws p a n, 0 ≤ x ∧ x ≤ 18446744073709551615 := by
  intro x hx
  unfold pws at hx
  obtain ⟨i, _, rfl⟩ := List.mem_map.1 hx
  exact elWord (pw_el hm i) (by have := hm.bounds; omega)

/-- A list at the block g, made by the call. -/
def OwnG (w : World) (g n : Nat) (ys : List Int) : Prop := w.ownsRow g 39 1 (.slice (some ⟨g, 0, none⟩) n n) n (vals ys)
theorem OwnG.cell {wr : World} {g n : Nat} {ys : List Int} (h : OwnG wr g n ys) (hl : ys.length = n) (k : Nat) (hk : k < n) : wr.cell? ⟨g, k, none⟩ = some (.int .u64 (ys.getD k 0)) := by
  rw [h.cellAt k (by omega), vals_at ys k (by omega)]
theorem OwnG.free {wr : World} {g n : Nat} {ys : List Int} (h : OwnG wr g n ys) (k : Nat) : wr.frozen? ⟨g, k, none⟩ = false := h.frozenAt k
theorem OwnG.set {wr : World} {g n : Nat} {ys : List Int} (h : OwnG wr g n ys) (k : Nat) (x : Int) : OwnG (wr.setCell ⟨g, k, none⟩ (.int .u64 x)) g n (ys.set k x) := by
  have := (h.stored k (.int .u64 x)).1
  rw [vals_set] at this; exact this
theorem OwnG.made {W w1 : World} {n : Nat} (h : w1.ownsRow W.heap.size 39 1 (.slice (some ⟨W.heap.size, 0, none⟩) n n) n (madeCells (Value.int .u64 0).cells (n * 1)).toList) : OwnG w1 W.heap.size n (List.replicate n 0) := by
  have e : (madeCells (Value.int .u64 0).cells (n * 1)).toList = vals (List.replicate n 0) := by
    show (madeCells #[.int .u64 0] (n * 1)).toList = _
    rw [toList_madeCells_one, Nat.mul_one]; simp [vals]
  rw [e] at h; exact h

theorem upto_pw {p a P : Int} {ys : List Int} {k : Nat} (h : ∀ j, j < k → ys.getD j 0 = pw p a j) (hk : k < ys.length) (hP : pw p a k = P) : ∀ j, j < k + 1 → (ys.set k P).getD j 0 = pw p a j := by
  intro j hj
  rw [set_getD ys k j P hk]
  by_cases he : j = k
  · rw [if_pos he, he, hP]
  · rw [if_neg he]; exact h j (by omega)

set_option maxHeartbeats 200000 in
theorem Powers_no (f a n : Int) (w : World) (ha : 0 ≤ a ∧ a ≤ 18446744073709551615) (h : Bad f [a]) :
    Calls Tryd.prog 75 #[.int .u8 f, .int .u64 a, .int .i64 n] w fun e w' => e = .returned (.tuple #[.slice none 0 0, .int .i64 2]) ∧ Below w.heap.size w w' := by
  have hi := hide (fun W v hr => In_no f v [a] W h hr)
  have hrow := hide (fun T => row1 w a ha T)
  clear h ha
  go_enter Tryd.func75, Tryd.ntmps75
  go_wp2_with (go_at_call 61; refine (hi.out _ _ (hrow.out _)).mono ?_; rintro e w1 ⟨rfl, hb⟩)
  go_ret2
  exact ⟨rfl, below_one hb⟩

set_option maxHeartbeats 200000 in
theorem Powers_out (f p : Int) (wd : Bool) (a n e0 : Int) (w : World) (h : Fi f p wd) (ha : El p a) (hn : (n < 0 ∧ e0 = 2) ∨ (4096 < n ∧ e0 = 4)) :
    Calls Tryd.prog 75 #[.int .u8 f, .int .u64 a, .int .i64 n] w fun e w' => e = .returned (.tuple #[.slice none 0 0, .int .i64 e0]) ∧ Below w.heap.size w w' := by
  have hi := hide (fun W v hr => In_yes f p wd v [a] W h hr (allIn1 ha))
  have hrow := hide (fun T => row1 w a (elWord ha h.top) T)
  clear h ha
  rcases hn with ⟨hn, rfl⟩ | ⟨hn, rfl⟩
  · go_enter Tryd.func75, Tryd.ntmps75
    go_wp2_with (go_at_call 61; refine (hi.out _ _ (hrow.out _)).mono ?_; rintro e w1 ⟨rfl, hb⟩)
    go_ret2
    exact ⟨rfl, below_one hb⟩
  · go_enter Tryd.func75, Tryd.ntmps75
    go_wp2_with (go_at_call 61; refine (hi.out _ _ (hrow.out _)).mono ?_; rintro e w1 ⟨rfl, hb⟩)
    go_ret2
    exact ⟨rfl, below_one hb⟩

set_option maxRecDepth 100000 in
set_option maxHeartbeats 400000 in
theorem Powers_yes (f p : Int) (wd : Bool) (a : Int) (n : Nat) (w : World) (h : Fi f p wd) (ha : El p a) (hn : n ≤ 4096) :
    Calls Tryd.prog 75 #[.int .u8 f, .int .u64 a, .int .i64 n] w fun e w' => ∃ v', e = .returned (.tuple #[v', .int .i64 0]) ∧ Row w' v' (pws p a n) ∧ Below w.heap.size w w' := by
  obtain ⟨i0, hi0, hz0, hz1, hz2⟩ := info_parts u64_info
  have hi := hide (fun W v hr => In_yes f p wd v [a] W h hr (allIn1 ha))
  have hrow := hide (fun T => row1 w a (elWord ha h.top) T)
  have HM := hide (fun W x (hx : El p x) => Mul_yes f p x a wd W h hx ha)
  have HE := hide (fun i => pw_el (a := a) h.md i)
  have HW := hide (pws_words (a := a) h.md n)
  clear h ha
  go_enter Tryd.func75, Tryd.ntmps75
  go_wp2_with (first
    | (go_at_call 61; refine (hi.out _ _ (hrow.out _)).mono ?_; rintro e w1 ⟨rfl, hb⟩)
    | (at_make; refine wpList_make_full _ rfl _ _ 22 rfl w1.heap.size 39 i0 (.int .u64 0) 1 Tryd.underlying22 hi0 hz0 hz1 .i64 .i64 _ _ n rfl rfl (by omega) (by omega) (by rw [hz2]; omega) (by unfold maxLen; omega) (Nat.le_refl _) ?_; intro w2 hown hgrow))
  have hO := OwnG.made hown
  have hB := Below.next (below_one hb) (below_grown_none hgrow)
  have hg0 := (below_one hb).size
  clear hown hgrow hb
  go_loopw [9, 26] (fun vp vi wr => ∃ (k : Nat) (ys : List Int), k ≤ n ∧ vi = .int .i64 k ∧ vp = .int .u64 (pw p a k) ∧ ys.length = n ∧ OwnG wr w1.heap.size n ys ∧ Hid (∀ j, j < k → ys.getD j 0 = pw p a j) ∧ Below w.heap.size w wr) (fun _ vi _ => n - (intOf vi).toNat)
  case atStart => exact ⟨0, _, Nat.zero_le _, rfl, rfl, by simp, hO, fun j hj => by omega, hB⟩
  case round =>
    clear hO hB
    obtain ⟨k, ys, hk, rfl, rfl, hyl, hO, HY, hB⟩ := hrel
    by_cases hlt : k < n
    · have ho := hO.cell hyl k hlt
      have hfr := hO.free k
      have HS := hide (show mul p (pw p a k) a = pw p a (k + 1) from rfl)
      have HT := hide (upto_pw (P := pw p a k) HY.out (by omega) rfl)
      have hm := hide (fun W => HM.out W _ (HE.out k))
      generalize pw p a k = P at *
      generalize ys.getD k 0 = y at *
      go_wp2_with (go_at_call 60; refine (hm.out _).mono ?_; rintro e w3 ⟨rfl, hb⟩)
      have R1 := own_below (hO.set k P) hb
      have R2 := Below.next (hB.setCell (p := ⟨w1.heap.size, k, none⟩) hg0 (.int .u64 P)) hb
      go_roundw
      case rel => exact ⟨k + 1, _, by omega, by go_num, by rw [HS.out], by simpa using hyl, R1, HT, R2⟩
      case measure => simp [intOf]; omega
    · obtain rfl : k = n := by omega
      have HV : Hid (ys = pws p a k) := ext_getD ys (pws p a k) (by rw [pws_len, hyl]) (fun j hj => by rw [HY.out j (by omega), pws_at p a k j (by omega)])
      generalize pw p a k = P at *
      go_wp2
      go_ret2
      refine ⟨_, rfl, ?_, hB⟩
      have := hO
      unfold OwnG at this
      rw [HV.out] at this
      exact row_of_own this (pws_len p a k).symm (by rw [pws_len]; omega) HW.out

set_option maxHeartbeats 200000 in
theorem rPowers_no (f a n : Int) (w : World) (ha : 0 ≤ a ∧ a ≤ 18446744073709551615) (h : Bad f [a]) :
    Calls Tryd.prog 57 #[.int .u8 f, .int .u64 a, .int .i64 n] w fun e w' => e = .returned (.tuple #[.slice none 0 0, .int .i64 2]) ∧ Below w.heap.size w w' := by
  have hi := hide (fun W v hr => rIn_no f v [a] W h hr)
  have hrow := hide (fun T => row1 w a ha T)
  clear h ha
  go_enter Tryd.func57, Tryd.ntmps57
  go_wp2_with (go_at_call 51; refine (hi.out _ _ (hrow.out _)).mono ?_; rintro e w1 ⟨rfl, hw⟩; rw [hw]; clear hw)
  go_ret2
  exact ⟨rfl, (Below.refl _ _).alloc (Nat.le_refl _) _⟩

set_option maxHeartbeats 200000 in
theorem rPowers_out (f p : Int) (wd : Bool) (a n e0 : Int) (w : World) (h : Fi f p wd) (ha : El p a) (hn : (n < 0 ∧ e0 = 2) ∨ (4096 < n ∧ e0 = 4)) :
    Calls Tryd.prog 57 #[.int .u8 f, .int .u64 a, .int .i64 n] w fun e w' => e = .returned (.tuple #[.slice none 0 0, .int .i64 e0]) ∧ Below w.heap.size w w' := by
  have hi := hide (fun W v hr => rIn_yes f p wd v [a] W h hr (allIn1 ha))
  have hrow := hide (fun T => row1 w a (elWord ha h.top) T)
  clear h ha
  rcases hn with ⟨hn, rfl⟩ | ⟨hn, rfl⟩
  · go_enter Tryd.func57, Tryd.ntmps57
    go_wp2_with (go_at_call 51; refine (hi.out _ _ (hrow.out _)).mono ?_; rintro e w1 ⟨rfl, hw⟩; rw [hw]; clear hw)
    go_ret2
    exact ⟨rfl, (Below.refl _ _).alloc (Nat.le_refl _) _⟩
  · go_enter Tryd.func57, Tryd.ntmps57
    go_wp2_with (go_at_call 51; refine (hi.out _ _ (hrow.out _)).mono ?_; rintro e w1 ⟨rfl, hw⟩; rw [hw]; clear hw)
    go_ret2
    exact ⟨rfl, (Below.refl _ _).alloc (Nat.le_refl _) _⟩

theorem pws_step {w wr w1 : World} {v v1 : Value} {k : Nat} {p a y : Int} {T : TypeId} (hB : Below w.heap.size w wr) (hown : wr.ownsRow w.heap.size T 1 v k (vals (pws p a k)))
    (h1 : w1.ownsRow w.heap.size T 1 v1 (k + 1) (vals (pws p a k) ++ [.int .u64 y])) (hg : (wr.alloc (.cells #[.int .u64 y] T)).grownBy w1 v.ownBlock) (hy : pw p a k = y) :
    w1.ownsRow w.heap.size T 1 v1 (k + 1) (vals (pws p a (k + 1))) ∧ Below w.heap.size w w1 := by
  refine ⟨?_, ?_⟩
  · rw [← pws_snoc, hy, ← vals_snoc]; exact h1
  · exact (hB.alloc hB.size _).grown hg (by have := hB.size; simp; omega) (own_base hown)

set_option maxRecDepth 100000 in
set_option maxHeartbeats 400000 in
theorem rPowers_yes (f p : Int) (wd : Bool) (a : Int) (n : Nat) (w : World) (h : Fi f p wd) (ha : El p a) (hn : n ≤ 4096) :
    Calls Tryd.prog 57 #[.int .u8 f, .int .u64 a, .int .i64 n] w fun e w' => ∃ v', e = .returned (.tuple #[v', .int .i64 0]) ∧ Row w' v' (pws p a n) ∧ Below w.heap.size w w' := by
  obtain ⟨i0, hi0, hz0, hz1, hz2⟩ := info_parts u64_info
  have hi := hide (fun W v hr => rIn_yes f p wd v [a] W h hr (allIn1 ha))
  have hrow := hide (fun T => row1 w a (elWord ha h.top) T)
  have hP := hide (fun W => rP_yes f p wd W h)
  have HM := hide (fun W x (hx : El p x) => rTimes_any p x a W h.top hx ha.1 (elWord ha h.top).2)
  have HE := hide (fun i => pw_el (a := a) h.md i)
  have HW := hide (pws_words (a := a) h.md n)
  clear h ha
  go_enter Tryd.func57, Tryd.ntmps57
  go_wp2_with (go_at_call 51; refine (hi.out _ _ (hrow.out _)).mono ?_; rintro e w1 ⟨rfl, hw⟩; rw [hw]; clear hw)
  go_loopw [8, 9, 10] (fun vo vp vi wr => ∃ k : Nat, k ≤ n ∧ vi = .int .i64 k ∧ vp = .int .u64 (pw p a k) ∧ wr.ownsRow w.heap.size 39 1 vo k (vals (pws p a k)) ∧ Below w.heap.size w wr) (fun _ _ vi _ => n - (intOf vi).toNat)
  case atStart => exact ⟨0, Nat.zero_le _, rfl, rfl, World.ownsRow_nil _ _ _ _, (Below.refl _ _).alloc (Nat.le_refl _) _⟩
  case round =>
    obtain ⟨k, hk, rfl, rfl, hown, hB⟩ := hrel
    by_cases hlt : k < n
    · obtain ⟨P, HPw⟩ : ∃ P, Hid (pw p a k = P) := ⟨_, rfl⟩
      have HS : Hid (mul p P a = pw p a (k + 1)) := by show _ = _; rw [← HPw.out]; rfl
      have hm := hide (fun W => HM.out W _ (HE.out k))
      rw [HPw.out] at hm ⊢
      have hbs := hB.size
      have hown2 := hown
      generalize hq : pws p a k = q at hown2
      have HQ := hide hq
      clear hq
      go_wp2_with (first
        | (at_builtin; refine wpList_append_lies _ rfl _ _ _ rfl w.heap.size 39 i0 _ 1 8 Tryd.underlying22 hi0 hz0 hz1 hz2 rfl (by omega) u8 k _ rfl (hown2.alloc _) ⟨wr.heap.size, 0, none⟩ 1 1 [.int .u64 P] rfl rfl (World.news_of_block (cs := #[.int .u64 P]) (t := 39) (fr := (0, 0)) (heap_alloc_new wr _)) (by simp [Value.oneCell']) (by omega) (by unfold maxLen; omega) (by omega) (by simp; omega) (wr.heap.size + 1) (by simp) ?_; intro gg cap2 w3 hown3 hgrow hat hltg)
        | (go_at_call 24; refine (hP.out _).mono ?_; rintro e w1 ⟨rfl, hw⟩; rw [hw]; clear hw)
        | (go_at_call 23; refine (hm.out _).mono ?_; rintro e w1 ⟨rfl, hw⟩; rw [hw]; clear hw))
      rw [← HQ.out] at hown3
      have R := hide (pws_step hB hown hown3 hgrow HPw.out)
      clear hown3 hgrow hat hltg hown hown2
      go_roundw
      case rel => exact ⟨k + 1, by omega, by go_num, by rw [HS.out], R.out.1, R.out.2⟩
      case measure => simp [intOf]; omega
    · obtain rfl : k = n := by omega
      generalize pw p a k = P at *
      go_wp2
      go_ret2
      exact ⟨_, rfl, row_of_own hown (pws_len p a k).symm (by rw [pws_len]; omega) HW.out, hB⟩

end Go.Proofs.YtcjgjgkoeokooaaDoor

namespace Go.Proofs.YtcjgjgkoeokooaaDoor
open Go.RowKit Fld
set_option linter.unusedVariables false

theorem rTwo_yes (f p : Int) (wd : Bool) (L : Nat) (g : Int) (w : World) (h : Lb f p wd L g) :
    Calls Tryd.prog 56 #[.int .u8 f] w fun e w' => e = .returned (.int .i64 L) ∧ w' = w := by
  rcases h with ⟨rfl, rfl, rfl, rfl, rfl⟩ | ⟨rfl, rfl, rfl, rfl, rfl⟩
  · go_enter Tryd.func56, Tryd.ntmps56
    go_wp2
    go_ret
    exact ⟨rfl, rfl⟩
  · go_enter Tryd.func56, Tryd.ntmps56
    go_wp2
    go_ret
    exact ⟨rfl, rfl⟩

theorem rTwo_no (f : Int) (w : World) (h1 : f ≠ 1) (h2 : f ≠ 2) :
    Calls Tryd.prog 56 #[.int .u8 f] w fun e w' => e = .returned (.int .i64 (-1)) ∧ w' = w := by
  have e1 : (f == 1) = false := beq_eq_false_iff_ne.2 h1
  have e2 : (f == 2) = false := beq_eq_false_iff_ne.2 h2
  clear h1 h2
  go_enter Tryd.func56, Tryd.ntmps56
  go_wp2
  go_ret
  exact ⟨rfl, rfl⟩

theorem rRoot_of (f l t : Int) (w : World) (ht : ∀ W, Calls Tryd.prog 56 #[.int .u8 f] W fun e w' => e = .returned (.int .i64 t) ∧ w' = W) (h : l < 0 ∨ t < l) :
    Calls Tryd.prog 37 #[.int .u8 f, .int .i64 l] w fun e w' => e = .returned (.tuple #[.int .u64 0, .int .i64 2]) ∧ w' = w := by
  have ht := hide ht
  by_cases h1 : l < 0
  · clear h
    go_enter Tryd.func37, Tryd.ntmps37
    go_wp2
    go_ret2
    exact ⟨rfl, rfl⟩
  · have h2 : t < l := by omega
    clear h
    go_enter Tryd.func37, Tryd.ntmps37
    go_wp2_with (go_at_call 56; refine (ht.out _).mono ?_; rintro e w1 ⟨rfl, hw⟩; rw [hw]; clear hw)
    go_ret2
    exact ⟨rfl, rfl⟩

theorem rRoot_nof (f l : Int) (w : World) (h1 : f ≠ 1) (h2 : f ≠ 2) :
    Calls Tryd.prog 37 #[.int .u8 f, .int .i64 l] w fun e w' => e = .returned (.tuple #[.int .u64 0, .int .i64 2]) ∧ w' = w :=
  rRoot_of f l (-1) w (fun W => rTwo_no f W h1 h2) (by omega)
theorem rRoot_out (f p : Int) (wd : Bool) (L : Nat) (g l : Int) (w : World) (h : Lb f p wd L g) (hl : l < 0 ∨ (L : Int) < l) :
    Calls Tryd.prog 37 #[.int .u8 f, .int .i64 l] w fun e w' => e = .returned (.tuple #[.int .u64 0, .int .i64 2]) ∧ w' = w :=
  rRoot_of f l L w (fun W => rTwo_yes f p wd L g W h) hl

set_option maxHeartbeats 400000 in
theorem rRoot_yes (f p : Int) (wd : Bool) (L : Nat) (g : Int) (k : Nat) (w : World) (h : Lb f p wd L g) (hk : k ≤ L) :
    Calls Tryd.prog 37 #[.int .u8 f, .int .i64 k] w fun e w' => e = .returned (.tuple #[.int .u64 (rv p g k), .int .i64 0]) ∧ w' = w := by
  have ht := hide (fun W => rTwo_yes f p wd L g W h)
  have hP := hide (fun W => rP_yes f p wd W h.fi)
  have hp1 := h.fi.pos
  have hp2 := h.fi.top
  have hw := shift_word (p := p) (L := k) (by omega) hp2
  have hX := hide (fun W => rPower_any p g ((p - 1) / 2 ^ k) W hp2 (by have := h.fi.md.bounds; omega) h.base hw.1 hw.2)
  have hL := h.le
  have hmin : min k 64 = k := Nat.min_eq_left (by omega)
  have k0 : (0 : Int) ≤ (k : Int) := Int.natCast_nonneg _
  obtain ⟨x, HX⟩ : ∃ x, Hid (rv p g k = x) := ⟨_, rfl⟩
  have hX : Hid (∀ W, Calls Tryd.prog 46 #[.int .u64 p, .int .u64 g, .int .u64 ((p - 1) / 2 ^ k)] W fun e w' => e = .returned (.int .u64 x) ∧ w' = W) := by
    have := hX; rw [← HX.out]; exact this
  rw [HX.out]
  clear HX
  rcases h with ⟨rfl, rfl, rfl, rfl, rfl⟩ | ⟨rfl, rfl, rfl, rfl, rfl⟩
  · clear hw
    go_enter Tryd.func37, Tryd.ntmps37
    go_wp2_with (first
      | (go_at_call 56; refine (ht.out _).mono ?_; rintro e w1 ⟨rfl, hw⟩; rw [hw]; clear hw)
      | (go_at_call 24; refine (hP.out _).mono ?_; rintro e w1 ⟨rfl, hw⟩; rw [hw]; clear hw)
      | (go_at_call 46; refine (hX.out _).mono ?_; rintro e w1 ⟨rfl, hw⟩; rw [hw]; clear hw))
    go_ret2
    exact ⟨rfl, rfl⟩
  · clear hw
    go_enter Tryd.func37, Tryd.ntmps37
    go_wp2_with (first
      | (go_at_call 56; refine (ht.out _).mono ?_; rintro e w1 ⟨rfl, hw⟩; rw [hw]; clear hw)
      | (go_at_call 24; refine (hP.out _).mono ?_; rintro e w1 ⟨rfl, hw⟩; rw [hw]; clear hw)
      | (go_at_call 46; refine (hX.out _).mono ?_; rintro e w1 ⟨rfl, hw⟩; rw [hw]; clear hw))
    go_ret2
    exact ⟨rfl, rfl⟩

end Go.Proofs.YtcjgjgkoeokooaaDoor

namespace Go.Proofs.YtcjgjgkoeokooaaDoor
open Go.RowKit Fld
set_option linter.unusedVariables false

theorem pow_cast (P G N : Nat) : pow (P : Int) (G : Int) (N : Int) = ((G ^ N % P : Nat) : Int) := by
  unfold pow
  rw [Int.toNat_natCast, Int.natCast_emod, Int.natCast_pow]

theorem rv_pm (P G k r : Nat) (hP : 1 ≤ P) (hlt : (P - 1) / 2 ^ k < 2 ^ 64) (h : pm P 64 G ((P - 1) / 2 ^ k) % P = r) : rv (P : Int) (G : Int) k = (r : Int) := by
  have e : ((P : Int) - 1) / 2 ^ k = (((P - 1) / 2 ^ k : Nat) : Int) := by
    rw [Int.natCast_ediv, Int.natCast_pow, Int.natCast_sub hP]; rfl
  unfold rv
  rw [e, pow_cast, ← pm_pow P 64 G _ hlt, h]

theorem half_small : pm 2013265921 64 31 ((2013265921 - 1) / 2 ^ 1) % 2013265921 = 2013265920 := by decide +kernel
theorem half_large : pm 18446744069414584321 64 7 ((18446744069414584321 - 1) / 2 ^ 1) % 18446744069414584321 = 18446744069414584320 := by decide +kernel
theorem rv1_small : rv 2013265921 31 1 = 2013265920 := rv_pm 2013265921 31 1 2013265920 (by decide) (by decide +kernel) half_small
theorem rv1_large : rv 18446744069414584321 7 1 = 18446744069414584320 := rv_pm 18446744069414584321 7 1 18446744069414584320 (by decide) (by decide +kernel) half_large

theorem Lb.rv1 {f p : Int} {wd : Bool} {L : Nat} {g : Int} (h : Lb f p wd L g) : rv p g 1 = p - 1 := by
  rcases h with ⟨_, rfl, _, _, rfl⟩ | ⟨_, rfl, _, _, rfl⟩
  · exact rv1_small
  · exact rv1_large

theorem Lb.rv0 {f p : Int} {wd : Bool} {L : Nat} {g : Int} (h : Lb f p wd L g) : rv p g 0 = 1 := by
  unfold rv
  rw [Int.pow_zero, Int.ediv_one]
  exact fermat_law h.fi.md g h.base (by rcases h with ⟨_, _, _, _, rfl⟩ | ⟨_, _, _, _, rfl⟩ <;> decide)

end Go.Proofs.YtcjgjgkoeokooaaDoor

namespace Go.Proofs.YtcjgjgkoeokooaaDoor
open Go.RowKit Fld
set_option linter.unusedVariables false

theorem sq_add (p a : Int) (m n : Nat) : sq p (sq p a m) n = sq p a (m + n) := by
  induction n with
  | zero => rfl
  | succ n ih => show mul p (sq p (sq p a m) n) (sq p (sq p a m) n) = _; rw [ih]; rfl

theorem rv_down {f p : Int} {wd : Bool} {L : Nat} {g : Int} (h : Lb f p wd L g) (k i : Nat) (hk : k ≤ L) (hi : i ≤ k) : sq p (rv p g k) i = rv p g (k - i) := by
  rw [← rv_sq h k hk, sq_add, ← rv_sq h (k - i) (by omega)]
  congr 1; omega

theorem rv_step {f p : Int} {wd : Bool} {L : Nat} {g : Int} (h : Lb f p wd L g) (j : Nat) (hj : j + 1 ≤ L) : mul p (rv p g (j + 1)) (rv p g (j + 1)) = rv p g j := by
  have := rv_down h (j + 1) 1 hj (by omega)
  exact this

theorem sq_one {p : Int} {wd : Bool} (hm : Md p wd) (n : Nat) : sq p 1 n = 1 := by
  induction n with
  | zero => rfl
  | succ n ih => show mul p (sq p 1 n) (sq p 1 n) = 1; rw [ih]; unfold mul; rw [Int.mul_one]; exact Int.emod_eq_of_lt (by decide) (one_el hm).2

theorem rv_ne {f p : Int} {wd : Bool} {L : Nat} {g : Int} (h : Lb f p wd L g) (k : Nat) (hk : k ≤ L) (h1 : 1 ≤ k) : rv p g k ≠ 1 := by
  intro e
  have e2 := rv_down h k (k - 1) hk (by omega)
  rw [e, sq_one h.fi.md] at e2
  have e3 : k - (k - 1) = 1 := by omega
  rw [e3, h.rv1] at e2
  rcases h with ⟨_, rfl, _⟩ | ⟨_, rfl, _⟩ <;> omega

theorem rv_order {f p : Int} {wd : Bool} {L : Nat} {g : Int} (h : Lb f p wd L g) (k : Nat) (hk : k ≤ L) : sq p (rv p g k) k = 1 ∧ ∀ i, i < k → sq p (rv p g k) i ≠ 1 := by
  refine ⟨?_, fun i hi => ?_⟩
  · rw [rv_down h k k hk (Nat.le_refl _), Nat.sub_self]; exact h.rv0
  · rw [rv_down h k i hk (by omega)]; exact rv_ne h (k - i) (by omega) (by omega)

theorem rv_nz {f p : Int} {wd : Bool} {L : Nat} {g : Int} (h : Lb f p wd L g) (k : Nat) (hk : k ≤ L) : rv p g k ≠ 0 := by
  intro e
  have e1 := (rv_order h k hk).1
  have z : ∀ n, sq p 0 n = 0 := by
    intro n
    induction n with
    | zero => rfl
    | succ n ih => show mul p (sq p 0 n) (sq p 0 n) = 0; rw [ih]; simp [mul]
  rw [e, z] at e1
  cases e1

theorem pw_pow {p a : Int} {wd : Bool} (hm : Md p wd) (n : Nat) : pw p a n = pow p a (n : Int) := by
  induction n with
  | zero => show (1 : Int) = pow p a 0; rw [pow_zero_right]; exact (Int.emod_eq_of_lt (by decide) (one_el hm).2).symm
  | succ n ih =>
    show mul p (pw p a n) a = _
    rw [ih]
    unfold mul pow
    rw [mul_emod_left, Int.toNat_natCast, Int.toNat_natCast, Int.pow_succ]

theorem sq_pw {p a : Int} {wd : Bool} (hm : Md p wd) (ha : El p a) (n : Nat) : sq p a n = pw p a (2 ^ n) := by
  rw [pw_pow hm]
  have e : pow p a 1 = a := by unfold pow; rw [show (1 : Int).toNat = 1 from rfl, Int.pow_succ, Int.pow_zero, Int.one_mul]; exact Int.emod_eq_of_lt ha.1 ha.2
  have := sq_pow p a 1 (by decide) n
  rw [e, Int.one_mul] at this
  rw [this, Int.natCast_pow]; rfl

/-- The sum of the first k powers. -/
def sms (p a : Int) : Nat → Int
  | 0 => 0
  | k + 1 => add p (sms p a k) (pw p a k)
theorem sms_el {p a : Int} (hp : 0 < p) (k : Nat) : El p (sms p a k) := by
  cases k with
  | zero => exact ⟨Int.le_refl 0, hp⟩
  | succ k => exact add_el hp

theorem geos {p a : Int} {wd : Bool} (hm : Md p wd) (n : Nat) : (sms p a n * (a - 1)) % p = (pw p a n - 1) % p := by
  induction n with
  | zero => show (0 * (a - 1)) % p = (1 - 1) % p; rw [Int.zero_mul]; rfl
  | succ n ih =>
    show (((sms p a n + pw p a n) % p) * (a - 1)) % p = ((pw p a n * a) % p - 1) % p
    rw [mul_emod_left, Int.add_mul, Int.emod_sub_emod, Int.add_emod, ih, ← Int.add_emod]
    congr 1
    rw [Int.mul_sub, Int.mul_one]; omega

theorem sms_zero {f p : Int} {wd : Bool} {L : Nat} {g : Int} (h : Lb f p wd L g) (k : Nat) (hk : k ≤ L) (h1 : 1 ≤ k) : sms p (rv p g k) (2 ^ k) = 0 := by
  have hm := h.fi.md
  have hp := h.fi.pos
  have hg := geos (a := rv p g k) hm (2 ^ k)
  rw [← sq_pw hm (rv_el hp) k, (rv_order h k hk).1] at hg
  have hne := rv_ne h k hk h1
  have he : El p (rv p g k) := rv_el hp
  have hs : El p (sms p (rv p g k) (2 ^ k)) := sms_el hp _
  have hd : El p (sub p (rv p g k) 1) := sub_el hp
  have hd0 : sub p (rv p g k) 1 ≠ 0 := by
    intro e
    have := sub_back p (rv p g k) 1 he
    rw [e] at this
    unfold add at this
    rw [Int.zero_add, Int.emod_eq_of_lt (by decide) (one_el hm).2] at this
    exact hne this.symm
  have hz : mul p (sms p (rv p g k) (2 ^ k)) (sub p (rv p g k) 1) = 0 := by
    unfold mul sub; rw [mul_emod_right, hg]; rfl
  have hi := mul_inv hm _ hd hd0
  have hx : mul p (sms p (rv p g k) (2 ^ k)) (mul p (sub p (rv p g k) 1) (inv p (sub p (rv p g k) 1))) = 0 := by
    rw [← ring_assoc, hz]; simp [mul]
  rw [hi] at hx
  unfold mul at hx
  rw [Int.mul_one, Int.emod_eq_of_lt hs.1 hs.2] at hx
  exact hx

end Go.Proofs.YtcjgjgkoeokooaaDoor

