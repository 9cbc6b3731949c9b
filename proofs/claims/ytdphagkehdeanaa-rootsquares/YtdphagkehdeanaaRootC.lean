/-
  Roots: the array of a field's roots.
-/
import Derived.Test.YtdphagkehdeanaaRootB
import Derived.Test.YtdphagkehdeanaaInvs
import Derived.Deep.WholeRow
import Derived.Deep.RegionWith
import Derived.Deep.CutRange
import Derived.Laws.CopyOwn
namespace Go.Proofs.Ytdphagkehdeanaa
open Go.RowKit Fld
set_option linter.unusedVariables false

/-- A block that holds an array of 33 words. -/
def Arr (w : World) (g : Nat) (ys : List Int) : Prop := ys.length = 33 ∧ w.heap[g]? = some (.cells (vals ys).toArray 59 (0, 0))
theorem Arr.lt {w : World} {g : Nat} {ys : List Int} (h : Arr w g ys) : g < w.heap.size := by
  apply Nat.lt_of_not_le; intro hc; have := h.2; rw [Array.getElem?_eq_none hc] at this; cases this
theorem Arr.below {w w' : World} {g : Nat} {ys : List Int} (h : Arr w g ys) (hb : Below w.heap.size w w') : Arr w' g ys := ⟨h.1, by rw [hb.block g h.lt]; exact h.2⟩
theorem Arr.drew {w : World} {g : Nat} {ys : List Int} (h : Arr w g ys) : Arr w.drew g ys := h.below (Below.refl _ _).drew
theorem Arr.cell {w : World} {g : Nat} {ys : List Int} (h : Arr w g ys) (k : Nat) (hk : k < 33) : w.cell? ⟨g, k, none⟩ = some (.int .u64 (ys.getD k 0)) := by
  rw [cell_of_row w g k _ _ _ h.2]
  have := vals_at ys k (by rw [h.1]; exact hk)
  simpa using this
theorem Arr.free {w : World} {g : Nat} {ys : List Int} (h : Arr w g ys) (k : Nat) : w.frozen? ⟨g, k, none⟩ = false := by
  simp [World.frozen?, h.2]
theorem Arr.set {w : World} {g : Nat} {ys : List Int} (h : Arr w g ys) (k : Nat) (x : Int) : Arr (w.setCell ⟨g, k, none⟩ (.int .u64 x)) g (ys.set k x) := by
  refine ⟨by simpa using h.1, ?_⟩
  rw [heap_setCell_same w g k _ _ _ h.2, ← vals_set]
  simp
theorem Arr.other {w : World} {g g' : Nat} {ys : List Int} (h : Arr w g ys) (hne : g ≠ g') (k : Nat) (u : Value) : Arr (w.setCell ⟨g', k, none⟩ u) g ys :=
  ⟨h.1, by rw [heap_setCell_other w _ g u hne]; exact h.2⟩
theorem Box2.set {w W : World} {a b : Int} {g k : Nat} (h : Box2 w a b W) (hg : w.heap.size < g) (u : Value) : Box2 w a b (W.setCell ⟨g, k, none⟩ u) := by
  obtain ⟨h1, h2, h3, h4⟩ := h
  exact ⟨(World.cell?_setCell_other W _ _ u (addr_ne (by omega))).trans h1, (World.cell?_setCell_other W _ _ u (addr_ne (by omega))).trans h2, by simpa using h3, h4.setCell (Nat.le_of_lt hg) u⟩

theorem vals_zeros : (vals (List.replicate 33 0)).toArray = #[.int .u64 0, .int .u64 0, .int .u64 0, .int .u64 0, .int .u64 0, .int .u64 0, .int .u64 0, .int .u64 0, .int .u64 0, .int .u64 0, .int .u64 0, .int .u64 0, .int .u64 0, .int .u64 0, .int .u64 0, .int .u64 0, .int .u64 0, .int .u64 0, .int .u64 0, .int .u64 0, .int .u64 0, .int .u64 0, .int .u64 0, .int .u64 0, .int .u64 0, .int .u64 0, .int .u64 0, .int .u64 0, .int .u64 0, .int .u64 0, .int .u64 0, .int .u64 0, .int .u64 0] := rfl

/-- A whole array out of a block. -/
theorem wpList_load_row {P : Program} {w : World} {ops : Array Oper} {rest : List Oper} {o : Oper} {a : Act} {Q : Exit → Act → World → Prop} (hg : o.guard = none) (t : TypeId) (x : Operand) (hop : o.op = .load t x)
    (g n : Nat) (e ty : TypeId) (cs : Array Value) (hx : a.eval x = .pointer (some ⟨g, 0, none⟩)) (hh : w.heap[g]? = some (.cells cs ty (0, 0))) (hu : P.underlying t = some (.array n e)) (hi : (P.info? t).map (·.size) = some cs.size)
    (hK : wpList P ops Q rest (a.put o.dst (.agg cs)) w) : wpList P ops Q (o :: rest) a w := by
  refine wpList_plain hg fun K hK' => ?_
  unfold Oper.wp
  have : (execOp a.eval o).run P w = .ok (.value (.agg cs)) w := by
    simp [execOp, hop, hx, Instr.loadAt, Instr.sureAddr, run_loadVar_row w g ty t cs (0, 0) _ hh hu rfl hi]
  rw [this]; exact hK' _ _ hK

/-- A whole array into a block. -/
theorem wpList_store_row {P : Program} {w : World} {ops : Array Oper} {rest : List Oper} {o : Oper} {a : Act} {Q : Exit → Act → World → Prop} (hg : o.guard = none) (t : TypeId) (x y : Operand) (hop : o.op = .store t x y)
    (g : Nat) (ty : TypeId) (old cs : Array Value) (hx : a.eval x = .pointer (some ⟨g, 0, none⟩)) (hy : a.eval y = .agg cs) (hh : w.heap[g]? = some (.cells old ty (0, 0))) (hi : (P.info? t).map (·.size) = some cs.size) (ho : old.size = cs.size) (h1 : cs.all (·.oneCell') = true)
    (hK : wpList P ops Q rest (a.put o.dst undef) (w.setRow g cs)) : wpList P ops Q (o :: rest) a w := by
  refine wpList_plain hg fun K hK' => ?_
  unfold Oper.wp
  have : (execOp a.eval o).run P w = .ok .skip (w.setRow g cs) := by
    simp [execOp, hop, hx, hy, Instr.storeAt, Instr.sureAddr, run_storeVar_row w g ty t old cs hh hi ho h1]
  rw [this]; exact hK' _ _ hK

/-- What a function answers that has one variable of memory for its result. -/
theorem results_cell1 {P : Program} {fn : Func} {tmps : Array Value} {w : World} {a : Nat} {t : TypeId} {ad : Addr} {v : Value} (hr : fn.results = #[.cell a t]) (ha : tmps.getD a undef = .pointer (some ad)) (hl : (loadVar t ad).run P w = .ok v w) :
    (results fn tmps).run P w = .ok v w := by
  have ha2 : tmps[a]?.getD undef = .pointer (some ad) := by rw [← ha]; simp
  simp [results, hr, ha2, asAddr, hl]

theorem vals_one (ys : List Int) : (vals ys).toArray.all (·.oneCell') = true := by simp [vals, Value.oneCell']

theorem roots_start (w w1 : World) (L g : Int) (T : TypeId) (hb : Below (((w.alloc (.cells #[.int .i64 L, .int .u64 g] T)).alloc (.cells (vals (List.replicate 33 0)).toArray 59)).alloc (.cells (vals (List.replicate 33 0)).toArray 59)).heap.size (((w.alloc (.cells #[.int .i64 L, .int .u64 g] T)).alloc (.cells (vals (List.replicate 33 0)).toArray 59)).alloc (.cells (vals (List.replicate 33 0)).toArray 59)) w1) :
    Box2 w L g w1 ∧ Arr w1 (w.heap.size + 1) (List.replicate 33 0) ∧ Arr w1 (w.heap.size + 2) (List.replicate 33 0) := by
  have a1 : ∀ (W : World), Arr (W.alloc (.cells (vals (List.replicate 33 0)).toArray 59)) W.heap.size (List.replicate 33 0) := fun W => ⟨by simp, heap_alloc_last W _⟩
  have up : ∀ (W : World) (o : Obj), Below W.heap.size W (W.alloc o) := fun W o => (Below.refl _ _).alloc (Nat.le_refl _) o
  refine ⟨(((Box2.first w L g T).below (up _ _)).below (up _ _)).below hb, ?_, ?_⟩
  · have := ((a1 (w.alloc (.cells #[.int .i64 L, .int .u64 g] T))).below (up _ (.cells (vals (List.replicate 33 0)).toArray 59))).below hb
    simpa using this
  · have := (a1 ((w.alloc (.cells #[.int .i64 L, .int .u64 g] T)).alloc (.cells (vals (List.replicate 33 0)).toArray 59))).below hb
    simpa using this


theorem shift_of {p : Int} {L : Nat} (h0 : 1 ≤ p) (h1 : p ≤ 18446744073709551615) : IntKind.u64.wrap (p - 1) / 2 ^ L = (p - 1) / 2 ^ L := by
  have e : IntKind.u64.wrap (p - 1) = p - 1 := by rw [IntKind.wrap_u64]; omega
  rw [e]

theorem shift_word {p : Int} {L : Nat} (h0 : 1 ≤ p) (h1 : p ≤ 18446744073709551615) : 0 ≤ (p - 1) / 2 ^ L ∧ (p - 1) / 2 ^ L ≤ 18446744073709551615 := word_shift (p - 1) L (by omega) (by omega)

/-- What the array holds, from the place k on. -/
def rt (p R : Int) (L k j : Nat) : Int := if k ≤ j ∧ j ≤ L then sq p R (L - j) else 0

theorem rep_getD (n j : Nat) : (List.replicate n (0 : Int)).getD j 0 = 0 := by
  rw [List.getD_eq_getElem?_getD, List.getElem?_replicate]; split <;> rfl
theorem rt_start (p R : Int) (L : Nat) (hL : L < 33) : ∀ j, j < 33 → ((List.replicate 33 (0 : Int)).set L R).getD j 0 = rt p R L L j := by
  intro j hj
  unfold rt
  rw [set_getD _ L j R (by simpa using hL)]
  by_cases h : j = L
  · rw [if_pos h, if_pos (by omega), h, Nat.sub_self]; rfl
  · rw [if_neg h, if_neg (by omega), rep_getD]

theorem rt_next {p R : Int} {L k : Nat} {ys : List Int} (hL : L < 33) (hk : k + 1 ≤ L) (hl : ys.length = 33) (h : ∀ j, j < 33 → ys.getD j 0 = rt p R L (k + 1) j) :
    ∀ j, j < 33 → (ys.set k (mul p (ys.getD (k + 1) 0) (ys.getD (k + 1) 0))).getD j 0 = rt p R L k j := by
  intro j hj
  have h1 := h (k + 1) (by omega)
  have h2 : rt p R L (k + 1) (k + 1) = sq p R (L - (k + 1)) := by unfold rt; rw [if_pos (by omega)]
  rw [set_getD _ k j _ (by omega), h1, h2]
  clear h1 h2
  unfold rt at *
  by_cases e : j = k
  · rw [if_pos e, if_pos (by omega), e]
    have : L - k = (L - (k + 1)) + 1 := by omega
    rw [this]; rfl
  · rw [if_neg e, h j hj]
    by_cases h2 : k + 1 ≤ j ∧ j ≤ L
    · rw [if_pos h2, if_pos (by omega)]
    · rw [if_neg h2, if_neg (by omega)]

theorem rt_el {p R : Int} {L k j : Nat} (hp : 0 < p) (hR : El p R) : El p (rt p R L k j) := by
  unfold rt; split
  · exact sq_el hp hR _
  · exact ⟨Int.le_refl 0, hp⟩

set_option maxRecDepth 100000 in
set_option maxHeartbeats 1000000 in
theorem rootsOf_yes (f p : Int) (wd : Bool) (L : Nat) (g R : Int) (w : World) (h : Lb f p wd L g) (hR : pow p g ((p - 1) / 2 ^ L) = R) :
    Calls Try.prog 23 #[.agg #[.int .i64 L, .int .u64 g], .int .u8 f] w fun e w' => e = .returned (.agg (vals ((List.range 33).map (rt p R L 0))).toArray) ∧ Below w.heap.size w w' := by
  have hx := hide (fun W => Prime_yes f p wd W h.fi)
  have hz := vals_zeros
  have HS := hide (roots_start w)
  have hp1 : 1 ≤ p := by have := h.fi.pos; omega
  have hL0 : (0 : Int) ≤ (L : Int) := Int.natCast_nonneg _
  have hL1 : (L : Int) < 33 := by have := h.le; omega
  have HL2 := hide h.le.2
  have hpw := hide (fun W => Pow_yes f p g ((p - 1) / 2 ^ L) wd W h.fi h.base (shift_word hp1 h.fi.top))
  rw [hR, ← shift_of hp1 h.fi.top] at hpw
  have HR : Hid (El p R) := by have := pow_el (a := g) (n := (p - 1) / 2 ^ L) h.fi.pos; rw [hR] at this; exact this
  have HM := hide (fun W x (hx : El p x) => Mul_yes f p x x wd W h.fi hx hx)
  have HP := hide h.fi.pos
  rw [hz] at HS
  clear h hp1 hz hR
  go_enter Try.func23, Try.ntmps23
  go_wp2_with (first
    | (go_at_call 29; refine (hx.out _).mono ?_; rintro e w1 ⟨rfl, hb⟩; obtain ⟨hB, hC, hA⟩ := HS.out _ _ _ _ hb; clear hb HS))
  have hc0 := hB.1
  have hc1 := hB.2.1
  go_upto_region 3 with fail
  go_cut [] from 14 to 28 (fun wx => Arr wx (w.heap.size + 2) ((List.replicate 33 0).set L R) ∧ Arr wx (w.heap.size + 1) (List.replicate 33 0) ∧ Box2 w L g wx)
  case first =>
    go_region_with (go_at_call 30; refine (hpw.out _).mono ?_; rintro e w2 ⟨rfl, hb2⟩; have hA2 := hA.drew.below hb2; have ha2 := hA2.cell L (by have := HL2.out; omega); have hf2 := hA2.free L; have hB2 := (hB.below (Below.refl _ w1).drew).below hb2; have hd0 := hB2.1; have hd1 := hB2.2.1)
    all_goals
      go_wp2_with fail
      go_meet
      exact ⟨hA2.set L R, (hC.drew.below hb2).other (g' := w.heap.size + 2) (by omega) L (.int .u64 R), hB2.set (g := w.heap.size + 2) (k := L) (by omega) (.int .u64 R)⟩
  case rest =>
    clear hA hB hC hc0 hc1 hpw
    obtain ⟨hA3, hC3, hB3⟩ := hcut
    have HY := hide (rt_start p R L (by have := HL2.out; omega))
    have hc0 := hB3.1
    have hc1 := hB3.2.1
    go_wp2_with fail
    go_loopw [8] (fun vk wr => ∃ (k : Nat) (ys : List Int), k ≤ L ∧ vk = .int .i64 k ∧ Arr wr (w.heap.size + 2) ys ∧ Arr wr (w.heap.size + 1) (List.replicate 33 0) ∧ Box2 w L g wr ∧ Hid (∀ j, j < 33 → ys.getD j 0 = rt p R L k j)) (fun vk _ => (intOf vk).toNat)
    case atStart => exact ⟨L, _, Nat.le_refl _, rfl, hA3, hC3, hB3, HY⟩
    case round =>
      clear hA3 hC3 hB3 HY hc0 hc1
      obtain ⟨k, ys, hk, rfl, hA, hC, hB, HY⟩ := hrel
      by_cases hpos : 0 < k
      · obtain ⟨j, HJ⟩ : ∃ j, Hid (k = j + 1) := ⟨k - 1, by show k = k - 1 + 1; omega⟩
        have hwr : IntKind.i64.wrap ((k : Int) - 1) = (j : Int) := by rw [IntKind.wrap_i64]; have := HJ.out; have := HL2.out; omega
        have ha := hA.cell k (by have := HL2.out; omega)
        have HE : Hid (El p (ys.getD k 0)) := by rw [HY.out k (by have := HL2.out; omega)]; exact rt_el HP.out HR.out
        have hm := hide (fun W => HM.out W _ HE.out)
        have HN : Hid (∀ i, i < 33 → (ys.set j (mul p (ys.getD k 0) (ys.getD k 0))).getD i 0 = rt p R L j i) := by
          have e := HJ.out
          have := HY.out
          subst e
          exact rt_next (by have := HL2.out; omega) hk hA.1 this
        have k0 : (0 : Int) ≤ (k : Int) := Int.natCast_nonneg _
        have k1 : (k : Int) < 33 := by omega
        have j0 : (0 : Int) ≤ (j : Int) := Int.natCast_nonneg _
        have j1 : (j : Int) < 33 := by have := HJ.out; omega
        generalize ys.getD k 0 = x at *
        go_wp2_with fail
        go_region_with (go_at_call 28; refine (hm.out _).mono ?_; rintro e w4 ⟨rfl, hb4⟩; have hA4 := hA.drew.below hb4; have ha4 := hA4.cell j (by have := HL2.out; have := HJ.out; omega); have hf4 := hA4.free j; have hg4 := hA4.cell k (by have := HL2.out; omega))
        all_goals
          have hA5 := hA4.set j (mul p x x)
          have hC5 := (hC.drew.below hb4).other (g' := w.heap.size + 2) (by omega) j (.int .u64 (mul p x x))
          have hB5 := ((hB.below (Below.refl _ wr).drew).below hb4).set (g := w.heap.size + 2) (k := j) (by omega) (.int .u64 (mul p x x))
          clear hA4 ha4 hf4 hg4 hb4 ha
          go_wp2
          go_roundw
          case rel => exact ⟨j, _, by have := HJ.out; omega, by have := HJ.out; have := HL2.out; go_num, hA5, hC5, hB5, HN⟩
          case measure => have := HJ.out; simp [intOf]; omega
      · obtain rfl : k = 0 := by omega
        have hAs : (vals ys).toArray.size = 33 := by simp [vals, hA.1]
        have hZs : (vals (List.replicate 33 (0 : Int))).toArray.size = 33 := by simp [vals]
        have HI : Hid ((Try.prog.info? 59).map (·.size) = some 33) := by show _ = _; kernel_rfl
        have HV : Hid (vals ys = vals ((List.range 33).map (rt p R L 0))) := by
          show _ = _
          rw [ext_getD ys ((List.range 33).map (rt p R L 0)) (by simp [hA.1]) (fun j hj => by
            have h33 : j < 33 := by have := hA.1; omega
            rw [HY.out j h33]
            simp [List.getD_eq_getElem?_getD, h33])]
        go_upto_region 8 with fail
        refine wp_region_lit ?_
        refine wpList_load_row rfl _ _ rfl (w.heap.size + 2) 33 22 _ _ rfl hA.2 Try.underlying59 (by rw [hAs]; exact HI.out) ?_
        refine wpList_store_row rfl _ _ _ rfl (w.heap.size + 1) _ _ _ rfl rfl hC.2 (by rw [hAs]; exact HI.out) (by rw [hAs, hZs]) (vals_one ys) ?_
        go_wp2
        refine bodyPost_ret (v := .agg (vals ys).toArray) ?_ rfl ⟨by rw [HV.out], below_setRow hB.2.2.2 (by omega) _⟩
        have hl := run_loadVar_row (P := Try.prog) (wr.setRow (w.heap.size + 1) (vals ys).toArray) (w.heap.size + 1) _ 59 _ _ _ (setRow_heap wr _ _ (vals ys).toArray _ _ hC.2) Try.underlying59 rfl (by rw [hAs]; exact HI.out)
        exact results_cell1 Try.results23 rfl hl

end Go.Proofs.Ytdphagkehdeanaa
