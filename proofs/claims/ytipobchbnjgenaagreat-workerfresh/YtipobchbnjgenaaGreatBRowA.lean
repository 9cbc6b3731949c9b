import Derived.Deep.WholeRow
import Derived.Deep.CutBlock
import Derived.Test.YtipobchbnjgenaaGreatBunS
set_option linter.unusedVariables false
set_option linter.unusedSimpArgs false
set_option maxRecDepth 100000
set_option maxHeartbeats 4000000
namespace Go.Proofs.YtipobchbnjgenaaGreat
open Go.RowKit
theorem wpList_alloc_row {P : Program} {w : World} {ops : Array Oper} {rest : List Oper} {o : Oper} {a : Act} {Q : Exit -> Act -> World -> Prop} (hg : o.guard = none) (t : TypeId) (hop : o.op = .alloc t) (cs : Array Value) (hz : ((P.info? t).bind (·.zero)) = some (.agg cs))
 (hK : wpList P ops Q rest (a.put o.dst (.pointer (some ⟨w.heap.size, 0, none⟩))) (w.alloc (.cells cs t))) : wpList P ops Q (o :: rest) a w := by
 refine wpList_plain hg fun K hK' => ?_
 unfold Oper.wp
 have : (execOp a.eval o).run P w = .ok (.value (.pointer (some ⟨w.heap.size, 0, none⟩))) (w.alloc (.cells cs t)) := by
  cases hq : P.info? t with
  | none => rw [hq] at hz; cases hz
  | some i =>
   rw [hq] at hz
   have hz2 : i.zero = some (.agg cs) := hz
   simp [execOp, hop, Instr.alloc, zeroValue, typeInfo, hq, hz2, newVar, go_sem, Value.cells]
 rw [this]; exact hK' _ _ hK
theorem rowLoad {P : Program} {w : World} {ops : Array Oper} {rest : List Oper} {o : Oper} {a : Act} {Q : Exit -> Act -> World -> Prop} (hg : o.guard = none) (t : TypeId) (x : Operand) (hop : o.op = .load t x)
 (g n : Nat) (e ty : TypeId) (cs : Array Value) (hx : a.eval x = .pointer (some ⟨g, 0, none⟩)) (hh : w.heap[g]? = some (.cells cs ty (0, 0))) (hu : P.underlying t = some (.array n e)) (hi : (P.info? t).map (·.size) = some cs.size)
 (hK : wpList P ops Q rest (a.put o.dst (.agg cs)) w) : wpList P ops Q (o :: rest) a w := by
 refine wpList_plain hg fun K hK' => ?_
 unfold Oper.wp
 have : (execOp a.eval o).run P w = .ok (.value (.agg cs)) w := by
  simp [execOp, hop, hx, Instr.loadAt, Instr.sureAddr, run_loadVar_row w g ty t cs (0, 0) _ hh hu rfl hi]
 rw [this]; exact hK' _ _ hK
theorem rowStore {P : Program} {w : World} {ops : Array Oper} {rest : List Oper} {o : Oper} {a : Act} {Q : Exit -> Act -> World -> Prop} (hg : o.guard = none) (t : TypeId) (x y : Operand) (hop : o.op = .store t x y)
 (g : Nat) (ty : TypeId) (old cs : Array Value) (hx : a.eval x = .pointer (some ⟨g, 0, none⟩)) (hy : a.eval y = .agg cs) (hh : w.heap[g]? = some (.cells old ty (0, 0))) (hi : (P.info? t).map (·.size) = some cs.size) (ho : old.size = cs.size) (h1 : cs.all (·.oneCell') = true)
 (hK : wpList P ops Q rest (a.put o.dst undef) (w.setRow g cs)) : wpList P ops Q (o :: rest) a w := by
 refine wpList_plain hg fun K hK' => ?_
 unfold Oper.wp
 have : (execOp a.eval o).run P w = .ok .skip (w.setRow g cs) := by
  simp [execOp, hop, hx, hy, Instr.storeAt, Instr.sureAddr, run_storeVar_row w g ty t old cs hh hi ho h1]
 rw [this]; exact hK' _ _ hK
theorem rowOp {P : Program} {w w1 : World} {ops : Array Oper} {rest : List Oper} {o : Oper} {a : Act} {Q : Exit -> Act -> World -> Prop} (hg : o.guard = none) (v : Value) (hr : (execOp a.eval o).run P w = .ok (.value v) w1)
 (hK : wpList P ops Q rest (a.put o.dst v) w1) : wpList P ops Q (o :: rest) a w := by
 refine wpList_plain hg fun K hK' => ?_
 unfold Oper.wp
 rw [hr]; exact hK' _ _ hK
theorem rowVal {P : Program} {w : World} {ops : Array Oper} {rest : List Oper} {o : Oper} {a : Act} {Q : Exit -> Act -> World -> Prop} (hg : o.guard = none) (v : Value) (hr : (execOp a.eval o).run P w = .ok (.value v) w)
 (hK : wpList P ops Q rest (a.put o.dst v) w) : wpList P ops Q (o :: rest) a w := rowOp hg v hr hK
theorem rowCall {P : Program} {w : World} {ops : Array Oper} {rest : List Oper} {o : Oper} {a : Act} {Q : Exit -> Act -> World -> Prop} (hg : o.guard = none) (f : FuncId) (args : Array Value) (hr : (execOp a.eval o).run P w = .ok (.enter f args) w) {R : Ending -> World -> Prop} (hc : Calls P f args w R)
 (hK : ∀ e w', R e w' -> ∃ v, e = .returned v ∧ wpList P ops Q rest (a.put o.dst v) w') : wpList P ops Q (o :: rest) a w := by
 refine wpList_plain hg fun K hK' => ?_
 unfold Oper.wp
 rw [hr]
 refine hc.mono ?_
 intro e w' h
 obtain ⟨v, rfl, h2⟩ := hK e w' h
 exact hK' _ _ h2
end Go.Proofs.YtipobchbnjgenaaGreat
namespace Go.Proofs.YtipobchbnjgenaaGreat
open Go.RowKit Fld Slp
def Ar {α : Type} (f : α -> Value) (T : TypeId) (n : Nat) (w : World) (g : Nat) (xs : List α) : Prop := xs.length = n ∧ w.heap[g]? = some (.cells (xs.map f).toArray T (0, 0))
section
variable {α : Type} {f : α -> Value} {T : TypeId} {n : Nat}
theorem Ar.lt {w : World} {g : Nat} {xs : List α} (h : Ar f T n w g xs) : g < w.heap.size := (Array.getElem?_eq_some_iff.1 h.2).1
theorem Ar.below {w w' : World} {g : Nat} {xs : List α} (h : Ar f T n w g xs) (hb : Below w.heap.size w w') : Ar f T n w' g xs := ⟨h.1, (hb.block g h.lt).trans h.2⟩
theorem Ar.cell {w : World} {g : Nat} {xs : List α} (h : Ar f T n w g xs) (k : Nat) (d : α) (hk : k < n) : w.cell? ⟨g, k, none⟩ = some (f (xs.getD k d)) := by
 have hl : k < xs.length := by rw [h.1]; exact hk
 rw [cell_of_row w g k _ _ _ h.2, List.getD_eq_getElem?_getD]
 simp [hl]
theorem Ar.free {w : World} {g : Nat} {xs : List α} (h : Ar f T n w g xs) (k : Nat) : w.frozen? ⟨g, k, none⟩ = false := by
 simp [World.frozen?, h.2]
theorem Ar.set {w : World} {g : Nat} {xs : List α} (h : Ar f T n w g xs) (k : Nat) (x : α) : Ar f T n (w.setCell ⟨g, k, none⟩ (f x)) g (xs.set k x) := by
 refine ⟨by simpa using h.1, ?_⟩
 rw [set_blk h.2]
 simp [List.map_set]
theorem Ar.other {w : World} {g g' : Nat} {xs : List α} (h : Ar f T n w g xs) (hne : g ≠ g') (k : Nat) (u : Value) : Ar f T n (w.setCell ⟨g', k, none⟩ u) g xs :=
 ⟨h.1, (Below.heap_setCell _ _ _ g hne).trans h.2⟩
theorem ar_new (w : World) (xs : List α) (hl : xs.length = n) : Ar f T n (w.alloc (.cells (xs.map f).toArray T)) w.heap.size xs := ⟨hl, heap_alloc_last w _⟩
end
def rul : Array Value := #[.nilFunc, .func (.func 194) #[] #[], .func (.func 194) #[] #[], .func (.func 195) #[] #[], .func (.func 196) #[] #[]]
theorem rul_info : (Tryz.prog.info? 249).map (·.size) = some rul.size := by kernel_rfl
theorem rul_one : rul.all (·.oneCell') = true := by kernel_rfl
theorem gRules (w : World) : Calls Tryz.prog 187 #[] w fun e w' => e = .returned (.agg rul) ∧ Below w.heap.size w w' := by
 go_enter Tryz.func187, Tryz.ntmps187
 go_upto_region 2 with fail
 refine wp_region_lit ?_
 refine rowVal rfl (.func (.func 194) #[] #[]) (by simp [go_sem, execOp]) ?_
 refine rowVal rfl (.func (.func 194) #[] #[]) (by simp [go_sem, execOp]) ?_
 refine rowVal (v := .agg rul) rfl (by simp [go_sem, execOp, rul]) ?_
 refine rowStore rfl _ _ _ rfl w.heap.size _ _ _ rfl rfl (heap_alloc_last w _) rul_info (by rfl) rul_one ?_
 go_wp2
 refine bodyPost_ret (v := .agg rul) ?_ rfl ⟨rfl, below_setRow (alloc_below w _) (Nat.le_refl _) _⟩
 have hl := run_loadVar_row (P := Tryz.prog) _ w.heap.size _ 249 _ _ _ (setRow_heap _ _ _ rul _ _ (heap_alloc_last w (.cells #[.nilFunc, .nilFunc, .nilFunc, .nilFunc, .nilFunc] 249))) Tryz.underlying249 rfl rul_info
 exact resCell1 Tryz.results187 rfl hl
theorem gRule1 (a b : Int) (w : World) : Calls Tryz.prog 194 #[.int .i64 a, .int .i64 b] w fun e w' => e = .returned (.int .i64 (max a b)) ∧ w' = w := by
 by_cases h : a < b
 · have e : max a b = b := by omega
   rw [e]
   clear e
   go_enter Tryz.func194, Tryz.ntmps194
   go_wp2
   go_ret
   exact ⟨rfl, rfl⟩
 · have e : max a b = a := by omega
   rw [e]
   clear e
   go_enter Tryz.func194, Tryz.ntmps194
   go_wp2
   go_ret
   exact ⟨rfl, rfl⟩
theorem gRule2 (a b : Int) (w : World) (h0 : 0 <= a + b) (h1 : a + b <= 9223372036854775807) : Calls Tryz.prog 195 #[.int .i64 a, .int .i64 b] w fun e w' => e = .returned (.int .i64 (a + b)) ∧ w' = w := by
 go_enter Tryz.func195, Tryz.ntmps195
 go_wp2
 go_ret
 exact ⟨rfl, rfl⟩
theorem gRule3 (a b : Int) (w : World) : Calls Tryz.prog 196 #[.int .i64 a, .int .i64 b] w fun e w' => e = .returned (.int .i64 0) ∧ w' = w := by
 go_enter Tryz.func196, Tryz.ntmps196
 go_wp2
 go_ret
 exact ⟨rfl, rfl⟩
def ar9 {α : Type} (z : α) (l : List α) : List α := l ++ List.replicate (320 - l.length) z
theorem ar9_len {α : Type} {z : α} {l : List α} (h : l.length <= 320) : (ar9 z l).length = 320 := by unfold ar9; simp; omega
theorem ar9_set {α : Type} {z : α} {l : List α} (h : l.length < 320) (x : α) : (ar9 z l).set l.length x = ar9 z (l ++ [x]) := by
 unfold ar9
 rw [List.set_append_right _ _ (Nat.le_refl _), Nat.sub_self, show 320 - l.length = (320 - (l ++ [x]).length) + 1 by simp; omega, List.replicate_succ, List.set_cons_zero]
 simp
theorem ar9_get {α : Type} (z : α) (l : List α) (k : Nat) : (ar9 z l).getD k z = l.getD k z := by
 unfold ar9
 by_cases h : k < l.length
 · exact getD_app _ _ _ h
 · rw [List.getD_eq_getElem?_getD, List.getElem?_append_right (by omega), List.getElem?_replicate, List.getD_eq_getElem?_getD, List.getElem?_eq_none (by omega)]
   split <;> rfl
structure Dw {α : Type} (f : α -> Value) (T : TypeId) (w W : World) (p : Pr) (vo vu : Value) (b0 b1 b2 : Nat) (z : α) (xs : List α) : Prop where
 lo : w.heap.size <= b0
 l1 : b0 < b1
 l2 : b1 < b2
 pb : W.heap[b0]? = some (.cells #[.int .i64 p.inp, vo, vu] 28 (0, 0))
 rb : Ar f T 320 W b1 (List.replicate 320 z)
 ab : Ar f T 320 W b2 xs
 bl : Below w.heap.size w W
section
variable {α : Type} {f : α -> Value} {T : TypeId} {w W W' : World} {p : Pr} {vo vu : Value} {b0 b1 b2 : Nat} {z : α} {xs : List α}
theorem Dw.below (h : Dw f T w W p vo vu b0 b1 b2 z xs) (hb : Below W.heap.size W W') : Dw f T w W' p vo vu b0 b1 b2 z xs :=
 ⟨h.lo, h.l1, h.l2, (hb.block _ (Array.getElem?_eq_some_iff.1 h.pb).1).trans h.pb, h.rb.below hb, h.ab.below hb, Below.next h.bl hb⟩
theorem Dw.drewN (h : Dw f T w W p vo vu b0 b1 b2 z xs) (n : Nat) : Dw f T w (W.drewN n) p vo vu b0 b1 b2 z xs := h.below ⟨rfl, rfl, rfl, Nat.le_refl _, fun _ _ => rfl⟩
theorem Dw.set (h : Dw f T w W p vo vu b0 b1 b2 z xs) (k : Nat) (x : α) : Dw f T w (W.setCell ⟨b2, k, none⟩ (f x)) p vo vu b0 b1 b2 z (xs.set k x) := by
 have := h.l1
 have := h.l2
 have := h.lo
 exact ⟨h.lo, h.l1, h.l2, (Below.heap_setCell _ _ _ b0 (by show b0 ≠ b2; omega)).trans h.pb, h.rb.other (by omega) k _, h.ab.set k x, h.bl.setCell (p := ⟨b2, k, none⟩) (by show w.heap.size <= b2; omega) _⟩
end
theorem ints_zero : (Tryz.prog.info? 221).bind (·.zero) = some (.agg ((List.replicate 320 (0 : Int)).map (Value.int .i64)).toArray) := by kernel_rfl
theorem ints_size : (Tryz.prog.info? 221).map (·.size) = some 320 := by kernel_rfl
theorem iv_size {xs : List Int} (h : xs.length = 320) : (Tryz.prog.info? 221).map (·.size) = some (xs.map (Value.int .i64)).toArray.size := by rw [ints_size]; simp [h]
theorem iv_one (xs : List Int) : (xs.map (Value.int .i64)).toArray.all (·.oneCell') = true := by simp [Value.oneCell']
def iz (l : List Nat) : List Int := l.map (fun d : Nat => (d : Int))
theorem iz_len (l : List Nat) : (iz l).length = l.length := by simp [iz]
theorem iz_get (l : List Nat) (k : Nat) : (iz l).getD k 0 = ((l.getD k 0 : Nat) : Int) := by
 unfold iz
 rw [List.getD_eq_getElem?_getD, List.getElem?_map, List.getD_eq_getElem?_getD]
 cases l[k]? <;> rfl
theorem iz_snoc (l : List Nat) (x : Nat) : iz (l ++ [x]) = iz l ++ [(x : Int)] := by simp [iz]
theorem dw_new {α : Type} (f : α -> Value) (T : TypeId) (w : World) (p : Pr) (vo vu : Value) (z : α) : Dw f T w (((w.alloc (.cells #[.int .i64 p.inp, vo, vu] 28)).alloc (.cells ((List.replicate 320 z).map f).toArray T)).alloc (.cells ((List.replicate 320 z).map f).toArray T)) p vo vu w.heap.size (w.alloc (.cells #[.int .i64 p.inp, vo, vu] 28)).heap.size ((w.alloc (.cells #[.int .i64 p.inp, vo, vu] 28)).alloc (.cells ((List.replicate 320 z).map f).toArray T)).heap.size z (ar9 z []) := by
 obtain ⟨n1, n2, n3, hB⟩ := alloc3 w (.cells #[.int .i64 p.inp, vo, vu] 28) (.cells ((List.replicate 320 z).map f).toArray T) (.cells ((List.replicate 320 z).map f).toArray T)
 have s1 : ∀ (W : World) (o : Obj), (W.alloc o).heap.size = W.heap.size + 1 := fun W o => by simp
 exact ⟨Nat.le_refl _, by rw [s1]; exact Nat.lt_succ_self _, by rw [s1 (w.alloc _)]; exact Nat.lt_succ_self _, n1, ⟨List.length_replicate, by rw [s1]; exact n2⟩, ⟨List.length_replicate, by rw [s1, s1]; exact n3⟩, hB⟩
theorem rule_at {o : O4} {own : Int} (hm : opM o own = true) (L : List Nat) (hL : ∀ d ∈ L, d <= 1025) : ∃ (f k X : Nat), o.k = (k : Int) ∧ k < 5 ∧ rul[k]? = some (.func (.func f) #[] #[]) ∧ dgS L o = X ∧ (∀ args W, (callFunc f args).run Tryz.prog W = .ok (.enter f args) W) ∧ (∀ W, Calls Tryz.prog f #[.int .i64 ((L.getD o.a.toNat 0 : Nat) : Int), .int .i64 ((L.getD o.b.toNat 0 : Nat) : Int)] W fun e w' => e = .returned (.int .i64 (X : Int)) ∧ w' = W) := by
 have hg : ∀ k, L.getD k 0 <= 1025 := fun k => by
  rw [List.getD_eq_getElem?_getD]
  by_cases h : k < L.length
  · rw [List.getElem?_eq_getElem h]; exact hL _ (List.getElem_mem h)
  · rw [List.getElem?_eq_none (by omega)]; exact Nat.zero_le _
 have ha := hg o.a.toNat
 have hb := hg o.b.toNat
 unfold opM at hm
 by_cases h123 : o.k = 1 ∨ o.k = 2 ∨ o.k = 3
 · by_cases h3 : o.k = 3
   · refine ⟨_, 3, L.getD o.a.toNat 0 + L.getD o.b.toNat 0, h3, by decide, rfl, by unfold dgS; rw [if_neg (by omega), if_pos h3], (by intro args W; simp [go_sem]), fun W => ?_⟩
     rw [Int.natCast_add]
     exact gRule2 _ _ W (by omega) (by omega)
   · have h12 : o.k = 1 ∨ o.k = 2 := by omega
     have e : ∀ W, Calls Tryz.prog 194 #[.int .i64 ((L.getD o.a.toNat 0 : Nat) : Int), .int .i64 ((L.getD o.b.toNat 0 : Nat) : Int)] W fun e w' => e = .returned (.int .i64 ((max (L.getD o.a.toNat 0) (L.getD o.b.toNat 0) : Nat) : Int)) ∧ w' = W := fun W => by
      have := gRule1 ((L.getD o.a.toNat 0 : Nat) : Int) ((L.getD o.b.toNat 0 : Nat) : Int) W
      rw [show max ((L.getD o.a.toNat 0 : Nat) : Int) ((L.getD o.b.toNat 0 : Nat) : Int) = ((max (L.getD o.a.toNat 0) (L.getD o.b.toNat 0) : Nat) : Int) by omega] at this
      exact this
     rcases h12 with h | h
     · exact ⟨_, 1, _, h, by decide, rfl, by unfold dgS; rw [if_pos (by omega)], (by intro args W; simp [go_sem]), e⟩
     · exact ⟨_, 2, _, h, by decide, rfl, by unfold dgS; rw [if_pos (by omega)], (by intro args W; simp [go_sem]), e⟩
 · rw [if_neg h123] at hm
   by_cases h4 : o.k = 4
   · exact ⟨_, 4, 0, h4, by decide, rfl, by unfold dgS; rw [if_neg (by omega), if_neg (by omega)], (by intro args W; simp [go_sem]), fun W => gRule3 _ _ W⟩
   · rw [if_neg h4] at hm; cases hm
theorem dgL_cap : ∀ (os : List O4) (l : List Nat), (∀ d ∈ l, d <= 1025) -> ∀ d ∈ dgL cap9 l os, d <= 1025
 | [], l, h, d, hd => h d hd
 | o :: os, l, h, d, hd => dgL_cap os (l ++ [cap9 (dgS l o)]) (fun x hx => by
  rcases List.mem_append.1 hx with hx | hx
  · exact h x hx
  · rw [List.mem_singleton.1 hx]; unfold cap9; omega) d hd
theorem opM_args {o : O4} {own : Int} (hm : opM o own = true) : (0 <= o.a ∧ 0 <= o.b) ∧ (o.a <= own ∨ o.a = 0) ∧ (o.b <= own ∨ o.b = 0) := by
 unfold opM at hm
 split at hm
 · have := of_decide_eq_true hm; omega
 · split at hm
   · have := of_decide_eq_true hm; omega
   · cases hm
theorem gDegrees (v : Value) (p : Pr) (w : World) (h : Pm w v p) (hm : mayB p = true) : Calls Tryz.prog 161 #[v] w fun e w' => e = .returned (.agg ((ar9 0 (iz (cps p))).map (Value.int .i64)).toArray) ∧ Below w.heap.size w w' := by
 obtain ⟨⟨i0, i1, l1, l2⟩, mo, mu⟩ := mayB_iff.1 hm
 obtain ⟨n, hn⟩ := Int.eq_ofNat_of_zero_le i0
 obtain ⟨vo, vu, rfl, ho, hu⟩ := h.form
 obtain ⟨ao, co, rfl, _⟩ := ho.spell
 obtain ⟨au, cu, rfl, _⟩ := hu.spell
 have HO := hide ho
 have HMo := hide mo
 clear h hm mo mu ho hu i0
 go_enter Tryz.func161, Tryz.ntmps161
 go_upto_region 0 with fail
 refine wp_region_lit ?_
 refine rowOp (w1 := w.alloc (.cells #[.int .i64 p.inp, .slice ao p.ops.length co, .slice au p.outs.length cu] 28)) rfl (.pointer (some ⟨w.heap.size, 0, none⟩)) (by simp [go_sem, execOp]) ?_
 refine wpList_alloc_row rfl _ rfl _ ints_zero ?_
 go_upto_region 1 with fail
 refine wp_region_lit ?_
 refine wpList_alloc_row rfl _ rfl _ ints_zero ?_
 have D0 := dw_new (Value.int .i64) 221 w p (.slice ao p.ops.length co) (.slice au p.outs.length cu) (0 : Int)
 generalize (((w.alloc (.cells #[.int .i64 p.inp, .slice ao p.ops.length co, .slice au p.outs.length cu] 28)).alloc (.cells ((List.replicate 320 (0 : Int)).map (Value.int .i64)).toArray 221)).alloc (.cells ((List.replicate 320 (0 : Int)).map (Value.int .i64)).toArray 221)) = W0 at *
 generalize ((w.alloc (.cells #[.int .i64 p.inp, .slice ao p.ops.length co, .slice au p.outs.length cu] 28)).alloc (.cells ((List.replicate 320 (0 : Int)).map (Value.int .i64)).toArray 221)).heap.size = b2 at *
 generalize (w.alloc (.cells #[.int .i64 p.inp, .slice ao p.ops.length co, .slice au p.outs.length cu] 28)).heap.size = b1 at *
 obtain ⟨p0, p1, p2⟩ := cell3 D0.pb
 go_wp2_with fail
 go_loopw [11] (fun vi wr => ∃ (i : Nat), (i : Int) <= p.inp ∧ vi = .int .i64 i ∧ Hid (Dw (Value.int .i64) 221 w wr p (.slice ao p.ops.length co) (.slice au p.outs.length cu) w.heap.size b1 b2 0 (ar9 0 (iz (List.replicate i 1))))) (fun vi _ => 64 - (intOf vi).toNat)
 case atStart => exact ⟨0, by omega, rfl, D0⟩
 case round =>
  clear D0 p0 p1 p2
  obtain ⟨i, hi, rfl, F⟩ := hrel
  by_cases hlt : (i : Int) < p.inp
  · have i320 : (i : Int) < 320 := by omega
    have i00 : (0 : Int) <= (i : Int) := by omega
    have cA := F.out.ab.cell i 0 (by omega)
    have fA := F.out.ab.free i
    rw [ar9_get, iz_get] at cA
    have F2 := F.out.set i (1 : Int)
    have e : (ar9 (0 : Int) (iz (List.replicate i 1))).set i 1 = ar9 0 (iz (List.replicate (i + 1) 1)) := by
     have := ar9_set (z := (0 : Int)) (l := iz (List.replicate i 1)) (by rw [iz_len]; simp; omega) 1
     rw [iz_len, List.length_replicate] at this
     rw [this, List.replicate_succ', iz_snoc]; rfl
    rw [e] at F2
    have HF2 := hide F2
    clear F2 e
    go_wp2_with fail
    go_roundw
    case rel => exact ⟨i + 1, by omega, by go_num, HF2⟩
    case measure => simp [intOf]; omega
  · obtain rfl : i = n := by omega
    clear hlt
    go_upto_region 7 with fail
    refine wp_region_lit ?_
    refine rowCall rfl 187 #[] (by simp [go_sem, execOp]) (gRules _) ?_
    rintro e w1 ⟨rfl, hb1⟩
    refine ⟨_, rfl, ?_⟩
    refine wpList_alloc_row rfl _ rfl #[.nilFunc, .nilFunc, .nilFunc, .nilFunc, .nilFunc] (by kernel_rfl) ?_
    refine rowStore rfl _ _ _ rfl w1.heap.size _ _ rul rfl rfl (heap_alloc_last w1 _) rul_info (by rfl) rul_one ?_
    rw [World.setRow_alloc_new]
    have F1 := (F.out.below hb1).below (alloc_below w1 (.cells rul 249))
    have R1 : (w1.alloc (.cells rul 249)).heap[w1.heap.size]? = some (.cells rul 249 (0, 0)) := heap_alloc_last w1 _
    have HgB : Hid (b2 < w1.heap.size) := Nat.lt_of_lt_of_le F.out.ab.lt hb1.size
    generalize w1.alloc (.cells rul 249) = w2 at *
    generalize w1.heap.size = g at *
    clear F hb1
    obtain ⟨p0, p1, p2⟩ := cell3 F1.pb
    go_wp2_with fail
    go_loopw [21] (fun vi wr => ∃ (j : Nat), j <= p.ops.length ∧ vi = .int .i64 j ∧ Hid (Dw (Value.int .i64) 221 w wr p (.slice ao p.ops.length co) (.slice au p.outs.length cu) w.heap.size b1 b2 0 (ar9 0 (iz (dgL cap9 (List.replicate i 1) (p.ops.take j))))) ∧ Hid (wr.heap[g]? = some (.cells rul 249 (0, 0)))) (fun vi _ => p.ops.length - (intOf vi).toNat)
    case atStart => exact ⟨0, Nat.zero_le _, rfl, F1, R1⟩
    case round =>
     clear F1 p0 p1 p2
     obtain ⟨j, hj, rfl, F, Rr⟩ := hrel
     obtain ⟨p0, p1, p2⟩ := cell3 F.out.pb
     by_cases hlt : j < p.ops.length
     · obtain ⟨b, off, co', hv, _, hbl⟩ := HO.out.form (by omega)
       cases hv
       obtain ⟨ca, cb, cc, cd⟩ := HO.out.op F.out.bl hlt
       have HM : Hid (opM p.ops[j] (p.inp + (j : Int)) = true) := by
        have := opsM_get p.inp p.ops 0 j hlt HMo.out
        rw [Nat.zero_add] at this; exact this
       have HL := hide (dgL_cap (p.ops.take j) (List.replicate i 1) (fun d hd => by rw [(List.mem_replicate.1 hd).2]; decide))
       have HLn : Hid ((dgL cap9 (List.replicate i 1) (p.ops.take j)).length = i + j) := by show _ = _; rw [dgL_len, List.length_replicate, List.length_take]; omega
       have HNx := hide (dgL_next cap9 p.ops (List.replicate i 1) hlt)
       generalize dgL cap9 (List.replicate i 1) (p.ops.take j) = L at *
       generalize p.ops[j] = o at *
       obtain ⟨f, k, X, hk, hk5, hf, HX, hcf, HC⟩ := rule_at HM.out L HL.out
       have HC := hide HC
       have HX := hide HX
       obtain ⟨ok, oa, ob, oc⟩ := o
       obtain ⟨⟨a0, a1⟩, a2, a3⟩ := opM_args HM.out
       dsimp only at *
       subst hk
       obtain ⟨a, rfl⟩ := Int.eq_ofNat_of_zero_le a0
       obtain ⟨c, rfl⟩ := Int.eq_ofNat_of_zero_le a1
       rw [Int.toNat_natCast, Int.toNat_natCast] at HC
       have HF := hide (F.out.below (alloc_below wr (.cells #[.int .u8 k, .int .i64 a, .int .i64 c, .int .u64 oc] 85)))
       have cA := HF.out.ab.cell a 0 (by omega)
       have cC := HF.out.ab.cell c 0 (by omega)
       rw [ar9_get, iz_get] at cA cC
       have Rk : (wr.alloc (.cells #[.int .u8 k, .int .i64 a, .int .i64 c, .int .u64 oc] 85)).cell? ⟨g, k, none⟩ = some (.func (.func f) #[] #[]) := by
        have := ((alloc_below wr (.cells #[.int .u8 k, .int .i64 a, .int .i64 c, .int .u64 oc] 85)).block _ (Array.getElem?_eq_some_iff.1 Rr.out).1).trans Rr.out
        rw [cell_of_row _ g k _ _ _ this]; exact hf
       have k0 : (0 : Int) <= (k : Int) := by omega
       have k1 : (k : Int) < 5 := by omega
       have aa0 : (0 : Int) <= (a : Int) := by omega
       have aa1 : (a : Int) < 320 := by omega
       have cc0 : (0 : Int) <= (c : Int) := by omega
       have cc1 : (c : Int) < 320 := by omega
       generalize L.getD a 0 = A at *
       generalize L.getD c 0 = C at *
       clear a2 a3 hk5 hf a0 a1
       go_upto_region 11 with fail
       go_quiet (exact Calls.quiet_of_same (HC.out _))
       have G := HF.out.drewN nq
       have R3 : ((wr.alloc (.cells #[.int .u8 k, .int .i64 a, .int .i64 c, .int .u64 oc] 85)).drewN nq).heap[g]? = _ := ((alloc_below wr (.cells #[.int .u8 k, .int .i64 a, .int .i64 c, .int .u64 oc] 85)).block _ (Array.getElem?_eq_some_iff.1 Rr.out).1).trans Rr.out
       generalize (wr.alloc (.cells #[.int .u8 k, .int .i64 a, .int .i64 c, .int .u64 oc] 85)).drewN nq = w3 at *
       obtain ⟨q0, q1, q2⟩ := cell3 G.pb
       have cN := G.ab.cell (i + j) 0 (by omega)
       have fN := G.ab.free (i + j)
       have ij0 : (0 : Int) <= (i : Int) + (j : Int) := by omega
       have ij1 : (i : Int) + (j : Int) < 320 := by omega
       have ijn : ((i : Int) + (j : Int)).toNat = i + j := by omega
       have G2 := G.set (i + j) ((cap9 X : Nat) : Int)
       have e : (ar9 (0 : Int) (iz L)).set (i + j) ((cap9 X : Nat) : Int) = ar9 0 (iz (L ++ [cap9 X])) := by
        have := ar9_set (z := (0 : Int)) (l := iz L) (by rw [iz_len, HLn.out]; omega) ((cap9 X : Nat) : Int)
        rw [iz_len, HLn.out] at this
        rw [this, iz_snoc]
       rw [e] at G2
       have HR4 : Hid ((w3.setCell ⟨b2, i + j, none⟩ (.int .i64 ((cap9 X : Nat) : Int))).heap[g]? = some (.cells rul 249 (0, 0))) := (Below.heap_setCell _ _ _ g (by show g ≠ b2; have := HgB.out; omega)).trans R3
       have HG2 : Hid (Dw (Value.int .i64) 221 w (w3.setCell ⟨b2, i + j, none⟩ (.int .i64 ((cap9 X : Nat) : Int))) p (.slice (some ⟨b, off, none⟩) p.ops.length co) (.slice au p.outs.length cu) w.heap.size b1 b2 0 (ar9 0 (iz (dgL cap9 (List.replicate i 1) (p.ops.take (j + 1)))))) := by
        show Dw _ _ _ _ _ _ _ _ _ _ _ _
        rw [HNx.out, HX.out]; exact G2
       clear G2 e HX HNx HF cA cC Rk ca cb cc cd p0 p1 p2
       clear R3
       by_cases hX : ¬ (1025 : Int) < (X : Int)
       · have e : cap9 X = X := by unfold cap9; omega
         rw [e] at HG2 HR4
         clear e
         go_wp2_with fail
         go_roundw
         case rel => exact ⟨j + 1, by omega, by go_num, HG2, HR4⟩
         case measure => simp [intOf]; omega
       · have hX2 : (1025 : Int) < (X : Int) := by omega
         clear hX
         have e : ((cap9 X : Nat) : Int) = 1025 := by unfold cap9; omega
         rw [e] at HG2 HR4
         clear e
         go_wp2_with fail
         go_roundw
         case rel => exact ⟨j + 1, by omega, by go_num, HG2, HR4⟩
         case measure => simp [intOf]; omega
     · obtain rfl : j = p.ops.length := by omega
       rw [List.take_length] at F
       have HV : Hid (dgL cap9 (List.replicate i 1) p.ops = cps p) := by show _ = _; unfold cps; rw [hn, Int.toNat_natCast]
       rw [HV.out] at F
       have hl := F.out.ab.1
       have hz : (List.replicate 320 (0 : Int)).length = 320 := List.length_replicate
       go_upto_region 14 with fail
       refine wp_region_lit ?_
       refine rowLoad rfl _ _ rfl b2 320 3 _ _ rfl F.out.ab.2 Tryz.underlying221 (iv_size hl) ?_
       refine rowStore rfl _ _ _ rfl b1 _ _ _ rfl rfl F.out.rb.2 (iv_size hl) (by rw [List.size_toArray, List.size_toArray, List.length_map, List.length_map, hz, hl]) (iv_one _) ?_
       go_wp2
       refine bodyPost_ret (v := .agg ((ar9 0 (iz (cps p))).map (Value.int .i64)).toArray) ?_ rfl ⟨rfl, below_setRow F.out.bl (by have := F.out.l1; omega) _⟩
       have hl := run_loadVar_row (P := Tryz.prog) _ b1 _ 221 _ _ _ (setRow_heap wr _ _ ((ar9 0 (iz (cps p))).map (Value.int .i64)).toArray _ _ F.out.rb.2) Tryz.underlying221 rfl (iv_size hl)
       exact resCell1 Tryz.results161 rfl hl
section
variable {α : Type} {f : α -> Value} {T : TypeId} {m : Nat} {w W W' : World} {p : Pr} {vo vu : Value} {b0 b2 : Nat} {xs : List α}
end
theorem made_list (z : Value) (n : Nat) : madeCells #[z] (n * 1) = (List.replicate n z).toArray := by
 apply Array.ext'
 rw [toList_madeCells_one, Nat.mul_one]
end Go.Proofs.YtipobchbnjgenaaGreat
