import Derived.Test.YtnakbpaiidolbaaGreatBunM
import Derived.Test.YtnakbpaiidolbaaGreatBRowA
import Derived.Deep.WholeRow
import Derived.Deep.RegionWith
import Derived.Deep.CutRange
import Derived.Deep.CutBlock
import Derived.Laws.CopyOwn
import Derived.Test.YtnakbpaiidolbaaGreatBunS
import Derived.Laws.MakeOwn
namespace Go.Proofs.YtnakbpaiidolbaaGreat
open Go.RowKit Fld Slp
set_option linter.unusedVariables false
set_option linter.unusedSimpArgs false
def Ar {α : Type} (f : α → Value) (T : TypeId) (n : Nat) (w : World) (g : Nat) (xs : List α) : Prop := xs.length = n ∧ w.heap[g]? = some (.cells (xs.map f).toArray T (0, 0))
section
variable {α : Type} {f : α → Value} {T : TypeId} {n : Nat}
theorem Ar.lt {w : World} {g : Nat} {xs : List α} (h : Ar f T n w g xs) : g < w.heap.size := (Array.getElem?_eq_some_iff.1 h.2).1
theorem Ar.below {w w' : World} {g : Nat} {xs : List α} (h : Ar f T n w g xs) (hb : Below w.heap.size w w') : Ar f T n w' g xs := ⟨h.1, (hb.block g h.lt).trans h.2⟩
theorem Ar.drew {w : World} {g : Nat} {xs : List α} (h : Ar f T n w g xs) : Ar f T n w.drew g xs := h.below (Below.refl _ _).drew
theorem Ar.cell {w : World} {g : Nat} {xs : List α} (h : Ar f T n w g xs) (k : Nat) (d : α) (hk : k < n) : w.cell? ⟨g, k, none⟩ = some (f (xs.getD k d)) := by
 have hl : k < xs.length := by rw [h.1]; exact hk
 rw [cell_of_row w g k _ _ _ h.2, List.getD_eq_getElem?_getD]
 simp [hl]
theorem Ar.free {w : World} {g : Nat} {xs : List α} (h : Ar f T n w g xs) (k : Nat) : w.frozen? ⟨g, k, none⟩ = false := by
 simp [World.frozen?, h.2]
theorem Ar.set {w : World} {g : Nat} {xs : List α} (h : Ar f T n w g xs) (k : Nat) (x : α) : Ar f T n (w.setCell ⟨g, k, none⟩ (f x)) g (xs.set k x) := by
 refine ⟨by simpa using h.1, ?_⟩
 rw [set_blk h.2]
 simp [List.map_set]
theorem Ar.other {w : World} {g g' : Nat} {xs : List α} (h : Ar f T n w g xs) (hne : g ≠ g') (k : Nat) (u : Value) : Ar f T n (w.setCell ⟨g', k, none⟩ u) g xs :=
 ⟨h.1, (Below.heap_setCell _ _ _ g hne).trans h.2⟩
theorem ar_new (w : World) (xs : List α) (hl : xs.length = n) : Ar f T n (w.alloc (.cells (xs.map f).toArray T)) w.heap.size xs := ⟨hl, heap_alloc_last w _⟩
end
end Go.Proofs.YtnakbpaiidolbaaGreat
namespace Go.Proofs.YtnakbpaiidolbaaGreat
open Go.RowKit Fld Slp
set_option linter.unusedVariables false
set_option linter.unusedSimpArgs false
def rul : Array Value := #[.nilFunc, .func (.func 138) #[] #[], .func (.func 138) #[] #[], .func (.func 139) #[] #[], .func (.func 140) #[] #[]]
theorem rul_info : (Tryz.prog.info? 163).map (·.size) = some rul.size := by kernel_rfl
theorem rul_one : rul.all (·.oneCell') = true := by kernel_rfl
set_option maxHeartbeats 100000 in
theorem gRules (w : World) : Calls Tryz.prog 118 #[] w fun e w' => e = .returned (.agg rul) ∧ Below w.heap.size w w' := by
 go_enter Tryz.func118, Tryz.ntmps118
 go_upto_region 2 with fail
 refine wp_region_lit ?_
 refine rowVal rfl (.func (.func 138) #[] #[]) (by simp [go_sem, execOp]) ?_
 refine rowVal rfl (.func (.func 138) #[] #[]) (by simp [go_sem, execOp]) ?_
 refine rowVal (v := .agg rul) rfl (by simp [go_sem, execOp, rul]) ?_
 refine rowStore rfl _ _ _ rfl w.heap.size _ _ _ rfl rfl (heap_alloc_last w _) rul_info (by rfl) rul_one ?_
 go_wp2
 refine bodyPost_ret (v := .agg rul) ?_ rfl ⟨rfl, below_setRow (alloc_below w _) (Nat.le_refl _) _⟩
 have hl := run_loadVar_row (P := Tryz.prog) _ w.heap.size _ 163 _ _ _ (setRow_heap _ _ _ rul _ _ (heap_alloc_last w (.cells #[.nilFunc, .nilFunc, .nilFunc, .nilFunc, .nilFunc] 163))) Tryz.underlying163 rfl rul_info
 exact resCell1 Tryz.results118 rfl hl
set_option maxHeartbeats 100000 in
theorem gRule1 (a b : Int) (w : World) : Calls Tryz.prog 138 #[.int .i64 a, .int .i64 b] w fun e w' => e = .returned (.int .i64 (max a b)) ∧ w' = w := by
 by_cases h : a < b
 · have e : max a b = b := by omega
   rw [e]
   clear e
   go_enter Tryz.func138, Tryz.ntmps138
   go_wp2
   go_ret
   exact ⟨rfl, rfl⟩
 · have e : max a b = a := by omega
   rw [e]
   clear e
   go_enter Tryz.func138, Tryz.ntmps138
   go_wp2
   go_ret
   exact ⟨rfl, rfl⟩
set_option maxHeartbeats 100000 in
theorem gRule2 (a b : Int) (w : World) (h0 : 0 ≤ a + b) (h1 : a + b ≤ 9223372036854775807) : Calls Tryz.prog 139 #[.int .i64 a, .int .i64 b] w fun e w' => e = .returned (.int .i64 (a + b)) ∧ w' = w := by
 go_enter Tryz.func139, Tryz.ntmps139
 go_wp2
 go_ret
 exact ⟨rfl, rfl⟩
set_option maxHeartbeats 100000 in
theorem gRule3 (a b : Int) (w : World) : Calls Tryz.prog 140 #[.int .i64 a, .int .i64 b] w fun e w' => e = .returned (.int .i64 0) ∧ w' = w := by
 go_enter Tryz.func140, Tryz.ntmps140
 go_wp2
 go_ret
 exact ⟨rfl, rfl⟩
end Go.Proofs.YtnakbpaiidolbaaGreat
namespace Go.Proofs.YtnakbpaiidolbaaGreat
open Go.RowKit Fld Slp
set_option linter.unusedVariables false
set_option linter.unusedSimpArgs false
def ar9 {α : Type} (z : α) (l : List α) : List α := l ++ List.replicate (320 - l.length) z
theorem ar9_len {α : Type} {z : α} {l : List α} (h : l.length ≤ 320) : (ar9 z l).length = 320 := by unfold ar9; simp; omega
theorem ar9_set {α : Type} {z : α} {l : List α} (h : l.length < 320) (x : α) : (ar9 z l).set l.length x = ar9 z (l ++ [x]) := by
 unfold ar9
 rw [List.set_append_right _ _ (Nat.le_refl _), Nat.sub_self, show 320 - l.length = (320 - (l ++ [x]).length) + 1 by simp; omega, List.replicate_succ, List.set_cons_zero]
 simp
theorem ar9_get {α : Type} (z : α) (l : List α) (k : Nat) : (ar9 z l).getD k z = l.getD k z := by
 unfold ar9
 by_cases h : k < l.length
 · exact getD_app _ _ _ h
 · rw [List.getD_eq_getElem?_getD, List.getElem?_append_right (by omega), List.getElem?_replicate, List.getD_eq_getElem?_getD, List.getElem?_eq_none (by omega)]
   split <;> rfl
structure Dw {α : Type} (f : α → Value) (T : TypeId) (w W : World) (p : Pr) (vo vu : Value) (b0 b1 b2 : Nat) (z : α) (xs : List α) : Prop where
 lo : w.heap.size ≤ b0
 l1 : b0 < b1
 l2 : b1 < b2
 pb : W.heap[b0]? = some (.cells #[.int .i64 p.inp, vo, vu] 28 (0, 0))
 rb : Ar f T 320 W b1 (List.replicate 320 z)
 ab : Ar f T 320 W b2 xs
 bl : Below w.heap.size w W
section
variable {α : Type} {f : α → Value} {T : TypeId} {w W W' : World} {p : Pr} {vo vu : Value} {b0 b1 b2 : Nat} {z : α} {xs : List α}
theorem Dw.below (h : Dw f T w W p vo vu b0 b1 b2 z xs) (hb : Below W.heap.size W W') : Dw f T w W' p vo vu b0 b1 b2 z xs :=
 ⟨h.lo, h.l1, h.l2, (hb.block _ (Array.getElem?_eq_some_iff.1 h.pb).1).trans h.pb, h.rb.below hb, h.ab.below hb, Below.next h.bl hb⟩
theorem Dw.drewN (h : Dw f T w W p vo vu b0 b1 b2 z xs) (n : Nat) : Dw f T w (W.drewN n) p vo vu b0 b1 b2 z xs := h.below ⟨rfl, rfl, rfl, Nat.le_refl _, fun _ _ => rfl⟩
theorem Dw.set (h : Dw f T w W p vo vu b0 b1 b2 z xs) (k : Nat) (x : α) : Dw f T w (W.setCell ⟨b2, k, none⟩ (f x)) p vo vu b0 b1 b2 z (xs.set k x) := by
 have := h.l1
 have := h.l2
 have := h.lo
 exact ⟨h.lo, h.l1, h.l2, (Below.heap_setCell _ _ _ b0 (by show b0 ≠ b2; omega)).trans h.pb, h.rb.other (by omega) k _, h.ab.set k x, h.bl.setCell (p := ⟨b2, k, none⟩) (by show w.heap.size ≤ b2; omega) _⟩
end
theorem ints_zero : (Tryz.prog.info? 131).bind (·.zero) = some (.agg ((List.replicate 320 (0 : Int)).map (Value.int .i64)).toArray) := by kernel_rfl
theorem ints_size : (Tryz.prog.info? 131).map (·.size) = some 320 := by kernel_rfl
theorem iv_size {xs : List Int} (h : xs.length = 320) : (Tryz.prog.info? 131).map (·.size) = some (xs.map (Value.int .i64)).toArray.size := by rw [ints_size]; simp [h]
theorem iv_one (xs : List Int) : (xs.map (Value.int .i64)).toArray.all (·.oneCell') = true := by simp [Value.oneCell']
def iz (l : List Nat) : List Int := l.map (fun d : Nat => (d : Int))
theorem iz_len (l : List Nat) : (iz l).length = l.length := by simp [iz]
theorem iz_get (l : List Nat) (k : Nat) : (iz l).getD k 0 = ((l.getD k 0 : Nat) : Int) := by
 unfold iz
 rw [List.getD_eq_getElem?_getD, List.getElem?_map, List.getD_eq_getElem?_getD]
 cases l[k]? <;> rfl
theorem iz_snoc (l : List Nat) (x : Nat) : iz (l ++ [x]) = iz l ++ [(x : Int)] := by simp [iz]
theorem dw_new {α : Type} (f : α → Value) (T : TypeId) (w : World) (p : Pr) (vo vu : Value) (z : α) : Dw f T w (((w.alloc (.cells #[.int .i64 p.inp, vo, vu] 28)).alloc (.cells ((List.replicate 320 z).map f).toArray T)).alloc (.cells ((List.replicate 320 z).map f).toArray T)) p vo vu w.heap.size (w.alloc (.cells #[.int .i64 p.inp, vo, vu] 28)).heap.size ((w.alloc (.cells #[.int .i64 p.inp, vo, vu] 28)).alloc (.cells ((List.replicate 320 z).map f).toArray T)).heap.size z (ar9 z []) := by
 obtain ⟨n1, n2, n3, hB⟩ := alloc3 w (.cells #[.int .i64 p.inp, vo, vu] 28) (.cells ((List.replicate 320 z).map f).toArray T) (.cells ((List.replicate 320 z).map f).toArray T)
 have s1 : ∀ (W : World) (o : Obj), (W.alloc o).heap.size = W.heap.size + 1 := fun W o => by simp
 exact ⟨Nat.le_refl _, by rw [s1]; exact Nat.lt_succ_self _, by rw [s1 (w.alloc _)]; exact Nat.lt_succ_self _, n1, ⟨List.length_replicate, by rw [s1]; exact n2⟩, ⟨List.length_replicate, by rw [s1, s1]; exact n3⟩, hB⟩
theorem rule_at {o : O4} {own : Int} (hm : opM o own = true) (L : List Nat) (hL : ∀ d ∈ L, d ≤ 1025) : ∃ (f k X : Nat), o.k = (k : Int) ∧ k < 5 ∧ rul[k]? = some (.func (.func f) #[] #[]) ∧ dgS L o = X ∧ (∀ args W, (callFunc f args).run Tryz.prog W = .ok (.enter f args) W) ∧ (∀ W, Calls Tryz.prog f #[.int .i64 ((L.getD o.a.toNat 0 : Nat) : Int), .int .i64 ((L.getD o.b.toNat 0 : Nat) : Int)] W fun e w' => e = .returned (.int .i64 (X : Int)) ∧ w' = W) := by
 have hg : ∀ k, L.getD k 0 ≤ 1025 := fun k => by
  rw [List.getD_eq_getElem?_getD]
  by_cases h : k < L.length
  · rw [List.getElem?_eq_getElem h]; exact hL _ (List.getElem_mem h)
  · rw [List.getElem?_eq_none (by omega)]; exact Nat.zero_le _
 have ha := hg o.a.toNat
 have hb := hg o.b.toNat
 unfold opM at hm
 by_cases h123 : o.k = 1 ∨ o.k = 2 ∨ o.k = 3
 · by_cases h3 : o.k = 3
   · refine ⟨_, 3, L.getD o.a.toNat 0 + L.getD o.b.toNat 0, h3, by decide, rfl, by unfold dgS; rw [if_neg (by omega), if_pos h3], (by intro args W; simp [go_sem]), fun W => ?_⟩
     rw [Int.natCast_add]
     exact gRule2 _ _ W (by omega) (by omega)
   · have h12 : o.k = 1 ∨ o.k = 2 := by omega
     have e : ∀ W, Calls Tryz.prog 138 #[.int .i64 ((L.getD o.a.toNat 0 : Nat) : Int), .int .i64 ((L.getD o.b.toNat 0 : Nat) : Int)] W fun e w' => e = .returned (.int .i64 ((max (L.getD o.a.toNat 0) (L.getD o.b.toNat 0) : Nat) : Int)) ∧ w' = W := fun W => by
      have := gRule1 ((L.getD o.a.toNat 0 : Nat) : Int) ((L.getD o.b.toNat 0 : Nat) : Int) W
      rw [show max ((L.getD o.a.toNat 0 : Nat) : Int) ((L.getD o.b.toNat 0 : Nat) : Int) = ((max (L.getD o.a.toNat 0) (L.getD o.b.toNat 0) : Nat) : Int) by omega] at this
      exact this
     rcases h12 with h | h
     · exact ⟨_, 1, _, h, by decide, rfl, by unfold dgS; rw [if_pos (by omega)], (by intro args W; simp [go_sem]), e⟩
     · exact ⟨_, 2, _, h, by decide, rfl, by unfold dgS; rw [if_pos (by omega)], (by intro args W; simp [go_sem]), e⟩
 · rw [if_neg h123] at hm
   by_cases h4 : o.k = 4
   · exact ⟨_, 4, 0, h4, by decide, rfl, by unfold dgS; rw [if_neg (by omega), if_neg (by omega)], (by intro args W; simp [go_sem]), fun W => gRule3 _ _ W⟩
   · rw [if_neg h4] at hm; cases hm
theorem dgL_cap : ∀ (os : List O4) (l : List Nat), (∀ d ∈ l, d ≤ 1025) → ∀ d ∈ dgL cap9 l os, d ≤ 1025
 | [], l, h, d, hd => h d hd
 | o :: os, l, h, d, hd => dgL_cap os (l ++ [cap9 (dgS l o)]) (fun x hx => by
  rcases List.mem_append.1 hx with hx | hx
  · exact h x hx
  · rw [List.mem_singleton.1 hx]; unfold cap9; omega) d hd
theorem opM_args {o : O4} {own : Int} (hm : opM o own = true) : (0 ≤ o.a ∧ 0 ≤ o.b) ∧ (o.a ≤ own ∨ o.a = 0) ∧ (o.b ≤ own ∨ o.b = 0) := by
 unfold opM at hm
 split at hm
 · have := of_decide_eq_true hm; omega
 · split at hm
   · have := of_decide_eq_true hm; omega
   · cases hm
set_option maxRecDepth 100000 in
set_option maxHeartbeats 400000 in
theorem gDegrees (v : Value) (p : Pr) (w : World) (h : Pm w v p) (hm : mayB p = true) : Calls Tryz.prog 89 #[v] w fun e w' => e = .returned (.agg ((ar9 0 (iz (cps p))).map (Value.int .i64)).toArray) ∧ Below w.heap.size w w' := by
 obtain ⟨⟨i0, i1, l1, l2⟩, mo, mu⟩ := mayB_iff.1 hm
 obtain ⟨n, hn⟩ := Int.eq_ofNat_of_zero_le i0
 obtain ⟨vo, vu, rfl, ho, hu⟩ := h.form
 obtain ⟨ao, co, rfl, _⟩ := ho.spell
 obtain ⟨au, cu, rfl, _⟩ := hu.spell
 have HO := hide ho
 have HMo := hide mo
 clear h hm mo mu ho hu i0
 go_enter Tryz.func89, Tryz.ntmps89
 go_upto_region 0 with fail
 refine wp_region_lit ?_
 refine rowOp (w1 := w.alloc (.cells #[.int .i64 p.inp, .slice ao p.ops.length co, .slice au p.outs.length cu] 28)) rfl (.pointer (some ⟨w.heap.size, 0, none⟩)) (by simp [go_sem, execOp]) ?_
 refine wpList_alloc_row rfl _ rfl _ ints_zero ?_
 go_upto_region 1 with fail
 refine wp_region_lit ?_
 refine wpList_alloc_row rfl _ rfl _ ints_zero ?_
 have D0 := dw_new (Value.int .i64) 131 w p (.slice ao p.ops.length co) (.slice au p.outs.length cu) (0 : Int)
 generalize (((w.alloc (.cells #[.int .i64 p.inp, .slice ao p.ops.length co, .slice au p.outs.length cu] 28)).alloc (.cells ((List.replicate 320 (0 : Int)).map (Value.int .i64)).toArray 131)).alloc (.cells ((List.replicate 320 (0 : Int)).map (Value.int .i64)).toArray 131)) = W0 at *
 generalize ((w.alloc (.cells #[.int .i64 p.inp, .slice ao p.ops.length co, .slice au p.outs.length cu] 28)).alloc (.cells ((List.replicate 320 (0 : Int)).map (Value.int .i64)).toArray 131)).heap.size = b2 at *
 generalize (w.alloc (.cells #[.int .i64 p.inp, .slice ao p.ops.length co, .slice au p.outs.length cu] 28)).heap.size = b1 at *
 obtain ⟨p0, p1, p2⟩ := cell3 D0.pb
 go_wp2_with fail
 go_loopw [11] (fun vi wr => ∃ (i : Nat), (i : Int) ≤ p.inp ∧ vi = .int .i64 i ∧ Hid (Dw (Value.int .i64) 131 w wr p (.slice ao p.ops.length co) (.slice au p.outs.length cu) w.heap.size b1 b2 0 (ar9 0 (iz (List.replicate i 1))))) (fun vi _ => 64 - (intOf vi).toNat)
 case atStart => exact ⟨0, by omega, rfl, D0⟩
 case round =>
  clear D0 p0 p1 p2
  obtain ⟨i, hi, rfl, F⟩ := hrel
  by_cases hlt : (i : Int) < p.inp
  · have i320 : (i : Int) < 320 := by omega
    have i00 : (0 : Int) ≤ (i : Int) := by omega
    have cA := F.out.ab.cell i 0 (by omega)
    have fA := F.out.ab.free i
    rw [ar9_get, iz_get] at cA
    have F2 := F.out.set i (1 : Int)
    have e : (ar9 (0 : Int) (iz (List.replicate i 1))).set i 1 = ar9 0 (iz (List.replicate (i + 1) 1)) := by
     have := ar9_set (z := (0 : Int)) (l := iz (List.replicate i 1)) (by rw [iz_len]; simp; omega) 1
     rw [iz_len, List.length_replicate] at this
     rw [this, List.replicate_succ', iz_snoc]; rfl
    rw [e] at F2
    have HF2 := hide F2
    clear F2 e
    go_wp2_with fail
    go_roundw
    case rel => exact ⟨i + 1, by omega, by go_num, HF2⟩
    case measure => simp [intOf]; omega
  · obtain rfl : i = n := by omega
    clear hlt
    go_upto_region 7 with fail
    refine wp_region_lit ?_
    refine rowCall rfl 118 #[] (by simp [go_sem, execOp]) (gRules _) ?_
    rintro e w1 ⟨rfl, hb1⟩
    refine ⟨_, rfl, ?_⟩
    refine wpList_alloc_row rfl _ rfl #[.nilFunc, .nilFunc, .nilFunc, .nilFunc, .nilFunc] (by kernel_rfl) ?_
    refine rowStore rfl _ _ _ rfl w1.heap.size _ _ rul rfl rfl (heap_alloc_last w1 _) rul_info (by rfl) rul_one ?_
    rw [World.setRow_alloc_new]
    have F1 := (F.out.below hb1).below (alloc_below w1 (.cells rul 163))
    have R1 : (w1.alloc (.cells rul 163)).heap[w1.heap.size]? = some (.cells rul 163 (0, 0)) := heap_alloc_last w1 _
    have HgB : Hid (b2 < w1.heap.size) := Nat.lt_of_lt_of_le F.out.ab.lt hb1.size
    generalize w1.alloc (.cells rul 163) = w2 at *
    generalize w1.heap.size = g at *
    clear F hb1
    obtain ⟨p0, p1, p2⟩ := cell3 F1.pb
    go_wp2_with fail
    go_loopw [21] (fun vi wr => ∃ (j : Nat), j ≤ p.ops.length ∧ vi = .int .i64 j ∧ Hid (Dw (Value.int .i64) 131 w wr p (.slice ao p.ops.length co) (.slice au p.outs.length cu) w.heap.size b1 b2 0 (ar9 0 (iz (dgL cap9 (List.replicate i 1) (p.ops.take j))))) ∧ Hid (wr.heap[g]? = some (.cells rul 163 (0, 0)))) (fun vi _ => p.ops.length - (intOf vi).toNat)
    case atStart => exact ⟨0, Nat.zero_le _, rfl, F1, R1⟩
    case round =>
     clear F1 p0 p1 p2
     obtain ⟨j, hj, rfl, F, Rr⟩ := hrel
     obtain ⟨p0, p1, p2⟩ := cell3 F.out.pb
     by_cases hlt : j < p.ops.length
     · obtain ⟨b, off, co', hv, _, hbl⟩ := HO.out.form (by omega)
       cases hv
       obtain ⟨ca, cb, cc, cd⟩ := HO.out.op F.out.bl hlt
       have HM : Hid (opM p.ops[j] (p.inp + (j : Int)) = true) := by
        have := opsM_get p.inp p.ops 0 j hlt HMo.out
        rw [Nat.zero_add] at this; exact this
       have HL := hide (dgL_cap (p.ops.take j) (List.replicate i 1) (fun d hd => by rw [(List.mem_replicate.1 hd).2]; decide))
       have HLn : Hid ((dgL cap9 (List.replicate i 1) (p.ops.take j)).length = i + j) := by show _ = _; rw [dgL_len, List.length_replicate, List.length_take]; omega
       have HNx := hide (dgL_next cap9 p.ops (List.replicate i 1) hlt)
       generalize dgL cap9 (List.replicate i 1) (p.ops.take j) = L at *
       generalize p.ops[j] = o at *
       obtain ⟨f, k, X, hk, hk5, hf, HX, hcf, HC⟩ := rule_at HM.out L HL.out
       have HC := hide HC
       have HX := hide HX
       obtain ⟨ok, oa, ob, oc⟩ := o
       obtain ⟨⟨a0, a1⟩, a2, a3⟩ := opM_args HM.out
       dsimp only at *
       subst hk
       obtain ⟨a, rfl⟩ := Int.eq_ofNat_of_zero_le a0
       obtain ⟨c, rfl⟩ := Int.eq_ofNat_of_zero_le a1
       rw [Int.toNat_natCast, Int.toNat_natCast] at HC
       have HF := hide (F.out.below (alloc_below wr (.cells #[.int .u8 k, .int .i64 a, .int .i64 c, .int .u64 oc] 78)))
       have cA := HF.out.ab.cell a 0 (by omega)
       have cC := HF.out.ab.cell c 0 (by omega)
       rw [ar9_get, iz_get] at cA cC
       have Rk : (wr.alloc (.cells #[.int .u8 k, .int .i64 a, .int .i64 c, .int .u64 oc] 78)).cell? ⟨g, k, none⟩ = some (.func (.func f) #[] #[]) := by
        have := ((alloc_below wr (.cells #[.int .u8 k, .int .i64 a, .int .i64 c, .int .u64 oc] 78)).block _ (Array.getElem?_eq_some_iff.1 Rr.out).1).trans Rr.out
        rw [cell_of_row _ g k _ _ _ this]; exact hf
       have k0 : (0 : Int) ≤ (k : Int) := by omega
       have k1 : (k : Int) < 5 := by omega
       have aa0 : (0 : Int) ≤ (a : Int) := by omega
       have aa1 : (a : Int) < 320 := by omega
       have cc0 : (0 : Int) ≤ (c : Int) := by omega
       have cc1 : (c : Int) < 320 := by omega
       generalize L.getD a 0 = A at *
       generalize L.getD c 0 = C at *
       clear a2 a3 hk5 hf a0 a1
       go_upto_region 11 with fail
       go_quiet (exact Calls.quiet_of_same (HC.out _))
       have G := HF.out.drewN nq
       have R3 : ((wr.alloc (.cells #[.int .u8 k, .int .i64 a, .int .i64 c, .int .u64 oc] 78)).drewN nq).heap[g]? = _ := ((alloc_below wr (.cells #[.int .u8 k, .int .i64 a, .int .i64 c, .int .u64 oc] 78)).block _ (Array.getElem?_eq_some_iff.1 Rr.out).1).trans Rr.out
       generalize (wr.alloc (.cells #[.int .u8 k, .int .i64 a, .int .i64 c, .int .u64 oc] 78)).drewN nq = w3 at *
       obtain ⟨q0, q1, q2⟩ := cell3 G.pb
       have cN := G.ab.cell (i + j) 0 (by omega)
       have fN := G.ab.free (i + j)
       have ij0 : (0 : Int) ≤ (i : Int) + (j : Int) := by omega
       have ij1 : (i : Int) + (j : Int) < 320 := by omega
       have ijn : ((i : Int) + (j : Int)).toNat = i + j := by omega
       have G2 := G.set (i + j) ((cap9 X : Nat) : Int)
       have e : (ar9 (0 : Int) (iz L)).set (i + j) ((cap9 X : Nat) : Int) = ar9 0 (iz (L ++ [cap9 X])) := by
        have := ar9_set (z := (0 : Int)) (l := iz L) (by rw [iz_len, HLn.out]; omega) ((cap9 X : Nat) : Int)
        rw [iz_len, HLn.out] at this
        rw [this, iz_snoc]
       rw [e] at G2
       have HR4 : Hid ((w3.setCell ⟨b2, i + j, none⟩ (.int .i64 ((cap9 X : Nat) : Int))).heap[g]? = some (.cells rul 163 (0, 0))) := (Below.heap_setCell _ _ _ g (by show g ≠ b2; have := HgB.out; omega)).trans R3
       have HG2 : Hid (Dw (Value.int .i64) 131 w (w3.setCell ⟨b2, i + j, none⟩ (.int .i64 ((cap9 X : Nat) : Int))) p (.slice (some ⟨b, off, none⟩) p.ops.length co) (.slice au p.outs.length cu) w.heap.size b1 b2 0 (ar9 0 (iz (dgL cap9 (List.replicate i 1) (p.ops.take (j + 1)))))) := by
        show Dw _ _ _ _ _ _ _ _ _ _ _ _
        rw [HNx.out, HX.out]; exact G2
       clear G2 e HX HNx HF cA cC Rk ca cb cc cd p0 p1 p2
       clear R3
       by_cases hX : ¬ (1025 : Int) < (X : Int)
       · have e : cap9 X = X := by unfold cap9; omega
         rw [e] at HG2 HR4
         clear e
         go_wp2_with fail
         go_roundw
         case rel => exact ⟨j + 1, by omega, by go_num, HG2, HR4⟩
         case measure => simp [intOf]; omega
       · have hX2 : (1025 : Int) < (X : Int) := by omega
         clear hX
         have e : ((cap9 X : Nat) : Int) = 1025 := by unfold cap9; omega
         rw [e] at HG2 HR4
         clear e
         go_wp2_with fail
         go_roundw
         case rel => exact ⟨j + 1, by omega, by go_num, HG2, HR4⟩
         case measure => simp [intOf]; omega
     · obtain rfl : j = p.ops.length := by omega
       rw [List.take_length] at F
       have HV : Hid (dgL cap9 (List.replicate i 1) p.ops = cps p) := by show _ = _; unfold cps; rw [hn, Int.toNat_natCast]
       rw [HV.out] at F
       have hl := F.out.ab.1
       have hz : (List.replicate 320 (0 : Int)).length = 320 := List.length_replicate
       go_upto_region 14 with fail
       refine wp_region_lit ?_
       refine rowLoad rfl _ _ rfl b2 320 3 _ _ rfl F.out.ab.2 Tryz.underlying131 (iv_size hl) ?_
       refine rowStore rfl _ _ _ rfl b1 _ _ _ rfl rfl F.out.rb.2 (iv_size hl) (by rw [List.size_toArray, List.size_toArray, List.length_map, List.length_map, hz, hl]) (iv_one _) ?_
       go_wp2
       refine bodyPost_ret (v := .agg ((ar9 0 (iz (cps p))).map (Value.int .i64)).toArray) ?_ rfl ⟨rfl, below_setRow F.out.bl (by have := F.out.l1; omega) _⟩
       have hl := run_loadVar_row (P := Tryz.prog) _ b1 _ 131 _ _ _ (setRow_heap wr _ _ ((ar9 0 (iz (cps p))).map (Value.int .i64)).toArray _ _ F.out.rb.2) Tryz.underlying131 rfl (iv_size hl)
       exact resCell1 Tryz.results89 rfl hl
end Go.Proofs.YtnakbpaiidolbaaGreat
namespace Go.Proofs.YtnakbpaiidolbaaGreat
open Go.RowKit Fld Slp
set_option linter.unusedVariables false
set_option linter.unusedSimpArgs false
theorem ar9_put {α : Type} {z : α} {l : List α} {k : Nat} (h : k < l.length) (x : α) : (ar9 z l).set k x = ar9 z (l.set k x) := by
 unfold ar9
 rw [List.set_append_left _ _ h, List.length_set]
theorem bools_zero : (Tryz.prog.info? 135).bind (·.zero) = some (.agg ((List.replicate 320 false).map Value.bool).toArray) := by kernel_rfl
theorem bools_size : (Tryz.prog.info? 135).map (·.size) = some 320 := by kernel_rfl
theorem bv_size {xs : List Bool} (h : xs.length = 320) : (Tryz.prog.info? 135).map (·.size) = some (xs.map Value.bool).toArray.size := by rw [bools_size]; simp [h]
theorem bv_one (xs : List Bool) : (xs.map Value.bool).toArray.all (·.oneCell') = true := by simp [Value.oneCell']
def wtJ (p : Pr) (j : Nat) : List Bool := (p.outs.take j).foldl (fun w v => w.set v.toNat true) (List.replicate (p.inp.toNat + p.ops.length) false)
theorem wtJ_len (p : Pr) (j : Nat) : (wtJ p j).length = p.inp.toNat + p.ops.length := by
 have key : ∀ (os : List Int) (w : List Bool), (os.foldl (fun w v => w.set v.toNat true) w).length = w.length := by
  intro os
  induction os with
  | nil => intro w; rfl
  | cons o os ih => intro w; rw [List.foldl_cons, ih]; simp
 unfold wtJ; rw [key]; simp
theorem wtJ_next (p : Pr) {j : Nat} (h : j < p.outs.length) : wtJ p (j + 1) = (wtJ p j).set p.outs[j].toNat true := by
 unfold wtJ; rw [List.take_succ_eq_append_getElem h, List.foldl_append]; rfl
theorem wtJ_end (p : Pr) : wtJ p p.outs.length = wt0 p := by unfold wtJ wt0; rw [List.take_length]
theorem ar9_rep {α : Type} (z : α) {n : Nat} (h : n ≤ 320) : ar9 z (List.replicate n z) = ar9 z [] := by
 unfold ar9
 simp only [List.length_replicate, List.nil_append, List.length_nil, Nat.sub_zero, List.replicate_append_replicate]
 congr 1; omega
set_option maxRecDepth 100000 in
set_option maxHeartbeats 400000 in
theorem gWanted (v : Value) (p : Pr) (w : World) (h : Pm w v p) (hm : mayB p = true) : Calls Tryz.prog 92 #[v] w fun e w' => e = .returned (.agg ((ar9 false (wtd p)).map Value.bool).toArray) ∧ Below w.heap.size w w' := by
 obtain ⟨⟨i0, i1, l1, l2⟩, mo, mu⟩ := mayB_iff.1 hm
 have HAr := hide (fun i hi hk => may_args hm i hi hk)
 have HOu := hide (fun v hv => may_out hm v hv)
 obtain ⟨n, hn⟩ := Int.eq_ofNat_of_zero_le i0
 have hN : p.inp.toNat = n := by omega
 rw [hN] at HAr HOu
 have HWl := hide (wtJ_len p)
 rw [hN] at HWl
 have HW0 : Hid (ar9 false (wtJ p 0) = ar9 false []) := by
  show _ = _
  unfold wtJ
  rw [List.take_zero, List.foldl_nil, hN]
  exact ar9_rep false (by omega)
 have HWe : Hid (wtD n p.ops p.ops.length (wt0 p) = wtd p) := by show _ = _; unfold wtd; rw [hN]
 obtain ⟨vo, vu, rfl, ho, hu⟩ := h.form
 obtain ⟨ao, co, rfl, _⟩ := ho.spell
 obtain ⟨au, cu, rfl, _⟩ := hu.spell
 have HO := hide ho
 have HU := hide hu
 clear h hm mo mu ho hu i0 hN
 go_enter Tryz.func92, Tryz.ntmps92
 go_upto_region 0 with fail
 refine wp_region_lit ?_
 refine rowOp (w1 := w.alloc (.cells #[.int .i64 p.inp, .slice ao p.ops.length co, .slice au p.outs.length cu] 28)) rfl (.pointer (some ⟨w.heap.size, 0, none⟩)) (by simp [go_sem, execOp]) ?_
 refine wpList_alloc_row rfl _ rfl _ bools_zero ?_
 go_upto_region 1 with fail
 refine wp_region_lit ?_
 refine wpList_alloc_row rfl _ rfl _ bools_zero ?_
 have D0 := dw_new Value.bool 135 w p (.slice ao p.ops.length co) (.slice au p.outs.length cu) false
 generalize (((w.alloc (.cells #[.int .i64 p.inp, .slice ao p.ops.length co, .slice au p.outs.length cu] 28)).alloc (.cells ((List.replicate 320 false).map Value.bool).toArray 135)).alloc (.cells ((List.replicate 320 false).map Value.bool).toArray 135)) = W0 at *
 generalize ((w.alloc (.cells #[.int .i64 p.inp, .slice ao p.ops.length co, .slice au p.outs.length cu] 28)).alloc (.cells ((List.replicate 320 false).map Value.bool).toArray 135)).heap.size = b2 at *
 generalize (w.alloc (.cells #[.int .i64 p.inp, .slice ao p.ops.length co, .slice au p.outs.length cu] 28)).heap.size = b1 at *
 obtain ⟨p0, p1, p2⟩ := cell3 D0.pb
 rw [← HW0.out] at D0
 go_wp2_with fail
 go_loopw [11] (fun vi wr => ∃ (j : Nat), j ≤ p.outs.length ∧ vi = .int .i64 j ∧ Hid (Dw Value.bool 135 w wr p (.slice ao p.ops.length co) (.slice au p.outs.length cu) w.heap.size b1 b2 false (ar9 false (wtJ p j)))) (fun vi _ => p.outs.length - (intOf vi).toNat)
 case atStart => exact ⟨0, by omega, rfl, D0⟩
 case round =>
  clear D0 p0 p1 p2
  obtain ⟨j, hj, rfl, F⟩ := hrel
  by_cases hlt : j < p.outs.length
  · obtain ⟨b, off, cu', hv, _, hbl⟩ := HU.out.form (by omega)
    cases hv
    have ca := HU.out.int F.out.bl hlt
    have hok := HOu.out _ (List.getElem_mem hlt)
    have HNx := hide (wtJ_next p hlt)
    generalize p.outs[j] = u at *
    obtain ⟨a, rfl⟩ := Int.eq_ofNat_of_zero_le hok.1
    rw [Int.toNat_natCast] at hok HNx
    have a0 : (0 : Int) ≤ (a : Int) := by omega
    have a1 : (a : Int) < 320 := by omega
    have cA := F.out.ab.cell a false (by omega)
    have fA := F.out.ab.free a
    have F2 := F.out.set a true
    rw [ar9_put (by rw [HWl.out]; exact hok.2), ← HNx.out] at F2
    have HF2 := hide F2
    clear F2 hok
    go_wp2_with fail
    go_roundw
    case rel => exact ⟨j + 1, by omega, by go_num, HF2⟩
    case measure => simp [intOf]; omega
  · obtain rfl : j = p.outs.length := by omega
    have HE := hide (wtJ_end p)
    rw [HE.out] at F
    obtain ⟨p0, p1, p2⟩ := cell3 F.out.pb
    have HL0 : Hid ((wt0 p).length = n + p.ops.length) := by show _ = _; rw [← HE.out]; exact HWl.out _
    clear HW0 HE hlt
    go_wp2_with fail
    go_loopw [6] (fun vi wr => ∃ (k : Nat) (L : List Bool), k ≤ p.ops.length ∧ vi = .int .i64 ((k : Int) - 1) ∧ Hid (L.length = n + p.ops.length ∧ wtD n p.ops k L = wtd p) ∧ Hid (Dw Value.bool 135 w wr p (.slice ao p.ops.length co) (.slice au p.outs.length cu) w.heap.size b1 b2 false (ar9 false L))) (fun vi _ => (intOf vi + 1).toNat)
    case atStart => exact ⟨p.ops.length, wt0 p, Nat.le_refl _, rfl, ⟨HL0.out, HWe.out⟩, F⟩
    case round =>
     clear F p0 p1 p2 HL0
     obtain ⟨k, L, hk, rfl, HL, F⟩ := hrel
     obtain ⟨p0, p1, p2⟩ := cell3 F.out.pb
     by_cases hpos : 0 < k
     · obtain ⟨i, HI⟩ : ∃ i, Hid (k = i + 1) := ⟨k - 1, by show k = k - 1 + 1; omega⟩
       have hki : (k : Int) - 1 = (i : Int) := by have := HI.out; omega
       have hlt : i < p.ops.length := by have := HI.out; omega
       obtain ⟨b, off, co', hv, _, hbl⟩ := HO.out.form (by omega)
       cases hv
       obtain ⟨ca, cb, cc, cd⟩ := HO.out.op F.out.bl hlt
       have hAr := HAr.out i hlt
       have HNx : Hid (wtD n p.ops i (wtS n L i p.ops[i]) = wtd p) := by
        have := HL.out.2
        rw [HI.out] at this
        have e : p.ops.getD i ⟨0, 0, 0, 0⟩ = p.ops[i] := by rw [List.getD_eq_getElem?_getD, List.getElem?_eq_getElem hlt]; rfl
        rw [← e]; exact this
       generalize p.ops[i] = o at *
       obtain ⟨ok, oa, ob, oc⟩ := o
       dsimp only at *
       have HF := hide (F.out.below (alloc_below wr (.cells #[.int .u8 ok, .int .i64 oa, .int .i64 ob, .int .u64 oc] 78)))
       have G := HF.out
       obtain ⟨q0, q1, q2⟩ := cell3 G.pb
       have cN := G.ab.cell (n + i) false (by omega)
       rw [ar9_get] at cN
       have ij0 : (0 : Int) ≤ (n : Int) + (i : Int) := by omega
       have ij1 : (n : Int) + (i : Int) < 320 := by omega
       have ijn : ((n : Int) + (i : Int)).toNat = n + i := by omega
       have hi0 : (0 : Int) ≤ (i : Int) := by omega
       have hi1 : (i : Int) < (p.ops.length : Int) := by omega
       cases hmk : L.getD (n + i) false with
       | false =>
        rw [hmk] at cN
        have HS : Hid (wtS n L i ⟨ok, oa, ob, oc⟩ = L) := by show _ = _; unfold wtS; rw [if_neg (by rw [hmk]; simp)]
        rw [HS.out] at HNx
        clear hmk G
        go_wp2_with fail
        go_roundw
        case rel => exact ⟨i, L, by omega, by go_num, ⟨HL.out.1, HNx.out⟩, HF⟩
        case measure => simp [intOf]; omega
       | true =>
        rw [hmk] at cN
        by_cases h4 : ok = 4
        · subst h4
          have HS : Hid (wtS n L i ⟨4, oa, ob, oc⟩ = L) := by show _ = _; unfold wtS; rw [if_neg (by simp)]
          rw [HS.out] at HNx
          clear hmk G
          go_wp2_with fail
          go_roundw
          case rel => exact ⟨i, L, by omega, by go_num, ⟨HL.out.1, HNx.out⟩, HF⟩
          case measure => simp [intOf]; omega
        · have HS : Hid (wtS n L i ⟨ok, oa, ob, oc⟩ = (L.set oa.toNat true).set ob.toNat true) := by show _ = _; unfold wtS; rw [if_pos ⟨hmk, h4⟩]
          rw [HS.out] at HNx
          obtain ⟨⟨a0, a1⟩, a2, a3⟩ := hAr h4
          obtain ⟨a, rfl⟩ := Int.eq_ofNat_of_zero_le a0
          obtain ⟨c, rfl⟩ := Int.eq_ofNat_of_zero_le a1
          rw [Int.toNat_natCast] at a2 a3
          rw [Int.toNat_natCast, Int.toNat_natCast] at HNx
          have hne : (ok != 4) = true := bne_iff_ne.2 h4
          clear hmk hAr
          go_upto_region 12 with fail
          have HG := hide HF.out
          obtain ⟨g, Hg⟩ : ∃ g, Hid (wr.heap.size = g) := ⟨_, rfl⟩
          have hb2g : b2 < g := by rw [← Hg.out]; exact F.out.ab.lt
          have o1 : (wr.alloc (.cells #[.int .u8 ok, .int .i64 (a : Int), .int .i64 (c : Int), .int .u64 oc] 78)).cell? ⟨wr.heap.size, 1, none⟩ = some (.int .i64 (a : Int)) := by simp [go_sem]
          have o2 : (wr.alloc (.cells #[.int .u8 ok, .int .i64 (a : Int), .int .i64 (c : Int), .int .u64 oc] 78)).cell? ⟨wr.heap.size, 2, none⟩ = some (.int .i64 (c : Int)) := by simp [go_sem]
          rw [Hg.out] at o1 o2
          simp only [Hg.out]
          generalize wr.alloc (.cells #[.int .u8 ok, .int .i64 (a : Int), .int .i64 (c : Int), .int .u64 oc] 78) = w3 at *
          have G1 := HG.out.set a true
          rw [ar9_put (by rw [HL.out.1]; omega)] at G1
          have G2 := G1.set c true
          rw [ar9_put (by rw [List.length_set, HL.out.1]; omega)] at G2
          have HG2 : Hid (Dw Value.bool 135 w ((w3.setCell ⟨b2, a, none⟩ (.bool true)).setCell ⟨b2, c, none⟩ (.bool true)) p (.slice (some ⟨b, off, none⟩) p.ops.length co) (.slice au p.outs.length cu) w.heap.size b1 b2 false (ar9 false ((L.set a true).set c true))) := G2
          have cA := HG.out.ab.cell a false (by omega)
          have fA := HG.out.ab.free a
          have cC := G1.ab.cell c false (by omega)
          have fC := G1.ab.free c
          have o2' : (w3.setCell ⟨b2, a, none⟩ (.bool true)).cell? ⟨g, 2, none⟩ = some (.int .i64 (c : Int)) := (World.cell?_setCell_other w3 _ _ _ (addr_ne (by show _ ≠ _; omega))).trans o2
          have aa0 : (0 : Int) ≤ (a : Int) := by omega
          have aa1 : (a : Int) < 320 := by omega
          have cc0 : (0 : Int) ≤ (c : Int) := by omega
          have cc1 : (c : Int) < 320 := by omega
          clear G G1 G2 q0 q1 q2 ca cb cc cd p0 p1 p2 cN a2 a3
          go_region
          have HG3 := hide (HG2.out.below (Below.refl _ _).drew)
          have HL2 : Hid (((L.set a true).set c true).length = n + p.ops.length) := by show _ = _; rw [List.length_set, List.length_set]; exact HL.out.1
          clear cA fA cC fC o1 o2 o2'
          go_wp2_with fail
          go_roundw
          case rel => exact ⟨i, _, by omega, by go_num, ⟨HL2.out, HNx.out⟩, HG3⟩
          case measure => simp [intOf]; omega
     · obtain rfl : k = 0 := by omega
       have HV : Hid (L = wtd p) := HL.out.2
       rw [HV.out] at F
       have hl := F.out.ab.1
       have hz : (List.replicate 320 false).length = 320 := List.length_replicate
       go_upto_region 13 with fail
       refine wp_region_lit ?_
       refine rowLoad rfl _ _ rfl b2 320 4 _ _ rfl F.out.ab.2 Tryz.underlying135 (bv_size hl) ?_
       refine rowStore rfl _ _ _ rfl b1 _ _ _ rfl rfl F.out.rb.2 (bv_size hl) (by rw [List.size_toArray, List.size_toArray, List.length_map, List.length_map, hz, hl]) (bv_one _) ?_
       go_wp2
       refine bodyPost_ret (v := .agg ((ar9 false (wtd p)).map Value.bool).toArray) ?_ rfl ⟨rfl, below_setRow F.out.bl (by have := F.out.l1; omega) _⟩
       have hl := run_loadVar_row (P := Tryz.prog) _ b1 _ 135 _ _ _ (setRow_heap wr _ _ ((ar9 false (wtd p)).map Value.bool).toArray _ _ F.out.rb.2) Tryz.underlying135 rfl (bv_size hl)
       exact resCell1 Tryz.results92 rfl hl
end Go.Proofs.YtnakbpaiidolbaaGreat
namespace Go.Proofs.YtnakbpaiidolbaaGreat
open Go.RowKit Fld Slp
set_option linter.unusedVariables false
set_option linter.unusedSimpArgs false
section
variable {α : Type} {f : α → Value} {T : TypeId} {m : Nat} {w W W' : World} {p : Pr} {vo vu : Value} {b0 b2 : Nat} {xs : List α}
end
theorem made_list (z : Value) (n : Nat) : madeCells #[z] (n * 1) = (List.replicate n z).toArray := by
 apply Array.ext'
 rw [toList_madeCells_one, Nat.mul_one]
end Go.Proofs.YtnakbpaiidolbaaGreat
