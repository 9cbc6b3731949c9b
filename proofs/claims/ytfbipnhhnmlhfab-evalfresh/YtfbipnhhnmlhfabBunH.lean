/- Texts laid together: DgpD, DgpE, DgpF. -/
import Derived.Test.YtfbipnhhnmlhfabBunG
import Derived.Test.YtfbipnhhnmlhfabBunY
import Derived.Lib.SliceRun
namespace Go.Proofs.Ytfbipnhhnmlhfab
open Go.RowKit Fld Slp
set_option linter.unusedVariables false
set_option linter.unusedSimpArgs false

/-- A piece of an array, from its start on, is a list. -/
theorem lm_of_ar {T : TypeId} {w : World} {g : Nat} {l : List Int} (h : Ar (Value.int .i64) T 320 w g (ar9 0 l)) (hl : l.length ≤ 320) : Lm iw 1 w (.slice (some ⟨g, 0, none⟩) l.length 320) l := by
  refine ⟨some ⟨g, 0, none⟩, 320, rfl, ⟨hl, by omega, fun h => by cases h⟩, fun hne => ⟨g, 0, rfl, h.lt, fun i x hx j u hu => ?_⟩⟩
  have hi := (List.getElem?_eq_some_iff.1 hx).1
  cases j with
  | succ j => simp [iw] at hu
  | zero =>
    have e : u = .int .i64 x := by simpa [iw] using hu.symm
    have := h.cell i 0 (by omega)
    rw [ar9_get, List.getD_eq_getElem?_getD, hx] at this
    rw [e, Nat.mul_one, Nat.add_zero, Nat.zero_add]
    exact this

end Go.Proofs.Ytfbipnhhnmlhfab

namespace Go.Proofs.Ytfbipnhhnmlhfab
open Go.RowKit Fld Slp
set_option linter.unusedVariables false
set_option linter.unusedSimpArgs false

/-- A call on a program that answers a list of numbers and an error. -/
def GivesI (N : Nat) (v : Value) (w : World) (l : List Int) (er : Int) : Prop :=
  Calls Try.prog N #[v] w fun e w' => ∃ v', e = .returned (.tuple #[v', .int .i64 er]) ∧ w'.ownsRow w.heap.size 3 1 v' l.length (l.flatMap iw) ∧ Below w.heap.size w w'
/-- The degrees that All answers, its error; what Of answers; what Uses answers. -/
def alE (p : Pr) : Int := if mayB p = true then (if 1025 ∈ iz (cps p) then 4 else 0) else 2
def alL (p : Pr) : List Int := if alE p = 0 then iz (cps p) else []
def ofE (p : Pr) : Int := if mayB p = true then (if cpO p = 1025 then 4 else 0) else 2
def ofV (p : Pr) : Int := if ofE p = 0 then (cpO p : Int) else 0
def usJ (p : Pr) (n : Nat) : List Int := ((List.range n).filter (fun i => (wtd p).getD i false)).map (fun i : Nat => (i : Int))
def usE (p : Pr) : Int := if mayB p = true then 0 else 2
def usL (p : Pr) : List Int := if mayB p = true then usJ p p.inp.toNat else []
def IsOf (N : Nat) (v : Value) (w : World) (p : Pr) : Prop := Calls Try.prog N #[v] w fun e w' => e = .returned (.tuple #[.int .i64 (ofV p), .int .i64 (ofE p)]) ∧ Below w.heap.size w w'
theorem cps_len (p : Pr) : (cps p).length = p.inp.toNat + p.ops.length := by unfold cps; rw [dgL_len, List.length_replicate]
theorem cps_le (p : Pr) : ∀ d ∈ cps p, d ≤ 1025 := dgL_cap _ _ (fun d hd => by rw [(List.mem_replicate.1 hd).2]; decide)
theorem usJ_yes {p : Pr} {i : Nat} (h : (wtd p).getD i false = true) : usJ p (i + 1) = usJ p i ++ [(i : Int)] := by unfold usJ; rw [List.range_succ, List.filter_append, List.map_append]; simp only [List.getD_eq_getElem?_getD] at h ⊢; simp [h]
theorem usJ_no {p : Pr} {i : Nat} (h : (wtd p).getD i false = false) : usJ p (i + 1) = usJ p i := by unfold usJ; rw [List.range_succ, List.filter_append]; simp only [List.getD_eq_getElem?_getD] at h ⊢; simp [h]
theorem usJ_len (p : Pr) (n : Nat) : (usJ p n).length ≤ n := by unfold usJ; rw [List.length_map]; exact Nat.le_trans (List.length_filter_le _ _) (by simp)
theorem own_move {w w' : World} {b s n : Nat} {T : TypeId} {v : Value} {xs : List Value} (h : w.ownsRow b T s v n xs) (hb : Below w.heap.size w w') : w'.ownsRow b T s v n xs := own_kept h (below_own hb) (fun g _ => by simp)

end Go.Proofs.Ytfbipnhhnmlhfab

namespace Go.Proofs.Ytfbipnhhnmlhfab
open Go.RowKit Fld Slp
set_option linter.unusedVariables false
set_option linter.unusedSimpArgs false

/-- The greatest degree of so many of Outs. -/
def ofJ (p : Pr) (j : Nat) : Nat := mxl ((p.outs.take j).map (fun v => (cps p).getD v.toNat 0))
theorem ofJ_next (p : Pr) {j : Nat} (h : j < p.outs.length) : ofJ p (j + 1) = max (ofJ p j) ((cps p).getD p.outs[j].toNat 0) := by
  unfold ofJ; rw [List.take_succ_eq_append_getElem h, List.map_append, List.map_singleton, mxl_snoc]
theorem ofJ_end (p : Pr) : ofJ p p.outs.length = cpO p := by unfold ofJ cpO; rw [List.take_length]
theorem ofJ_le (p : Pr) (j : Nat) : ofJ p j ≤ 1025 := mxl_le.2 (fun x hx => by
  obtain ⟨v, _, rfl⟩ := List.mem_map.1 hx
  rw [List.getD_eq_getElem?_getD]
  by_cases h : v.toNat < (cps p).length
  · rw [List.getElem?_eq_getElem h]; exact cps_le p _ (List.getElem_mem h)
  · rw [List.getElem?_eq_none (by omega)]; exact Nat.zero_le _)

set_option maxRecDepth 100000 in
set_option maxHeartbeats 400000 in
theorem gOf (v : Value) (p : Pr) (w : World) (h : Pm w v p) : IsOf 41 v w p := by
  unfold IsOf
  have M := hide (fun W (hb : Below w.heap.size w W) => sMay v p W (h.below hb))
  have HP := hide h
  obtain ⟨vo, vu, rfl, ho, hu⟩ := h.form
  obtain ⟨ao, co, rfl, _⟩ := ho.spell
  obtain ⟨au, cu, rfl, _⟩ := hu.spell
  have HU := hide hu
  have hA := alloc_below w (.cells #[.int .i64 p.inp, .slice ao p.ops.length co, .slice au p.outs.length cu] 25)
  have hN := heap_alloc_new w (.cells #[.int .i64 p.inp, .slice ao p.ops.length co, .slice au p.outs.length cu] 25)
  clear h ho hu
  cases hm : mayB p with
  | false =>
    have e1 : ofE p = 2 := by unfold ofE; rw [hm]; rfl
    have e2 : ofV p = 0 := by unfold ofV; rw [e1]; rfl
    rw [e1, e2]
    rw [hm] at M
    clear hm e1 e2
    go_enter Try.func41, Try.ntmps41
    go_wp2_with (go_at_call 37; refine (M.out _ hA).mono ?_; rintro e w1 ⟨rfl, hb1⟩)
    go_ret2
    exact ⟨rfl, Below.next hA hb1⟩
  | true =>
    rw [hm] at M
    have HD := hide (fun W (hb : Below w.heap.size w W) => gDegrees _ p W (HP.out.below hb) hm)
    have HOu := hide (fun v hv => may_out hm v hv)
    obtain ⟨⟨i0, i1, l1, l2⟩, _, _⟩ := mayB_iff.1 hm
    have HE : Hid (ofE p = if cpO p = 1025 then 4 else 0) := by show _ = _; unfold ofE; rw [if_pos hm]
    have hlen : (iz (cps p)).length = p.inp.toNat + p.ops.length := by rw [iz_len, cps_len]
    clear hm
    go_enter Try.func41, Try.ntmps41
    go_upto_region 3 with (go_at_call 37; refine (M.out _ hA).mono ?_; rintro e w1 ⟨rfl, hb1⟩; have hB1 := Below.next hA hb1; have n1 := (hb1.block _ (Array.getElem?_eq_some_iff.1 hN).1).trans hN; obtain ⟨p0, p1, p2⟩ := cell3 n1)
    refine wp_region_lit ?_
    refine rowVal rfl (.agg #[.int .i64 p.inp, .slice ao p.ops.length co, .slice au p.outs.length cu]) (by simp [go_sem, execOp, p0, p1, p2]) ?_
    refine rowCall rfl 57 #[.agg #[.int .i64 p.inp, .slice ao p.ops.length co, .slice au p.outs.length cu]] (by simp [go_sem, execOp]) (HD.out _ hB1) ?_
    rintro e w2 ⟨rfl, hb2⟩
    refine ⟨_, rfl, ?_⟩
    have hl9 : (ar9 0 (iz (cps p))).length = 320 := ar9_len (by rw [hlen]; omega)
    refine wpList_alloc_row rfl _ rfl _ ints_zero ?_
    refine rowStore rfl _ _ _ rfl w2.heap.size _ _ _ rfl rfl (heap_alloc_last w2 _) (iv_size hl9) (by rw [List.size_toArray, List.size_toArray, List.length_map, List.length_map, List.length_replicate, hl9]) (iv_one _) ?_
    rw [World.setRow_alloc_new]
    have hA2 := alloc_below w2 (.cells ((ar9 0 (iz (cps p))).map (Value.int .i64)).toArray 83)
    have A2 : Ar (Value.int .i64) 83 320 (w2.alloc (.cells ((ar9 0 (iz (cps p))).map (Value.int .i64)).toArray 83)) w2.heap.size (ar9 0 (iz (cps p))) := ar_new w2 _ hl9
    have hB3 := Below.next (Below.next hB1 hb2) hA2
    have n3 := (hA2.block _ (Nat.lt_of_lt_of_le (Array.getElem?_eq_some_iff.1 n1).1 hb2.size)).trans ((hb2.block _ (Array.getElem?_eq_some_iff.1 n1).1).trans n1)
    generalize w2.alloc (.cells ((ar9 0 (iz (cps p))).map (Value.int .i64)).toArray 83) = w3 at *
    generalize w2.heap.size = g at *
    obtain ⟨q0, q1, q2⟩ := cell3 n3
    have HA2 := hide A2
    clear A2 n1 n3 p0 p1 p2 HD M hlen
    go_wp2_with fail
    go_loop [5, 16] (fun vg vi => ∃ j : Nat, j ≤ p.outs.length ∧ vi = .int .i64 j ∧ vg = .int .i64 ((ofJ p j : Nat) : Int)) (fun _ vi => p.outs.length - (intOf vi).toNat)
    case atStart => exact ⟨0, Nat.zero_le _, rfl, rfl⟩
    case round =>
      obtain ⟨j, hj, rfl, rfl⟩ := hrel
      by_cases hlt : j < p.outs.length
      · obtain ⟨b, off, cu', hv, _, hbl⟩ := HU.out.form (by omega)
        cases hv
        have ca := HU.out.int hB3 hlt
        have hok := HOu.out _ (List.getElem_mem hlt)
        have HNx := hide (ofJ_next p hlt)
        generalize p.outs[j] = u at *
        obtain ⟨a, rfl⟩ := Int.eq_ofNat_of_zero_le hok.1
        rw [Int.toNat_natCast] at hok HNx
        have a0 : (0 : Int) ≤ (a : Int) := by omega
        have a1 : (a : Int) < 320 := by omega
        have cA := HA2.out.cell a 0 (by omega)
        rw [ar9_get, iz_get] at cA
        clear hok
        generalize (cps p).getD a 0 = A at *
        generalize ofJ p j = G at *
        by_cases hx : (G : Int) < (A : Int)
        · have e : ofJ p (j + 1) = A := by rw [HNx.out]; omega
          have HEq := hide e
          clear e
          go_wp2_with fail
          go_round
          case rel => exact ⟨j + 1, by omega, by go_num, by rw [HEq.out]⟩
          case measure => simp [intOf]; omega
        · have e : ofJ p (j + 1) = G := by rw [HNx.out]; omega
          have HEq := hide e
          clear e
          go_wp2_with fail
          go_round
          case rel => exact ⟨j + 1, by omega, by go_num, by rw [HEq.out]⟩
          case measure => simp [intOf]; omega
      · obtain rfl : j = p.outs.length := by omega
        have HEn := hide (ofJ_end p)
        rw [HEn.out]
        by_cases hc : cpO p = 1025
        · have e1 : ofE p = 4 := by rw [HE.out, if_pos hc]
          have E1 := hide e1
          have E2 : Hid (ofV p = 0) := by show _ = _; unfold ofV; rw [e1]; rfl
          rw [hc]
          clear e1 hc
          go_wp2_with fail
          go_ret2
          rw [E1.out, E2.out]
          exact ⟨rfl, hB3⟩
        · have e1 : ofE p = 0 := by rw [HE.out, if_neg hc]
          have E1 := hide e1
          have E2 : Hid (ofV p = (cpO p : Int)) := by show _ = _; unfold ofV; rw [e1]; rfl
          have hd : (((cpO p : Nat) : Int) == 1025) = false := by simpa using (fun h : ((cpO p : Nat) : Int) = 1025 => hc (by omega))
          clear e1 hc
          generalize cpO p = x at *
          go_wp2_with fail
          go_ret2
          rw [E1.out, E2.out]
          exact ⟨rfl, hB3⟩

end Go.Proofs.Ytfbipnhhnmlhfab

