/-
  Layer 10: All, Of, Uses: the program's.
-/
import Derived.Test.YtfgokcphnkkgnaaBDgpD
namespace Go.Proofs.Ytfgokcphnkkgnaa
open Go.RowKit Fld Slp
set_option linter.unusedVariables false
set_option linter.unusedSimpArgs false

/-- A call on a program that answers a list of numbers and an error. -/
def GivesI (N : Nat) (v : Value) (w : World) (l : List Int) (er : Int) : Prop :=
  Calls Try.prog N #[v] w fun e w' => ∃ v', e = .returned (.tuple #[v', .int .i64 er]) ∧ w'.ownsRow w.heap.size 3 1 v' l.length (l.flatMap iw) ∧ Below w.heap.size w w'
/-- The degrees that All answers, its error; what Of answers; what Uses answers. -/
def alE (p : Pr) : Int := if mayB p = true then (if 1025 ∈ iz (cps p) then 4 else 0) else 2
def alL (p : Pr) : List Int := if alE p = 0 then iz (cps p) else []
def ofE (p : Pr) : Int := if mayB p = true then (if cpO p = 1025 then 4 else 0) else 2
def ofV (p : Pr) : Int := if ofE p = 0 then (cpO p : Int) else 0
def usJ (p : Pr) (n : Nat) : List Int := ((List.range n).filter (fun i => (wtd p).getD i false)).map (fun i : Nat => (i : Int))
def usE (p : Pr) : Int := if mayB p = true then 0 else 2
def usL (p : Pr) : List Int := if mayB p = true then usJ p p.inp.toNat else []
def IsOf (N : Nat) (v : Value) (w : World) (p : Pr) : Prop := Calls Try.prog N #[v] w fun e w' => e = .returned (.tuple #[.int .i64 (ofV p), .int .i64 (ofE p)]) ∧ Below w.heap.size w w'
theorem cps_len (p : Pr) : (cps p).length = p.inp.toNat + p.ops.length := by unfold cps; rw [dgL_len, List.length_replicate]
theorem cps_le (p : Pr) : ∀ d ∈ cps p, d ≤ 1025 := dgL_cap _ _ (fun d hd => by rw [(List.mem_replicate.1 hd).2]; decide)
theorem usJ_yes {p : Pr} {i : Nat} (h : (wtd p).getD i false = true) : usJ p (i + 1) = usJ p i ++ [(i : Int)] := by unfold usJ; rw [List.range_succ, List.filter_append, List.map_append]; simp only [List.getD_eq_getElem?_getD] at h ⊢; simp [h]
theorem usJ_no {p : Pr} {i : Nat} (h : (wtd p).getD i false = false) : usJ p (i + 1) = usJ p i := by unfold usJ; rw [List.range_succ, List.filter_append]; simp only [List.getD_eq_getElem?_getD] at h ⊢; simp [h]
theorem usJ_len (p : Pr) (n : Nat) : (usJ p n).length ≤ n := by unfold usJ; rw [List.length_map]; exact Nat.le_trans (List.length_filter_le _ _) (by simp)
theorem own_move {w w' : World} {b s n : Nat} {T : TypeId} {v : Value} {xs : List Value} (h : w.ownsRow b T s v n xs) (hb : Below w.heap.size w w') : w'.ownsRow b T s v n xs := own_kept h (below_own hb) (fun g _ => by simp)

set_option maxRecDepth 100000 in
set_option maxHeartbeats 400000 in
theorem gAll (v : Value) (p : Pr) (w : World) (h : Pm w v p) : GivesI 7 v w (alL p) (alE p) := by
  unfold GivesI
  have M := hide (fun W (hb : Below w.heap.size w W) => sMay v p W (h.below hb))
  have HP := hide h
  obtain ⟨vo, vu, rfl, ho, hu⟩ := h.form
  obtain ⟨ao, co, rfl, _⟩ := ho.spell
  obtain ⟨au, cu, rfl, _⟩ := hu.spell
  have hA := alloc_below w (.cells #[.int .i64 p.inp, .slice ao p.ops.length co, .slice au p.outs.length cu] 25)
  have hN := heap_alloc_new w (.cells #[.int .i64 p.inp, .slice ao p.ops.length co, .slice au p.outs.length cu] 25)
  clear h ho hu
  cases hm : mayB p with
  | false =>
    have e1 : alE p = 2 := by unfold alE; rw [hm]; rfl
    have e2 : alL p = [] := by unfold alL; rw [e1]; rfl
    rw [e1, e2]
    rw [hm] at M
    clear hm e1 e2
    go_enter Try.func7, Try.ntmps7
    go_wp2_with (go_at_call 20; refine (M.out _ hA).mono ?_; rintro e w1 ⟨rfl, hb1⟩)
    go_ret2
    exact ⟨_, rfl, own_nil _ _ _ _, Below.next hA hb1⟩
  | true =>
    rw [hm] at M
    have HD := hide (fun W (hb : Below w.heap.size w W) => gDegrees _ p W (HP.out.below hb) hm)
    obtain ⟨⟨i0, i1, l1, l2⟩, _, _⟩ := mayB_iff.1 hm
    have HE : Hid (alE p = if 1025 ∈ iz (cps p) then 4 else 0) := by show _ = _; unfold alE; rw [if_pos hm]
    have hlen : (iz (cps p)).length = p.inp.toNat + p.ops.length := by rw [iz_len, cps_len]
    clear hm
    go_enter Try.func7, Try.ntmps7
    go_upto_region 3 with (go_at_call 20; refine (M.out _ hA).mono ?_; rintro e w1 ⟨rfl, hb1⟩; have hB1 := Below.next hA hb1; have n1 := (hb1.block _ (Array.getElem?_eq_some_iff.1 hN).1).trans hN; obtain ⟨p0, p1, p2⟩ := cell3 n1)
    refine wp_region_lit ?_
    refine rowVal rfl (.agg #[.int .i64 p.inp, .slice ao p.ops.length co, .slice au p.outs.length cu]) (by simp [go_sem, execOp, p0, p1, p2]) ?_
    refine rowCall rfl 21 #[.agg #[.int .i64 p.inp, .slice ao p.ops.length co, .slice au p.outs.length cu]] (by simp [go_sem, execOp]) (HD.out _ hB1) ?_
    rintro e w2 ⟨rfl, hb2⟩
    refine ⟨_, rfl, ?_⟩
    have hl9 : (ar9 0 (iz (cps p))).length = 320 := ar9_len (by rw [hlen]; omega)
    refine wpList_alloc_row rfl _ rfl _ ints_zero ?_
    refine rowStore rfl _ _ _ rfl w2.heap.size _ _ _ rfl rfl (heap_alloc_last w2 _) (iv_size hl9) (by rw [List.size_toArray, List.size_toArray, List.length_map, List.length_map, List.length_replicate, hl9]) (iv_one _) ?_
    rw [World.setRow_alloc_new]
    have hA2 := alloc_below w2 (.cells ((ar9 0 (iz (cps p))).map (Value.int .i64)).toArray 44)
    have A2 : Ar (Value.int .i64) 44 320 (w2.alloc (.cells ((ar9 0 (iz (cps p))).map (Value.int .i64)).toArray 44)) w2.heap.size (ar9 0 (iz (cps p))) := ar_new w2 _ hl9
    have hB3 := Below.next (Below.next hB1 hb2) hA2
    have n3 := (hA2.block _ (Nat.lt_of_lt_of_le (Array.getElem?_eq_some_iff.1 n1).1 hb2.size)).trans ((hb2.block _ (Array.getElem?_eq_some_iff.1 n1).1).trans n1)
    generalize w2.alloc (.cells ((ar9 0 (iz (cps p))).map (Value.int .i64)).toArray 44) = w3 at *
    generalize w2.heap.size = g at *
    have HL := hide (lm_of_ar A2 (by rw [hlen]; omega))
    obtain ⟨k, Hk⟩ : ∃ k, Hid ((iz (cps p)).length = k) := ⟨_, rfl⟩
    have hk : p.inp + (p.ops.length : Int) = (k : Int) := by have := Hk.out; omega
    have hk1 : (k : Int) ≤ 320 := by omega
    have hk0 : (0 : Int) ≤ (k : Int) := by omega
    rw [Hk.out] at HL
    have HC := hide (lCloneI _ _ w3 HL.out (by rw [Hk.out]; omega))
    obtain ⟨q0, q1, q2⟩ := cell3 n3
    have HK := hide (fun W v' (ho : W.ownsRow w3.heap.size 3 1 v' k ((iz (cps p)).flatMap iw)) => lContainsI v' (iz (cps p)) 1025 W (lm_of_own iw_len (by decide) ho (by rw [Hk.out]; omega)))
    rw [Hk.out] at HC
    by_cases hc : 1025 ∈ iz (cps p)
    · have e1 : alE p = 4 := by rw [HE.out, if_pos hc]
      have e2 : alL p = [] := by unfold alL; rw [e1]; rfl
      have E1 := hide e1
      have E2 := hide e2
      rw [decide_eq_true hc] at HK
      clear hc e1 e2
      go_wp2_with (first
        | (go_at_call 22; refine HC.out.mono ?_; rintro e w4 ⟨v4, rfl, ho4, hb4⟩; obtain ⟨a4, c4, rfl⟩ := own_slice ho4; have HO4 := hide ho4; clear ho4)
        | (go_at_call 23; refine (HK.out _ _ HO4.out).mono ?_; rintro e w5 ⟨rfl, hw5⟩; subst hw5))
      go_ret2
      rw [E1.out, E2.out]
      exact ⟨_, rfl, own_nil _ _ _ _, Below.next hB3 hb4⟩
    · have e1 : alE p = 0 := by rw [HE.out, if_neg hc]
      have e2 : alL p = iz (cps p) := by unfold alL; rw [e1]; rfl
      have E1 := hide e1
      have E2 := hide e2
      rw [decide_eq_false hc] at HK
      clear hc e1 e2
      go_wp2_with (first
        | (go_at_call 22; refine HC.out.mono ?_; rintro e w4 ⟨v4, rfl, ho4, hb4⟩; obtain ⟨a4, c4, rfl⟩ := own_slice ho4; have HO4 := hide ho4; clear ho4)
        | (go_at_call 23; refine (HK.out _ _ HO4.out).mono ?_; rintro e w5 ⟨rfl, hw5⟩; subst hw5))
      go_ret2
      rw [E1.out, E2.out, Hk.out]
      exact ⟨_, rfl, own_mono HO4.out hB3.size, Below.next hB3 hb4⟩

end Go.Proofs.Ytfgokcphnkkgnaa
