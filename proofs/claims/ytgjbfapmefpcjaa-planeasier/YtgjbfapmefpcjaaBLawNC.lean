/-
  The statements of layer 12: PlanEasier walked.
-/
import Derived.Test.YtgjbfapmefpcjaaBLawNB
import Derived.Test.YtgjbfapmefpcjaaBRowA
namespace Go.Proofs.Ytgjbfapmefpcjaa
open Go.RowKit Pln
set_option linter.unusedVariables false
set_option linter.unusedSimpArgs false

/-- Plans one behind the other, cell by cell. -/
def pls (ps : List Pn) : List Value := ps.flatMap (fun q => (plw q).toList)
theorem plw_len (q : Pn) : (plw q).toList.length = 8 := rfl
theorem pls_len : ∀ ps : List Pn, (pls ps).length = ps.length * 8
  | [] => rfl
  | q :: ps => by
    have := pls_len ps
    unfold pls at this ⊢
    rw [List.flatMap_cons, List.length_append, this, plw_len, List.length_cons]; omega
theorem pls_get : ∀ (ps : List Pn) (i j : Nat) (q : Pn), ps[i]? = some q → j < 8 → (pls ps)[i * 8 + j]? = (plw q).toList[j]?
  | [], i, j, q, h, _ => by simp at h
  | p :: ps, 0, j, q, h, hj => by
    have e : p = q := by simpa using h
    subst e
    unfold pls
    rw [List.flatMap_cons, List.getElem?_append_left (by rw [plw_len]; omega), Nat.zero_mul, Nat.zero_add]
  | p :: ps, i + 1, j, q, h, hj => by
    have h2 : ps[i]? = some q := by simpa using h
    have := pls_get ps i j q h2 hj
    unfold pls at this ⊢
    rw [List.flatMap_cons, List.getElem?_append_right (by rw [plw_len]; omega), plw_len, show (i + 1) * 8 + j - 8 = i * 8 + j by omega]
    exact this
theorem pls_set : ∀ (ps : List Pn) (i j : Nat) (q r : Pn) (v : Value), ps[i]? = some q → j < 8 → (plw r).toList = (plw q).toList.set j v → (pls ps).set (i * 8 + j) v = pls (ps.set i r)
  | [], i, j, q, r, v, h, _, _ => by simp at h
  | p :: ps, 0, j, q, r, v, h, hj, hr => by
    have e : p = q := by simpa using h
    subst e
    unfold pls
    rw [List.flatMap_cons, List.set_append_left _ _ (by rw [plw_len]; omega), List.set_cons_zero, List.flatMap_cons, hr, Nat.zero_mul, Nat.zero_add]
  | p :: ps, i + 1, j, q, r, v, h, hj, hr => by
    have h2 : ps[i]? = some q := by simpa using h
    have := pls_set ps i j q r v h2 hj hr
    unfold pls at this ⊢
    rw [List.flatMap_cons, List.set_append_right _ _ (by rw [plw_len]; omega), plw_len, show (i + 1) * 8 + j - 8 = i * 8 + j by omega, List.set_cons_succ, List.flatMap_cons, this]
/-- A block that holds six plans. -/
def Py (w : World) (b : Nat) (ps : List Pn) : Prop := w.heap[b]? = some (.cells (pls ps).toArray 41 (0, 0))
theorem Py.lt {w : World} {g : Nat} {ps : List Pn} (h : Py w g ps) : g < w.heap.size := (Array.getElem?_eq_some_iff.1 h).1
theorem Py.below {w w' : World} {g : Nat} {ps : List Pn} (h : Py w g ps) (hb : Below w.heap.size w w') : Py w' g ps := (hb.block g h.lt).trans h
theorem Py.free {w : World} {g : Nat} {ps : List Pn} (h : Py w g ps) (k : Nat) : w.frozen? ⟨g, k, none⟩ = false := by
  have h' : w.heap[g]? = some (.cells (pls ps).toArray 41 (0, 0)) := h
  simp [World.frozen?, h']
theorem Py.cell {w : World} {g : Nat} {ps : List Pn} (h : Py w g ps) {i j : Nat} {q : Pn} (hi : ps[i]? = some q) (hj : j < 8) : w.cell? ⟨g, i * 8 + j, none⟩ = (plw q).toList[j]? := by
  have h' : w.heap[g]? = some (.cells (pls ps).toArray 41 (0, 0)) := h
  rw [cell_of_row w g _ _ _ _ h', ← pls_get ps i j q hi hj]
  simp
theorem Py.set {w : World} {g : Nat} {ps : List Pn} (h : Py w g ps) {i j : Nat} {q r : Pn} {v : Value} (hi : ps[i]? = some q) (hj : j < 8) (hr : (plw r).toList = (plw q).toList.set j v) : Py (w.setCell ⟨g, i * 8 + j, none⟩ v) g (ps.set i r) := by
  have h' : w.heap[g]? = some (.cells (pls ps).toArray 41 (0, 0)) := h
  unfold Py
  rw [set_blk h', ← pls_set ps i j q r v hi hj hr]
  simp
theorem Py.cells {w : World} {g : Nat} {ps : List Pn} (h : Py w g ps) {i : Nat} {q : Pn} (hi : ps[i]? = some q) : w.cell? ⟨g, i * 8, none⟩ = some (.int .u8 q.f) ∧ w.cell? ⟨g, i * 8 + 1, none⟩ = some (.int .i64 q.n) ∧ w.cell? ⟨g, i * 8 + 2, none⟩ = some (.int .i64 q.k) ∧ w.cell? ⟨g, i * 8 + 3, none⟩ = some (.int .i64 q.t) ∧ w.cell? ⟨g, i * 8 + 4, none⟩ = some (.int .i64 q.s) ∧ w.cell? ⟨g, i * 8 + 5, none⟩ = some (.int .i64 q.e) ∧ w.cell? ⟨g, i * 8 + 6, none⟩ = some (.int .i64 q.d) ∧ w.cell? ⟨g, i * 8 + 7, none⟩ = some (.int .i64 q.w) :=
  ⟨h.cell (j := 0) hi (by omega), h.cell (j := 1) hi (by omega), h.cell (j := 2) hi (by omega), h.cell (j := 3) hi (by omega), h.cell (j := 4) hi (by omega), h.cell (j := 5) hi (by omega), h.cell (j := 6) hi (by omega), h.cell (j := 7) hi (by omega)⟩

/-- The six plans. -/
def six (p : Pn) : List Pn := [{ p with n := p.n + 1 }, { p with k := p.k - 1 }, { p with t := p.t - 1 }, { p with s := p.s - 1 }, { p with e := p.e - 1 }, { p with d := p.d - 1 }]
theorem six_all {p : Pn} (h : Ok8p p) (hm : mayP p = true) (ha : acc p) : ∀ q ∈ six p, Ok8p q ∧ (mayP q = true → acE q = 0) := by
  have hf := may_facts hm
  intro q hq
  have hq2 : q = { p with n := p.n + 1 } ∨ q = { p with k := p.k - 1 } ∨ q = { p with t := p.t - 1 } ∨ q = { p with s := p.s - 1 } ∨ q = { p with e := p.e - 1 } ∨ q = { p with d := p.d - 1 } := by simpa [six] using hq
  unfold Ok8p I64 at *
  rcases hq2 with rfl | rfl | rfl | rfl | rfl | rfl
  · exact ⟨by dsimp only; omega, fun h1 => acE_zero.2 ⟨h1, acc_n ha (by omega)⟩⟩
  · exact ⟨by dsimp only; omega, fun h1 => acE_zero.2 ⟨h1, acc_k (by omega) ha (by omega)⟩⟩
  · exact ⟨by dsimp only; omega, fun h1 => acE_zero.2 ⟨h1, acc_t (by omega) ha (by omega)⟩⟩
  · exact ⟨by dsimp only; omega, fun h1 => acE_zero.2 ⟨h1, acc_s ha (by omega)⟩⟩
  · exact ⟨by dsimp only; omega, fun h1 => acE_zero.2 ⟨h1, acc_e ha (by omega)⟩⟩
  · exact ⟨by dsimp only; omega, fun h1 => acE_zero.2 ⟨h1, acc_d (by omega) ha (by omega)⟩⟩

theorem six_zero : ((Try.prog.info? 41).bind (·.zero)) = some (.agg (pls [zP, zP, zP, zP, zP, zP]).toArray) := by kernel_rfl

theorem build_six (p : Pn) (w : World) : (Instr.build 41 #[(0, plv p), (1, plv p), (2, plv p), (3, plv p), (4, plv p), (5, plv p)]).run Try.prog w = .ok (.agg (pls [p, p, p, p, p, p]).toArray) w := by kernel_rfl

theorem pls_one (p : Pn) : (pls [p, p, p, p, p, p]).toArray.all (·.oneCell') = true := by kernel_rfl
theorem pls_size (p : Pn) : (Try.prog.info? 41).map (·.size) = some (pls [p, p, p, p, p, p]).toArray.size := by kernel_rfl
theorem pls_eq (p : Pn) : (pls [zP, zP, zP, zP, zP, zP]).toArray.size = (pls [p, p, p, p, p, p]).toArray.size := by kernel_rfl


set_option maxRecDepth 100000 in
set_option maxHeartbeats 1000000 in
theorem planEasier_any (w : World) (p : Pn) (hp : Ok8p p) : Calls Try.prog 5 #[plv p] w fun e w' => e = .returned (.bool true) ∧ Below w.heap.size w w' := by
  have H1 := hide (gAccept p hp)
  have H2 := hide (gNeeded p hp)
  have H3 := hide (gSpare p hp)
  have HX := hide anch12
  have HP := hide hp
  obtain ⟨pb, hA⟩ := pb_box (w := w) p
  have PB0 := hide pb
  have HA0 := hide hA
  clear pb hA hp
  by_cases ha : acE p = 0
  · obtain ⟨hm, hac⟩ := acE_zero.1 ha
    rw [ha] at H1
    unfold plv plw at H1 ⊢
    go_enter Try.func5, Try.ntmps5
    go_upto_region 3 with (go_at_call 16; refine (H1.out _).mono ?_; rintro e w1 ⟨rfl, hb1⟩; have PB1 := hide (PB0.out.below hb1); obtain ⟨c0, c1, c2, c3, c4, c5, c6, c7⟩ := PB1.out.cells)
    refine wp_region_lit ?_
    refine rowVal rfl (plv p) (by simp [go_sem, execOp, c0, c1, c2, c3, c4, c5, c6, c7]; rfl) ?_
    refine rowVal rfl (plv p) (by simp [go_sem, execOp, c0, c1, c2, c3, c4, c5, c6, c7]; rfl) ?_
    refine rowVal rfl (plv p) (by simp [go_sem, execOp, c0, c1, c2, c3, c4, c5, c6, c7]; rfl) ?_
    refine rowVal rfl (plv p) (by simp [go_sem, execOp, c0, c1, c2, c3, c4, c5, c6, c7]; rfl) ?_
    refine rowVal rfl (plv p) (by simp [go_sem, execOp, c0, c1, c2, c3, c4, c5, c6, c7]; rfl) ?_
    refine rowVal rfl (plv p) (by simp [go_sem, execOp, c0, c1, c2, c3, c4, c5, c6, c7]; rfl) ?_
    refine rowVal rfl (.agg (pls [p, p, p, p, p, p]).toArray) (by kernel_rfl) ?_
    refine wpList_alloc_row rfl _ rfl _ six_zero ?_
    refine rowStore rfl _ _ _ rfl w1.heap.size _ _ _ (by kernel_rfl) (by kernel_rfl) (heap_alloc_last w1 _) (pls_size p) (pls_eq p) (pls_one p) ?_
    rw [World.setRow_alloc_new]
    generalize hW : World.alloc w1 _ = W1
    have Y1 : Py W1 w1.heap.size [p, p, p, p, p, p] := by rw [← hW]; exact heap_alloc_last w1 _
    have hC1 : Below w1.heap.size w1 W1 := by rw [← hW]; exact alloc_below _ _
    clear hW
    generalize Value.agg (pls [p, p, p, p, p, p]).toArray = X
    have hAL := six_all HP.out hm hac
    obtain ⟨⟨n0, n1⟩, ⟨k0, k1⟩, ⟨t0, t1⟩, ⟨s0, s1⟩, ⟨e0, e1⟩, ⟨d0, d1⟩, _⟩ := may_facts hm
    have HAL := hide hAL
    have hsp : ndV p + p.s + spV p = p.n := by rw [ndV_yes hm, spV_yes hm]; unfold need spare; omega
    have hsp0 : 0 ≤ spV p := by rw [spV_yes hm]; exact spare_acc.1 hac
    have hnd : 1 ≤ ndV p ∧ ndV p ≤ 70000 := by
      have := dg_bound hm
      rw [ndV_yes hm]; unfold need; omega
    have hsp1 : spV p ≤ 64 := by omega
    rw [erP_yes hm] at H2 H3
    generalize ndV p = x at *
    generalize spV p = y at *
    have PB2 := hide (PB1.out.below hC1)
    have HA2 := hide (Below.next (Below.next HA0.out hb1) hC1)
    have hg : w.heap.size < w1.heap.size := PB1.out.lt
    clear c0 c1 c2 c3 c4 c5 c6 c7 hAL hm hac ha hb1 hC1 PB0 HA0 PB1 H1
    generalize w1.heap.size = b at *
    have c1 : W1.cell? ⟨b, 1, none⟩ = some (.int .i64 p.n) := Y1.cell (i := 0) (j := 1) (q := p) rfl (by decide)
    have c2 : W1.cell? ⟨b, 10, none⟩ = some (.int .i64 p.k) := Y1.cell (i := 1) (j := 2) (q := p) rfl (by decide)
    have c3 : W1.cell? ⟨b, 19, none⟩ = some (.int .i64 p.t) := Y1.cell (i := 2) (j := 3) (q := p) rfl (by decide)
    have c4 : W1.cell? ⟨b, 28, none⟩ = some (.int .i64 p.s) := Y1.cell (i := 3) (j := 4) (q := p) rfl (by decide)
    have c5 : W1.cell? ⟨b, 37, none⟩ = some (.int .i64 p.e) := Y1.cell (i := 4) (j := 5) (q := p) rfl (by decide)
    have c6 : W1.cell? ⟨b, 46, none⟩ = some (.int .i64 p.d) := Y1.cell (i := 5) (j := 6) (q := p) rfl (by decide)
    have fz := Y1.free
    have Y2 := Y1.set (i := 0) (j := 1) (q := p) (r := { p with n := p.n + 1 }) (v := .int .i64 (p.n + 1)) rfl (by decide) rfl
    have Y3 := Y2.set (i := 1) (j := 2) (q := p) (r := { p with k := p.k - 1 }) (v := .int .i64 (p.k - 1)) rfl (by decide) rfl
    have Y4 := Y3.set (i := 2) (j := 3) (q := p) (r := { p with t := p.t - 1 }) (v := .int .i64 (p.t - 1)) rfl (by decide) rfl
    have Y5 := Y4.set (i := 3) (j := 4) (q := p) (r := { p with s := p.s - 1 }) (v := .int .i64 (p.s - 1)) rfl (by decide) rfl
    have Y6 := Y5.set (i := 4) (j := 5) (q := p) (r := { p with e := p.e - 1 }) (v := .int .i64 (p.e - 1)) rfl (by decide) rfl
    have Y7 := Y6.set (i := 5) (j := 6) (q := p) (r := { p with d := p.d - 1 }) (v := .int .i64 (p.d - 1)) rfl (by decide) rfl
    have hne : w.heap.size ≠ b := by omega
    have PB7 := hide ((((((PB2.out.other hne 1 (.int .i64 (p.n + 1))).other hne 10 (.int .i64 (p.k - 1))).other hne 19 (.int .i64 (p.t - 1))).other hne 28 (.int .i64 (p.s - 1))).other hne 37 (.int .i64 (p.e - 1))).other hne 46 (.int .i64 (p.d - 1)))
    have hge : w.heap.size ≤ b := by omega
    have HA7 := hide (below_set (k := 46) (v := .int .i64 (p.d - 1)) (below_set (k := 37) (v := .int .i64 (p.e - 1)) (below_set (k := 28) (v := .int .i64 (p.s - 1)) (below_set (k := 19) (v := .int .i64 (p.t - 1)) (below_set (k := 10) (v := .int .i64 (p.k - 1)) (below_set (k := 1) (v := .int .i64 (p.n + 1)) HA2.out hge) hge) hge) hge) hge) hge)
    have YY : Hid (Py _ b (six p)) := Y7
    clear Y1 Y2 Y3 Y4 Y5 Y6 Y7 hne hge
    go_upto_region 10 with fail
    generalize hW7 : World.setCell _ _ _ = W7
    have PB8 : Hid (Pb W7 w.heap.size p) := by show Pb _ _ _; rw [← hW7]; exact PB7.out
    have HA8 : Hid (Below w.heap.size w W7) := by show Below _ _ _; rw [← hW7]; exact HA7.out
    have Y8 : Hid (Py W7 b (six p)) := by show Py _ _ _; rw [← hW7]; exact YY.out
    clear hW7 PB7 HA7 YY c1 c2 c3 c4 c5 c6 fz PB2 HA2
    have HL6 : Hid ((six p).length = 6) := rfl
    generalize six p = ps at *
    go_wp2
    go_loopw [4] (fun vi wr => ∃ i : Nat, i ≤ 6 ∧ vi = .int .i64 i ∧ Hid (Pb wr w.heap.size p) ∧ Hid (Py wr b ps) ∧ Hid (Below w.heap.size w wr)) (fun vi _ => 6 - (intOf vi).toNat)
    case atStart => exact ⟨0, by decide, rfl, PB8.out, Y8.out, HA8.out⟩
    case round =>
      obtain ⟨i, hi, rfl, R1, R2, RB⟩ := hrel
      rcases Nat.lt_or_ge i 6 with hi6 | hi6
      · have hiI : (i : Int) < 6 := by omega
        have hi0 : (0 : Int) ≤ (i : Int) := by omega
        obtain ⟨q, Hq⟩ : ∃ q, Hid (ps[i]? = some q) := ⟨ps[i]'(by rw [HL6.out]; exact hi6), List.getElem?_eq_getElem _⟩
        obtain ⟨hqo, hqa⟩ := HAL.out q (List.mem_of_getElem? Hq.out)
        have A1 := hide (gAccept q hqo)
        have A2 := hide (dMayP q hqo)
        obtain ⟨c0, c1, c2, c3, c4, c5, c6, c7⟩ := R2.out.cells Hq.out
        cases hmq : mayP q with
        | true =>
          rw [hqa hmq] at A1
          rw [hmq] at A2
          clear hmq hqa hqo
          unfold plv plw at A1 A2
          go_wp2_with (first
            | (go_at_call 16; refine (A1.out _).mono ?_; rintro e w6 ⟨rfl, hb6⟩; have S1 := hide (R1.out.below hb6); have S2 := hide (R2.out.below hb6); clear c0 c1 c2 c3 c4 c5 c6 c7; obtain ⟨c0, c1, c2, c3, c4, c5, c6, c7⟩ := S2.out.cells Hq.out)
            | (go_at_call 15; refine (A2.out _).mono ?_; rintro e w8 ⟨rfl, hb8⟩; first | (have U1 := hide (T1.out.below hb8); have U2 := hide (T2.out.below hb8); have hb9 := Below.next hb7 hb8) | (have T1 := hide (S1.out.below hb8); have T2 := hide (S2.out.below hb8); have hb7 := Below.next hb6 hb8; clear c0 c1 c2 c3 c4 c5 c6 c7; obtain ⟨c0, c1, c2, c3, c4, c5, c6, c7⟩ := T2.out.cells Hq.out)))
          refine ⟨⟨i + 1, by omega, by go_num, U1.out, U2.out, Below.next RB.out hb9⟩, ?_⟩
          simp [intOf]
          omega
        | false =>
          rw [acE_no hmq] at A1
          rw [hmq] at A2
          clear hmq hqa hqo
          unfold plv plw at A1 A2
          go_wp2_with (first
            | (go_at_call 16; refine (A1.out _).mono ?_; rintro e w6 ⟨rfl, hb6⟩; have S1 := hide (R1.out.below hb6); have S2 := hide (R2.out.below hb6); clear c0 c1 c2 c3 c4 c5 c6 c7; obtain ⟨c0, c1, c2, c3, c4, c5, c6, c7⟩ := S2.out.cells Hq.out)
            | (go_at_call 15; refine (A2.out _).mono ?_; rintro e w8 ⟨rfl, hb8⟩; first | (have U1 := hide (T1.out.below hb8); have U2 := hide (T2.out.below hb8); have hb9 := Below.next hb7 hb8) | (have T1 := hide (S1.out.below hb8); have T2 := hide (S2.out.below hb8); have hb7 := Below.next hb6 hb8; clear c0 c1 c2 c3 c4 c5 c6 c7; obtain ⟨c0, c1, c2, c3, c4, c5, c6, c7⟩ := T2.out.cells Hq.out)))
          refine ⟨⟨i + 1, by omega, by go_num, U1.out, U2.out, Below.next RB.out hb9⟩, ?_⟩
          simp [intOf]
          omega
      · obtain rfl : i = 6 := by omega
        unfold plv plw at H2 H3
        obtain ⟨c0, c1, c2, c3, c4, c5, c6, c7⟩ := R1.out.cells
        obtain ⟨x0, x1⟩ := hnd
        have hx1 : x + p.s ≤ 9223372036854775807 := by omega
        go_wp2_with (first
          | (go_at_call 18; refine (HX.out _).mono ?_; rintro e w8 ⟨rfl, hb8⟩; obtain ⟨c0, c1, c2, c3, c4, c5, c6, c7⟩ := (T1.out.below hb8).cells)
          | (go_at_call 12; refine (H3.out _).mono ?_; rintro e w7 ⟨rfl, hb7⟩; have T1 := hide (S1.out.below hb7); clear c0 c1 c2 c3 c4 c5 c6 c7)
          | (go_at_call 10; refine (H2.out _).mono ?_; rintro e w6 ⟨rfl, hb6⟩; have S1 := hide (R1.out.below hb6); clear c0 c1 c2 c3 c4 c5 c6 c7; obtain ⟨c0, c1, c2, c3, c4, c5, c6, c7⟩ := S1.out.cells))
        go_ret
        exact ⟨rfl, Below.next (Below.next (Below.next RB.out hb6) hb7) hb8⟩
  · generalize acE p = x at *
    clear H2 H3 HP
    unfold plv plw at *
    go_enter Try.func5, Try.ntmps5
    go_wp2_with (first
      | (go_at_call 16; refine (H1.out _).mono ?_; rintro e w1 ⟨rfl, hb1⟩)
      | (go_at_call 18; refine (HX.out _).mono ?_; rintro e w2 ⟨rfl, hb2⟩))
    go_ret
    exact ⟨rfl, Below.next (Below.next HA0.out hb1) hb2⟩

end Go.Proofs.Ytgjbfapmefpcjaa
