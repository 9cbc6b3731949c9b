/-
  Layer 9: numbers and values read: the program's calls.
-/
import Derived.Test.YtjkialmhajbcfaaDoorBSlwH
namespace Go.Proofs.YtjkialmhajbcfaaDoor
open Go.RowKit Fld Slp
set_option linter.unusedVariables false
set_option linter.unusedSimpArgs false

/-- The digits' number, from so far on. -/
def numF (n : Nat) (l : Tx) : Nat := l.foldl (fun n d => 10 * n + (d.toNat - 48)) n
theorem numF_ge (l : Tx) : ∀ n, n ≤ numF n l := by
  induction l with
  | nil => intro n; exact Nat.le_refl _
  | cons x l ih => intro n; exact Nat.le_trans (by omega) (ih (10 * n + (x.toNat - 48)))
theorem pum_ok : ∀ (l : Tx) (acc : Nat), acc ≤ 18446744073709551615 → (∀ d ∈ l, 48 ≤ d.toNat ∧ d.toNat ≤ 57) → numF acc l ≤ 18446744073709551615 → Lib.parseUintM 18446744073709551615 acc l = .ok (numF acc l)
  | [], acc, _, _, _ => rfl
  | c :: r, acc, ha, hd, hn => by
    have hc := hd c (by simp)
    have hge := numF_ge r (10 * acc + (c.toNat - 48))
    have hn' : numF (10 * acc + (c.toNat - 48)) r ≤ 18446744073709551615 := hn
    show (if 48 ≤ c.toNat ∧ c.toNat ≤ 57 then if 1844674407370955162 ≤ acc then _ else if 18446744073709551615 < acc * 10 + (c.toNat - 48) then _ else Lib.parseUintM 18446744073709551615 (acc * 10 + (c.toNat - 48)) r else _) = _
    rw [if_pos hc, if_neg (by omega), if_neg (by omega), show acc * 10 + (c.toNat - 48) = 10 * acc + (c.toNat - 48) by omega]
    exact pum_ok r _ (by omega) (fun d hd' => hd d (List.mem_cons_of_mem _ hd')) hn'
theorem pum_of : ∀ (l : Tx) (acc u : Nat), acc ≤ 18446744073709551615 → Lib.parseUintM 18446744073709551615 acc l = .ok u → (∀ d ∈ l, 48 ≤ d.toNat ∧ d.toNat ≤ 57) ∧ u = numF acc l ∧ u ≤ 18446744073709551615
  | [], acc, u, ha, h => by
    have e : acc = u := by simpa [Lib.parseUintM] using h
    subst e
    exact ⟨fun d hd => (by cases hd), rfl, ha⟩
  | c :: r, acc, u, ha, h => by
    have h' : (if 48 ≤ c.toNat ∧ c.toNat ≤ 57 then if 1844674407370955162 ≤ acc then (.range : Lib.NumEnd Nat) else if 18446744073709551615 < acc * 10 + (c.toNat - 48) then .range else Lib.parseUintM 18446744073709551615 (acc * 10 + (c.toNat - 48)) r else .syntax) = .ok u := h
    by_cases hc : 48 ≤ c.toNat ∧ c.toNat ≤ 57
    · rw [if_pos hc] at h'
      by_cases h1 : 1844674407370955162 ≤ acc
      · rw [if_pos h1] at h'; cases h'
      · rw [if_neg h1] at h'
        by_cases h2 : 18446744073709551615 < acc * 10 + (c.toNat - 48)
        · rw [if_pos h2] at h'; cases h'
        · rw [if_neg h2, show acc * 10 + (c.toNat - 48) = 10 * acc + (c.toNat - 48) by omega] at h'
          obtain ⟨a1, a2, a3⟩ := pum_of r _ u (by omega) h'
          refine ⟨fun d hd => ?_, a2, a3⟩
          rcases List.mem_cons.1 hd with rfl | hd
          · exact hc
          · exact a1 d hd
    · rw [if_neg hc] at h'; cases h'
/-- A number that is read, held against the library's. -/
theorem pu_ok {d : Tx} {u : Nat} (h : nmb d 18446744073709551615 = some u) : Lib.parseUintB 64 d = .ok u ∧ d ≠ [] ∧ (d = [48] ∨ d.head? ≠ some 48) := by
  unfold nmb at h
  by_cases hc : d ≠ [] ∧ (∀ x ∈ d, 48 ≤ x.toNat ∧ x.toNat ≤ 57) ∧ (d.head? = some 48 → d.length = 1) ∧ num d ≤ 18446744073709551615
  · rw [if_pos hc] at h
    have e : num d = u := by simpa using h
    subst e
    obtain ⟨h1, h2, h3, h4⟩ := hc
    refine ⟨?_, h1, ?_⟩
    · unfold Lib.parseUintB
      rw [if_neg h1]
      exact pum_ok d 0 (by decide) h2 h4
    · by_cases hh : d.head? = some 48
      · left
        have := h3 hh
        match d, this, hh with
        | [x], _, hh => rw [show x = 48 from by simpa using hh]
      · exact .inr hh
  · rw [if_neg hc] at h; cases h
theorem pu_no {d : Tx} (h : nmb d 18446744073709551615 = none) : Lib.parseUintB 64 d = .syntax ∨ Lib.parseUintB 64 d = .range ∨ (∃ u, Lib.parseUintB 64 d = .ok u ∧ d ≠ [] ∧ d ≠ [48] ∧ d.head? = some 48) := by
  cases hp : Lib.parseUintB 64 d with
  | «syntax» => exact .inl rfl
  | range => exact .inr (.inl rfl)
  | ok u =>
    right; right
    have hne : d ≠ [] := fun e => by rw [e] at hp; cases hp
    unfold Lib.parseUintB at hp
    rw [if_neg hne] at hp
    obtain ⟨a1, a2, a3⟩ := pum_of d 0 u (by decide) hp
    refine ⟨u, rfl, hne, ?_⟩
    unfold nmb at h
    by_cases hc : d.head? = some 48 → d.length = 1
    · exfalso
      rw [if_pos ⟨hne, a1, hc, by have : num d = numF 0 d := rfl; omega⟩] at h
      cases h
    · have hh : d.head? = some 48 := Classical.byContradiction fun hn => hc (fun hs => absurd hs hn)
      refine ⟨fun e => hc (fun _ => by rw [e]; rfl), hh⟩

theorem tx_head (x : UInt8) (r : Tx) (W : World) : (Instr.index 9 (tx (x :: r)) (.int .i64 0)).run Tryd.prog W = .ok (.int .u8 x.toNat) W := by
  unfold tx
  simp [go_sem]
  rfl

theorem tx_guard (l : Tx) (b : ByteArray) (op : BinOp) (x y : Operand) (W : World) : (eqGuard op 9 x y (tx l) (.string b)).run Tryd.prog W = .ok () W := by
  unfold tx
  simp [go_sem]

set_option maxHeartbeats 400000 in
theorem sNumber_ok (rb : Nat) (d : Tx) (u : Nat) (w : World) (hn : nmb d 18446744073709551615 = some u) (hl : d.length ≤ 281474976710656) : Calls Tryd.prog 74 #[.pointer (some ⟨rb, 0, none⟩), tx d] w fun e w' => e = .returned (.int .u64 (u : Int)) ∧ Below w.heap.size w w' := by
  obtain ⟨h1, h2, h3⟩ := pu_ok hn
  have HP := hide (Tryd.strconv_ParseUint_10_at64_ok ⟨d.toArray⟩ (by rw [tx_size]; omega) u h1 w)
  clear hn h1
  have HP2 : Hid (Calls Tryd.prog 84 #[tx d, .int .i64 10, .int .i64 64] w fun e w' => e = .returned (.tuple #[.int .u64 (u : Int), .nilIface]) ∧ Below w.heap.size w w') := HP.out.mono (fun e w' ⟨he, hw⟩ => ⟨he, by
    rcases hw with rfl | rfl
    · exact Below.refl _ _
    · exact Lib.bytesWorld_below _ _ _⟩)
  clear HP
  cases d with
  | nil => exact absurd rfl h2
  | cons x r =>
    clear h2
    have HE := tx_eq (x :: r) [48]
    have hi := tx_head x r
    by_cases hz : x :: r = [48]
    · have he : ∀ W, (binOp .eql 9 (tx (x :: r)) (.string ⟨#[48]⟩)).run Tryd.prog W = .ok (.bool true) W := fun W => by
        have := HE W
        rw [beq_iff_eq.2 hz] at this
        exact this
      have hg := tx_guard (x :: r)
      clear HE hi h3 hz
      generalize tx (x :: r) = T at *
      go_enter Tryd.func74, Tryd.ntmps74
      go_wp2_with (first
        | (go_at_call 84; refine HP2.out.mono ?_; rintro e w1 ⟨rfl, hb⟩)
        | (go_at_call 50; refine (sWant_ok rb _).mono ?_; rintro e w2 ⟨rfl, hw2⟩; rw [hw2]))
      go_ret
      exact ⟨rfl, hb⟩
    · have he : ∀ W, (binOp .eql 9 (tx (x :: r)) (.string ⟨#[48]⟩)).run Tryd.prog W = .ok (.bool false) W := fun W => by
        have := HE W
        rw [beq_eq_false_iff_ne.2 hz] at this
        exact this
      have hx : ¬ x = 48 := fun e => by
        rcases h3 with h | h
        · exact hz h
        · exact h (by rw [e]; rfl)
      have hx2 : ((x.toNat : Int) != 48) = true := bne_iff_ne.2 (fun e => hx (UInt8.toNat_inj.1 (by have : (48 : UInt8).toNat = 48 := rfl; omega)))
      have hg := tx_guard (x :: r)
      clear HE h3 hz hx
      generalize tx (x :: r) = T at *
      go_enter Tryd.func74, Tryd.ntmps74
      go_wp2_with (first
        | (go_at_call 84; refine HP2.out.mono ?_; rintro e w1 ⟨rfl, hb⟩)
        | (go_at_call 50; refine (sWant_ok rb _).mono ?_; rintro e w2 ⟨rfl, hw2⟩; rw [hw2]))
      go_ret
      exact ⟨rfl, hb⟩

set_option maxHeartbeats 400000 in
theorem sNumber_no (rb : Nat) (d : Tx) (n : Int) (w : World) (hn : nmb d 18446744073709551615 = none) (hl : d.length ≤ 281474976710656) (hc : w.cell? ⟨rb, 0, none⟩ = some (.int .i64 n)) (hT : Tb9 w) : Calls Tryd.prog 74 #[.pointer (some ⟨rb, 0, none⟩), tx d] w fun e w' => e = .panicked (pan n) ∧ Below w.heap.size w w' := by
  rcases pu_no hn with h1 | h1 | ⟨u, h1, h2, h3, h4⟩
  · obtain ⟨tp, p, hv⟩ := hT.syn
    have HP2 : Hid (Calls Tryd.prog 84 #[tx d, .int .i64 10, .int .i64 64] w fun e w' => (∃ t v, e = .returned (.tuple #[.int .u64 0, .iface t v])) ∧ Below w.heap.size w w') := (Tryd.strconv_ParseUint_10_at64_syntax_var ⟨d.toArray⟩ (by rw [tx_size]; omega) h1 tp p w hv).mono (fun e w' ⟨N, he, _, _, hb⟩ => ⟨⟨_, _, he⟩, hb⟩)
    clear h1 hn hT hv
    generalize tx d = T at *
    go_enter Tryd.func74, Tryd.ntmps74
    go_wp2_with (first
      | (go_at_call 84; refine HP2.out.mono ?_; rintro e w1 ⟨⟨t, v, rfl⟩, hb⟩; have c1 := (hb.cell (cell_in hc)).trans hc)
      | (go_at_call 50; refine (sWant_no rb n _ c1).mono ?_; rintro e w2 ⟨rfl, hw2⟩; rw [hw2]))
    exact ⟨rfl, rfl, hb⟩
  · obtain ⟨tp, p, hv⟩ := hT.rng
    have HP2 : Hid (Calls Tryd.prog 84 #[tx d, .int .i64 10, .int .i64 64] w fun e w' => (∃ t v, e = .returned (.tuple #[.int .u64 18446744073709551615, .iface t v])) ∧ Below w.heap.size w w') := (Tryd.strconv_ParseUint_10_at64_range_var ⟨d.toArray⟩ (by rw [tx_size]; omega) h1 tp p w hv).mono (fun e w' ⟨N, he, _, _, hb⟩ => ⟨⟨_, _, he⟩, hb⟩)
    clear h1 hn hT hv
    generalize tx d = T at *
    go_enter Tryd.func74, Tryd.ntmps74
    go_wp2_with (first
      | (go_at_call 84; refine HP2.out.mono ?_; rintro e w1 ⟨⟨t, v, rfl⟩, hb⟩; have c1 := (hb.cell (cell_in hc)).trans hc)
      | (go_at_call 50; refine (sWant_no rb n _ c1).mono ?_; rintro e w2 ⟨rfl, hw2⟩; rw [hw2]))
    exact ⟨rfl, rfl, hb⟩
  · have HP2 : Hid (Calls Tryd.prog 84 #[tx d, .int .i64 10, .int .i64 64] w fun e w' => e = .returned (.tuple #[.int .u64 (u : Int), .nilIface]) ∧ Below w.heap.size w w') := (Tryd.strconv_ParseUint_10_at64_ok ⟨d.toArray⟩ (by rw [tx_size]; omega) u h1 w).mono (fun e w' ⟨he, hw⟩ => ⟨he, by
      rcases hw with rfl | rfl
      · exact Below.refl _ _
      · exact Lib.bytesWorld_below _ _ _⟩)
    clear h1 hn hT
    cases d with
    | nil => exact absurd rfl h2
    | cons x r =>
      have hx : x = 48 := by simpa using h4
      have HE := tx_eq (x :: r) [48]
      have hi := tx_head x r
      have he : ∀ W, (binOp .eql 9 (tx (x :: r)) (.string ⟨#[48]⟩)).run Tryd.prog W = .ok (.bool false) W := fun W => by
        have := HE W
        rw [beq_eq_false_iff_ne.2 h3] at this
        exact this
      have hx2 : ((x.toNat : Int) != 48) = false := by rw [hx]; rfl
      have hg := tx_guard (x :: r)
      clear HE h3 h4 h2 hx
      generalize tx (x :: r) = T at *
      go_enter Tryd.func74, Tryd.ntmps74
      go_wp2_with (first
        | (go_at_call 84; refine HP2.out.mono ?_; rintro e w1 ⟨rfl, hb⟩; have c1 := (hb.cell (cell_in hc)).trans hc)
        | (go_at_call 50; refine (sWant_no rb n _ c1).mono ?_; rintro e w2 ⟨rfl, hw2⟩; rw [hw2]))
      exact ⟨rfl, rfl, hb⟩

/-- A number below a count. -/
def nbl (d : Tx) (c : Nat) : Option Nat := match nmb d 18446744073709551615 with | some u => if u < c then some u else none | none => none
theorem nbl_some {d : Tx} {c u : Nat} (h : nbl d c = some u) : nmb d 18446744073709551615 = some u ∧ u < c := by
  unfold nbl at h
  cases hn : nmb d 18446744073709551615 with
  | none => rw [hn] at h; cases h
  | some v =>
    rw [hn] at h
    have h' : (if v < c then some v else none) = some u := h
    by_cases hv : v < c
    · rw [if_pos hv] at h'
      have e : v = u := by simpa using h'
      exact ⟨by rw [e], by omega⟩
    · rw [if_neg hv] at h'; cases h'
theorem nbl_none {d : Tx} {c : Nat} (h : nbl d c = none) : nmb d 18446744073709551615 = none ∨ ∃ u, nmb d 18446744073709551615 = some u ∧ c ≤ u ∧ u ≤ 18446744073709551615 := by
  unfold nbl at h
  cases hn : nmb d 18446744073709551615 with
  | none => exact .inl rfl
  | some v =>
    rw [hn] at h
    have h' : (if v < c then some v else none) = none := h
    by_cases hv : v < c
    · rw [if_pos hv] at h'; cases h'
    · exact .inr ⟨v, rfl, by omega, (nmb_some hn).2⟩

set_option maxHeartbeats 400000 in
theorem sBelow_ok (rb : Nat) (d : Tx) (c u : Nat) (w : World) (hn : nbl d c = some u) (hc64 : c ≤ 1000) (hl : d.length ≤ 281474976710656) : Calls Tryd.prog 62 #[.pointer (some ⟨rb, 0, none⟩), tx d, .int .i64 (c : Int)] w fun e w' => e = .returned (.int .i64 (u : Int)) ∧ Below w.heap.size w w' := by
  obtain ⟨h1, h2⟩ := nbl_some hn
  have HN := hide (sNumber_ok rb d u w h1 hl)
  have hw1 : IntKind.u64.wrap (c : Int) = (c : Int) := by rw [IntKind.wrap_u64]; omega
  have hw2 : IntKind.i64.wrap (u : Int) = (u : Int) := by rw [IntKind.wrap_i64]; omega
  have hlt : (u : Int) < (c : Int) := by omega
  clear hn h1
  generalize tx d = T at *
  go_enter Tryd.func62, Tryd.ntmps62
  go_wp2_with (first
    | (go_at_call 74; refine HN.out.mono ?_; rintro e w1 ⟨rfl, hb⟩)
    | (go_at_call 50; refine (sWant_ok rb _).mono ?_; rintro e w2 ⟨rfl, hw2⟩; rw [hw2]))
  go_ret
  exact ⟨rfl, hb⟩

set_option maxHeartbeats 400000 in
theorem sBelow_no (rb : Nat) (d : Tx) (c : Nat) (n : Int) (w : World) (hn : nbl d c = none) (hc64 : c ≤ 1000) (hl : d.length ≤ 281474976710656) (hc : w.cell? ⟨rb, 0, none⟩ = some (.int .i64 n)) (hT : Tb9 w) : Calls Tryd.prog 62 #[.pointer (some ⟨rb, 0, none⟩), tx d, .int .i64 (c : Int)] w fun e w' => e = .panicked (pan n) ∧ Below w.heap.size w w' := by
  have hw1 : IntKind.u64.wrap (c : Int) = (c : Int) := by rw [IntKind.wrap_u64]; omega
  rcases nbl_none hn with h1 | ⟨u, h1, h2, h3⟩
  · have HN := hide (sNumber_no rb d n w h1 hl hc hT)
    clear hn h1
    generalize tx d = T at *
    go_enter Tryd.func62, Tryd.ntmps62
    go_wp2_with (first
      | (go_at_call 74; refine HN.out.mono ?_; rintro e w1 ⟨rfl, hb⟩))
    exact ⟨rfl, rfl, hb⟩
  · have HN := hide (sNumber_ok rb d u w h1 hl)
    have hge : decide (u < c) = false := decide_eq_false (by omega)
    clear hn h1 h2 h3
    generalize tx d = T at *
    go_enter Tryd.func62, Tryd.ntmps62
    go_wp2_with (first
      | (go_at_call 74; refine HN.out.mono ?_; rintro e w1 ⟨rfl, hb⟩; have c1 := (hb.cell (cell_in hc)).trans hc)
      | (go_at_call 50; refine (sWant_no rb n _ c1).mono ?_; rintro e w2 ⟨rfl, hw2⟩; rw [hw2]))
    exact ⟨rfl, rfl, hb⟩

/-- How far a text was read: the reading's own cells. -/
structure RdS (W : World) (rb : Nat) (line inp : Int) (vo : Value) (ops : List O4) (vu : Value) (outs : List Int) (whole : Bool) : Prop where
  blk : W.heap[rb]? = some (.cells #[.int .i64 line, .int .i64 inp, vo, vu, .bool whole] 84 (0, 0))
  ro : W.ownsRow rb 47 4 vo ops.length (ops.flatMap opw)
  ru : W.ownsRow rb 3 1 vu outs.length (outs.flatMap iw)
theorem RdS.lt {W : World} {rb : Nat} {line inp : Int} {vo : Value} {ops : List O4} {vu : Value} {outs : List Int} {whole : Bool} (h : RdS W rb line inp vo ops vu outs whole) : rb < W.heap.size := (Array.getElem?_eq_some_iff.1 h.blk).1
theorem RdS.c0 {W : World} {rb : Nat} {line inp : Int} {vo : Value} {ops : List O4} {vu : Value} {outs : List Int} {whole : Bool} (h : RdS W rb line inp vo ops vu outs whole) : W.cell? ⟨rb, 0, none⟩ = some (.int .i64 line) := by rw [Lib.cell_of_heap h.blk]; rfl
theorem RdS.c1 {W : World} {rb : Nat} {line inp : Int} {vo : Value} {ops : List O4} {vu : Value} {outs : List Int} {whole : Bool} (h : RdS W rb line inp vo ops vu outs whole) : W.cell? ⟨rb, 1, none⟩ = some (.int .i64 inp) := by rw [Lib.cell_of_heap h.blk]; rfl
theorem RdS.c2 {W : World} {rb : Nat} {line inp : Int} {vo : Value} {ops : List O4} {vu : Value} {outs : List Int} {whole : Bool} (h : RdS W rb line inp vo ops vu outs whole) : W.cell? ⟨rb, 2, none⟩ = some vo := by rw [Lib.cell_of_heap h.blk]; rfl
theorem RdS.c3 {W : World} {rb : Nat} {line inp : Int} {vo : Value} {ops : List O4} {vu : Value} {outs : List Int} {whole : Bool} (h : RdS W rb line inp vo ops vu outs whole) : W.cell? ⟨rb, 3, none⟩ = some vu := by rw [Lib.cell_of_heap h.blk]; rfl
theorem RdS.c4 {W : World} {rb : Nat} {line inp : Int} {vo : Value} {ops : List O4} {vu : Value} {outs : List Int} {whole : Bool} (h : RdS W rb line inp vo ops vu outs whole) : W.cell? ⟨rb, 4, none⟩ = some (.bool whole) := by rw [Lib.cell_of_heap h.blk]; rfl
theorem RdS.fz {W : World} {rb : Nat} {line inp : Int} {vo : Value} {ops : List O4} {vu : Value} {outs : List Int} {whole : Bool} (h : RdS W rb line inp vo ops vu outs whole) (k : Nat) : W.frozen? ⟨rb, k, none⟩ = false := Lib.frozen_of_heap h.blk k
/-- A row that a call made has its slice's form. -/
theorem own_slice {w : World} {b n s : Nat} {T : TypeId} {v : Value} {xs : List Value} (h : w.ownsRow b T s v n xs) : ∃ a c, v = .slice a n c := by
  rcases h.2 with ⟨rfl, h0⟩ | ⟨g, cap, cur, rfl, _⟩
  · exact ⟨_, _, by rw [h0]⟩
  · exact ⟨_, _, rfl⟩
theorem RdS.below {W W' : World} {rb : Nat} {line inp : Int} {vo : Value} {ops : List O4} {vu : Value} {outs : List Int} {whole : Bool} (h : RdS W rb line inp vo ops vu outs whole) (hb : Below W.heap.size W W') : RdS W' rb line inp vo ops vu outs whole :=
  ⟨(hb.block rb h.lt).trans h.blk, own_kept h.ro (below_own hb) (fun g _ => by simp), own_kept h.ru (below_own hb) (fun g _ => by simp)⟩

/-- A value that is read. -/
theorem valP_cases (n m : Nat) (x : Tx) : (∃ d, x = 120 :: d ∧ valP n (n + m) x = (nbl d n).map (fun u : Nat => (u : Int))) ∨ (∃ d, x = 116 :: d ∧ valP n (n + m) x = (nbl d m).map (fun u : Nat => ((n + u : Nat) : Int))) ∨ ((∀ d, x ≠ 120 :: d) ∧ (∀ d, x ≠ 116 :: d) ∧ valP n (n + m) x = none) := by
  cases x with
  | nil => exact .inr (.inr ⟨(fun d h => by cases h), (fun d h => by cases h), rfl⟩)
  | cons y d =>
    by_cases h1 : y = 120
    · subst h1
      refine .inl ⟨d, rfl, ?_⟩
      rw [valP_x]
      unfold nbl
      cases nmb d 18446744073709551615 with
      | none => rfl
      | some v =>
        show (if v < n ∧ v < n + m then some (v : Int) else none) = Option.map (fun u : Nat => (u : Int)) (if v < n then some v else none)
        by_cases hv : v < n
        · rw [if_pos hv, if_pos ⟨hv, by omega⟩]; rfl
        · rw [if_neg hv, if_neg (fun h => hv h.1)]; rfl
    · by_cases h2 : y = 116
      · subst h2
        refine .inr (.inl ⟨d, rfl, ?_⟩)
        rw [valP_t]
        unfold nbl
        cases nmb d 18446744073709551615 with
        | none => rfl
        | some v =>
          show (if n + v < n + m then some ((n + v : Nat) : Int) else none) = Option.map (fun u : Nat => ((n + u : Nat) : Int)) (if v < m then some v else none)
          by_cases hv : v < m
          · rw [if_pos hv, if_pos (by omega)]; rfl
          · rw [if_neg hv, if_neg (by omega)]; rfl
      · refine .inr (.inr ⟨fun e h => h1 (by injection h), fun e h => h2 (by injection h), ?_⟩)
        unfold valP
        simp only [if_neg h1, if_neg h2]

theorem lPrefix (c : UInt8) (d : Tx) (w : World) : Calls Tryd.prog 86 #[tx (c :: d), .string ⟨#[c]⟩] w fun e w' => e = .returned (.tuple #[tx d, .bool true]) ∧ w' = w := by
  refine (Tryd.strings_CutPrefix ⟨(c :: d).toArray⟩ ⟨#[c]⟩ w).mono ?_
  rintro e w' ⟨rfl, rfl⟩
  have h1 : Lib.hasPrefix (c :: d) [c] = true := by simp [Lib.hasPrefix]
  have h2 : Lib.trimPrefix (c :: d) [c] = d := by simp [Lib.trimPrefix, Lib.hasPrefix]
  refine ⟨?_, rfl⟩
  show Ending.returned (.tuple #[.string ⟨(Lib.trimPrefix (c :: d) [c]).toArray⟩, .bool (Lib.hasPrefix (c :: d) [c])]) = _
  rw [h1, h2]; rfl
theorem lPrefix_no (c : UInt8) (x : Tx) (w : World) (h : ∀ d, x ≠ c :: d) : Calls Tryd.prog 86 #[tx x, .string ⟨#[c]⟩] w fun e w' => e = .returned (.tuple #[tx x, .bool false]) ∧ w' = w := by
  refine (Tryd.strings_CutPrefix ⟨x.toArray⟩ ⟨#[c]⟩ w).mono ?_
  rintro e w' ⟨rfl, rfl⟩
  have h1 : Lib.hasPrefix x [c] = false := by
    cases x with
    | nil => rfl
    | cons y d =>
      have : ¬ c = y := fun e => h d (by rw [e])
      simp [Lib.hasPrefix, List.isPrefixOf, this]
  have h2 : Lib.trimPrefix x [c] = x := by simp [Lib.trimPrefix, h1]
  refine ⟨?_, rfl⟩
  show Ending.returned (.tuple #[.string ⟨(Lib.trimPrefix x [c]).toArray⟩, .bool (Lib.hasPrefix x [c])]) = _
  rw [h1, h2]; rfl

end Go.Proofs.YtjkialmhajbcfaaDoor
