/- Texts laid together: SlwH, SlwI. -/
import Derived.Test.YtjkialmhajbcfaaDoorBSlwG
import Derived.Test.YtjkialmhajbcfaaDoorBRngP
namespace Go.Proofs.YtjkialmhajbcfaaDoor
open Go.RowKit Fld Slp
set_option linter.unusedVariables false
set_option linter.unusedSimpArgs false

/-- What a line that is none leaves by. -/
def nln (n : Int) : Value := .iface 68 (.agg #[.int .i64 n])
def pan (n : Int) : List PanicEntry := [{ v := nln n, recovered := false }]

set_option maxHeartbeats 200000 in
theorem sWant_ok (rb : Nat) (w : World) : Calls Tryd.prog 50 #[.pointer (some ⟨rb, 0, none⟩), .bool true] w fun e w' => e = .returned (.tuple #[]) ∧ w' = w := by
  go_enter Tryd.func50, Tryd.ntmps50
  go_wp2
  go_end0
  exact ⟨rfl, rfl⟩

set_option maxHeartbeats 200000 in
theorem sWant_no (rb : Nat) (n : Int) (w : World) (h : w.cell? ⟨rb, 0, none⟩ = some (.int .i64 n)) : Calls Tryd.prog 50 #[.pointer (some ⟨rb, 0, none⟩), .bool false] w fun e w' => e = .panicked (pan n) ∧ w' = w := by
  go_enter Tryd.func50, Tryd.ntmps50
  go_wp2
  exact ⟨rfl, rfl, rfl⟩

theorem tx_upto (l : Tx) (i : Int) (h0 : 0 ≤ i) (h1 : i ≤ (l.length : Int)) (W : World) : (Instr.slice 9 (tx l) none (some (.int .i64 i)) none).run Tryd.prog W = .ok (tx (l.take i.toNat)) W := by
  unfold tx
  rw [run_slice_string_to_if W 9 _ .i64 i Tryd.underlying9, if_pos ⟨h0, by rw [tx_size]; exact h1⟩]
  congr 2
  apply ByteArray.ext
  simp [ByteArray.data_extract]
theorem tx_from (l : Tx) (i : Int) (h0 : 0 ≤ i) (h1 : i ≤ (l.length : Int)) (W : World) : (Instr.slice 9 (tx l) (some (.int .i64 i)) none none).run Tryd.prog W = .ok (tx (l.drop i.toNat)) W := by
  unfold tx
  rw [run_slice_string_from_if W 9 _ .i64 i Tryd.underlying9, if_pos ⟨h0, by rw [tx_size]; exact h1⟩]
  congr 2
  apply ByteArray.ext
  simp [ByteArray.data_extract]
  exact List.take_of_length_le (by rw [List.length_drop, tx_size]; exact Nat.le_refl _)
theorem ib_hit (c : UInt8) : ∀ (a b : Tx), c ∉ a → Lib.indexByte (a ++ c :: b) c = (a.length : Int)
  | [], b, _ => by simp [Lib.indexByte]
  | x :: a, b, h => by
    have hx : ¬ x = c := fun e => h (by rw [e]; exact List.mem_cons_self)
    have ih := ib_hit c a b (fun hc => h (List.mem_cons_of_mem _ hc))
    show (if x == c then 0 else if Lib.indexByte (a ++ c :: b) c == -1 then -1 else Lib.indexByte (a ++ c :: b) c + 1) = _
    rw [ih, if_neg (by simpa using hx), if_neg (by intro hc; have := eq_of_beq hc; omega), List.length_cons]
    omega
theorem ib_miss (c : UInt8) : ∀ (a : Tx), c ∉ a → Lib.indexByte a c = -1
  | [], _ => rfl
  | x :: a, h => by
    have hx : ¬ x = c := fun e => h (by rw [e]; exact List.mem_cons_self)
    have ih := ib_miss c a (fun hc => h (List.mem_cons_of_mem _ hc))
    show (if x == c then 0 else if Lib.indexByte a c == -1 then -1 else Lib.indexByte a c + 1) = _
    rw [ih, if_neg (by simpa using hx)]; rfl

set_option maxHeartbeats 200000 in
theorem lCutL_hit (a b : Tx) (w : World) (h : (32 : UInt8) ∉ a) (hl : (a ++ 32 :: b).length ≤ 9223372036854775807) : Calls Tryd.prog 75 #[tx (a ++ 32 :: b), .string ⟨#[32]⟩] w fun e w' => e = .returned (.tuple #[tx a, tx b, .bool true]) ∧ Below w.heap.size w w' := by
  have HI := hide (Tryd.stringslite_Index_one ⟨(a ++ 32 :: b).toArray⟩ 32 w)
  have HX := hide (ib_hit 32 a b h)
  have hlen : (a ++ 32 :: b).length = a.length + 1 + b.length := by simp; omega
  have f1 := tx_upto (a ++ 32 :: b) (a.length : Int) (by omega) (by omega)
  have f2 := tx_from (a ++ 32 :: b) ((a.length : Int) + 1) (by omega) (by omega)
  have e1 : (a ++ 32 :: b).take (a.length : Int).toNat = a := by rw [Int.toNat_natCast]; simp
  have e2 : (a ++ 32 :: b).drop ((a.length : Int) + 1).toNat = b := by rw [show ((a.length : Int) + 1).toNat = a.length + 1 by omega]; simp
  rw [e1] at f1
  rw [e2] at f2
  have hw : IntKind.i64.wrap ((a.length : Int) + 1) = (a.length : Int) + 1 := by rw [IntKind.wrap_i64]; omega
  have HI2 : Hid (Calls Tryd.prog 85 #[tx (a ++ 32 :: b), .string ⟨#[32]⟩] w fun e w' => e = .returned (.int .i64 (a.length : Int)) ∧ w' = w) := HI.out.mono (fun e w' ⟨he, hw⟩ => ⟨by rw [he]; show Ending.returned (Value.int .i64 (Lib.indexByte (a ++ 32 :: b) 32)) = _; rw [HX.out], hw⟩)
  have hge : (0 : Int) ≤ (a.length : Int) := by omega
  clear e1 e2 hlen hl HI HX
  generalize tx (a ++ 32 :: b) = T at *
  go_enter Tryd.func75, Tryd.ntmps75
  go_wp2_with (go_at_call 85; refine HI2.out.mono ?_; rintro e w1 ⟨rfl, hw1⟩; rw [hw1])
  go_quiet (fail)
  go_wp2
  go_ret3
  exact ⟨rfl, below_drewN (Below.refl _ _) _⟩

set_option maxHeartbeats 200000 in
theorem lCutL_miss (a : Tx) (w : World) (h : (32 : UInt8) ∉ a) : Calls Tryd.prog 75 #[tx a, .string ⟨#[32]⟩] w fun e w' => e = .returned (.tuple #[tx a, tx [], .bool false]) ∧ Below w.heap.size w w' := by
  have HI := hide (Tryd.stringslite_Index_one ⟨a.toArray⟩ 32 w)
  have HX := hide (ib_miss 32 a h)
  have HI2 : Hid (Calls Tryd.prog 85 #[tx a, .string ⟨#[32]⟩] w fun e w' => e = .returned (.int .i64 (-1)) ∧ w' = w) := HI.out.mono (fun e w' ⟨he, hw⟩ => ⟨by rw [he]; show Ending.returned (Value.int .i64 (Lib.indexByte a 32)) = _; rw [HX.out], hw⟩)
  clear HI HX
  go_enter Tryd.func75, Tryd.ntmps75
  go_wp2_with (go_at_call 85; refine HI2.out.mono ?_; rintro e w1 ⟨rfl, hw1⟩; rw [hw1])
  go_ret3
  exact ⟨rfl, Below.refl _ _⟩

set_option maxHeartbeats 200000 in
theorem lCut (l a b : Tx) (t : Bool) (w : World) (hC : Calls Tryd.prog 75 #[tx l, .string ⟨#[32]⟩] w fun e w' => e = .returned (.tuple #[tx a, tx b, .bool t]) ∧ Below w.heap.size w w') : Calls Tryd.prog 65 #[tx l, .string ⟨#[32]⟩] w fun e w' => e = .returned (.tuple #[tx a, tx b, .bool t]) ∧ Below w.heap.size w w' := by
  have HC := hide hC
  clear hC
  go_enter Tryd.func65, Tryd.ntmps65
  go_wp2_with (go_at_call 75; refine HC.out.mono ?_; rintro e w1 ⟨rfl, hb⟩)
  go_ret3
  exact ⟨rfl, hb⟩

/-- A line's words, told one by one: the words that are left, in two cells. -/
structure Wds (W : World) (lb mb : Nat) (rs : List Tx) : Prop where
  ne : lb ≠ mb
  more : Go.Boxed W mb 4 (.bool (!rs.isEmpty))
  left : ∃ l : Tx, Go.Boxed W lb 9 (tx l) ∧ l.length ≤ 281474976710656 ∧ (rs ≠ [] → pcs 32 l = rs)
theorem Wds.kept {W W' : World} {lb mb : Nat} {rs : List Tx} {S : Nat → Prop} (h : Wds W lb mb rs) (k : Kq S W W') (h1 : S lb) (h2 : S mb) : Wds W' lb mb rs := by
  obtain ⟨l, hl, hl2⟩ := h.left
  exact ⟨h.ne, (k.block mb h2).trans h.more, ⟨l, (k.block lb h1).trans hl, hl2⟩⟩
theorem Wds.below {W W' : World} {lb mb : Nat} {rs : List Tx} (h : Wds W lb mb rs) (hb : Below W.heap.size W W') : Wds W' lb mb rs := by
  obtain ⟨l, hl, _⟩ := h.left
  exact h.kept (Below.kq hb (S := fun j => j < W.heap.size) (fun j hj => hj)) hl.lt h.more.lt
theorem jnt_len {c : UInt8} {rs : List Tx} : ∀ x ∈ rs, x.length ≤ (jnt c rs).length := by
  induction rs with
  | nil => intro x hx; cases hx
  | cons y rs ih =>
    intro x hx
    cases rs with
    | nil => rw [List.mem_singleton.1 hx]; exact Nat.le_refl _
    | cons z rs =>
      show x.length ≤ (y ++ c :: jnt c (z :: rs)).length
      rw [List.length_append, List.length_cons]
      rcases List.mem_cons.1 hx with rfl | hx
      · omega
      · have := ih x hx; omega
theorem Wds.short {W : World} {lb mb : Nat} {rs : List Tx} (h : Wds W lb mb rs) : (rs.headD []).length ≤ 281474976710656 := by
  obtain ⟨l, hl, hl2, hp⟩ := h.left
  cases rs with
  | nil => simp
  | cons x rs =>
    have := hp (by simp)
    have hj := jnt_pcs 32 l
    rw [this] at hj
    have := jnt_len (c := 32) x (List.mem_cons_self (a := x) (l := rs))
    rw [hj] at this
    rw [List.headD_cons]; omega

set_option maxHeartbeats 200000 in
theorem sWords (l : Tx) (w : World) (hl : l.length ≤ 281474976710656) : Calls Tryd.prog 52 #[tx l] w fun e w' => e = .returned (.func (.func 64) #[] #[.pointer (some ⟨w.heap.size + 1, 0, none⟩), .pointer (some ⟨w.heap.size, 0, none⟩)]) ∧ Wds w' w.heap.size (w.heap.size + 1) (pcs 32 l) ∧ Below w.heap.size w w' := by
  have hne : (pcs 32 l).isEmpty = false := by unfold pcs; simp
  have HW : Hid (∀ o1 o2 : World, o2 = (w.alloc (.cells #[tx l] 9)).alloc (.cells #[.bool true] 4) → Wds o2 w.heap.size (w.heap.size + 1) (pcs 32 l)) := fun o1 o2 e => by
    subst e
    refine ⟨by omega, ?_, ⟨l, (Go.Boxed.new w _ _).alloc _, hl, fun _ => rfl⟩⟩
    rw [hne]
    have := Go.Boxed.new (w.alloc (.cells #[tx l] 9)) 4 (.bool true)
    rw [World.size_alloc] at this
    exact this
  unfold tx at *
  go_enter Tryd.func52, Tryd.ntmps52
  go_wp2
  go_ret
  exact ⟨rfl, HW.out w _ rfl, Below.next (alloc_below w _) (alloc_below _ _)⟩

/-- The next word. -/
def NextOk (w : World) (lb mb : Nat) (rs : List Tx) : Prop :=
  Calls Tryd.prog 64 #[.pointer (some ⟨mb, 0, none⟩), .pointer (some ⟨lb, 0, none⟩)] w fun e w' => e = .returned (.tuple #[tx (rs.headD []), .bool (!rs.isEmpty)]) ∧ Wds w' lb mb rs.tail ∧ Kq (fun j => j < w.heap.size ∧ j ≠ lb ∧ j ≠ mb) w w'

theorem wds_put {w w1 : World} {lb mb : Nat} (hb : Below w.heap.size w w1) (hne : lb ≠ mb) {u v : Value} (c1 : Go.Boxed w1 lb 9 u) (c2 : Go.Boxed w1 mb 4 v)
    (b : Tx) (rs : List Tx) (hl : b.length ≤ 281474976710656) (hp : rs ≠ [] → pcs 32 b = rs) :
    Wds ((w1.setCell ⟨lb, 0, none⟩ (tx b)).setCell ⟨mb, 0, none⟩ (.bool (!rs.isEmpty))) lb mb rs ∧ Kq (fun j => j < w.heap.size ∧ j ≠ lb ∧ j ≠ mb) w ((w1.setCell ⟨lb, 0, none⟩ (tx b)).setCell ⟨mb, 0, none⟩ (.bool (!rs.isEmpty))) := by
  refine ⟨⟨hne, (c2.other (fun e => hne e.symm) _).set _, ⟨b, (c1.set _).other hne _, hl, hp⟩⟩, ⟨hb.os, hb.tape, hb.output, by simpa using hb.size, fun j hj => ?_⟩⟩
  rw [Below.heap_setCell _ _ _ j hj.2.2, Below.heap_setCell _ _ _ j hj.2.1]
  exact hb.block j hj.1

set_option maxHeartbeats 400000 in
theorem sNext (w : World) (lb mb : Nat) (rs : List Tx) (h : Wds w lb mb rs) : NextOk w lb mb rs := by
  unfold NextOk
  have hne := h.ne
  have bm := h.more
  obtain ⟨l, bl, hll, hp⟩ := h.left
  have hm := bm.cell
  have hl := bl.cell
  have hfm := bm.frozen
  have hfl := bl.frozen
  have BM := hide bm
  have BL := hide bl
  clear bm bl
  cases rs with
  | nil =>
    have H := hide h
    clear h
    simp only [List.isEmpty_nil, Bool.not_true] at hm
    go_enter Tryd.func64, Tryd.ntmps64
    go_wp2
    go_ret2
    exact ⟨rfl, H.out, Kq.refl _ _⟩
  | cons x rs =>
    have hp' := hp (by simp)
    have hj := jnt_pcs 32 l
    have hx : (32 : UInt8) ∉ x := pcs_not (l := l) (by rw [hp']; exact List.mem_cons_self)
    rw [hp'] at hj
    simp only [List.isEmpty_cons, Bool.not_false] at hm ⊢
    rw [List.headD_cons, List.tail_cons]
    have hb1 := BL.out.lt
    have hb2 := BM.out.lt
    cases rs with
    | nil =>
      have e : l = x := hj.symm
      have HC := hide (lCut l x [] false w (by rw [e]; exact lCutL_miss x w hx))
      have HP := hide (fun w1 (hb : Below w.heap.size w w1) => wds_put hb hne ((hb.block _ hb1).trans BL.out) ((hb.block _ hb2).trans BM.out) [] [] (by simp) (fun h => absurd rfl h))
      clear h hp hj e
      unfold tx at *
      go_enter Tryd.func64, Tryd.ntmps64
      go_wp2_with (go_at_call 65; refine HC.out.mono ?_; rintro e w1 ⟨rfl, hb⟩; have c1 := (hb.cell (cell_in hl)).trans hl; have c2 := (hb.cell (cell_in hm)).trans hm; have d1 := (World.frozen?_of_block (a := ⟨lb, 0, none⟩) (hb.block _ hb1)).trans hfl; have d2 := (World.frozen?_of_block (a := ⟨mb, 0, none⟩) (hb.block _ hb2)).trans hfm)
      go_ret2
      exact ⟨rfl, HP.out w1 hb⟩
    | cons y rs =>
      have e : l = x ++ 32 :: jnt 32 (y :: rs) := hj.symm
      have hl2 : (x ++ 32 :: jnt 32 (y :: rs)).length ≤ 9223372036854775807 := by rw [← e]; omega
      have hl4 : (x ++ 32 :: jnt 32 (y :: rs)).length ≤ 281474976710656 := by rw [← e]; exact hll
      have hl3 : (jnt 32 (y :: rs)).length ≤ 281474976710656 := by rw [List.length_append, List.length_cons] at hl4; omega
      have HC := hide (lCut l x (jnt 32 (y :: rs)) true w (by rw [e]; exact lCutL_hit x _ w hx hl2))
      have hpj : pcs 32 (jnt 32 (y :: rs)) = y :: rs := pcs_jnt 32 _ (by simp) (fun u hu => pcs_not (l := l) (by rw [hp']; exact List.mem_cons_of_mem _ hu))
      have HP := hide (fun w1 (hb : Below w.heap.size w w1) => wds_put hb hne ((hb.block _ hb1).trans BL.out) ((hb.block _ hb2).trans BM.out) (jnt 32 (y :: rs)) (y :: rs) hl3 (fun _ => hpj))
      clear h hp hj e hl2 hl3 hl4 hpj hp'
      generalize jnt 32 (y :: rs) = rest at *
      unfold tx at *
      go_enter Tryd.func64, Tryd.ntmps64
      go_wp2_with (go_at_call 65; refine HC.out.mono ?_; rintro e w1 ⟨rfl, hb⟩; have c1 := (hb.cell (cell_in hl)).trans hl; have c2 := (hb.cell (cell_in hm)).trans hm; have d1 := (World.frozen?_of_block (a := ⟨lb, 0, none⟩) (hb.block _ hb1)).trans hfl; have d2 := (World.frozen?_of_block (a := ⟨mb, 0, none⟩) (hb.block _ hb2)).trans hfm)
      go_ret2
      exact ⟨rfl, HP.out w1 hb⟩

end Go.Proofs.YtjkialmhajbcfaaDoor

namespace Go.Proofs.YtjkialmhajbcfaaDoor
open Go.RowKit Fld Slp
set_option linter.unusedVariables false
set_option linter.unusedSimpArgs false

/-- The digits' number, from so far on. -/
def numF (n : Nat) (l : Tx) : Nat := l.foldl (fun n d => 10 * n + (d.toNat - 48)) n
theorem numF_ge (l : Tx) : ∀ n, n ≤ numF n l := by
  induction l with
  | nil => intro n; exact Nat.le_refl _
  | cons x l ih => intro n; exact Nat.le_trans (by omega) (ih (10 * n + (x.toNat - 48)))
theorem pum_ok : ∀ (l : Tx) (acc : Nat), acc ≤ 18446744073709551615 → (∀ d ∈ l, 48 ≤ d.toNat ∧ d.toNat ≤ 57) → numF acc l ≤ 18446744073709551615 → Lib.parseUintM 18446744073709551615 acc l = .ok (numF acc l)
  | [], acc, _, _, _ => rfl
  | c :: r, acc, ha, hd, hn => by
    have hc := hd c (by simp)
    have hge := numF_ge r (10 * acc + (c.toNat - 48))
    have hn' : numF (10 * acc + (c.toNat - 48)) r ≤ 18446744073709551615 := hn
    show (if 48 ≤ c.toNat ∧ c.toNat ≤ 57 then if 1844674407370955162 ≤ acc then _ else if 18446744073709551615 < acc * 10 + (c.toNat - 48) then _ else Lib.parseUintM 18446744073709551615 (acc * 10 + (c.toNat - 48)) r else _) = _
    rw [if_pos hc, if_neg (by omega), if_neg (by omega), show acc * 10 + (c.toNat - 48) = 10 * acc + (c.toNat - 48) by omega]
    exact pum_ok r _ (by omega) (fun d hd' => hd d (List.mem_cons_of_mem _ hd')) hn'
theorem pum_of : ∀ (l : Tx) (acc u : Nat), acc ≤ 18446744073709551615 → Lib.parseUintM 18446744073709551615 acc l = .ok u → (∀ d ∈ l, 48 ≤ d.toNat ∧ d.toNat ≤ 57) ∧ u = numF acc l ∧ u ≤ 18446744073709551615
  | [], acc, u, ha, h => by
    have e : acc = u := by simpa [Lib.parseUintM] using h
    subst e
    exact ⟨fun d hd => (by cases hd), rfl, ha⟩
  | c :: r, acc, u, ha, h => by
    have h' : (if 48 ≤ c.toNat ∧ c.toNat ≤ 57 then if 1844674407370955162 ≤ acc then (.range : Lib.NumEnd Nat) else if 18446744073709551615 < acc * 10 + (c.toNat - 48) then .range else Lib.parseUintM 18446744073709551615 (acc * 10 + (c.toNat - 48)) r else .syntax) = .ok u := h
    by_cases hc : 48 ≤ c.toNat ∧ c.toNat ≤ 57
    · rw [if_pos hc] at h'
      by_cases h1 : 1844674407370955162 ≤ acc
      · rw [if_pos h1] at h'; cases h'
      · rw [if_neg h1] at h'
        by_cases h2 : 18446744073709551615 < acc * 10 + (c.toNat - 48)
        · rw [if_pos h2] at h'; cases h'
        · rw [if_neg h2, show acc * 10 + (c.toNat - 48) = 10 * acc + (c.toNat - 48) by omega] at h'
          obtain ⟨a1, a2, a3⟩ := pum_of r _ u (by omega) h'
          refine ⟨fun d hd => ?_, a2, a3⟩
          rcases List.mem_cons.1 hd with rfl | hd
          · exact hc
          · exact a1 d hd
    · rw [if_neg hc] at h'; cases h'
/-- A number that is read, held against the library's. -/
theorem pu_ok {d : Tx} {u : Nat} (h : nmb d 18446744073709551615 = some u) : Lib.parseUintB 64 d = .ok u ∧ d ≠ [] ∧ (d = [48] ∨ d.head? ≠ some 48) := by
  unfold nmb at h
  by_cases hc : d ≠ [] ∧ (∀ x ∈ d, 48 ≤ x.toNat ∧ x.toNat ≤ 57) ∧ (d.head? = some 48 → d.length = 1) ∧ num d ≤ 18446744073709551615
  · rw [if_pos hc] at h
    have e : num d = u := by simpa using h
    subst e
    obtain ⟨h1, h2, h3, h4⟩ := hc
    refine ⟨?_, h1, ?_⟩
    · unfold Lib.parseUintB
      rw [if_neg h1]
      exact pum_ok d 0 (by decide) h2 h4
    · by_cases hh : d.head? = some 48
      · left
        have := h3 hh
        match d, this, hh with
        | [x], _, hh => rw [show x = 48 from by simpa using hh]
      · exact .inr hh
  · rw [if_neg hc] at h; cases h
theorem pu_no {d : Tx} (h : nmb d 18446744073709551615 = none) : Lib.parseUintB 64 d = .syntax ∨ Lib.parseUintB 64 d = .range ∨ (∃ u, Lib.parseUintB 64 d = .ok u ∧ d ≠ [] ∧ d ≠ [48] ∧ d.head? = some 48) := by
  cases hp : Lib.parseUintB 64 d with
  | «syntax» => exact .inl rfl
  | range => exact .inr (.inl rfl)
  | ok u =>
    right; right
    have hne : d ≠ [] := fun e => by rw [e] at hp; cases hp
    unfold Lib.parseUintB at hp
    rw [if_neg hne] at hp
    obtain ⟨a1, a2, a3⟩ := pum_of d 0 u (by decide) hp
    refine ⟨u, rfl, hne, ?_⟩
    unfold nmb at h
    by_cases hc : d.head? = some 48 → d.length = 1
    · exfalso
      rw [if_pos ⟨hne, a1, hc, by have : num d = numF 0 d := rfl; omega⟩] at h
      cases h
    · have hh : d.head? = some 48 := Classical.byContradiction fun hn => hc (fun hs => absurd hs hn)
      refine ⟨fun e => hc (fun _ => by rw [e]; rfl), hh⟩

theorem tx_head (x : UInt8) (r : Tx) (W : World) : (Instr.index 9 (tx (x :: r)) (.int .i64 0)).run Tryd.prog W = .ok (.int .u8 x.toNat) W := by
  unfold tx
  simp [go_sem]
  rfl

theorem tx_guard (l : Tx) (b : ByteArray) (op : BinOp) (x y : Operand) (W : World) : (eqGuard op 9 x y (tx l) (.string b)).run Tryd.prog W = .ok () W := by
  unfold tx
  simp [go_sem]

set_option maxHeartbeats 400000 in
theorem sNumber_ok (rb : Nat) (d : Tx) (u : Nat) (w : World) (hn : nmb d 18446744073709551615 = some u) (hl : d.length ≤ 281474976710656) : Calls Tryd.prog 74 #[.pointer (some ⟨rb, 0, none⟩), tx d] w fun e w' => e = .returned (.int .u64 (u : Int)) ∧ Below w.heap.size w w' := by
  obtain ⟨h1, h2, h3⟩ := pu_ok hn
  have HP := hide (Tryd.strconv_ParseUint_10_at64_ok ⟨d.toArray⟩ (by rw [tx_size]; omega) u h1 w)
  clear hn h1
  have HP2 : Hid (Calls Tryd.prog 84 #[tx d, .int .i64 10, .int .i64 64] w fun e w' => e = .returned (.tuple #[.int .u64 (u : Int), .nilIface]) ∧ Below w.heap.size w w') := HP.out.mono (fun e w' ⟨he, hw⟩ => ⟨he, by
    rcases hw with rfl | rfl
    · exact Below.refl _ _
    · exact Lib.bytesWorld_below _ _ _⟩)
  clear HP
  cases d with
  | nil => exact absurd rfl h2
  | cons x r =>
    clear h2
    have HE := tx_eq (x :: r) [48]
    have hi := tx_head x r
    by_cases hz : x :: r = [48]
    · have he : ∀ W, (binOp .eql 9 (tx (x :: r)) (.string ⟨#[48]⟩)).run Tryd.prog W = .ok (.bool true) W := fun W => by
        have := HE W
        rw [beq_iff_eq.2 hz] at this
        exact this
      have hg := tx_guard (x :: r)
      clear HE hi h3 hz
      generalize tx (x :: r) = T at *
      go_enter Tryd.func74, Tryd.ntmps74
      go_wp2_with (first
        | (go_at_call 84; refine HP2.out.mono ?_; rintro e w1 ⟨rfl, hb⟩)
        | (go_at_call 50; refine (sWant_ok rb _).mono ?_; rintro e w2 ⟨rfl, hw2⟩; rw [hw2]))
      go_ret
      exact ⟨rfl, hb⟩
    · have he : ∀ W, (binOp .eql 9 (tx (x :: r)) (.string ⟨#[48]⟩)).run Tryd.prog W = .ok (.bool false) W := fun W => by
        have := HE W
        rw [beq_eq_false_iff_ne.2 hz] at this
        exact this
      have hx : ¬ x = 48 := fun e => by
        rcases h3 with h | h
        · exact hz h
        · exact h (by rw [e]; rfl)
      have hx2 : ((x.toNat : Int) != 48) = true := bne_iff_ne.2 (fun e => hx (UInt8.toNat_inj.1 (by have : (48 : UInt8).toNat = 48 := rfl; omega)))
      have hg := tx_guard (x :: r)
      clear HE h3 hz hx
      generalize tx (x :: r) = T at *
      go_enter Tryd.func74, Tryd.ntmps74
      go_wp2_with (first
        | (go_at_call 84; refine HP2.out.mono ?_; rintro e w1 ⟨rfl, hb⟩)
        | (go_at_call 50; refine (sWant_ok rb _).mono ?_; rintro e w2 ⟨rfl, hw2⟩; rw [hw2]))
      go_ret
      exact ⟨rfl, hb⟩

set_option maxHeartbeats 400000 in
theorem sNumber_no (rb : Nat) (d : Tx) (n : Int) (w : World) (hn : nmb d 18446744073709551615 = none) (hl : d.length ≤ 281474976710656) (hc : w.cell? ⟨rb, 0, none⟩ = some (.int .i64 n)) (hT : Tb9 w) : Calls Tryd.prog 74 #[.pointer (some ⟨rb, 0, none⟩), tx d] w fun e w' => e = .panicked (pan n) ∧ Below w.heap.size w w' := by
  rcases pu_no hn with h1 | h1 | ⟨u, h1, h2, h3, h4⟩
  · obtain ⟨tp, p, hv⟩ := hT.syn
    have HP2 : Hid (Calls Tryd.prog 84 #[tx d, .int .i64 10, .int .i64 64] w fun e w' => (∃ t v, e = .returned (.tuple #[.int .u64 0, .iface t v])) ∧ Below w.heap.size w w') := (Tryd.strconv_ParseUint_10_at64_syntax_var ⟨d.toArray⟩ (by rw [tx_size]; omega) h1 tp p w hv).mono (fun e w' ⟨N, he, _, _, hb⟩ => ⟨⟨_, _, he⟩, hb⟩)
    clear h1 hn hT hv
    generalize tx d = T at *
    go_enter Tryd.func74, Tryd.ntmps74
    go_wp2_with (first
      | (go_at_call 84; refine HP2.out.mono ?_; rintro e w1 ⟨⟨t, v, rfl⟩, hb⟩; have c1 := (hb.cell (cell_in hc)).trans hc)
      | (go_at_call 50; refine (sWant_no rb n _ c1).mono ?_; rintro e w2 ⟨rfl, hw2⟩; rw [hw2]))
    exact ⟨rfl, rfl, hb⟩
  · obtain ⟨tp, p, hv⟩ := hT.rng
    have HP2 : Hid (Calls Tryd.prog 84 #[tx d, .int .i64 10, .int .i64 64] w fun e w' => (∃ t v, e = .returned (.tuple #[.int .u64 18446744073709551615, .iface t v])) ∧ Below w.heap.size w w') := (Tryd.strconv_ParseUint_10_at64_range_var ⟨d.toArray⟩ (by rw [tx_size]; omega) h1 tp p w hv).mono (fun e w' ⟨N, he, _, _, hb⟩ => ⟨⟨_, _, he⟩, hb⟩)
    clear h1 hn hT hv
    generalize tx d = T at *
    go_enter Tryd.func74, Tryd.ntmps74
    go_wp2_with (first
      | (go_at_call 84; refine HP2.out.mono ?_; rintro e w1 ⟨⟨t, v, rfl⟩, hb⟩; have c1 := (hb.cell (cell_in hc)).trans hc)
      | (go_at_call 50; refine (sWant_no rb n _ c1).mono ?_; rintro e w2 ⟨rfl, hw2⟩; rw [hw2]))
    exact ⟨rfl, rfl, hb⟩
  · have HP2 : Hid (Calls Tryd.prog 84 #[tx d, .int .i64 10, .int .i64 64] w fun e w' => e = .returned (.tuple #[.int .u64 (u : Int), .nilIface]) ∧ Below w.heap.size w w') := (Tryd.strconv_ParseUint_10_at64_ok ⟨d.toArray⟩ (by rw [tx_size]; omega) u h1 w).mono (fun e w' ⟨he, hw⟩ => ⟨he, by
      rcases hw with rfl | rfl
      · exact Below.refl _ _
      · exact Lib.bytesWorld_below _ _ _⟩)
    clear h1 hn hT
    cases d with
    | nil => exact absurd rfl h2
    | cons x r =>
      have hx : x = 48 := by simpa using h4
      have HE := tx_eq (x :: r) [48]
      have hi := tx_head x r
      have he : ∀ W, (binOp .eql 9 (tx (x :: r)) (.string ⟨#[48]⟩)).run Tryd.prog W = .ok (.bool false) W := fun W => by
        have := HE W
        rw [beq_eq_false_iff_ne.2 h3] at this
        exact this
      have hx2 : ((x.toNat : Int) != 48) = false := by rw [hx]; rfl
      have hg := tx_guard (x :: r)
      clear HE h3 h4 h2 hx
      generalize tx (x :: r) = T at *
      go_enter Tryd.func74, Tryd.ntmps74
      go_wp2_with (first
        | (go_at_call 84; refine HP2.out.mono ?_; rintro e w1 ⟨rfl, hb⟩; have c1 := (hb.cell (cell_in hc)).trans hc)
        | (go_at_call 50; refine (sWant_no rb n _ c1).mono ?_; rintro e w2 ⟨rfl, hw2⟩; rw [hw2]))
      exact ⟨rfl, rfl, hb⟩

/-- A number below a count. -/
def nbl (d : Tx) (c : Nat) : Option Nat := match nmb d 18446744073709551615 with | some u => if u < c then some u else none | none => none
theorem nbl_some {d : Tx} {c u : Nat} (h : nbl d c = some u) : nmb d 18446744073709551615 = some u ∧ u < c := by
  unfold nbl at h
  cases hn : nmb d 18446744073709551615 with
  | none => rw [hn] at h; cases h
  | some v =>
    rw [hn] at h
    have h' : (if v < c then some v else none) = some u := h
    by_cases hv : v < c
    · rw [if_pos hv] at h'
      have e : v = u := by simpa using h'
      exact ⟨by rw [e], by omega⟩
    · rw [if_neg hv] at h'; cases h'
theorem nbl_none {d : Tx} {c : Nat} (h : nbl d c = none) : nmb d 18446744073709551615 = none ∨ ∃ u, nmb d 18446744073709551615 = some u ∧ c ≤ u ∧ u ≤ 18446744073709551615 := by
  unfold nbl at h
  cases hn : nmb d 18446744073709551615 with
  | none => exact .inl rfl
  | some v =>
    rw [hn] at h
    have h' : (if v < c then some v else none) = none := h
    by_cases hv : v < c
    · rw [if_pos hv] at h'; cases h'
    · exact .inr ⟨v, rfl, by omega, (nmb_some hn).2⟩

set_option maxHeartbeats 400000 in
theorem sBelow_ok (rb : Nat) (d : Tx) (c u : Nat) (w : World) (hn : nbl d c = some u) (hc64 : c ≤ 1000) (hl : d.length ≤ 281474976710656) : Calls Tryd.prog 62 #[.pointer (some ⟨rb, 0, none⟩), tx d, .int .i64 (c : Int)] w fun e w' => e = .returned (.int .i64 (u : Int)) ∧ Below w.heap.size w w' := by
  obtain ⟨h1, h2⟩ := nbl_some hn
  have HN := hide (sNumber_ok rb d u w h1 hl)
  have hw1 : IntKind.u64.wrap (c : Int) = (c : Int) := by rw [IntKind.wrap_u64]; omega
  have hw2 : IntKind.i64.wrap (u : Int) = (u : Int) := by rw [IntKind.wrap_i64]; omega
  have hlt : (u : Int) < (c : Int) := by omega
  clear hn h1
  generalize tx d = T at *
  go_enter Tryd.func62, Tryd.ntmps62
  go_wp2_with (first
    | (go_at_call 74; refine HN.out.mono ?_; rintro e w1 ⟨rfl, hb⟩)
    | (go_at_call 50; refine (sWant_ok rb _).mono ?_; rintro e w2 ⟨rfl, hw2⟩; rw [hw2]))
  go_ret
  exact ⟨rfl, hb⟩

set_option maxHeartbeats 400000 in
theorem sBelow_no (rb : Nat) (d : Tx) (c : Nat) (n : Int) (w : World) (hn : nbl d c = none) (hc64 : c ≤ 1000) (hl : d.length ≤ 281474976710656) (hc : w.cell? ⟨rb, 0, none⟩ = some (.int .i64 n)) (hT : Tb9 w) : Calls Tryd.prog 62 #[.pointer (some ⟨rb, 0, none⟩), tx d, .int .i64 (c : Int)] w fun e w' => e = .panicked (pan n) ∧ Below w.heap.size w w' := by
  have hw1 : IntKind.u64.wrap (c : Int) = (c : Int) := by rw [IntKind.wrap_u64]; omega
  rcases nbl_none hn with h1 | ⟨u, h1, h2, h3⟩
  · have HN := hide (sNumber_no rb d n w h1 hl hc hT)
    clear hn h1
    generalize tx d = T at *
    go_enter Tryd.func62, Tryd.ntmps62
    go_wp2_with (first
      | (go_at_call 74; refine HN.out.mono ?_; rintro e w1 ⟨rfl, hb⟩))
    exact ⟨rfl, rfl, hb⟩
  · have HN := hide (sNumber_ok rb d u w h1 hl)
    have hge : decide (u < c) = false := decide_eq_false (by omega)
    clear hn h1 h2 h3
    generalize tx d = T at *
    go_enter Tryd.func62, Tryd.ntmps62
    go_wp2_with (first
      | (go_at_call 74; refine HN.out.mono ?_; rintro e w1 ⟨rfl, hb⟩; have c1 := (hb.cell (cell_in hc)).trans hc)
      | (go_at_call 50; refine (sWant_no rb n _ c1).mono ?_; rintro e w2 ⟨rfl, hw2⟩; rw [hw2]))
    exact ⟨rfl, rfl, hb⟩

/-- How far a text was read: the reading's own cells. -/
structure RdS (W : World) (rb : Nat) (line inp : Int) (vo : Value) (ops : List O4) (vu : Value) (outs : List Int) (whole : Bool) : Prop where
  blk : W.heap[rb]? = some (.cells #[.int .i64 line, .int .i64 inp, vo, vu, .bool whole] 84 (0, 0))
  ro : W.ownsRow rb 47 4 vo ops.length (ops.flatMap opw)
  ru : W.ownsRow rb 3 1 vu outs.length (outs.flatMap iw)
theorem RdS.lt {W : World} {rb : Nat} {line inp : Int} {vo : Value} {ops : List O4} {vu : Value} {outs : List Int} {whole : Bool} (h : RdS W rb line inp vo ops vu outs whole) : rb < W.heap.size := (Array.getElem?_eq_some_iff.1 h.blk).1
theorem RdS.c0 {W : World} {rb : Nat} {line inp : Int} {vo : Value} {ops : List O4} {vu : Value} {outs : List Int} {whole : Bool} (h : RdS W rb line inp vo ops vu outs whole) : W.cell? ⟨rb, 0, none⟩ = some (.int .i64 line) := by rw [Lib.cell_of_heap h.blk]; rfl
theorem RdS.c1 {W : World} {rb : Nat} {line inp : Int} {vo : Value} {ops : List O4} {vu : Value} {outs : List Int} {whole : Bool} (h : RdS W rb line inp vo ops vu outs whole) : W.cell? ⟨rb, 1, none⟩ = some (.int .i64 inp) := by rw [Lib.cell_of_heap h.blk]; rfl
theorem RdS.c2 {W : World} {rb : Nat} {line inp : Int} {vo : Value} {ops : List O4} {vu : Value} {outs : List Int} {whole : Bool} (h : RdS W rb line inp vo ops vu outs whole) : W.cell? ⟨rb, 2, none⟩ = some vo := by rw [Lib.cell_of_heap h.blk]; rfl
theorem RdS.c3 {W : World} {rb : Nat} {line inp : Int} {vo : Value} {ops : List O4} {vu : Value} {outs : List Int} {whole : Bool} (h : RdS W rb line inp vo ops vu outs whole) : W.cell? ⟨rb, 3, none⟩ = some vu := by rw [Lib.cell_of_heap h.blk]; rfl
theorem RdS.c4 {W : World} {rb : Nat} {line inp : Int} {vo : Value} {ops : List O4} {vu : Value} {outs : List Int} {whole : Bool} (h : RdS W rb line inp vo ops vu outs whole) : W.cell? ⟨rb, 4, none⟩ = some (.bool whole) := by rw [Lib.cell_of_heap h.blk]; rfl
theorem RdS.fz {W : World} {rb : Nat} {line inp : Int} {vo : Value} {ops : List O4} {vu : Value} {outs : List Int} {whole : Bool} (h : RdS W rb line inp vo ops vu outs whole) (k : Nat) : W.frozen? ⟨rb, k, none⟩ = false := Lib.frozen_of_heap h.blk k
/-- A row that a call made has its slice's form. -/
theorem own_slice {w : World} {b n s : Nat} {T : TypeId} {v : Value} {xs : List Value} (h : w.ownsRow b T s v n xs) : ∃ a c, v = .slice a n c := by
  rcases h.2 with ⟨rfl, h0⟩ | ⟨g, cap, cur, rfl, _⟩
  · exact ⟨_, _, by rw [h0]⟩
  · exact ⟨_, _, rfl⟩
theorem RdS.below {W W' : World} {rb : Nat} {line inp : Int} {vo : Value} {ops : List O4} {vu : Value} {outs : List Int} {whole : Bool} (h : RdS W rb line inp vo ops vu outs whole) (hb : Below W.heap.size W W') : RdS W' rb line inp vo ops vu outs whole :=
  ⟨(hb.block rb h.lt).trans h.blk, own_kept h.ro (below_own hb) (fun g _ => by simp), own_kept h.ru (below_own hb) (fun g _ => by simp)⟩

/-- A value that is read. -/
theorem valP_cases (n m : Nat) (x : Tx) : (∃ d, x = 120 :: d ∧ valP n (n + m) x = (nbl d n).map (fun u : Nat => (u : Int))) ∨ (∃ d, x = 116 :: d ∧ valP n (n + m) x = (nbl d m).map (fun u : Nat => ((n + u : Nat) : Int))) ∨ ((∀ d, x ≠ 120 :: d) ∧ (∀ d, x ≠ 116 :: d) ∧ valP n (n + m) x = none) := by
  cases x with
  | nil => exact .inr (.inr ⟨(fun d h => by cases h), (fun d h => by cases h), rfl⟩)
  | cons y d =>
    by_cases h1 : y = 120
    · subst h1
      refine .inl ⟨d, rfl, ?_⟩
      rw [valP_x]
      unfold nbl
      cases nmb d 18446744073709551615 with
      | none => rfl
      | some v =>
        show (if v < n ∧ v < n + m then some (v : Int) else none) = Option.map (fun u : Nat => (u : Int)) (if v < n then some v else none)
        by_cases hv : v < n
        · rw [if_pos hv, if_pos ⟨hv, by omega⟩]; rfl
        · rw [if_neg hv, if_neg (fun h => hv h.1)]; rfl
    · by_cases h2 : y = 116
      · subst h2
        refine .inr (.inl ⟨d, rfl, ?_⟩)
        rw [valP_t]
        unfold nbl
        cases nmb d 18446744073709551615 with
        | none => rfl
        | some v =>
          show (if n + v < n + m then some ((n + v : Nat) : Int) else none) = Option.map (fun u : Nat => ((n + u : Nat) : Int)) (if v < m then some v else none)
          by_cases hv : v < m
          · rw [if_pos hv, if_pos (by omega)]; rfl
          · rw [if_neg hv, if_neg (by omega)]; rfl
      · refine .inr (.inr ⟨fun e h => h1 (by injection h), fun e h => h2 (by injection h), ?_⟩)
        unfold valP
        simp only [if_neg h1, if_neg h2]

theorem lPrefix (c : UInt8) (d : Tx) (w : World) : Calls Tryd.prog 86 #[tx (c :: d), .string ⟨#[c]⟩] w fun e w' => e = .returned (.tuple #[tx d, .bool true]) ∧ w' = w := by
  refine (Tryd.strings_CutPrefix ⟨(c :: d).toArray⟩ ⟨#[c]⟩ w).mono ?_
  rintro e w' ⟨rfl, rfl⟩
  have h1 : Lib.hasPrefix (c :: d) [c] = true := by simp [Lib.hasPrefix]
  have h2 : Lib.trimPrefix (c :: d) [c] = d := by simp [Lib.trimPrefix, Lib.hasPrefix]
  refine ⟨?_, rfl⟩
  show Ending.returned (.tuple #[.string ⟨(Lib.trimPrefix (c :: d) [c]).toArray⟩, .bool (Lib.hasPrefix (c :: d) [c])]) = _
  rw [h1, h2]; rfl
theorem lPrefix_no (c : UInt8) (x : Tx) (w : World) (h : ∀ d, x ≠ c :: d) : Calls Tryd.prog 86 #[tx x, .string ⟨#[c]⟩] w fun e w' => e = .returned (.tuple #[tx x, .bool false]) ∧ w' = w := by
  refine (Tryd.strings_CutPrefix ⟨x.toArray⟩ ⟨#[c]⟩ w).mono ?_
  rintro e w' ⟨rfl, rfl⟩
  have h1 : Lib.hasPrefix x [c] = false := by
    cases x with
    | nil => rfl
    | cons y d =>
      have : ¬ c = y := fun e => h d (by rw [e])
      simp [Lib.hasPrefix, List.isPrefixOf, this]
  have h2 : Lib.trimPrefix x [c] = x := by simp [Lib.trimPrefix, h1]
  refine ⟨?_, rfl⟩
  show Ending.returned (.tuple #[.string ⟨(Lib.trimPrefix x [c]).toArray⟩, .bool (Lib.hasPrefix x [c])]) = _
  rw [h1, h2]; rfl

end Go.Proofs.YtjkialmhajbcfaaDoor

