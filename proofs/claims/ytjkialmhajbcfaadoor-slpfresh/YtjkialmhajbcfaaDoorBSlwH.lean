/-
  Layer 9: a text read, line by line: what is wanted, words, numbers, values: the program's calls.
-/
import Derived.Test.YtjkialmhajbcfaaDoorBSlwG
import Derived.Test.YtjkialmhajbcfaaDoorBRngP
namespace Go.Proofs.YtjkialmhajbcfaaDoor
open Go.RowKit Fld Slp
set_option linter.unusedVariables false
set_option linter.unusedSimpArgs false

/-- What a line that is none leaves by. -/
def nln (n : Int) : Value := .iface 68 (.agg #[.int .i64 n])
def pan (n : Int) : List PanicEntry := [{ v := nln n, recovered := false }]

set_option maxHeartbeats 200000 in
theorem sWant_ok (rb : Nat) (w : World) : Calls Tryd.prog 50 #[.pointer (some ⟨rb, 0, none⟩), .bool true] w fun e w' => e = .returned (.tuple #[]) ∧ w' = w := by
  go_enter Tryd.func50, Tryd.ntmps50
  go_wp2
  go_end0
  exact ⟨rfl, rfl⟩

set_option maxHeartbeats 200000 in
theorem sWant_no (rb : Nat) (n : Int) (w : World) (h : w.cell? ⟨rb, 0, none⟩ = some (.int .i64 n)) : Calls Tryd.prog 50 #[.pointer (some ⟨rb, 0, none⟩), .bool false] w fun e w' => e = .panicked (pan n) ∧ w' = w := by
  go_enter Tryd.func50, Tryd.ntmps50
  go_wp2
  exact ⟨rfl, rfl, rfl⟩

theorem tx_upto (l : Tx) (i : Int) (h0 : 0 ≤ i) (h1 : i ≤ (l.length : Int)) (W : World) : (Instr.slice 9 (tx l) none (some (.int .i64 i)) none).run Tryd.prog W = .ok (tx (l.take i.toNat)) W := by
  unfold tx
  rw [run_slice_string_to_if W 9 _ .i64 i Tryd.underlying9, if_pos ⟨h0, by rw [tx_size]; exact h1⟩]
  congr 2
  apply ByteArray.ext
  simp [ByteArray.data_extract]
theorem tx_from (l : Tx) (i : Int) (h0 : 0 ≤ i) (h1 : i ≤ (l.length : Int)) (W : World) : (Instr.slice 9 (tx l) (some (.int .i64 i)) none none).run Tryd.prog W = .ok (tx (l.drop i.toNat)) W := by
  unfold tx
  rw [run_slice_string_from_if W 9 _ .i64 i Tryd.underlying9, if_pos ⟨h0, by rw [tx_size]; exact h1⟩]
  congr 2
  apply ByteArray.ext
  simp [ByteArray.data_extract]
  exact List.take_of_length_le (by rw [List.length_drop, tx_size]; exact Nat.le_refl _)
theorem ib_hit (c : UInt8) : ∀ (a b : Tx), c ∉ a → Lib.indexByte (a ++ c :: b) c = (a.length : Int)
  | [], b, _ => by simp [Lib.indexByte]
  | x :: a, b, h => by
    have hx : ¬ x = c := fun e => h (by rw [e]; exact List.mem_cons_self)
    have ih := ib_hit c a b (fun hc => h (List.mem_cons_of_mem _ hc))
    show (if x == c then 0 else if Lib.indexByte (a ++ c :: b) c == -1 then -1 else Lib.indexByte (a ++ c :: b) c + 1) = _
    rw [ih, if_neg (by simpa using hx), if_neg (by intro hc; have := eq_of_beq hc; omega), List.length_cons]
    omega
theorem ib_miss (c : UInt8) : ∀ (a : Tx), c ∉ a → Lib.indexByte a c = -1
  | [], _ => rfl
  | x :: a, h => by
    have hx : ¬ x = c := fun e => h (by rw [e]; exact List.mem_cons_self)
    have ih := ib_miss c a (fun hc => h (List.mem_cons_of_mem _ hc))
    show (if x == c then 0 else if Lib.indexByte a c == -1 then -1 else Lib.indexByte a c + 1) = _
    rw [ih, if_neg (by simpa using hx)]; rfl

set_option maxHeartbeats 200000 in
theorem lCutL_hit (a b : Tx) (w : World) (h : (32 : UInt8) ∉ a) (hl : (a ++ 32 :: b).length ≤ 9223372036854775807) : Calls Tryd.prog 75 #[tx (a ++ 32 :: b), .string ⟨#[32]⟩] w fun e w' => e = .returned (.tuple #[tx a, tx b, .bool true]) ∧ Below w.heap.size w w' := by
  have HI := hide (Tryd.stringslite_Index_one ⟨(a ++ 32 :: b).toArray⟩ 32 w)
  have HX := hide (ib_hit 32 a b h)
  have hlen : (a ++ 32 :: b).length = a.length + 1 + b.length := by simp; omega
  have f1 := tx_upto (a ++ 32 :: b) (a.length : Int) (by omega) (by omega)
  have f2 := tx_from (a ++ 32 :: b) ((a.length : Int) + 1) (by omega) (by omega)
  have e1 : (a ++ 32 :: b).take (a.length : Int).toNat = a := by rw [Int.toNat_natCast]; simp
  have e2 : (a ++ 32 :: b).drop ((a.length : Int) + 1).toNat = b := by rw [show ((a.length : Int) + 1).toNat = a.length + 1 by omega]; simp
  rw [e1] at f1
  rw [e2] at f2
  have hw : IntKind.i64.wrap ((a.length : Int) + 1) = (a.length : Int) + 1 := by rw [IntKind.wrap_i64]; omega
  have HI2 : Hid (Calls Tryd.prog 85 #[tx (a ++ 32 :: b), .string ⟨#[32]⟩] w fun e w' => e = .returned (.int .i64 (a.length : Int)) ∧ w' = w) := HI.out.mono (fun e w' ⟨he, hw⟩ => ⟨by rw [he]; show Ending.returned (Value.int .i64 (Lib.indexByte (a ++ 32 :: b) 32)) = _; rw [HX.out], hw⟩)
  have hge : (0 : Int) ≤ (a.length : Int) := by omega
  clear e1 e2 hlen hl HI HX
  generalize tx (a ++ 32 :: b) = T at *
  go_enter Tryd.func75, Tryd.ntmps75
  go_wp2_with (go_at_call 85; refine HI2.out.mono ?_; rintro e w1 ⟨rfl, hw1⟩; rw [hw1])
  go_quiet (fail)
  go_wp2
  go_ret3
  exact ⟨rfl, below_drewN (Below.refl _ _) _⟩

set_option maxHeartbeats 200000 in
theorem lCutL_miss (a : Tx) (w : World) (h : (32 : UInt8) ∉ a) : Calls Tryd.prog 75 #[tx a, .string ⟨#[32]⟩] w fun e w' => e = .returned (.tuple #[tx a, tx [], .bool false]) ∧ Below w.heap.size w w' := by
  have HI := hide (Tryd.stringslite_Index_one ⟨a.toArray⟩ 32 w)
  have HX := hide (ib_miss 32 a h)
  have HI2 : Hid (Calls Tryd.prog 85 #[tx a, .string ⟨#[32]⟩] w fun e w' => e = .returned (.int .i64 (-1)) ∧ w' = w) := HI.out.mono (fun e w' ⟨he, hw⟩ => ⟨by rw [he]; show Ending.returned (Value.int .i64 (Lib.indexByte a 32)) = _; rw [HX.out], hw⟩)
  clear HI HX
  go_enter Tryd.func75, Tryd.ntmps75
  go_wp2_with (go_at_call 85; refine HI2.out.mono ?_; rintro e w1 ⟨rfl, hw1⟩; rw [hw1])
  go_ret3
  exact ⟨rfl, Below.refl _ _⟩

set_option maxHeartbeats 200000 in
theorem lCut (l a b : Tx) (t : Bool) (w : World) (hC : Calls Tryd.prog 75 #[tx l, .string ⟨#[32]⟩] w fun e w' => e = .returned (.tuple #[tx a, tx b, .bool t]) ∧ Below w.heap.size w w') : Calls Tryd.prog 65 #[tx l, .string ⟨#[32]⟩] w fun e w' => e = .returned (.tuple #[tx a, tx b, .bool t]) ∧ Below w.heap.size w w' := by
  have HC := hide hC
  clear hC
  go_enter Tryd.func65, Tryd.ntmps65
  go_wp2_with (go_at_call 75; refine HC.out.mono ?_; rintro e w1 ⟨rfl, hb⟩)
  go_ret3
  exact ⟨rfl, hb⟩

/-- A line's words, told one by one: the words that are left, in two cells. -/
structure Wds (W : World) (lb mb : Nat) (rs : List Tx) : Prop where
  ne : lb ≠ mb
  more : Go.Boxed W mb 4 (.bool (!rs.isEmpty))
  left : ∃ l : Tx, Go.Boxed W lb 9 (tx l) ∧ l.length ≤ 281474976710656 ∧ (rs ≠ [] → pcs 32 l = rs)
theorem Wds.kept {W W' : World} {lb mb : Nat} {rs : List Tx} {S : Nat → Prop} (h : Wds W lb mb rs) (k : Kq S W W') (h1 : S lb) (h2 : S mb) : Wds W' lb mb rs := by
  obtain ⟨l, hl, hl2⟩ := h.left
  exact ⟨h.ne, (k.block mb h2).trans h.more, ⟨l, (k.block lb h1).trans hl, hl2⟩⟩
theorem Wds.below {W W' : World} {lb mb : Nat} {rs : List Tx} (h : Wds W lb mb rs) (hb : Below W.heap.size W W') : Wds W' lb mb rs := by
  obtain ⟨l, hl, _⟩ := h.left
  exact h.kept (Below.kq hb (S := fun j => j < W.heap.size) (fun j hj => hj)) hl.lt h.more.lt
theorem jnt_len {c : UInt8} {rs : List Tx} : ∀ x ∈ rs, x.length ≤ (jnt c rs).length := by
  induction rs with
  | nil => intro x hx; cases hx
  | cons y rs ih =>
    intro x hx
    cases rs with
    | nil => rw [List.mem_singleton.1 hx]; exact Nat.le_refl _
    | cons z rs =>
      show x.length ≤ (y ++ c :: jnt c (z :: rs)).length
      rw [List.length_append, List.length_cons]
      rcases List.mem_cons.1 hx with rfl | hx
      · omega
      · have := ih x hx; omega
theorem Wds.short {W : World} {lb mb : Nat} {rs : List Tx} (h : Wds W lb mb rs) : (rs.headD []).length ≤ 281474976710656 := by
  obtain ⟨l, hl, hl2, hp⟩ := h.left
  cases rs with
  | nil => simp
  | cons x rs =>
    have := hp (by simp)
    have hj := jnt_pcs 32 l
    rw [this] at hj
    have := jnt_len (c := 32) x (List.mem_cons_self (a := x) (l := rs))
    rw [hj] at this
    rw [List.headD_cons]; omega

set_option maxHeartbeats 200000 in
theorem sWords (l : Tx) (w : World) (hl : l.length ≤ 281474976710656) : Calls Tryd.prog 52 #[tx l] w fun e w' => e = .returned (.func (.func 64) #[] #[.pointer (some ⟨w.heap.size + 1, 0, none⟩), .pointer (some ⟨w.heap.size, 0, none⟩)]) ∧ Wds w' w.heap.size (w.heap.size + 1) (pcs 32 l) ∧ Below w.heap.size w w' := by
  have hne : (pcs 32 l).isEmpty = false := by unfold pcs; simp
  have HW : Hid (∀ o1 o2 : World, o2 = (w.alloc (.cells #[tx l] 9)).alloc (.cells #[.bool true] 4) → Wds o2 w.heap.size (w.heap.size + 1) (pcs 32 l)) := fun o1 o2 e => by
    subst e
    refine ⟨by omega, ?_, ⟨l, (Go.Boxed.new w _ _).alloc _, hl, fun _ => rfl⟩⟩
    rw [hne]
    have := Go.Boxed.new (w.alloc (.cells #[tx l] 9)) 4 (.bool true)
    rw [World.size_alloc] at this
    exact this
  unfold tx at *
  go_enter Tryd.func52, Tryd.ntmps52
  go_wp2
  go_ret
  exact ⟨rfl, HW.out w _ rfl, Below.next (alloc_below w _) (alloc_below _ _)⟩

/-- The next word. -/
def NextOk (w : World) (lb mb : Nat) (rs : List Tx) : Prop :=
  Calls Tryd.prog 64 #[.pointer (some ⟨mb, 0, none⟩), .pointer (some ⟨lb, 0, none⟩)] w fun e w' => e = .returned (.tuple #[tx (rs.headD []), .bool (!rs.isEmpty)]) ∧ Wds w' lb mb rs.tail ∧ Kq (fun j => j < w.heap.size ∧ j ≠ lb ∧ j ≠ mb) w w'

theorem wds_put {w w1 : World} {lb mb : Nat} (hb : Below w.heap.size w w1) (hne : lb ≠ mb) {u v : Value} (c1 : Go.Boxed w1 lb 9 u) (c2 : Go.Boxed w1 mb 4 v)
    (b : Tx) (rs : List Tx) (hl : b.length ≤ 281474976710656) (hp : rs ≠ [] → pcs 32 b = rs) :
    Wds ((w1.setCell ⟨lb, 0, none⟩ (tx b)).setCell ⟨mb, 0, none⟩ (.bool (!rs.isEmpty))) lb mb rs ∧ Kq (fun j => j < w.heap.size ∧ j ≠ lb ∧ j ≠ mb) w ((w1.setCell ⟨lb, 0, none⟩ (tx b)).setCell ⟨mb, 0, none⟩ (.bool (!rs.isEmpty))) := by
  refine ⟨⟨hne, (c2.other (fun e => hne e.symm) _).set _, ⟨b, (c1.set _).other hne _, hl, hp⟩⟩, ⟨hb.os, hb.tape, hb.output, by simpa using hb.size, fun j hj => ?_⟩⟩
  rw [Below.heap_setCell _ _ _ j hj.2.2, Below.heap_setCell _ _ _ j hj.2.1]
  exact hb.block j hj.1

set_option maxHeartbeats 400000 in
theorem sNext (w : World) (lb mb : Nat) (rs : List Tx) (h : Wds w lb mb rs) : NextOk w lb mb rs := by
  unfold NextOk
  have hne := h.ne
  have bm := h.more
  obtain ⟨l, bl, hll, hp⟩ := h.left
  have hm := bm.cell
  have hl := bl.cell
  have hfm := bm.frozen
  have hfl := bl.frozen
  have BM := hide bm
  have BL := hide bl
  clear bm bl
  cases rs with
  | nil =>
    have H := hide h
    clear h
    simp only [List.isEmpty_nil, Bool.not_true] at hm
    go_enter Tryd.func64, Tryd.ntmps64
    go_wp2
    go_ret2
    exact ⟨rfl, H.out, Kq.refl _ _⟩
  | cons x rs =>
    have hp' := hp (by simp)
    have hj := jnt_pcs 32 l
    have hx : (32 : UInt8) ∉ x := pcs_not (l := l) (by rw [hp']; exact List.mem_cons_self)
    rw [hp'] at hj
    simp only [List.isEmpty_cons, Bool.not_false] at hm ⊢
    rw [List.headD_cons, List.tail_cons]
    have hb1 := BL.out.lt
    have hb2 := BM.out.lt
    cases rs with
    | nil =>
      have e : l = x := hj.symm
      have HC := hide (lCut l x [] false w (by rw [e]; exact lCutL_miss x w hx))
      have HP := hide (fun w1 (hb : Below w.heap.size w w1) => wds_put hb hne ((hb.block _ hb1).trans BL.out) ((hb.block _ hb2).trans BM.out) [] [] (by simp) (fun h => absurd rfl h))
      clear h hp hj e
      unfold tx at *
      go_enter Tryd.func64, Tryd.ntmps64
      go_wp2_with (go_at_call 65; refine HC.out.mono ?_; rintro e w1 ⟨rfl, hb⟩; have c1 := (hb.cell (cell_in hl)).trans hl; have c2 := (hb.cell (cell_in hm)).trans hm; have d1 := (World.frozen?_of_block (a := ⟨lb, 0, none⟩) (hb.block _ hb1)).trans hfl; have d2 := (World.frozen?_of_block (a := ⟨mb, 0, none⟩) (hb.block _ hb2)).trans hfm)
      go_ret2
      exact ⟨rfl, HP.out w1 hb⟩
    | cons y rs =>
      have e : l = x ++ 32 :: jnt 32 (y :: rs) := hj.symm
      have hl2 : (x ++ 32 :: jnt 32 (y :: rs)).length ≤ 9223372036854775807 := by rw [← e]; omega
      have hl4 : (x ++ 32 :: jnt 32 (y :: rs)).length ≤ 281474976710656 := by rw [← e]; exact hll
      have hl3 : (jnt 32 (y :: rs)).length ≤ 281474976710656 := by rw [List.length_append, List.length_cons] at hl4; omega
      have HC := hide (lCut l x (jnt 32 (y :: rs)) true w (by rw [e]; exact lCutL_hit x _ w hx hl2))
      have hpj : pcs 32 (jnt 32 (y :: rs)) = y :: rs := pcs_jnt 32 _ (by simp) (fun u hu => pcs_not (l := l) (by rw [hp']; exact List.mem_cons_of_mem _ hu))
      have HP := hide (fun w1 (hb : Below w.heap.size w w1) => wds_put hb hne ((hb.block _ hb1).trans BL.out) ((hb.block _ hb2).trans BM.out) (jnt 32 (y :: rs)) (y :: rs) hl3 (fun _ => hpj))
      clear h hp hj e hl2 hl3 hl4 hpj hp'
      generalize jnt 32 (y :: rs) = rest at *
      unfold tx at *
      go_enter Tryd.func64, Tryd.ntmps64
      go_wp2_with (go_at_call 65; refine HC.out.mono ?_; rintro e w1 ⟨rfl, hb⟩; have c1 := (hb.cell (cell_in hl)).trans hl; have c2 := (hb.cell (cell_in hm)).trans hm; have d1 := (World.frozen?_of_block (a := ⟨lb, 0, none⟩) (hb.block _ hb1)).trans hfl; have d2 := (World.frozen?_of_block (a := ⟨mb, 0, none⟩) (hb.block _ hb2)).trans hfm)
      go_ret2
      exact ⟨rfl, HP.out w1 hb⟩

end Go.Proofs.YtjkialmhajbcfaaDoor
