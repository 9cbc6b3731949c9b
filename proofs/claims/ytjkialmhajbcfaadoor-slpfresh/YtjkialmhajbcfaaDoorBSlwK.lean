/-
  Layer 9: words wanted; the first line: the program's calls.
-/
import Derived.Test.YtjkialmhajbcfaaDoorBSlwJ
namespace Go.Proofs.YtjkialmhajbcfaaDoor
open Go.RowKit Fld Slp
set_option linter.unusedVariables false
set_option linter.unusedSimpArgs false

/-- What tells the next word. -/
def nx (lb mb : Nat) : Value := .func (.func 64) #[] #[.pointer (some ⟨mb, 0, none⟩), .pointer (some ⟨lb, 0, none⟩)]
/-- All but the two cells of a line's words is as it was. -/
def Kw (lb mb : Nat) (w w' : World) : Prop := Kq (fun j => j < w.heap.size ∧ j ≠ lb ∧ j ≠ mb) w w'
theorem Kw.trans {lb mb : Nat} {a b c : World} (h : Kw lb mb a b) (k : Kw lb mb b c) : Kw lb mb a c :=
  Kq.trans h (Kq.mono k (fun j hj => ⟨Nat.lt_of_lt_of_le hj.1 h.size, hj.2⟩))
theorem Below.kw {lb mb : Nat} {a b : World} (h : Below a.heap.size a b) : Kw lb mb a b := Below.kq h (fun j hj => hj.1)
theorem Kw.below {lb mb B : Nat} {a b : World} (h : Kw lb mb a b) (h1 : B ≤ lb) (h2 : B ≤ mb) (h3 : B ≤ a.heap.size) : Below B a b := Kq.below h (fun j hj => ⟨by omega, by omega, by omega⟩)
theorem RdS.kw {W W' : World} {rb lb mb : Nat} {line inp : Int} {vo : Value} {ops : List O4} {vu : Value} {outs : List Int} {whole : Bool} {rs : List Tx} (h : RdS W rb line inp vo ops vu outs whole) (hw : Wds W lb mb rs) (k : Kw lb mb W W') : RdS W' rb line inp vo ops vu outs whole := by
  obtain ⟨l, bl, _⟩ := hw.left
  have bm := hw.more
  have n1 : rb ≠ lb := fun e => by
    have h1 := h.blk
    rw [e] at h1
    have h2 := (show W.heap[lb]? = _ from bl).symm.trans h1
    simp at h2
  have n2 : rb ≠ mb := fun e => by
    have h1 := h.blk
    rw [e] at h1
    have h2 := (show W.heap[mb]? = _ from bm).symm.trans h1
    simp at h2
  refine ⟨(k.block rb ⟨h.lt, n1, n2⟩).trans h.blk, Kq.own k h.ro (fun g hg => ⟨own_top h.ro g hg, fun e => ?_, fun e => ?_⟩), Kq.own k h.ru (fun g hg => ⟨own_top h.ru g hg, fun e => ?_, fun e => ?_⟩)⟩
  · exact bl.not_row (by decide) h.ro (by rw [hg, e])
  · exact bm.not_row (by decide) h.ro (by rw [hg, e])
  · exact bl.not_row (by decide) h.ru (by rw [hg, e])
  · exact bm.not_row (by decide) h.ru (by rw [hg, e])
theorem tx_guard2 (a b : Tx) (op : BinOp) (x y : Operand) (W : World) : (eqGuard op 9 x y (tx a) (tx b)).run Tryd.prog W = .ok () W := tx_guard a _ op x y W
theorem tx_same {a b : Tx} (h : a = b) (W : World) : (binOp .eql 9 (tx a) (tx b)).run Tryd.prog W = .ok (.bool true) W := by rw [tx_eq, beq_iff_eq.2 h]
theorem tx_other {a b : Tx} (h : ¬ a = b) (W : World) : (binOp .eql 9 (tx a) (tx b)).run Tryd.prog W = .ok (.bool false) W := by rw [tx_eq, beq_eq_false_iff_ne.2 h]

set_option maxHeartbeats 400000 in
theorem sWantWord_ok (w : World) (rb lb mb : Nat) (rs : List Tx) (wd : Tx) (hw : Wds w lb mb rs) (hx : rs.headD [] = wd) :
    Calls Tryd.prog 61 #[.pointer (some ⟨rb, 0, none⟩), nx lb mb, tx wd] w fun e w' => e = .returned (.tuple #[]) ∧ Wds w' lb mb rs.tail ∧ Kw lb mb w w' := by
  have HN := hide (sNext w lb mb rs hw)
  unfold NextOk at HN
  have he := tx_same hx
  have hg := tx_guard2 (rs.headD []) wd
  clear hx
  generalize tx (rs.headD []) = T at *
  generalize tx wd = T2 at *
  unfold nx
  go_enter Tryd.func61, Tryd.ntmps61
  go_wp2_with (first
    | (go_at_call 64; refine HN.out.mono ?_; rintro e w1 ⟨rfl, hw1, hk1⟩)
    | (go_at_call 50; refine (sWant_ok rb _).mono ?_; rintro e w2 ⟨rfl, hw2⟩; rw [hw2]))
  go_end0
  exact ⟨rfl, hw1, hk1⟩

set_option maxHeartbeats 400000 in
theorem sWantWord_no (w : World) (rb lb mb : Nat) (line inp : Int) (vo : Value) (ops : List O4) (vu : Value) (outs : List Int) (whole : Bool) (rs : List Tx) (wd : Tx) (hR : RdS w rb line inp vo ops vu outs whole) (hw : Wds w lb mb rs) (hx : ¬ rs.headD [] = wd) :
    Calls Tryd.prog 61 #[.pointer (some ⟨rb, 0, none⟩), nx lb mb, tx wd] w fun e w' => e = .panicked (pan line) ∧ Kw lb mb w w' := by
  have HN := hide (sNext w lb mb rs hw)
  unfold NextOk at HN
  have he := tx_other hx
  have hg := tx_guard2 (rs.headD []) wd
  have HR := hide (fun W' (k : Kw lb mb w W') => (hR.kw hw k).c0)
  clear hx
  generalize tx (rs.headD []) = T at *
  generalize tx wd = T2 at *
  unfold nx
  go_enter Tryd.func61, Tryd.ntmps61
  go_wp2_with (first
    | (go_at_call 64; refine HN.out.mono ?_; rintro e w1 ⟨rfl, hw1, hk1⟩; have c1 := HR.out w1 hk1)
    | (go_at_call 50; refine (sWant_no rb line _ c1).mono ?_; rintro e w2 ⟨rfl, hw2⟩; rw [hw2]))
  exact ⟨rfl, rfl, hk1⟩

set_option maxHeartbeats 400000 in
theorem sWantEnd_ok (w : World) (rb lb mb : Nat) (hw : Wds w lb mb []) :
    Calls Tryd.prog 63 #[.pointer (some ⟨rb, 0, none⟩), nx lb mb] w fun e w' => e = .returned (.tuple #[]) ∧ Kw lb mb w w' := by
  have HN := hide (sNext w lb mb [] hw)
  unfold NextOk at HN
  unfold nx
  go_enter Tryd.func63, Tryd.ntmps63
  go_wp2_with (first
    | (go_at_call 64; refine HN.out.mono ?_; rintro e w1 ⟨rfl, hw1, hk1⟩)
    | (go_at_call 50; refine (sWant_ok rb _).mono ?_; rintro e w2 ⟨rfl, hw2⟩; rw [hw2]))
  go_end0
  exact ⟨rfl, hk1⟩

set_option maxHeartbeats 400000 in
theorem sWantEnd_no (w : World) (rb lb mb : Nat) (line inp : Int) (vo : Value) (ops : List O4) (vu : Value) (outs : List Int) (whole : Bool) (x : Tx) (rs : List Tx) (hR : RdS w rb line inp vo ops vu outs whole) (hw : Wds w lb mb (x :: rs)) :
    Calls Tryd.prog 63 #[.pointer (some ⟨rb, 0, none⟩), nx lb mb] w fun e w' => e = .panicked (pan line) ∧ Kw lb mb w w' := by
  have HN := hide (sNext w lb mb (x :: rs) hw)
  unfold NextOk at HN
  have HR := hide (fun W' (k : Kw lb mb w W') => (hR.kw hw k).c0)
  unfold nx
  go_enter Tryd.func63, Tryd.ntmps63
  go_wp2_with (first
    | (go_at_call 64; refine HN.out.mono ?_; rintro e w1 ⟨rfl, hw1, hk1⟩; have c1 := HR.out w1 hk1)
    | (go_at_call 50; refine (sWant_no rb line _ c1).mono ?_; rintro e w2 ⟨rfl, hw2⟩; rw [hw2]))
  exact ⟨rfl, rfl, hk1⟩

end Go.Proofs.YtjkialmhajbcfaaDoor
