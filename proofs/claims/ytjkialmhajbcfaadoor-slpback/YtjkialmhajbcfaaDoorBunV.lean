/- Texts laid together: SlwK, SlwL, SlwM. -/
import Derived.Test.YtjkialmhajbcfaaDoorBSlwJ
namespace Go.Proofs.YtjkialmhajbcfaaDoor
open Go.RowKit Fld Slp
set_option linter.unusedVariables false
set_option linter.unusedSimpArgs false

/-- What tells the next word. -/
def nx (lb mb : Nat) : Value := .func (.func 64) #[] #[.pointer (some ⟨mb, 0, none⟩), .pointer (some ⟨lb, 0, none⟩)]
/-- All but the two cells of a line's words is as it was. -/
def Kw (lb mb : Nat) (w w' : World) : Prop := Kq (fun j => j < w.heap.size ∧ j ≠ lb ∧ j ≠ mb) w w'
theorem Kw.trans {lb mb : Nat} {a b c : World} (h : Kw lb mb a b) (k : Kw lb mb b c) : Kw lb mb a c :=
  Kq.trans h (Kq.mono k (fun j hj => ⟨Nat.lt_of_lt_of_le hj.1 h.size, hj.2⟩))
theorem Below.kw {lb mb : Nat} {a b : World} (h : Below a.heap.size a b) : Kw lb mb a b := Below.kq h (fun j hj => hj.1)
theorem Kw.below {lb mb B : Nat} {a b : World} (h : Kw lb mb a b) (h1 : B ≤ lb) (h2 : B ≤ mb) (h3 : B ≤ a.heap.size) : Below B a b := Kq.below h (fun j hj => ⟨by omega, by omega, by omega⟩)
theorem RdS.kw {W W' : World} {rb lb mb : Nat} {line inp : Int} {vo : Value} {ops : List O4} {vu : Value} {outs : List Int} {whole : Bool} {rs : List Tx} (h : RdS W rb line inp vo ops vu outs whole) (hw : Wds W lb mb rs) (k : Kw lb mb W W') : RdS W' rb line inp vo ops vu outs whole := by
  obtain ⟨l, bl, _⟩ := hw.left
  have bm := hw.more
  have n1 : rb ≠ lb := fun e => by
    have h1 := h.blk
    rw [e] at h1
    have h2 := (show W.heap[lb]? = _ from bl).symm.trans h1
    simp at h2
  have n2 : rb ≠ mb := fun e => by
    have h1 := h.blk
    rw [e] at h1
    have h2 := (show W.heap[mb]? = _ from bm).symm.trans h1
    simp at h2
  refine ⟨(k.block rb ⟨h.lt, n1, n2⟩).trans h.blk, Kq.own k h.ro (fun g hg => ⟨own_top h.ro g hg, fun e => ?_, fun e => ?_⟩), Kq.own k h.ru (fun g hg => ⟨own_top h.ru g hg, fun e => ?_, fun e => ?_⟩)⟩
  · exact bl.not_row (by decide) h.ro (by rw [hg, e])
  · exact bm.not_row (by decide) h.ro (by rw [hg, e])
  · exact bl.not_row (by decide) h.ru (by rw [hg, e])
  · exact bm.not_row (by decide) h.ru (by rw [hg, e])
theorem tx_guard2 (a b : Tx) (op : BinOp) (x y : Operand) (W : World) : (eqGuard op 9 x y (tx a) (tx b)).run Tryd.prog W = .ok () W := tx_guard a _ op x y W
theorem tx_same {a b : Tx} (h : a = b) (W : World) : (binOp .eql 9 (tx a) (tx b)).run Tryd.prog W = .ok (.bool true) W := by rw [tx_eq, beq_iff_eq.2 h]
theorem tx_other {a b : Tx} (h : ¬ a = b) (W : World) : (binOp .eql 9 (tx a) (tx b)).run Tryd.prog W = .ok (.bool false) W := by rw [tx_eq, beq_eq_false_iff_ne.2 h]

set_option maxHeartbeats 400000 in
theorem sWantWord_ok (w : World) (rb lb mb : Nat) (rs : List Tx) (wd : Tx) (hw : Wds w lb mb rs) (hx : rs.headD [] = wd) :
    Calls Tryd.prog 61 #[.pointer (some ⟨rb, 0, none⟩), nx lb mb, tx wd] w fun e w' => e = .returned (.tuple #[]) ∧ Wds w' lb mb rs.tail ∧ Kw lb mb w w' := by
  have HN := hide (sNext w lb mb rs hw)
  unfold NextOk at HN
  have he := tx_same hx
  have hg := tx_guard2 (rs.headD []) wd
  clear hx
  generalize tx (rs.headD []) = T at *
  generalize tx wd = T2 at *
  unfold nx
  go_enter Tryd.func61, Tryd.ntmps61
  go_wp2_with (first
    | (go_at_call 64; refine HN.out.mono ?_; rintro e w1 ⟨rfl, hw1, hk1⟩)
    | (go_at_call 50; refine (sWant_ok rb _).mono ?_; rintro e w2 ⟨rfl, hw2⟩; rw [hw2]))
  go_end0
  exact ⟨rfl, hw1, hk1⟩

set_option maxHeartbeats 400000 in
theorem sWantWord_no (w : World) (rb lb mb : Nat) (line inp : Int) (vo : Value) (ops : List O4) (vu : Value) (outs : List Int) (whole : Bool) (rs : List Tx) (wd : Tx) (hR : RdS w rb line inp vo ops vu outs whole) (hw : Wds w lb mb rs) (hx : ¬ rs.headD [] = wd) :
    Calls Tryd.prog 61 #[.pointer (some ⟨rb, 0, none⟩), nx lb mb, tx wd] w fun e w' => e = .panicked (pan line) ∧ Kw lb mb w w' := by
  have HN := hide (sNext w lb mb rs hw)
  unfold NextOk at HN
  have he := tx_other hx
  have hg := tx_guard2 (rs.headD []) wd
  have HR := hide (fun W' (k : Kw lb mb w W') => (hR.kw hw k).c0)
  clear hx
  generalize tx (rs.headD []) = T at *
  generalize tx wd = T2 at *
  unfold nx
  go_enter Tryd.func61, Tryd.ntmps61
  go_wp2_with (first
    | (go_at_call 64; refine HN.out.mono ?_; rintro e w1 ⟨rfl, hw1, hk1⟩; have c1 := HR.out w1 hk1)
    | (go_at_call 50; refine (sWant_no rb line _ c1).mono ?_; rintro e w2 ⟨rfl, hw2⟩; rw [hw2]))
  exact ⟨rfl, rfl, hk1⟩

set_option maxHeartbeats 400000 in
theorem sWantEnd_ok (w : World) (rb lb mb : Nat) (hw : Wds w lb mb []) :
    Calls Tryd.prog 63 #[.pointer (some ⟨rb, 0, none⟩), nx lb mb] w fun e w' => e = .returned (.tuple #[]) ∧ Kw lb mb w w' := by
  have HN := hide (sNext w lb mb [] hw)
  unfold NextOk at HN
  unfold nx
  go_enter Tryd.func63, Tryd.ntmps63
  go_wp2_with (first
    | (go_at_call 64; refine HN.out.mono ?_; rintro e w1 ⟨rfl, hw1, hk1⟩)
    | (go_at_call 50; refine (sWant_ok rb _).mono ?_; rintro e w2 ⟨rfl, hw2⟩; rw [hw2]))
  go_end0
  exact ⟨rfl, hk1⟩

set_option maxHeartbeats 400000 in
theorem sWantEnd_no (w : World) (rb lb mb : Nat) (line inp : Int) (vo : Value) (ops : List O4) (vu : Value) (outs : List Int) (whole : Bool) (x : Tx) (rs : List Tx) (hR : RdS w rb line inp vo ops vu outs whole) (hw : Wds w lb mb (x :: rs)) :
    Calls Tryd.prog 63 #[.pointer (some ⟨rb, 0, none⟩), nx lb mb] w fun e w' => e = .panicked (pan line) ∧ Kw lb mb w w' := by
  have HN := hide (sNext w lb mb (x :: rs) hw)
  unfold NextOk at HN
  have HR := hide (fun W' (k : Kw lb mb w W') => (hR.kw hw k).c0)
  unfold nx
  go_enter Tryd.func63, Tryd.ntmps63
  go_wp2_with (first
    | (go_at_call 64; refine HN.out.mono ?_; rintro e w1 ⟨rfl, hw1, hk1⟩; have c1 := HR.out w1 hk1)
    | (go_at_call 50; refine (sWant_no rb line _ c1).mono ?_; rintro e w2 ⟨rfl, hw2⟩; rw [hw2]))
  exact ⟨rfl, rfl, hk1⟩

end Go.Proofs.YtjkialmhajbcfaaDoor

namespace Go.Proofs.YtjkialmhajbcfaaDoor
open Go.RowKit Fld Slp
set_option linter.unusedVariables false
set_option linter.unusedSimpArgs false

/-- What lay below is as it was, and so is whatever is no cells. -/
structure Fr (B : Nat) (w w' : World) : Prop where
  bel : Below B w w'
  oth : KeepsOthers w w'
theorem Fr.refl (B : Nat) (w : World) : Fr B w w := ⟨Below.refl _ _, KeepsOthers.refl _⟩
theorem Fr.trans {B : Nat} {a b c : World} (h : Fr B a b) (k : Fr B b c) : Fr B a c := ⟨h.bel.trans k.bel, h.oth.trans k.oth⟩
theorem Below.fr {B : Nat} {a b : World} (h : Below a.heap.size a b) (hB : B ≤ a.heap.size) : Fr B a b := ⟨h.mono hB, ⟨h.size, fun k o hk ho => (h.block k (Array.getElem?_eq_some_iff.1 hk).1).trans hk⟩⟩
theorem Kw.fr {lb mb B : Nat} {a b : World} {rs : List Tx} (h : Kw lb mb a b) (hw : Wds a lb mb rs) (h1 : B ≤ lb) (h2 : B ≤ mb) (h3 : B ≤ a.heap.size) : Fr B a b := by
  obtain ⟨l, bl, _⟩ := hw.left
  refine ⟨h.below h1 h2 h3, ⟨h.size, fun k o hk ho => (h.block k ⟨(Array.getElem?_eq_some_iff.1 hk).1, fun e => ?_, fun e => ?_⟩).trans hk⟩⟩
  · rw [e, show a.heap[lb]? = _ from bl] at hk; cases hk; cases ho
  · rw [e, show a.heap[mb]? = _ from hw.more] at hk; cases hk; cases ho
theorem setCell_fr {B rb k : Nat} {w : World} {v : Value} (h : B ≤ rb) : Fr B w (w.setCell ⟨rb, k, none⟩ v) := ⟨(Below.refl B w).setCell (p := ⟨rb, k, none⟩) h v, KeepsOthers.setCell _ _ _⟩
theorem set_blk {W : World} {rb : Nat} {cs : Array Value} {T : TypeId} (h : W.heap[rb]? = some (.cells cs T (0, 0))) (k : Nat) (v : Value) : (W.setCell ⟨rb, k, none⟩ v).heap[rb]? = some (.cells (cs.setIfInBounds k v) T (0, 0)) := by
  obtain ⟨hlt, hk⟩ := Array.getElem?_eq_some_iff.1 h
  show (W.heap.modify rb _)[rb]? = _
  rw [Array.getElem?_eq_getElem (by rw [Array.size_modify]; exact hlt), Array.getElem_modify_self, hk]
  rfl
/-- A store into the reading's own block leaves its rows. -/
theorem RdS.rows_set {W : World} {rb : Nat} {line inp : Int} {vo : Value} {ops : List O4} {vu : Value} {outs : List Int} {whole : Bool} (h : RdS W rb line inp vo ops vu outs whole) (k : Nat) (v : Value) :
    (W.setCell ⟨rb, k, none⟩ v).ownsRow rb 47 4 vo ops.length (ops.flatMap opw) ∧ (W.setCell ⟨rb, k, none⟩ v).ownsRow rb 3 1 vu outs.length (outs.flatMap iw) := by
  have hg : W.grownBy (W.setCell ⟨rb, k, none⟩ v) (some rb) := ⟨rfl, rfl, rfl, (KeepsWalks.setCell W _ v).size, fun j _ hj => Below.heap_setCell _ _ _ j (fun e => hj (by rw [e]))⟩
  have key : ∀ {T : TypeId} {s n : Nat} {u : Value} {xs : List Value}, W.ownsRow rb T s u n xs → T ≠ 84 → ∀ g, u.ownBlock = some g → some rb ≠ some g := fun ho hT g hg' e => by
    rcases ho.2 with ⟨rfl, _⟩ | ⟨g1, cap, cur, rfl, _, hgb, _⟩
    · simp [Value.ownBlock] at hg'
    · have e1 : g1 = g := by simpa [Value.ownBlock] using hg'
      have e2 : rb = g := Option.some.inj e
      rw [e1, ← e2] at hgb
      have := h.blk.symm.trans hgb
      simp at this
      exact hT this.2.symm
  exact ⟨own_kept h.ro hg (key h.ro (by decide)), own_kept h.ru hg (key h.ru (by decide))⟩
theorem RdS.setInp {W : World} {rb : Nat} {line inp : Int} {vo : Value} {ops : List O4} {vu : Value} {outs : List Int} {whole : Bool} (h : RdS W rb line inp vo ops vu outs whole) (n : Int) : RdS (W.setCell ⟨rb, 1, none⟩ (.int .i64 n)) rb line n vo ops vu outs whole :=
  ⟨set_blk h.blk 1 _, (h.rows_set 1 _).1, (h.rows_set 1 _).2⟩
theorem RdS.setLine {W : World} {rb : Nat} {line inp : Int} {vo : Value} {ops : List O4} {vu : Value} {outs : List Int} {whole : Bool} (h : RdS W rb line inp vo ops vu outs whole) (n : Int) : RdS (W.setCell ⟨rb, 0, none⟩ (.int .i64 n)) rb n inp vo ops vu outs whole :=
  ⟨set_blk h.blk 0 _, (h.rows_set 0 _).1, (h.rows_set 0 _).2⟩
theorem RdS.setWhole {W : World} {rb : Nat} {line inp : Int} {vo : Value} {ops : List O4} {vu : Value} {outs : List Int} {whole : Bool} (h : RdS W rb line inp vo ops vu outs whole) (b : Bool) : RdS (W.setCell ⟨rb, 4, none⟩ (.bool b)) rb line inp vo ops vu outs b :=
  ⟨set_blk h.blk 4 _, (h.rows_set 4 _).1, (h.rows_set 4 _).2⟩
theorem Wds.set {W : World} {lb mb rb : Nat} {rs : List Tx} (h : Wds W lb mb rs) (h1 : rb ≠ lb) (h2 : rb ≠ mb) (k : Nat) (v : Value) : Wds (W.setCell ⟨rb, k, none⟩ v) lb mb rs := by
  obtain ⟨l, bl, hl⟩ := h.left
  exact ⟨h.ne, (Below.heap_setCell _ _ _ mb (fun e => h2 e.symm)).trans h.more, ⟨l, (Below.heap_setCell _ _ _ lb (fun e => h1 e.symm)).trans bl, hl⟩⟩

/-- The first line's words. -/
def inW : Tx := [105, 110, 112, 117, 116, 115]
def hdR (rs : List Tx) : Option Nat :=
  match rs with
  | [w0, w1] => if w0 = inW then nmb w1 64 else none
  | _ => none
theorem hdP_R (l : Tx) : hdP l = hdR (pcs 32 l) := rfl
theorem nmb64 (d : Tx) : nmb d 64 = nbl d 65 := by
  unfold nbl nmb
  by_cases hc : d ≠ [] ∧ (∀ x ∈ d, 48 ≤ x.toNat ∧ x.toNat ≤ 57) ∧ (d.head? = some 48 → d.length = 1)
  · by_cases hn : num d ≤ 64
    · rw [if_pos ⟨hc.1, hc.2.1, hc.2.2, hn⟩, if_pos ⟨hc.1, hc.2.1, hc.2.2, by omega⟩]
      show _ = if num d < 65 then some (num d) else none
      rw [if_pos (by omega)]
    · rw [if_neg (fun h => hn h.2.2.2)]
      by_cases hm : num d ≤ 18446744073709551615
      · rw [if_pos ⟨hc.1, hc.2.1, hc.2.2, hm⟩]
        show _ = if num d < 65 then some (num d) else none
        rw [if_neg (by omega)]
      · rw [if_neg (fun h => hm h.2.2.2)]
  · rw [if_neg (fun h => hc ⟨h.1, h.2.1, h.2.2.1⟩), if_neg (fun h => hc ⟨h.1, h.2.1, h.2.2.1⟩)]

set_option maxRecDepth 100000 in
set_option maxHeartbeats 400000 in
theorem sInputs_ok (w : World) (rb lb mb : Nat) (line inp : Int) (vo : Value) (ops : List O4) (vu : Value) (outs : List Int) (whole : Bool) (w1 : Tx) (n : Nat) (hR : RdS w rb line inp vo ops vu outs whole) (hw : Wds w lb mb [inW, w1]) (h1 : rb < lb) (h2 : rb < mb) (hn : nmb w1 64 = some n) :
    Calls Tryd.prog 51 #[.pointer (some ⟨rb, 0, none⟩), nx lb mb] w fun e w' => e = .returned (.tuple #[]) ∧ RdS w' rb line (n : Int) vo ops vu outs whole ∧ Fr rb w w' := by
  rw [nmb64] at hn
  have HW := hide (sWantWord_ok w rb lb mb [inW, w1] inW hw rfl)
  have hlt := hR.lt
  have HF1 := hide (fun W (k : Kw lb mb w W) => k.fr hw (Nat.le_of_lt h1) (Nat.le_of_lt h2) (Nat.le_of_lt hlt))
  have HR1 := hide (fun W (k : Kw lb mb w W) => hR.kw hw k)
  unfold inW tx at HW
  unfold nx at *
  go_enter Tryd.func51, Tryd.ntmps51
  go_wp2_with (first
    | (go_at_call 61; refine HW.out.mono ?_; rintro e W1 ⟨rfl, hw1, hk1⟩; have R1 := HR1.out W1 hk1; have F1 := HF1.out W1 hk1; have HN := sNext W1 lb mb _ hw1; unfold NextOk at HN)
    | (go_at_call 64; refine HN.mono ?_; rintro e W2 ⟨rfl, hw2, hk2⟩; have R2 := R1.kw hw1 hk2; have hlt1 := R1.lt; have F2 := F1.trans (Kw.fr hk2 hw1 (Nat.le_of_lt h1) (Nat.le_of_lt h2) (Nat.le_of_lt hlt1)); have hsh := hw1.short; clear HN)
    | (go_at_call 62; refine (sBelow_ok rb w1 65 n W2 hn (by decide) hsh).mono ?_; rintro e W3 ⟨rfl, hb3⟩; have R3 := R2.below hb3; have F3 := F2.trans (Below.fr hb3 (Nat.le_of_lt R2.lt)); have d1 := R3.c1; have d2 := R3.fz 1; have hw3 := hw2.below hb3; have R4 := R3.setInp (n : Int); have F4 := F3.trans (setCell_fr (k := 1) (v := .int .i64 (n : Int)) (Nat.le_refl rb)); have hw4 := hw3.set (Nat.ne_of_lt h1) (Nat.ne_of_lt h2) 1 (.int .i64 (n : Int)))
    | (go_at_call 63; refine (sWantEnd_ok _ rb lb mb hw4).mono ?_; rintro e W5 ⟨rfl, hk5⟩))
  go_end0
  exact ⟨rfl, R4.kw hw4 hk5, F4.trans (Kw.fr hk5 hw4 (Nat.le_of_lt h1) (Nat.le_of_lt h2) (Nat.le_of_lt R4.lt))⟩

theorem hdR_none {rs : List Tx} (h : hdR rs = none) : ¬ rs.headD [] = inW ∨ (rs.headD [] = inW ∧ nbl (rs.tail.headD []) 65 = none) ∨ (rs.headD [] = inW ∧ ∃ n x r, nbl (rs.tail.headD []) 65 = some n ∧ rs.tail.tail = x :: r) := by
  by_cases h0 : rs.headD [] = inW
  · right
    cases hn : nbl (rs.tail.headD []) 65 with
    | none => exact .inl ⟨h0, rfl⟩
    | some n =>
      right
      refine ⟨h0, n, ?_⟩
      match rs, h, h0, hn with
      | [], _, h0, _ => cases h0
      | [a], _, _, hn => exact absurd (show nbl [] 65 = some n from hn) (by rw [show nbl [] 65 = none from rfl]; simp)
      | [a, b], h, h0, hn =>
        exfalso
        have h' : (if a = inW then nmb b 64 else none) = none := h
        have ha : a = inW := h0
        rw [if_pos ha, nmb64] at h'
        have hn' : nbl b 65 = some n := hn
        rw [hn'] at h'; cases h'
      | a :: b :: c :: r, _, _, _ => exact ⟨c, r, rfl, rfl⟩
  · exact .inl h0

set_option maxRecDepth 100000 in
set_option maxHeartbeats 600000 in
theorem sInputs_no (w : World) (rb lb mb : Nat) (line inp : Int) (vo : Value) (ops : List O4) (vu : Value) (outs : List Int) (whole : Bool) (rs : List Tx) (hR : RdS w rb line inp vo ops vu outs whole) (hw : Wds w lb mb rs) (h1 : rb < lb) (h2 : rb < mb) (hn : hdR rs = none) (hT : ∀ W, Fr rb w W → Tb9 W) :
    Calls Tryd.prog 51 #[.pointer (some ⟨rb, 0, none⟩), nx lb mb] w fun e w' => e = .panicked (pan line) ∧ Fr rb w w' := by
  have hlt := hR.lt
  have HF1 := hide (fun W (k : Kw lb mb w W) => k.fr hw (Nat.le_of_lt h1) (Nat.le_of_lt h2) (Nat.le_of_lt hlt))
  have HR1 := hide (fun W (k : Kw lb mb w W) => hR.kw hw k)
  have HT := hide hT
  clear hT
  rcases hdR_none hn with hx | ⟨hx, hy⟩ | ⟨hx, n, x, r, hy, hz⟩
  · have HW := hide (sWantWord_no w rb lb mb line inp vo ops vu outs whole rs inW hR hw hx)
    unfold inW tx at HW
    unfold nx at *
    clear hn hx
    go_enter Tryd.func51, Tryd.ntmps51
    go_wp2_with (first
      | (go_at_call 61; refine HW.out.mono ?_; rintro e W1 ⟨rfl, hk1⟩))
    exact ⟨rfl, rfl, HF1.out W1 hk1⟩
  · have HW := hide (sWantWord_ok w rb lb mb rs inW hw hx)
    unfold inW tx at HW
    unfold nx at *
    obtain ⟨d, HD⟩ : ∃ d, Hid (rs.tail.headD [] = d) := ⟨_, rfl⟩
    rw [HD.out] at hy
    have HY := hide hy
    clear hn hx hy
    go_enter Tryd.func51, Tryd.ntmps51
    go_wp2_with (first
      | (go_at_call 61; refine HW.out.mono ?_; rintro e W1 ⟨rfl, hw1, hk1⟩; have R1 := HR1.out W1 hk1; have F1 := HF1.out W1 hk1; have HN := sNext W1 lb mb _ hw1; unfold NextOk at HN; rw [HD.out] at HN)
      | (go_at_call 64; refine HN.mono ?_; rintro e W2 ⟨rfl, hw2, hk2⟩; have R2 := R1.kw hw1 hk2; have hlt1 := R1.lt; have F2 := F1.trans (Kw.fr hk2 hw1 (Nat.le_of_lt h1) (Nat.le_of_lt h2) (Nat.le_of_lt hlt1)); have hsh := hw1.short; rw [HD.out] at hsh; clear HN)
      | (go_at_call 62; refine (sBelow_no rb d 65 line W2 HY.out (by decide) hsh R2.c0 (HT.out W2 F2)).mono ?_; rintro e W3 ⟨rfl, hb3⟩; have F3 := F2.trans (Below.fr hb3 (Nat.le_of_lt R2.lt))))
    exact ⟨rfl, rfl, F3⟩
  · have HW := hide (sWantWord_ok w rb lb mb rs inW hw hx)
    unfold inW tx at HW
    unfold nx at *
    obtain ⟨d, HD⟩ : ∃ d, Hid (rs.tail.headD [] = d) := ⟨_, rfl⟩
    rw [HD.out] at hy
    have HY := hide hy
    have HZ := hide hz
    clear hn hx hy hz
    go_enter Tryd.func51, Tryd.ntmps51
    go_wp2_with (first
      | (go_at_call 61; refine HW.out.mono ?_; rintro e W1 ⟨rfl, hw1, hk1⟩; have R1 := HR1.out W1 hk1; have F1 := HF1.out W1 hk1; have HN := sNext W1 lb mb _ hw1; unfold NextOk at HN; rw [HD.out] at HN)
      | (go_at_call 64; refine HN.mono ?_; rintro e W2 ⟨rfl, hw2, hk2⟩; rw [HZ.out] at hw2; have R2 := R1.kw hw1 hk2; have hlt1 := R1.lt; have F2 := F1.trans (Kw.fr hk2 hw1 (Nat.le_of_lt h1) (Nat.le_of_lt h2) (Nat.le_of_lt hlt1)); have hsh := hw1.short; rw [HD.out] at hsh; clear HN)
      | (go_at_call 62; refine (sBelow_ok rb d 65 n W2 HY.out (by decide) hsh).mono ?_; rintro e W3 ⟨rfl, hb3⟩; have R3 := R2.below hb3; have F3 := F2.trans (Below.fr hb3 (Nat.le_of_lt R2.lt)); have d1 := R3.c1; have d2 := R3.fz 1; have hw3 := hw2.below hb3; have R4 := R3.setInp (n : Int); have F4 := F3.trans (setCell_fr (k := 1) (v := .int .i64 (n : Int)) (Nat.le_refl rb)); have hw4 := hw3.set (Nat.ne_of_lt h1) (Nat.ne_of_lt h2) 1 (.int .i64 (n : Int)))
      | (go_at_call 63; refine (sWantEnd_no _ rb lb mb line _ vo ops vu outs whole x r R4 hw4).mono ?_; rintro e W5 ⟨rfl, hk5⟩))
    exact ⟨rfl, rfl, F4.trans (Kw.fr hk5 hw4 (Nat.le_of_lt h1) (Nat.le_of_lt h2) (Nat.le_of_lt R4.lt))⟩

end Go.Proofs.YtjkialmhajbcfaaDoor

namespace Go.Proofs.YtjkialmhajbcfaaDoor
open Go.RowKit Fld Slp
set_option linter.unusedVariables false
set_option linter.unusedSimpArgs false

theorem eq_lit (g l : Tx) (W : World) : (binOp .eql 9 (tx g) (.string ⟨l.toArray⟩)).run Tryd.prog W = .ok (.bool (g == l)) W := tx_eq g l W

set_option maxHeartbeats 200000 in
theorem sKindOf (g : Tx) (w : World) : Calls Tryd.prog 77 #[tx g] w fun e w' => e = .returned (.int .u8 ((sgP g).getD 0)) ∧ w' = w := by
  have hg := tx_guard g
  have e1 := eq_lit g [43]
  have e2 := eq_lit g [45]
  have e3 := eq_lit g [42]
  unfold sgP
  by_cases h1 : g = [43]
  · have E : ((if g = [43] then some 1 else if g = [45] then some 2 else if g = [42] then some 3 else none : Option Int)).getD 0 = 1 := by rw [if_pos h1]; rfl
    rw [E]
    rw [show (g == [43]) = true from beq_iff_eq.2 h1] at e1
    clear E h1 e2 e3
    generalize tx g = T at *
    go_enter Tryd.func77, Tryd.ntmps77
    go_wp2
    go_ret
    exact ⟨rfl, rfl⟩
  · rw [show (g == [43]) = false from beq_eq_false_iff_ne.2 h1] at e1
    by_cases h2 : g = [45]
    · have E : ((if g = [43] then some 1 else if g = [45] then some 2 else if g = [42] then some 3 else none : Option Int)).getD 0 = 2 := by rw [if_neg h1, if_pos h2]; rfl
      rw [E]
      rw [show (g == [45]) = true from beq_iff_eq.2 h2] at e2
      clear E h1 h2 e3
      generalize tx g = T at *
      go_enter Tryd.func77, Tryd.ntmps77
      go_wp2
      go_ret
      exact ⟨rfl, rfl⟩
    · rw [show (g == [45]) = false from beq_eq_false_iff_ne.2 h2] at e2
      by_cases h3 : g = [42]
      · have E : ((if g = [43] then some 1 else if g = [45] then some 2 else if g = [42] then some 3 else none : Option Int)).getD 0 = 3 := by rw [if_neg h1, if_neg h2, if_pos h3]; rfl
        rw [E]
        rw [show (g == [42]) = true from beq_iff_eq.2 h3] at e3
        clear E h1 h2 h3
        generalize tx g = T at *
        go_enter Tryd.func77, Tryd.ntmps77
        go_wp2
        go_ret
        exact ⟨rfl, rfl⟩
      · have E : ((if g = [43] then some 1 else if g = [45] then some 2 else if g = [42] then some 3 else none : Option Int)).getD 0 = 0 := by rw [if_neg h1, if_neg h2, if_neg h3]; rfl
        rw [E]
        rw [show (g == [42]) = false from beq_eq_false_iff_ne.2 h3] at e3
        clear E h1 h2 h3
        generalize tx g = T at *
        go_enter Tryd.func77, Tryd.ntmps77
        go_wp2
        go_ret
        exact ⟨rfl, rfl⟩

/-- What a function answers that has one variable of memory for its result. -/
theorem res_cell1 {P : Program} {fn : Func} {tmps : Array Value} {w : World} {a : Nat} {t : TypeId} {ad : Addr} {v : Value} (hr : fn.results = #[.cell a t]) (ha : tmps.getD a undef = .pointer (some ad)) (hl : (loadVar t ad).run P w = .ok v w) :
    (results fn tmps).run P w = .ok v w := by
  have ha2 : tmps[a]?.getD undef = .pointer (some ad) := by rw [← ha]; simp
  simp [results, hr, ha2, asAddr, hl]
theorem load_op {w : World} {b : Nat} {k a c d : Value} {T : TypeId} {fz : Nat × Nat} (h : w.heap[b]? = some (.cells #[k, a, c, d] T fz)) : (loadVar 47 ⟨b, 0, none⟩).run Tryd.prog w = .ok (.agg #[k, a, c, d]) w := by
  have e0 : w.cell? ⟨b, 0, none⟩ = some k := by rw [Lib.cell_of_heap h]; rfl
  have e1 : w.cell? ⟨b, 1, none⟩ = some a := by rw [Lib.cell_of_heap h]; rfl
  have e2 : w.cell? ⟨b, 2, none⟩ = some c := by rw [Lib.cell_of_heap h]; rfl
  have e3 : w.cell? ⟨b, 3, none⟩ = some d := by rw [Lib.cell_of_heap h]; rfl
  simp [go_sem, e0, e1, e2, e3]

/-- What stands behind a step's own value. -/
def stR (n own : Nat) (rs : List Tx) : Option O4 :=
  match rs with
  | [e, w] => if e = [61] then (match nmb w 18446744073709551615 with | some c => some ⟨4, 0, 0, (c : Int)⟩ | none => none) else none
  | [e, x, g, y] => if e = [61] then (match valP n own x, sgP g, valP n own y with | some a, some k, some b => some ⟨k, a, b, 0⟩ | _, _, _ => none) else none
  | _ => none

/-- A block that lies apart from all that the reading has. -/
structure Apt (w : World) (g rb lb mb : Nat) (vo vu : Value) : Prop where
  gr : rb < g
  gl : g ≠ lb
  gm : g ≠ mb
  go : ∀ j, vo.ownBlock = some j → j ≠ g
  gu : ∀ j, vu.ownBlock = some j → j ≠ g
theorem apt_new {w : World} {rb lb mb : Nat} {line inp : Int} {vo : Value} {ops : List O4} {vu : Value} {outs : List Int} {whole : Bool} {rs : List Tx} (h : RdS w rb line inp vo ops vu outs whole) (hw : Wds w lb mb rs) : Apt w w.heap.size rb lb mb vo vu := by
  obtain ⟨l, bl, _⟩ := hw.left
  have h1 := bl.lt
  have h2 := hw.more.lt
  exact ⟨h.lt, by omega, by omega, fun j hj => by have := own_top h.ro j hj; omega, fun j hj => by have := own_top h.ru j hj; omega⟩
theorem RdS.setFar {W : World} {w : World} {g rb lb mb : Nat} {line inp : Int} {vo : Value} {ops : List O4} {vu : Value} {outs : List Int} {whole : Bool} (h : RdS W rb line inp vo ops vu outs whole) (ha : Apt w g rb lb mb vo vu) (k : Nat) (v : Value) : RdS (W.setCell ⟨g, k, none⟩ v) rb line inp vo ops vu outs whole := by
  have hg : W.grownBy (W.setCell ⟨g, k, none⟩ v) (some g) := ⟨rfl, rfl, rfl, (KeepsWalks.setCell W _ v).size, fun j _ hj => Below.heap_setCell _ _ _ j (fun e => hj (by rw [e]))⟩
  exact ⟨(Below.heap_setCell _ _ _ rb (Nat.ne_of_lt ha.gr)).trans h.blk, own_kept h.ro hg (fun j hj e => ha.go j hj (Option.some.inj e).symm), own_kept h.ru hg (fun j hj e => ha.gu j hj (Option.some.inj e).symm)⟩
theorem Apt.kw {w W W' : World} {g rb lb mb : Nat} {vo vu : Value} {o : Obj} (ha : Apt w g rb lb mb vo vu) (k : Kw lb mb W W') (h : W.heap[g]? = some o) : W'.heap[g]? = some o := (k.block g ⟨(Array.getElem?_eq_some_iff.1 h).1, ha.gl, ha.gm⟩).trans h
theorem blk_below {W W' : World} {g : Nat} {o : Obj} (hb : Below W.heap.size W W') (h : W.heap[g]? = some o) : W'.heap[g]? = some o := (hb.block g (Array.getElem?_eq_some_iff.1 h).1).trans h
/-- A step stored into a variable of its own. -/
def setOp (W : World) (g : Nat) (o : O4) : World := (((W.setCell ⟨g, 0, none⟩ (.int .u8 o.k)).setCell ⟨g, 1, none⟩ (.int .i64 o.a)).setCell ⟨g, 2, none⟩ (.int .i64 o.b)).setCell ⟨g, 3, none⟩ (.int .u64 o.c)
theorem setOp_blk {W : World} {g : Nat} {k a c d : Value} {T : TypeId} (h : W.heap[g]? = some (.cells #[k, a, c, d] T (0, 0))) (o : O4) : (setOp W g o).heap[g]? = some (.cells #[.int .u8 o.k, .int .i64 o.a, .int .i64 o.b, .int .u64 o.c] T (0, 0)) :=
  set_blk (set_blk (set_blk (set_blk h 0 _) 1 _) 2 _) 3 _
theorem setOp_rds {W : World} {w : World} {g rb lb mb : Nat} {line inp : Int} {vo : Value} {ops : List O4} {vu : Value} {outs : List Int} {whole : Bool} (h : RdS W rb line inp vo ops vu outs whole) (ha : Apt w g rb lb mb vo vu) (o : O4) : RdS (setOp W g o) rb line inp vo ops vu outs whole :=
  (((h.setFar ha 0 _).setFar ha 1 _).setFar ha 2 _).setFar ha 3 _
theorem setOp_fr {W : World} {g B : Nat} (h : B ≤ g) (o : O4) : Fr B W (setOp W g o) := (((setCell_fr h).trans (setCell_fr h)).trans (setCell_fr h)).trans (setCell_fr h)

set_option maxRecDepth 100000 in
set_option maxHeartbeats 400000 in
theorem sStep_const (w : World) (rb lb mb : Nat) (line inp : Int) (vo : Value) (ops : List O4) (vu : Value) (outs : List Int) (whole : Bool) (x : Tx) (c : Nat) (hR : RdS w rb line inp vo ops vu outs whole) (hw : Wds w lb mb [[61], x]) (h1 : rb < lb) (h2 : rb < mb) (hn : nmb x 18446744073709551615 = some c) :
    Calls Tryd.prog 67 #[.pointer (some ⟨rb, 0, none⟩), nx lb mb] w fun e w' => e = .returned (opv ⟨4, 0, 0, (c : Int)⟩) ∧ RdS w' rb line inp vo ops vu outs whole ∧ Fr rb w w' := by
  have hA := alloc_below w (.cells #[.int .u8 0, .int .i64 0, .int .i64 0, .int .u64 0] 47)
  have hlt := hR.lt
  have hw0 := hw.below hA
  have R0 := hR.below hA
  have F0 := Below.fr hA (Nat.le_of_lt hlt)
  have HW := hide (sWantWord_ok _ rb lb mb _ [61] hw0 rfl)
  have b0 := heap_alloc_new w (.cells #[.int .u8 0, .int .i64 0, .int .i64 0, .int .u64 0] 47)
  have HA := hide (apt_new hR hw)
  unfold tx at HW
  unfold nx at *
  unfold opv
  clear hw hA
  generalize hg : w.heap.size = g at HA b0
  go_enter Tryd.func67, Tryd.ntmps67
  go_wp2_with (first
    | (go_at_call 61; refine HW.out.mono ?_; rintro e W1 ⟨rfl, hw1, hk1⟩; have R1 := R0.kw hw0 hk1; have F1 := F0.trans (Kw.fr hk1 hw0 (Nat.le_of_lt h1) (Nat.le_of_lt h2) (Nat.le_of_lt R0.lt)); have b1 := HA.out.kw hk1 b0; have HN := sNext W1 lb mb _ hw1; unfold NextOk at HN)
    | (go_at_call 64; refine HN2.mono ?_; clear HN2; rintro e W3 ⟨rfl, hw3, hk3⟩; have R3 := R2.kw hw2 hk3; have F3 := F2.trans (Kw.fr hk3 hw2 (Nat.le_of_lt h1) (Nat.le_of_lt h2) (Nat.le_of_lt R2.lt)); have b3 := HA.out.kw hk3 b2)
    | (go_at_call 64; refine HN.mono ?_; clear HN; rintro e W2 ⟨rfl, hw2, hk2⟩; have R2 := R1.kw hw1 hk2; have F2 := F1.trans (Kw.fr hk2 hw1 (Nat.le_of_lt h1) (Nat.le_of_lt h2) (Nat.le_of_lt R1.lt)); have b2 := HA.out.kw hk2 b1; have hsh := hw1.short; have HN2 := sNext W2 lb mb _ hw2; unfold NextOk at HN2)
    | (go_at_call 74; refine (sNumber_ok rb x c _ hn hsh).mono ?_; rintro e W4 ⟨rfl, hb4⟩; have R4 := R3.below hb4; have F4 := F3.trans (Below.fr hb4 (Nat.le_of_lt R3.lt)); have b4 := blk_below hb4 b3; have d0 : W4.cell? ⟨g, 0, none⟩ = some (.int .u8 0) := (by rw [Lib.cell_of_heap b4]; rfl); have d1 : W4.cell? ⟨g, 1, none⟩ = some (.int .i64 0) := (by rw [Lib.cell_of_heap b4]; rfl); have d2 : W4.cell? ⟨g, 2, none⟩ = some (.int .i64 0) := (by rw [Lib.cell_of_heap b4]; rfl); have d3 : W4.cell? ⟨g, 3, none⟩ = some (.int .u64 0) := (by rw [Lib.cell_of_heap b4]; rfl); have f0 := Lib.frozen_of_heap b4 0; have f1 := Lib.frozen_of_heap b4 1; have f2 := Lib.frozen_of_heap b4 2; have f3 := Lib.frozen_of_heap b4 3))
  refine bodyPost_ret (v := .agg #[.int .u8 4, .int .i64 0, .int .i64 0, .int .u64 (c : Int)]) (res_cell1 Tryd.results67 rfl (load_op (setOp_blk b4 ⟨4, 0, 0, (c : Int)⟩))) rfl ⟨rfl, setOp_rds R4 HA.out ⟨4, 0, 0, (c : Int)⟩, F4.trans (setOp_fr (Nat.le_of_lt HA.out.gr) ⟨4, 0, 0, (c : Int)⟩)⟩

set_option maxRecDepth 100000 in
set_option maxHeartbeats 600000 in
theorem sStep_bin (w : World) (rb lb mb n : Nat) (line : Int) (vo : Value) (ops : List O4) (vu : Value) (outs : List Int) (whole : Bool) (x s y : Tx) (k a b : Int) (hR : RdS w rb line (n : Int) vo ops vu outs whole) (hw : Wds w lb mb [[61], x, s, y]) (h1 : rb < lb) (h2 : rb < mb) (hn : n ≤ 64) (ho : ops.length ≤ 256)
    (hk : sgP s = some k) (ha : valP n (n + ops.length) x = some a) (hb : valP n (n + ops.length) y = some b) :
    Calls Tryd.prog 67 #[.pointer (some ⟨rb, 0, none⟩), nx lb mb] w fun e w' => e = .returned (opv ⟨k, a, b, 0⟩) ∧ RdS w' rb line (n : Int) vo ops vu outs whole ∧ Fr rb w w' := by
  have hA := alloc_below w (.cells #[.int .u8 0, .int .i64 0, .int .i64 0, .int .u64 0] 47)
  have hlt := hR.lt
  have hw0 := hw.below hA
  have R0 := hR.below hA
  have F0 := Below.fr hA (Nat.le_of_lt hlt)
  have HW := hide (sWantWord_ok _ rb lb mb _ [61] hw0 rfl)
  have b0 := heap_alloc_new w (.cells #[.int .u8 0, .int .i64 0, .int .i64 0, .int .u64 0] 47)
  have HA := hide (apt_new hR hw)
  have HK := hide (fun W => sKindOf s W)
  rw [hk] at HK
  have hk0 : (k != 0) = true := bne_iff_ne.2 (by have := (sgP_some hk).1; omega)
  unfold tx at HW
  unfold nx at *
  unfold opv
  clear hw hA hk
  generalize hg : w.heap.size = g at HA b0
  go_enter Tryd.func67, Tryd.ntmps67
  go_wp2_with (first
    | (go_at_call 61; refine HW.out.mono ?_; rintro e W1 ⟨rfl, hw1, hk1⟩; have R1 := R0.kw hw0 hk1; have F1 := F0.trans (Kw.fr hk1 hw0 (Nat.le_of_lt h1) (Nat.le_of_lt h2) (Nat.le_of_lt R0.lt)); have b1 := HA.out.kw hk1 b0; have HN := sNext W1 lb mb _ hw1; unfold NextOk at HN)
    | (go_at_call 64; refine HN3.mono ?_; clear HN3; rintro e W4 ⟨rfl, hw4, hk4⟩; have R4 := R3.kw hw3 hk4; have F4 := F3.trans (Kw.fr hk4 hw3 (Nat.le_of_lt h1) (Nat.le_of_lt h2) (Nat.le_of_lt R3.lt)); have b4 := HA.out.kw hk4 b3; have hsy := hw3.short)
    | (go_at_call 64; refine HN2.mono ?_; clear HN2; rintro e W3 ⟨rfl, hw3, hk3⟩; have R3 := R2.kw hw2 hk3; have F3 := F2.trans (Kw.fr hk3 hw2 (Nat.le_of_lt h1) (Nat.le_of_lt h2) (Nat.le_of_lt R2.lt)); have b3 := HA.out.kw hk3 b2; have HN3 := sNext W3 lb mb _ hw3; unfold NextOk at HN3)
    | (go_at_call 64; refine HN.mono ?_; clear HN; rintro e W2 ⟨rfl, hw2, hk2⟩; have R2 := R1.kw hw1 hk2; have F2 := F1.trans (Kw.fr hk2 hw1 (Nat.le_of_lt h1) (Nat.le_of_lt h2) (Nat.le_of_lt R1.lt)); have b2 := HA.out.kw hk2 b1; have hsx := hw1.short; have HN2 := sNext W2 lb mb _ hw2; unfold NextOk at HN2)
    | (go_at_call 63; refine (sWantEnd_ok _ rb lb mb hw4).mono ?_; rintro e W5 ⟨rfl, hk5⟩; have R5 := R4.kw hw4 hk5; have F5 := F4.trans (Kw.fr hk5 hw4 (Nat.le_of_lt h1) (Nat.le_of_lt h2) (Nat.le_of_lt R4.lt)); have b5 := HA.out.kw hk5 b4; have HV1 := sValue_ok W5 rb n line vo ops vu outs whole x a R5 hn ho ha hsx)
    | (go_at_call 77; refine (HK.out _).mono ?_; rintro e W6 ⟨rfl, hW6⟩; rw [hW6])
    | (go_at_call 76; refine HV2.mono ?_; clear HV2; rintro e W8 ⟨rfl, hb8⟩; have R8 := R7.below hb8; have F8 := F7.trans (Below.fr hb8 (Nat.le_of_lt R7.lt)); have b8 := blk_below hb8 b7; have hA9 := alloc_below W8 (.cells #[.int .u8 k, .int .i64 a, .int .i64 b, .int .u64 0] 47); have R9 := R8.below hA9; have F9 := F8.trans (Below.fr hA9 (Nat.le_of_lt R8.lt)); have b9 := blk_below hA9 b8; have hlg : g < W8.heap.size := (Array.getElem?_eq_some_iff.1 b8).1)
    | (go_at_call 76; refine HV1.mono ?_; clear HV1; rintro e W7 ⟨rfl, hb7⟩; have R7 := R5.below hb7; have F7 := F5.trans (Below.fr hb7 (Nat.le_of_lt R5.lt)); have b7 := blk_below hb7 b5; have HV2 := sValue_ok W7 rb n line vo ops vu outs whole y b R7 hn ho hb hsy)
    | (go_at_call 50; refine (sWant_ok rb _).mono ?_; rintro e W10 ⟨rfl, hW10⟩; rw [hW10]; refine Hid.out ?_))
  refine Lib.hid ?_
  have bq := heap_alloc_new W8 (.cells #[.int .u8 k, .int .i64 a, .int .i64 b, .int .u64 0] 47)
  generalize W8.alloc (.cells #[.int .u8 k, .int .i64 a, .int .i64 b, .int .u64 0] 47) = W9 at *
  generalize W8.heap.size = q at *
  have q0 : W9.cell? ⟨q, 0, none⟩ = some (.int .u8 k) := by rw [Lib.cell_of_heap bq]; rfl
  have q1 : W9.cell? ⟨q, 1, none⟩ = some (.int .i64 a) := by rw [Lib.cell_of_heap bq]; rfl
  have q2 : W9.cell? ⟨q, 2, none⟩ = some (.int .i64 b) := by rw [Lib.cell_of_heap bq]; rfl
  have q3 : W9.cell? ⟨q, 3, none⟩ = some (.int .u64 0) := by rw [Lib.cell_of_heap bq]; rfl
  have d0 : W9.cell? ⟨g, 0, none⟩ = some (.int .u8 0) := by rw [Lib.cell_of_heap b9]; rfl
  have d1 : W9.cell? ⟨g, 1, none⟩ = some (.int .i64 0) := by rw [Lib.cell_of_heap b9]; rfl
  have d2 : W9.cell? ⟨g, 2, none⟩ = some (.int .i64 0) := by rw [Lib.cell_of_heap b9]; rfl
  have d3 : W9.cell? ⟨g, 3, none⟩ = some (.int .u64 0) := by rw [Lib.cell_of_heap b9]; rfl
  have f0 := Lib.frozen_of_heap b9 0
  have f1 := Lib.frozen_of_heap b9 1
  have f2 := Lib.frozen_of_heap b9 2
  have f3 := Lib.frozen_of_heap b9 3
  clear hA9 hb8 hb7
  go_wp2
  refine bodyPost_ret (v := .agg #[.int .u8 k, .int .i64 a, .int .i64 b, .int .u64 0]) (res_cell1 Tryd.results67 rfl (load_op (setOp_blk b9 ⟨k, a, b, 0⟩))) rfl ⟨rfl, setOp_rds R9 HA.out ⟨k, a, b, 0⟩, F9.trans (setOp_fr (Nat.le_of_lt HA.out.gr) ⟨k, a, b, 0⟩)⟩

end Go.Proofs.YtjkialmhajbcfaaDoor

