/-
  Layer 9: the first line read: the program's call.
-/
import Derived.Test.YtjkialmhajbcfaaDoorBSlwK
namespace Go.Proofs.YtjkialmhajbcfaaDoor
open Go.RowKit Fld Slp
set_option linter.unusedVariables false
set_option linter.unusedSimpArgs false

/-- What lay below is as it was, and so is whatever is no cells. -/
structure Fr (B : Nat) (w w' : World) : Prop where
  bel : Below B w w'
  oth : KeepsOthers w w'
theorem Fr.refl (B : Nat) (w : World) : Fr B w w := ⟨Below.refl _ _, KeepsOthers.refl _⟩
theorem Fr.trans {B : Nat} {a b c : World} (h : Fr B a b) (k : Fr B b c) : Fr B a c := ⟨h.bel.trans k.bel, h.oth.trans k.oth⟩
theorem Below.fr {B : Nat} {a b : World} (h : Below a.heap.size a b) (hB : B ≤ a.heap.size) : Fr B a b := ⟨h.mono hB, ⟨h.size, fun k o hk ho => (h.block k (Array.getElem?_eq_some_iff.1 hk).1).trans hk⟩⟩
theorem Kw.fr {lb mb B : Nat} {a b : World} {rs : List Tx} (h : Kw lb mb a b) (hw : Wds a lb mb rs) (h1 : B ≤ lb) (h2 : B ≤ mb) (h3 : B ≤ a.heap.size) : Fr B a b := by
  obtain ⟨l, bl, _⟩ := hw.left
  refine ⟨h.below h1 h2 h3, ⟨h.size, fun k o hk ho => (h.block k ⟨(Array.getElem?_eq_some_iff.1 hk).1, fun e => ?_, fun e => ?_⟩).trans hk⟩⟩
  · rw [e, show a.heap[lb]? = _ from bl] at hk; cases hk; cases ho
  · rw [e, show a.heap[mb]? = _ from hw.more] at hk; cases hk; cases ho
theorem setCell_fr {B rb k : Nat} {w : World} {v : Value} (h : B ≤ rb) : Fr B w (w.setCell ⟨rb, k, none⟩ v) := ⟨(Below.refl B w).setCell (p := ⟨rb, k, none⟩) h v, KeepsOthers.setCell _ _ _⟩
theorem set_blk {W : World} {rb : Nat} {cs : Array Value} {T : TypeId} (h : W.heap[rb]? = some (.cells cs T (0, 0))) (k : Nat) (v : Value) : (W.setCell ⟨rb, k, none⟩ v).heap[rb]? = some (.cells (cs.setIfInBounds k v) T (0, 0)) := by
  obtain ⟨hlt, hk⟩ := Array.getElem?_eq_some_iff.1 h
  show (W.heap.modify rb _)[rb]? = _
  rw [Array.getElem?_eq_getElem (by rw [Array.size_modify]; exact hlt), Array.getElem_modify_self, hk]
  rfl
/-- A store into the reading's own block leaves its rows. -/
theorem RdS.rows_set {W : World} {rb : Nat} {line inp : Int} {vo : Value} {ops : List O4} {vu : Value} {outs : List Int} {whole : Bool} (h : RdS W rb line inp vo ops vu outs whole) (k : Nat) (v : Value) :
    (W.setCell ⟨rb, k, none⟩ v).ownsRow rb 47 4 vo ops.length (ops.flatMap opw) ∧ (W.setCell ⟨rb, k, none⟩ v).ownsRow rb 3 1 vu outs.length (outs.flatMap iw) := by
  have hg : W.grownBy (W.setCell ⟨rb, k, none⟩ v) (some rb) := ⟨rfl, rfl, rfl, (KeepsWalks.setCell W _ v).size, fun j _ hj => Below.heap_setCell _ _ _ j (fun e => hj (by rw [e]))⟩
  have key : ∀ {T : TypeId} {s n : Nat} {u : Value} {xs : List Value}, W.ownsRow rb T s u n xs → T ≠ 84 → ∀ g, u.ownBlock = some g → some rb ≠ some g := fun ho hT g hg' e => by
    rcases ho.2 with ⟨rfl, _⟩ | ⟨g1, cap, cur, rfl, _, hgb, _⟩
    · simp [Value.ownBlock] at hg'
    · have e1 : g1 = g := by simpa [Value.ownBlock] using hg'
      have e2 : rb = g := Option.some.inj e
      rw [e1, ← e2] at hgb
      have := h.blk.symm.trans hgb
      simp at this
      exact hT this.2.symm
  exact ⟨own_kept h.ro hg (key h.ro (by decide)), own_kept h.ru hg (key h.ru (by decide))⟩
theorem RdS.setInp {W : World} {rb : Nat} {line inp : Int} {vo : Value} {ops : List O4} {vu : Value} {outs : List Int} {whole : Bool} (h : RdS W rb line inp vo ops vu outs whole) (n : Int) : RdS (W.setCell ⟨rb, 1, none⟩ (.int .i64 n)) rb line n vo ops vu outs whole :=
  ⟨set_blk h.blk 1 _, (h.rows_set 1 _).1, (h.rows_set 1 _).2⟩
theorem RdS.setLine {W : World} {rb : Nat} {line inp : Int} {vo : Value} {ops : List O4} {vu : Value} {outs : List Int} {whole : Bool} (h : RdS W rb line inp vo ops vu outs whole) (n : Int) : RdS (W.setCell ⟨rb, 0, none⟩ (.int .i64 n)) rb n inp vo ops vu outs whole :=
  ⟨set_blk h.blk 0 _, (h.rows_set 0 _).1, (h.rows_set 0 _).2⟩
theorem RdS.setWhole {W : World} {rb : Nat} {line inp : Int} {vo : Value} {ops : List O4} {vu : Value} {outs : List Int} {whole : Bool} (h : RdS W rb line inp vo ops vu outs whole) (b : Bool) : RdS (W.setCell ⟨rb, 4, none⟩ (.bool b)) rb line inp vo ops vu outs b :=
  ⟨set_blk h.blk 4 _, (h.rows_set 4 _).1, (h.rows_set 4 _).2⟩
theorem Wds.set {W : World} {lb mb rb : Nat} {rs : List Tx} (h : Wds W lb mb rs) (h1 : rb ≠ lb) (h2 : rb ≠ mb) (k : Nat) (v : Value) : Wds (W.setCell ⟨rb, k, none⟩ v) lb mb rs := by
  obtain ⟨l, bl, hl⟩ := h.left
  exact ⟨h.ne, (Below.heap_setCell _ _ _ mb (fun e => h2 e.symm)).trans h.more, ⟨l, (Below.heap_setCell _ _ _ lb (fun e => h1 e.symm)).trans bl, hl⟩⟩

/-- The first line's words. -/
def inW : Tx := [105, 110, 112, 117, 116, 115]
def hdR (rs : List Tx) : Option Nat :=
  match rs with
  | [w0, w1] => if w0 = inW then nmb w1 64 else none
  | _ => none
theorem hdP_R (l : Tx) : hdP l = hdR (pcs 32 l) := rfl
theorem nmb64 (d : Tx) : nmb d 64 = nbl d 65 := by
  unfold nbl nmb
  by_cases hc : d ≠ [] ∧ (∀ x ∈ d, 48 ≤ x.toNat ∧ x.toNat ≤ 57) ∧ (d.head? = some 48 → d.length = 1)
  · by_cases hn : num d ≤ 64
    · rw [if_pos ⟨hc.1, hc.2.1, hc.2.2, hn⟩, if_pos ⟨hc.1, hc.2.1, hc.2.2, by omega⟩]
      show _ = if num d < 65 then some (num d) else none
      rw [if_pos (by omega)]
    · rw [if_neg (fun h => hn h.2.2.2)]
      by_cases hm : num d ≤ 18446744073709551615
      · rw [if_pos ⟨hc.1, hc.2.1, hc.2.2, hm⟩]
        show _ = if num d < 65 then some (num d) else none
        rw [if_neg (by omega)]
      · rw [if_neg (fun h => hm h.2.2.2)]
  · rw [if_neg (fun h => hc ⟨h.1, h.2.1, h.2.2.1⟩), if_neg (fun h => hc ⟨h.1, h.2.1, h.2.2.1⟩)]

set_option maxRecDepth 100000 in
set_option maxHeartbeats 400000 in
theorem sInputs_ok (w : World) (rb lb mb : Nat) (line inp : Int) (vo : Value) (ops : List O4) (vu : Value) (outs : List Int) (whole : Bool) (w1 : Tx) (n : Nat) (hR : RdS w rb line inp vo ops vu outs whole) (hw : Wds w lb mb [inW, w1]) (h1 : rb < lb) (h2 : rb < mb) (hn : nmb w1 64 = some n) :
    Calls Tryd.prog 51 #[.pointer (some ⟨rb, 0, none⟩), nx lb mb] w fun e w' => e = .returned (.tuple #[]) ∧ RdS w' rb line (n : Int) vo ops vu outs whole ∧ Fr rb w w' := by
  rw [nmb64] at hn
  have HW := hide (sWantWord_ok w rb lb mb [inW, w1] inW hw rfl)
  have hlt := hR.lt
  have HF1 := hide (fun W (k : Kw lb mb w W) => k.fr hw (Nat.le_of_lt h1) (Nat.le_of_lt h2) (Nat.le_of_lt hlt))
  have HR1 := hide (fun W (k : Kw lb mb w W) => hR.kw hw k)
  unfold inW tx at HW
  unfold nx at *
  go_enter Tryd.func51, Tryd.ntmps51
  go_wp2_with (first
    | (go_at_call 61; refine HW.out.mono ?_; rintro e W1 ⟨rfl, hw1, hk1⟩; have R1 := HR1.out W1 hk1; have F1 := HF1.out W1 hk1; have HN := sNext W1 lb mb _ hw1; unfold NextOk at HN)
    | (go_at_call 64; refine HN.mono ?_; rintro e W2 ⟨rfl, hw2, hk2⟩; have R2 := R1.kw hw1 hk2; have hlt1 := R1.lt; have F2 := F1.trans (Kw.fr hk2 hw1 (Nat.le_of_lt h1) (Nat.le_of_lt h2) (Nat.le_of_lt hlt1)); have hsh := hw1.short; clear HN)
    | (go_at_call 62; refine (sBelow_ok rb w1 65 n W2 hn (by decide) hsh).mono ?_; rintro e W3 ⟨rfl, hb3⟩; have R3 := R2.below hb3; have F3 := F2.trans (Below.fr hb3 (Nat.le_of_lt R2.lt)); have d1 := R3.c1; have d2 := R3.fz 1; have hw3 := hw2.below hb3; have R4 := R3.setInp (n : Int); have F4 := F3.trans (setCell_fr (k := 1) (v := .int .i64 (n : Int)) (Nat.le_refl rb)); have hw4 := hw3.set (Nat.ne_of_lt h1) (Nat.ne_of_lt h2) 1 (.int .i64 (n : Int)))
    | (go_at_call 63; refine (sWantEnd_ok _ rb lb mb hw4).mono ?_; rintro e W5 ⟨rfl, hk5⟩))
  go_end0
  exact ⟨rfl, R4.kw hw4 hk5, F4.trans (Kw.fr hk5 hw4 (Nat.le_of_lt h1) (Nat.le_of_lt h2) (Nat.le_of_lt R4.lt))⟩

theorem hdR_none {rs : List Tx} (h : hdR rs = none) : ¬ rs.headD [] = inW ∨ (rs.headD [] = inW ∧ nbl (rs.tail.headD []) 65 = none) ∨ (rs.headD [] = inW ∧ ∃ n x r, nbl (rs.tail.headD []) 65 = some n ∧ rs.tail.tail = x :: r) := by
  by_cases h0 : rs.headD [] = inW
  · right
    cases hn : nbl (rs.tail.headD []) 65 with
    | none => exact .inl ⟨h0, rfl⟩
    | some n =>
      right
      refine ⟨h0, n, ?_⟩
      match rs, h, h0, hn with
      | [], _, h0, _ => cases h0
      | [a], _, _, hn => exact absurd (show nbl [] 65 = some n from hn) (by rw [show nbl [] 65 = none from rfl]; simp)
      | [a, b], h, h0, hn =>
        exfalso
        have h' : (if a = inW then nmb b 64 else none) = none := h
        have ha : a = inW := h0
        rw [if_pos ha, nmb64] at h'
        have hn' : nbl b 65 = some n := hn
        rw [hn'] at h'; cases h'
      | a :: b :: c :: r, _, _, _ => exact ⟨c, r, rfl, rfl⟩
  · exact .inl h0

set_option maxRecDepth 100000 in
set_option maxHeartbeats 600000 in
theorem sInputs_no (w : World) (rb lb mb : Nat) (line inp : Int) (vo : Value) (ops : List O4) (vu : Value) (outs : List Int) (whole : Bool) (rs : List Tx) (hR : RdS w rb line inp vo ops vu outs whole) (hw : Wds w lb mb rs) (h1 : rb < lb) (h2 : rb < mb) (hn : hdR rs = none) (hT : ∀ W, Fr rb w W → Tb9 W) :
    Calls Tryd.prog 51 #[.pointer (some ⟨rb, 0, none⟩), nx lb mb] w fun e w' => e = .panicked (pan line) ∧ Fr rb w w' := by
  have hlt := hR.lt
  have HF1 := hide (fun W (k : Kw lb mb w W) => k.fr hw (Nat.le_of_lt h1) (Nat.le_of_lt h2) (Nat.le_of_lt hlt))
  have HR1 := hide (fun W (k : Kw lb mb w W) => hR.kw hw k)
  have HT := hide hT
  clear hT
  rcases hdR_none hn with hx | ⟨hx, hy⟩ | ⟨hx, n, x, r, hy, hz⟩
  · have HW := hide (sWantWord_no w rb lb mb line inp vo ops vu outs whole rs inW hR hw hx)
    unfold inW tx at HW
    unfold nx at *
    clear hn hx
    go_enter Tryd.func51, Tryd.ntmps51
    go_wp2_with (first
      | (go_at_call 61; refine HW.out.mono ?_; rintro e W1 ⟨rfl, hk1⟩))
    exact ⟨rfl, rfl, HF1.out W1 hk1⟩
  · have HW := hide (sWantWord_ok w rb lb mb rs inW hw hx)
    unfold inW tx at HW
    unfold nx at *
    obtain ⟨d, HD⟩ : ∃ d, Hid (rs.tail.headD [] = d) := ⟨_, rfl⟩
    rw [HD.out] at hy
    have HY := hide hy
    clear hn hx hy
    go_enter Tryd.func51, Tryd.ntmps51
    go_wp2_with (first
      | (go_at_call 61; refine HW.out.mono ?_; rintro e W1 ⟨rfl, hw1, hk1⟩; have R1 := HR1.out W1 hk1; have F1 := HF1.out W1 hk1; have HN := sNext W1 lb mb _ hw1; unfold NextOk at HN; rw [HD.out] at HN)
      | (go_at_call 64; refine HN.mono ?_; rintro e W2 ⟨rfl, hw2, hk2⟩; have R2 := R1.kw hw1 hk2; have hlt1 := R1.lt; have F2 := F1.trans (Kw.fr hk2 hw1 (Nat.le_of_lt h1) (Nat.le_of_lt h2) (Nat.le_of_lt hlt1)); have hsh := hw1.short; rw [HD.out] at hsh; clear HN)
      | (go_at_call 62; refine (sBelow_no rb d 65 line W2 HY.out (by decide) hsh R2.c0 (HT.out W2 F2)).mono ?_; rintro e W3 ⟨rfl, hb3⟩; have F3 := F2.trans (Below.fr hb3 (Nat.le_of_lt R2.lt))))
    exact ⟨rfl, rfl, F3⟩
  · have HW := hide (sWantWord_ok w rb lb mb rs inW hw hx)
    unfold inW tx at HW
    unfold nx at *
    obtain ⟨d, HD⟩ : ∃ d, Hid (rs.tail.headD [] = d) := ⟨_, rfl⟩
    rw [HD.out] at hy
    have HY := hide hy
    have HZ := hide hz
    clear hn hx hy hz
    go_enter Tryd.func51, Tryd.ntmps51
    go_wp2_with (first
      | (go_at_call 61; refine HW.out.mono ?_; rintro e W1 ⟨rfl, hw1, hk1⟩; have R1 := HR1.out W1 hk1; have F1 := HF1.out W1 hk1; have HN := sNext W1 lb mb _ hw1; unfold NextOk at HN; rw [HD.out] at HN)
      | (go_at_call 64; refine HN.mono ?_; rintro e W2 ⟨rfl, hw2, hk2⟩; rw [HZ.out] at hw2; have R2 := R1.kw hw1 hk2; have hlt1 := R1.lt; have F2 := F1.trans (Kw.fr hk2 hw1 (Nat.le_of_lt h1) (Nat.le_of_lt h2) (Nat.le_of_lt hlt1)); have hsh := hw1.short; rw [HD.out] at hsh; clear HN)
      | (go_at_call 62; refine (sBelow_ok rb d 65 n W2 HY.out (by decide) hsh).mono ?_; rintro e W3 ⟨rfl, hb3⟩; have R3 := R2.below hb3; have F3 := F2.trans (Below.fr hb3 (Nat.le_of_lt R2.lt)); have d1 := R3.c1; have d2 := R3.fz 1; have hw3 := hw2.below hb3; have R4 := R3.setInp (n : Int); have F4 := F3.trans (setCell_fr (k := 1) (v := .int .i64 (n : Int)) (Nat.le_refl rb)); have hw4 := hw3.set (Nat.ne_of_lt h1) (Nat.ne_of_lt h2) 1 (.int .i64 (n : Int)))
      | (go_at_call 63; refine (sWantEnd_no _ rb lb mb line _ vo ops vu outs whole x r R4 hw4).mono ?_; rintro e W5 ⟨rfl, hk5⟩))
    exact ⟨rfl, rfl, F4.trans (Kw.fr hk5 hw4 (Nat.le_of_lt h1) (Nat.le_of_lt h2) (Nat.le_of_lt R4.lt))⟩

end Go.Proofs.YtjkialmhajbcfaaDoor
