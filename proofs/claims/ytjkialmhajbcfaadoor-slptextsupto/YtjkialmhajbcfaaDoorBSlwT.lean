/-
  Layer 9: a text read line by line: the program's inner call.
-/
import Derived.Test.YtjkialmhajbcfaaDoorBSlwS
namespace Go.Proofs.YtjkialmhajbcfaaDoor
open Go.RowKit Fld Slp
set_option linter.unusedVariables false
set_option linter.unusedSimpArgs false

/-- What the reading keeps. -/
structure RdI (w : World) (rb : Nat) (ls : List Tx) (k : Nat) (W : World) : Prop where
  ex : ∃ st vo vu, runL ls k = some st ∧ RdS W rb (k : Int) (st.n : Int) vo st.ops vu st.outs st.whole
  bel : Below w.heap.size w W
theorem RdI.own {w : World} {rb B : Nat} {ls : List Tx} (hB : w.heap.size ≤ B) : OwnFrom B (fun k W => RdI w rb ls k W) := fun k W W' row h hg hr => by
  obtain ⟨⟨st, vo, vu, h1, h2⟩, h3⟩ := h
  have key : ∀ g cs T fz, W.heap[g]? = some (.cells cs T fz) → row ≠ some g := fun g cs T fz hgb e => by
    obtain ⟨_, o, ho, hc⟩ := hr g e
    rw [hgb] at ho; cases ho; cases hc
  refine ⟨⟨st, vo, vu, h1, ⟨(hg.block rb h2.lt (fun e => key rb _ _ _ h2.blk e.symm)).trans h2.blk, own_kept h2.ro hg (fun g hg' => ?_), own_kept h2.ru hg (fun g hg' => ?_)⟩⟩, ?_⟩
  · obtain ⟨cs, hcs⟩ := own_blk h2.ro hg'
    exact key g _ _ _ hcs
  · obtain ⟨cs, hcs⟩ := own_blk h2.ru hg'
    exact key g _ _ _ hcs
  · exact h3.trans ((Below.refl w.heap.size W).grown hg h3.size (fun r hr' => by obtain ⟨h4, _⟩ := hr r hr'; omega))

theorem set3_grown (W : World) (g : Nat) (a b c : Value) : W.grownBy (((W.setCell ⟨g, 0, none⟩ a).setCell ⟨g, 1, none⟩ b).setCell ⟨g, 2, none⟩ c) (some g) :=
  ⟨rfl, rfl, rfl, by simp [World.setCell], fun j _ hj => by
    have h : j ≠ g := fun e => hj (by rw [e])
    rw [Below.heap_setCell _ _ _ j h, Below.heap_setCell _ _ _ j h, Below.heap_setCell _ _ _ j h]⟩
theorem load_prog {w : World} {b : Nat} {k a c : Value} {T : TypeId} {fz : Nat × Nat} (h : w.heap[b]? = some (.cells #[k, a, c] T fz)) : (loadVar 25 ⟨b, 0, none⟩).run Tryd.prog w = .ok (.agg #[k, a, c]) w := by
  have e0 : w.cell? ⟨b, 0, none⟩ = some k := by rw [Lib.cell_of_heap h]; rfl
  have e1 : w.cell? ⟨b, 1, none⟩ = some a := by rw [Lib.cell_of_heap h]; rfl
  have e2 : w.cell? ⟨b, 2, none⟩ = some c := by rw [Lib.cell_of_heap h]; rfl
  simp [go_sem, e0, e1, e2]
theorem setCell_size (W : World) (p : Addr) (v : Value) : (W.setCell p v).heap.size = W.heap.size := by simp [World.setCell]
theorem lnb_short : ∀ (s : Tx) (k : Nat), ((lnb s).getD k []).length ≤ s.length
  | [], k => by simp [lnb]
  | c :: s, k => by
    have ih := lnb_short s
    show ((if c = 10 then [10] :: lnb s else match lnb s with | [] => [[c]] | l :: ls => (c :: l) :: ls).getD k []).length ≤ s.length + 1
    split
    · cases k with
      | zero => simp
      | succ k => have := ih k; simpa using Nat.le_succ_of_le this
    · split
      · cases k with
        | zero => simp
        | succ k => simp
      · rename_i l ls e
        rw [e] at ih
        cases k with
        | zero => have := ih 0; simpa using this
        | succ k => have := ih (k + 1); simpa using Nat.le_succ_of_le this
theorem hdR_some {rs : List Tx} {n : Nat} (h : hdR rs = some n) : ∃ w1, rs = [inW, w1] ∧ nmb w1 64 = some n := by
  match rs, h with
  | [a, b], h =>
    have h' : (if a = inW then nmb b 64 else none) = some n := h
    by_cases ha : a = inW
    · rw [if_pos ha] at h'; exact ⟨b, by rw [ha], h'⟩
    · rw [if_neg ha] at h'; cases h'
theorem last10 {l : Tx} (h : l.getLast? = some 10) : ∃ a, l = a ++ [10] := by
  cases hl : l.reverse with
  | nil => rw [List.reverse_eq_nil_iff] at hl; rw [hl] at h; cases h
  | cons c r =>
    have e : l = r.reverse ++ [c] := by rw [← List.reverse_reverse l, hl]; simp
    rw [e] at h
    simp at h
    exact ⟨r.reverse, by rw [e, h]⟩
theorem lnStep_no {k : Nat} {st : St} {l : Tx} (h : ¬ (l.getLast? = some 10 ∧ st.whole = false)) : lnStep k st l = none := by unfold lnStep; rw [if_neg h]
theorem lnStep_0 {st : St} {a : Tx} (h : st.whole = false) : lnStep 0 st (a ++ [10]) = (hdR (pcs 32 a)).map (fun n => ⟨n, st.ops, st.outs, st.whole⟩) := by
  unfold lnStep
  rw [if_pos ⟨by simp, h⟩, if_pos rfl, List.dropLast_concat]
theorem lnStep_k {k : Nat} {st : St} {a : Tx} (h : st.whole = false) (hk : ¬ k = 0) : lnStep k st (a ++ [10]) = (soR st.n st.ops (pcs 32 a)).map (fun r => ⟨st.n, r.1, r.2.1, r.2.2⟩) := by
  unfold lnStep
  rw [if_pos ⟨by simp, h⟩, if_neg hk, List.dropLast_concat]

attribute [local go_sem] Oper.semAt_some in
set_option maxRecDepth 100000 in
set_option maxHeartbeats 1000000 in
theorem sRead0 (s : Tx) (w : World) (hl : s.length ≤ 281474976710656) (hT : Tb9 w) :
    Calls Tryd.prog 36 #[tx s] w fun e w' => Below w.heap.size w w' ∧
      ((∃ st vo vu, runL (lnb s) (lnb s).length = some st ∧ st.whole = true ∧ e = .returned (.agg #[.int .i64 st.n, vo, vu]) ∧ w'.ownsRow w.heap.size 47 4 vo st.ops.length (st.ops.flatMap opw) ∧ w'.ownsRow w.heap.size 3 1 vu st.outs.length (st.outs.flatMap iw)) ∨
       (∃ st, runL (lnb s) (lnb s).length = some st ∧ st.whole = false ∧ e = .panicked (pan ((lnb s).length + 1))) ∨
       (∃ k, k < (lnb s).length ∧ runL (lnb s) (k + 1) = none ∧ (∃ st, runL (lnb s) k = some st) ∧ e = .panicked (pan (k + 1)))) := by
  have HT := hide hT
  clear hT
  have HL := hide (fun W => sLines s W)
  have HIn := hide (fun bs l J Jp W hbs hY h0 => lines_in s hl bs l J Jp W hbs hY h0)
  refine calls_of_wpF Tryd.func36 rfl ?_
  simp only [Tryd.ntmps36, List.size_toArray, List.length_cons, List.length_nil, Nat.reduceAdd, Nat.reduceSub, Array.replicate_succ, Array.replicate_zero, List.push_toArray, List.append_toArray, List.nil_append, List.cons_append]
  refine wpF_seq (wpF_wp ?_)
  go_wp2
  have hb1 := alloc_below w (.cells #[.int .i64 0, .slice none 0 0, .slice none 0 0] 25)
  have hP1 := heap_alloc_new w (.cells #[.int .i64 0, .slice none 0 0, .slice none 0 0] 25)
  have HZ1 : Hid ((w.alloc (.cells #[.int .i64 0, .slice none 0 0, .slice none 0 0] 25)).heap.size = w.heap.size + 1) := by show _ = _; simp
  generalize w.alloc (.cells #[.int .i64 0, .slice none 0 0, .slice none 0 0] 25) = w1 at *
  refine wpF_seq (wpF_wp ?_)
  go_wp2
  have hb2 := alloc_below w1 (.cells #[.int .i64 0, .int .i64 0, .slice none 0 0, .slice none 0 0, .bool false] 84)
  have hP2 := heap_alloc_new w1 (.cells #[.int .i64 0, .int .i64 0, .slice none 0 0, .slice none 0 0, .bool false] 84)
  have HZ2 : Hid ((w1.alloc (.cells #[.int .i64 0, .int .i64 0, .slice none 0 0, .slice none 0 0, .bool false] 84)).heap.size = w1.heap.size + 1) := by show _ = _; simp
  generalize w1.alloc (.cells #[.int .i64 0, .int .i64 0, .slice none 0 0, .slice none 0 0, .bool false] 84) = w2 at *
  refine wpF_seq (wpF_seq (wpF_wp ?_))
  go_wp2_with (go_at_call 48; refine (HL.out _).mono ?_; rintro e w3' ⟨rfl, hw3⟩; rw [hw3])
  clear hw3 w3'
  have hb3 := alloc_below w2 (.cells #[tx s] 9)
  have hP3 := heap_alloc_new w2 (.cells #[tx s] 9)
  have HZ3 : Hid ((w2.alloc (.cells #[tx s] 9)).heap.size = w2.heap.size + 1) := by show _ = _; simp
  generalize w2.alloc (.cells #[tx s] 9) = w3 at *
  have hz1 := HZ1.out
  have hz2 := HZ2.out
  have hz3 := HZ3.out
  have R3 : RdS w3 w1.heap.size 0 ((0 : Nat) : Int) (.slice none 0 0) [] (.slice none 0 0) [] false :=
    ⟨(hb3.block w1.heap.size (by omega)).trans hP2, ⟨rfl, .inl ⟨rfl, rfl⟩⟩, ⟨rfl, .inl ⟨rfl, rfl⟩⟩⟩
  have hB3 : Below w1.heap.size w1 w3 := Below.next hb2 hb3
  have HB := hide (Below.next hb1 hB3)
  refine wpF_block ?_
  refine wpF_range Tryd.func36 (gf := 58) (lb := #[.pointer (some ⟨w2.heap.size, 0, none⟩)]) rfl (enters_of Tryd.func58 (by kernel_rfl) rfl) (encs := lnE s) (N := (lnb s).length)
    (fun l J Jp W hb hY h0 => HIn.out w2.heap.size l J Jp W (by rw [hb.cell (p := ⟨w2.heap.size, 0, none⟩) (by show w2.heap.size < _; omega), Lib.cell_of_heap hP3]; rfl) hY h0)
    (fun _ => rfl) (fun k W => RdI w1 w1.heap.size (lnb s) k W) (fun k ch W => ch = pan (k + 1) ∧ runL (lnb s) (k + 1) = none ∧ (∃ st, runL (lnb s) k = some st) ∧ Below w1.heap.size w1 W) (RdI.own (by omega))
    ⟨⟨st0, _, _, rfl, R3⟩, hB3⟩
    (fun k => { tmps := #[tx s, undef, .pointer (some ⟨w.heap.size, 0, none⟩), .pointer (some ⟨w1.heap.size, 0, none⟩), .int .i64 ((k : Int) + 1), tx ((lnb s).getD k []), undef, undef, tx s, .func (.func 58) #[] #[.pointer (some ⟨w2.heap.size, 0, none⟩)], .int .i64 ((k : Int) + 1), tx ((lnb s).getD k []), undef, undef, undef, undef, undef, undef, undef, undef, undef, undef, undef, undef, undef, undef, undef, undef, undef, undef, undef, undef, undef, undef, undef, undef, undef, undef, undef, undef, undef, undef, undef], defers := [] }) ?assign ?body ?done ?pan
  case assign =>
    intro L k W K hK
    clear hz1 hz2 hz3
    unfold lnE
    generalize (lnb s).getD k [] = ln at *
    gi_wp2
    exact hK
  case body =>
    intro L k W hI hk
    obtain ⟨⟨st, vo, vu, hrun, R⟩, hB⟩ := hI
    have hst := runL_ok hrun
    have HZ : Hid (∀ W', Fr w1.heap.size W W' → Tb9 W') := fun W' f => (HT.out.below hb1).below (hB.trans f.bel)
    have hln : ((lnb s).getD k []).length ≤ 281474976710656 := Nat.le_trans (lnb_short s k) hl
    have HQn : Hid (∀ a' W' st' vo' vu', lnStep k st ((lnb s).getD k []) = some st' → RdS W' w1.heap.size ((k : Int) + 1) (st'.n : Int) vo' st'.ops vu' st'.outs st'.whole → Fr w1.heap.size W W' → ownPostP w3.heap.size (fun k W => RdI w1 w1.heap.size (lnb s) k W) (fun k ch W => ch = pan (k + 1) ∧ runL (lnb s) (k + 1) = none ∧ (∃ st, runL (lnb s) k = some st) ∧ Below w1.heap.size w1 W) k W .normal a' W') := fun a' W' st' vo' vu' h1 h2 h3 =>
      ⟨h3.oth.from _, ⟨⟨st', vo', vu', by show (runL (lnb s) k).bind _ = _; rw [hrun]; exact h1, h2⟩, hB.trans h3.bel⟩⟩
    have HQp : Hid (∀ a' W', a'.defers = [] → lnStep k st ((lnb s).getD k []) = none → Fr w1.heap.size W W' → ownPostP w3.heap.size (fun k W => RdI w1 w1.heap.size (lnb s) k W) (fun k ch W => ch = pan (k + 1) ∧ runL (lnb s) (k + 1) = none ∧ (∃ st, runL (lnb s) k = some st) ∧ Below w1.heap.size w1 W) k W (.panic (pan ((k : Int) + 1))) a' W') := fun a' W' h0 h1 h3 =>
      ⟨h0, h3.oth.from _, rfl, by show (runL (lnb s) k).bind _ = _; rw [hrun]; exact h1, ⟨st, hrun⟩, hB.trans h3.bel⟩
    generalize ownPostP w3.heap.size (fun k W => RdI w1 w1.heap.size (lnb s) k W) (fun k ch W => ch = pan (k + 1) ∧ runL (lnb s) (k + 1) = none ∧ (∃ st, runL (lnb s) k = some st) ∧ Below w1.heap.size w1 W) k W = QQ at *
    generalize (lnb s).getD k [] = ln at *
    have HK := hide hk
    clear hz1 hz2 hz3 HIn HL hb1 hP1 hb2 hP2 hb3 hP3 R3 hB3 HB hrun hB hk HT HZ1 HZ2 HZ3
    generalize w1.heap.size = rb at *
    generalize w2.heap.size = bs at *
    generalize w.heap.size = pb at *
    have d0 := R.c0
    have d0z := R.fz 0
    have hlt := R.lt
    have R1 := R.setLine ((k : Int) + 1)
    have F1 : Fr rb W (W.setCell ⟨rb, 0, none⟩ (.int .i64 ((k : Int) + 1))) := setCell_fr (Nat.le_refl _)
    have e0 := R1.c0
    have e4 := R1.c4
    have hfw : ∀ f, (Fence.wide.inRound L).fn f := fun _ => trivial
    have hdw : (Fence.wide.inRound L).depth = none := rfl
    have hdw' : Fence.wide.depth = none := rfl
    by_cases hc : ln.getLast? = some 10
    · obtain ⟨a, ha⟩ := last10 hc
      have HC := hide (fun W => CallsIn.inRound L ((callsIn_wide (n := 0)).2 (lSuffix ln a W ha (by omega))))
      have hla : a.length ≤ 281474976710656 := by rw [ha] at hln; simp at hln; omega
      have HA := hide ha
      clear ha hc
      rcases hwh : st.whole with _ | _
      · rw [hwh] at R1 e4
        have hou := hst.outs hwh
        rw [hou] at R1
        clear R
        by_cases hk0 : k = 0
        · subst hk0
          rw [HA.out, lnStep_0 hwh] at HQn HQp
          have R1 : RdS (W.setCell ⟨rb, 0, none⟩ (.int .i64 1)) rb 1 (st.n : Int) vo st.ops vu [] false := R1
          have F1 : Fr rb W (W.setCell ⟨rb, 0, none⟩ (.int .i64 1)) := F1
          have e4 := R1.c4
          have HQn : Hid (∀ (a' : Act) (W' : World) (st' : St) (vo' vu' : Value), ((hdR (pcs 32 a)).map (fun n => (⟨n, st.ops, st.outs, st.whole⟩ : St))) = some st' → RdS W' rb 1 (st'.n : Int) vo' st'.ops vu' st'.outs st'.whole → Fr rb W W' → QQ .normal a' W') := HQn
          have HQp : Hid (∀ (a' : Act) (W' : World), a'.defers = [] → ((hdR (pcs 32 a)).map (fun n => (⟨n, st.ops, st.outs, st.whole⟩ : St))) = none → Fr rb W W' → QQ (.panic (pan 1)) a' W') := HQp
          have HW := hide (fun W => CallsIn.inRound L ((callsIn_wide (n := 0)).2 (sWords a W hla)))
          have HWt := hide (fun W => CallsIn.inRound L ((callsIn_wide (n := 0)).2 (sWant_ok rb W)))
          cases hh : hdR (pcs 32 a) with
          | none =>
            rw [hh] at HQp
            have HX := hide (fun W2 lb mb (hw : Wds W2 lb mb (pcs 32 a)) (R : RdS W2 rb 1 (st.n : Int) vo st.ops vu [] false) (h1 : rb < lb) (h2 : rb < mb) (hF : Fr rb W W2) => CallsIn.inRound L ((callsIn_wide (n := 0)).2 (sInputs_no W2 rb lb mb _ _ vo st.ops vu [] false _ R hw h1 h2 hh (fun W' f => HZ.out W' (hF.trans f)))))
            unfold nx at HX
            clear hh
            gi_wp2_with (first
              | (gi_at_call 49; refine (HC.out _).mono ?_; rintro e W2 ⟨rfl, hW2⟩; rw [hW2])
              | (gi_at_call 50; refine (HWt.out _).mono ?_; rintro e W3 ⟨rfl, hW3⟩; rw [hW3])
              | (gi_at_call 52; refine (HW.out _).mono ?_; rintro e W4 ⟨rfl, hw4, hb4⟩; rw [setCell_size] at hw4; have R4 := R1.below hb4; have F4 := F1.trans (Below.fr hb4 (Nat.le_of_lt R1.lt)))
              | (gi_at_call 51; refine (HX.out W4 W.heap.size (W.heap.size + 1) hw4 R4 hlt (Nat.lt_succ_of_lt hlt) F4).mono ?_; rintro e W5 ⟨rfl, F5⟩))
            exact HQp.out _ _ rfl rfl (F4.trans F5)
          | some n =>
            rw [hh] at HQn
            obtain ⟨w1', hw1, hn⟩ := hdR_some hh
            rw [hw1] at HW
            have HX := hide (fun W2 lb mb (hw : Wds W2 lb mb [inW, w1']) (R : RdS W2 rb 1 (st.n : Int) vo st.ops vu [] false) (h1 : rb < lb) (h2 : rb < mb) => CallsIn.inRound L ((callsIn_wide (n := 0)).2 (sInputs_ok W2 rb lb mb _ _ vo st.ops vu [] false _ n R hw h1 h2 hn)))
            unfold nx at HX
            clear hh hw1 hn
            gi_wp2_with (first
              | (gi_at_call 49; refine (HC.out _).mono ?_; rintro e W2 ⟨rfl, hW2⟩; rw [hW2])
              | (gi_at_call 50; refine (HWt.out _).mono ?_; rintro e W3 ⟨rfl, hW3⟩; rw [hW3])
              | (gi_at_call 52; refine (HW.out _).mono ?_; rintro e W4 ⟨rfl, hw4, hb4⟩; rw [setCell_size] at hw4; have R4 := R1.below hb4; have F4 := F1.trans (Below.fr hb4 (Nat.le_of_lt R1.lt)))
              | (gi_at_call 51; refine (HX.out W4 W.heap.size (W.heap.size + 1) hw4 R4 hlt (Nat.lt_succ_of_lt hlt)).mono ?_; rintro e W5 ⟨rfl, R5, F5⟩))
            exact HQn.out _ _ _ vo vu rfl (by show RdS _ _ _ (n : Int) vo st.ops vu st.outs st.whole; rw [hou, hwh]; exact R5) (F4.trans F5)
        · rw [HA.out, lnStep_k hwh hk0] at HQn HQp
          have HW := hide (fun W => CallsIn.inRound L ((callsIn_wide (n := 0)).2 (sWords a W hla)))
          have HWt := hide (fun W => CallsIn.inRound L ((callsIn_wide (n := 0)).2 (sWant_ok rb W)))
          have HX := hide (fun W2 lb mb (hw : Wds W2 lb mb (pcs 32 a)) (R : RdS W2 rb ((k : Int) + 1) (st.n : Int) vo st.ops vu [] false) (h1 : rb < lb) (h2 : rb < mb) (hF : Fr rb W W2) => CallsIn.inRound L ((callsIn_wide (n := 0)).2 (sSo W2 rb lb mb st.n _ vo st.ops vu _ R hw h1 h2 hst.n hst.ops (fun W' f => HZ.out W' (hF.trans f)))))
          have hk1 : ¬ (k : Int) + 1 = 1 := by omega
          unfold nx at HX
          gi_wp2_with (first
            | (gi_at_call 49; refine (HC.out _).mono ?_; rintro e W2 ⟨rfl, hW2⟩; rw [hW2])
            | (gi_at_call 50; refine (HWt.out _).mono ?_; rintro e W3 ⟨rfl, hW3⟩; rw [hW3])
            | (gi_at_call 52; refine (HW.out _).mono ?_; rintro e W4 ⟨rfl, hw4, hb4⟩; rw [setCell_size] at hw4; have R4 := R1.below hb4; have F4 := F1.trans (Below.fr hb4 (Nat.le_of_lt R1.lt)))
            | (gi_at_call 53; refine (HX.out W4 W.heap.size (W.heap.size + 1) hw4 R4 hlt (Nat.lt_succ_of_lt hlt) F4).mono ?_; rintro e W5 (⟨ops', vs, t, vo', vu', hso, rfl, R5, F5⟩ | ⟨hso, rfl, F5⟩)))
          · exact HQn.out _ _ _ vo' vu' (by rw [hso]; rfl) R5 (F4.trans F5)
          · exact HQp.out _ _ rfl (by rw [hso]; rfl) (F4.trans F5)
      · have HN := hide (lnStep_no (k := k) (st := st) (l := ln) (fun h => by rw [hwh] at h; cases h.2))
        rw [hwh] at e4
        gi_wp2_with (first
          | (gi_at_call 49; refine (HC.out _).mono ?_; rintro e W2 ⟨rfl, hW2⟩; rw [hW2])
          | (gi_at_call 50; refine (CallsIn.inRound L ((callsIn_wide (n := 0)).2 (sWant_no rb _ _ e0))).mono ?_; rintro e W3 ⟨rfl, hW3⟩; rw [hW3]))
        exact HQp.out _ _ rfl HN.out F1
    · have HC := hide (fun W => CallsIn.inRound L ((callsIn_wide (n := 0)).2 (lSuffix_no ln W hc (by omega))))
      have HN := hide (lnStep_no (k := k) (st := st) (l := ln) (fun h => hc h.1))
      clear hc
      gi_wp2_with (first
        | (gi_at_call 49; refine (HC.out _).mono ?_; rintro e W2 ⟨rfl, hW2⟩; rw [hW2])
        | (gi_at_call 50; refine (CallsIn.inRound L ((callsIn_wide (n := 0)).2 (sWant_no rb _ _ e0))).mono ?_; rintro e W3 ⟨rfl, hW3⟩; rw [hW3]))
      exact HQp.out _ _ rfl HN.out F1
  case done =>
    intro D W hD hI hK
    obtain ⟨⟨st, vo, vu, hrun, R⟩, hB⟩ := hI
    have HRun := hide hrun
    have hN := lnb_len s
    obtain ⟨N, HN⟩ : ∃ N, Hid ((lnb s).length = N) := ⟨_, rfl⟩
    rw [HN.out] at HRun R hN
    have hwN : IntKind.i64.wrap ((N : Int) + 1) = (N : Int) + 1 := by rw [IntKind.wrap_i64]; omega
    have d0 := R.c0
    have d0z := R.fz 0
    have R1 := R.setLine ((N : Int) + 1)
    have e0 := R1.c0
    have e4 := R1.c4
    have hKD : (W.setCell ⟨w1.heap.size, 0, none⟩ (.int .i64 ((N : Int) + 1))).heap[D]? = some (.deferred (some [])) := (Below.heap_setCell _ _ _ D (by show D ≠ w1.heap.size; omega)).trans hK
    have hBw := Below.next hb1 hB
    have hB1 := hBw.setCell (p := ⟨w1.heap.size, 0, none⟩) (show w.heap.size ≤ w1.heap.size by omega) (.int .i64 ((N : Int) + 1))
    have hP : (W.setCell ⟨w1.heap.size, 0, none⟩ (.int .i64 ((N : Int) + 1))).heap[w.heap.size]? = some (.cells #[.int .i64 0, .slice none 0 0, .slice none 0 0] 25) := (Below.heap_setCell _ _ _ _ (by show w.heap.size ≠ w1.heap.size; omega)).trans ((hB.block w.heap.size (by omega)).trans hP1)
    have hDz : w.heap.size + 3 ≤ D := by omega
    have hRow := HN.out
    have HZR : Hid (w1.heap.size = w.heap.size + 1) := hz1
    rw [HN.out]
    clear hz1 hz2 hz3 HIn HL hb1 hP1 hb2 hP2 hb3 hP3 R3 hB3 HB hB HT HZ1 HZ2 HZ3 hrun hRow
    have hlt := R.lt
    clear R
    generalize w1.heap.size = rb at *
    generalize w2.heap.size = bs at *
    change wpF _ _ _ _ _ _
    refine wpF_wp ?_
    obtain ⟨ao, co, rfl⟩ := own_slice R1.ro
    obtain ⟨au, cu, rfl⟩ := own_slice R1.ru
    rcases hwh : st.whole with _ | _
    · rw [hwh] at e4
      dsimp only
      go_wp2_with (go_at_call 50; refine (sWant_no rb _ _ e0).mono ?_; rintro e W2 ⟨rfl, hW2⟩; rw [hW2])
      refine ⟨by simp, .inl ⟨D, _, rfl, run_takeDeferred hKD, ?_⟩⟩
      exact ⟨hB1.trans (belowK_b (w := w) (Nat.le_refl _) _ D _ _ (by omega) hKD rfl rfl), .inr (.inl ⟨st, HRun.out, hwh, rfl⟩)⟩
    · rw [hwh] at e4
      have c1 := R1.c1
      have c2 := R1.c2
      have c3 := R1.c3
      have p0 : (W.setCell ⟨rb, 0, none⟩ (.int .i64 ((N : Int) + 1))).cell? ⟨w.heap.size, 0, none⟩ = some (.int .i64 0) := by rw [Lib.cell_of_heap hP]; rfl
      have p1 : (W.setCell ⟨rb, 0, none⟩ (.int .i64 ((N : Int) + 1))).cell? ⟨w.heap.size, 1, none⟩ = some (.slice none 0 0) := by rw [Lib.cell_of_heap hP]; rfl
      have p2 : (W.setCell ⟨rb, 0, none⟩ (.int .i64 ((N : Int) + 1))).cell? ⟨w.heap.size, 2, none⟩ = some (.slice none 0 0) := by rw [Lib.cell_of_heap hP]; rfl
      have pf := fun k => Lib.frozen_of_heap hP k
      dsimp only
      go_wp2_with (go_at_call 50; refine (sWant_ok rb _).mono ?_; rintro e W2 ⟨rfl, hW2⟩; rw [hW2])
      clear hW2 W2 e0 e4 c1 c2 c3 p0 p1 p2 pf d0 d0z hlt hBw
      generalize W.setCell ⟨rb, 0, none⟩ (.int .i64 ((N : Int) + 1)) = W1 at *
      have hrb := HZR.out
      have hg := set3_grown W1 w.heap.size (.int .i64 st.n) (.slice ao st.ops.length co) (.slice au st.outs.length cu)
      have hk4 := set_blk (set_blk (set_blk hP 0 (.int .i64 st.n)) 1 (.slice ao st.ops.length co)) 2 (.slice au st.outs.length cu)
      have ho4 := own_kept R1.ro hg (fun g hg' => by
        obtain ⟨cs, hcs⟩ := own_blk R1.ro hg'
        intro e
        have e1 := Option.some.inj e
        rw [← e1, hP] at hcs
        cases hcs)
      have hu4 := own_kept R1.ru hg (fun g hg' => by
        obtain ⟨cs, hcs⟩ := own_blk R1.ru hg'
        intro e
        have e1 := Option.some.inj e
        rw [← e1, hP] at hcs
        cases hcs)
      have hD4 : (((W1.setCell ⟨w.heap.size, 0, none⟩ (.int .i64 st.n)).setCell ⟨w.heap.size, 1, none⟩ (.slice ao st.ops.length co)).setCell ⟨w.heap.size, 2, none⟩ (.slice au st.outs.length cu)).heap[D]? = some (.deferred (some [])) := (hg.block D (Array.getElem?_eq_some_iff.1 hKD).1 (fun e => by have := Option.some.inj e; omega)).trans hKD
      have hB4 := hB1.grown hg (by have := (Array.getElem?_eq_some_iff.1 hP).1; omega) (fun k e => by cases e; exact Nat.le_refl _)
      generalize ((W1.setCell ⟨w.heap.size, 0, none⟩ (.int .i64 st.n)).setCell ⟨w.heap.size, 1, none⟩ (.slice ao st.ops.length co)).setCell ⟨w.heap.size, 2, none⟩ (.slice au st.outs.length cu) = W4 at *
      refine ⟨by simp, .inl ⟨D, _, rfl, run_takeDeferred hD4, ?_⟩⟩
      have hk5 := (World.putObj_heap_other (w := W4) (o := .deferred none) (show w.heap.size ≠ D by omega)).trans hk4
      refine ⟨_, res_cell1 (a := 2) (t := 25) (ad := ⟨w.heap.size, 0, none⟩) rfl rfl (load_prog hk5), ?_, .inl ⟨st, _, _, HRun.out, hwh, rfl, own_mono (ownsRow_putObj ho4 _ hD4 rfl) (by omega), own_mono (ownsRow_putObj hu4 _ hD4 rfl) (by omega)⟩⟩
      exact hB4.trans (belowK_b (w := w) (Nat.le_refl _) _ D _ _ (by omega) hD4 rfl rfl)
  case pan =>
    rintro D ch k W hD hk ⟨rfl, h1, h2, h3⟩ hK
    refine ⟨by simp, .inl ⟨D, _, rfl, run_takeDeferred hK, ?_⟩⟩
    refine ⟨(Below.next hb1 h3).trans (belowK_b (w := w) (Nat.le_refl _) _ D _ _ (by omega) hK rfl rfl), .inr (.inr ⟨k, hk, h1, h2, rfl⟩)⟩

end Go.Proofs.YtjkialmhajbcfaaDoor
