/-
  Layer 9: the text of a program: the program's Text.
-/
import Derived.Test.YtjkialmhajbcfaaDoorBSlwF
namespace Go.Proofs.YtjkialmhajbcfaaDoor
open Go.RowKit Fld Slp
set_option linter.unusedVariables false
set_option linter.unusedSimpArgs false

/-- What is written when so many steps, so many Outs are. -/
def ltx (p : Pr) (j : Nat) : Tx := (hdT p.inp ++ [10]) ++ ends (stps p.inp 0 (p.ops.take j))
def otx (p : Pr) (j : Nat) : Tx := (ltx p p.ops.length ++ [111, 117, 116, 115]) ++ ((p.outs.take j).map (fun v => 32 :: valT p.inp v)).flatten
theorem ltx_zero (p : Pr) : ltx p 0 = hdT p.inp ++ [10] := by simp [ltx, stps, ends]
theorem ltx_succ (p : Pr) {j : Nat} (h : j < p.ops.length) : ltx p (j + 1) = ltx p j ++ (stpT p.inp j p.ops[j] ++ [10]) := by
  unfold ltx
  rw [List.take_succ_eq_append_getElem h, stps_snoc, ends_app, Nat.zero_add, List.length_take, Nat.min_eq_left (by omega), List.append_assoc]
  simp [ends]
theorem otx_zero (p : Pr) : otx p 0 = ltx p p.ops.length ++ [111, 117, 116, 115] := by simp [otx]
theorem otx_succ (p : Pr) {j : Nat} (h : j < p.outs.length) : otx p (j + 1) = otx p j ++ (32 :: valT p.inp p.outs[j]) := by
  unfold otx
  rw [List.take_succ_eq_append_getElem h, List.map_append, List.flatten_append, List.append_assoc]
  simp
theorem otx_end (p : Pr) : otx p p.outs.length ++ [10] = txt p := by
  unfold otx ltx txt lns
  rw [List.take_length, List.take_length, ends_cons, ends_app]
  simp [ends, outT]
theorem may_ops {p : Pr} (hm : mayB p = true) (hc : Cw p) {j : Nat} (h : j < p.ops.length) : Fit p.ops[j] := by
  obtain ⟨⟨h0, h1, h2, h3⟩, h4, h5⟩ := mayB_iff.1 hm
  have := opsM_get p.inp p.ops 0 j h h4
  have hcc := hc _ (List.getElem_mem h)
  unfold opM at this
  by_cases hk : p.ops[j].k = 1 ∨ p.ops[j].k = 2 ∨ p.ops[j].k = 3
  · rw [if_pos hk, decide_eq_true_iff] at this
    exact .inr ⟨hk, ⟨this.1, by omega⟩, this.2.2.1, by omega⟩
  · rw [if_neg hk] at this
    by_cases h4 : p.ops[j].k = 4
    · exact .inl ⟨h4, hcc⟩
    · rw [if_neg h4] at this; cases this
theorem may_outs {p : Pr} (hm : mayB p = true) {j : Nat} (h : j < p.outs.length) : 0 ≤ p.outs[j] ∧ p.outs[j] ≤ 1000 := by
  obtain ⟨⟨h0, h1, h2, h3⟩, h4, h5⟩ := mayB_iff.1 hm
  have := of_decide_eq_true (List.all_eq_true.1 h5 _ (List.getElem_mem h))
  omega
theorem ltx_len {p : Pr} (hm : mayB p = true) (hc : Cw p) : ∀ j, j ≤ p.ops.length → (ltx p j).length ≤ 40 + 80 * j := by
  obtain ⟨⟨h0, h1, h2, h3⟩, _⟩ := mayB_iff.1 hm
  intro j
  induction j with
  | zero =>
    intro _
    rw [ltx_zero]
    unfold hdT
    have := dec_20 (n := p.inp.toNat) (by omega)
    simp only [List.length_append, List.length_cons, List.length_nil]; omega
  | succ j ih =>
    intro hj
    rw [ltx_succ p (by omega), stpT_mk]
    have := ih (by omega)
    have := mkT_len h0 (may_ops hm hc (j := j) (by omega))
    have := dec_20 (n := j) (by omega)
    simp only [List.length_append, List.length_cons, List.length_nil]; omega
theorem otx_len {p : Pr} (hm : mayB p = true) (hc : Cw p) : ∀ j, j ≤ p.outs.length → (otx p j).length ≤ 30000 + 30 * j := by
  obtain ⟨⟨h0, h1, h2, h3⟩, _⟩ := mayB_iff.1 hm
  intro j
  induction j with
  | zero =>
    intro _
    rw [otx_zero]
    have := ltx_len hm hc p.ops.length (Nat.le_refl _)
    simp only [List.length_append, List.length_cons, List.length_nil]; omega
  | succ j ih =>
    intro hj
    rw [otx_succ p (by omega)]
    have := ih (by omega)
    have hv := may_outs hm (j := j) (by omega)
    have := valT_21 (inp := p.inp) hv.1 h0 (by omega)
    simp only [List.length_append, List.length_cons, List.length_nil]; omega
/-- What Text answers. -/
def txtE (p : Pr) : Int := if mayB p = true then 0 else 2
def txtT (p : Pr) : Tx := if mayB p = true then txt p else []
def IsText (N : Nat) (v : Value) (w : World) (p : Pr) : Prop := Calls Tryd.prog N #[v] w fun e w' => e = .returned (.tuple #[tx (txtT p), .int .i64 (txtE p)]) ∧ Below w.heap.size w w'
theorem Pm.cw {w : World} {v : Value} {p : Pr} (h : Pm w v p) : Cw p := fun o ho => (h.okb o ho).2.2.2

set_option maxRecDepth 100000 in
set_option maxHeartbeats 600000 in
theorem sText (v : Value) (p : Pr) (w : World) (h : Pm w v p) (hT : Tb9 w) : IsText 14 v w p := by
  unfold IsText
  have hM := hide (fun W (hb : Below w.heap.size w W) => sMay v p W (h.below hb))
  have hcw := h.cw
  obtain ⟨vo, vu, rfl, ho, hu⟩ := h.form
  obtain ⟨ao, co, rfl, _⟩ := ho.spell
  obtain ⟨au, cu, rfl, _⟩ := hu.spell
  have HB := hide (alloc_below w (.cells #[.int .i64 p.inp, .slice ao p.ops.length co, .slice au p.outs.length cu] 25))
  unfold txtE txtT
  by_cases hm : mayB p = true
  · rw [if_pos hm, if_pos hm]
    obtain ⟨⟨i0, i1, i2, i3⟩, _, _⟩ := mayB_iff.1 hm
    have HM := hide hm
    have HT := hide (fun W (hb : Below w.heap.size w W) => hT.below hb)
    have HI := hide (fun W (hb : Below w.heap.size w W) => lItoaI p.inp W i0 (by omega) (HT.out W hb))
    have HL := hide (ltx_len hm hcw)
    have HO := hide (otx_len hm hcw)
    have HFo := hide (fun j (hj : j < p.ops.length) => may_ops hm hcw hj)
    have HFu := hide (fun j (hj : j < p.outs.length) => may_outs hm hj)
    have l0 : (dec p.inp.toNat).length ≤ 20 := dec_20 (by omega)
    have g1 : ∀ W, (binOp .add 9 (.string ⟨#[105, 110, 112, 117, 116, 115, 32]⟩) (tx (dec p.inp.toNat))).run Tryd.prog W = .ok (tx (hdT p.inp)) W := fun W => tx_add [105, 110, 112, 117, 116, 115, 32] _ (by simp only [List.length_cons, List.length_nil]; omega) W
    have g2 : ∀ W, (binOp .add 9 (tx (hdT p.inp)) (.string ⟨#[10]⟩)).run Tryd.prog W = .ok (tx (ltx p 0)) W := fun W => by
      rw [ltx_zero]
      exact tx_add _ [10] (by unfold hdT; simp only [List.length_append, List.length_cons, List.length_nil]; omega) W
    have hl0 := HL.out 0 (Nat.zero_le _)
    clear hm hT h
    go_enter Tryd.func14, Tryd.ntmps14
    go_wp2_with (first
      | (go_at_call 9; refine (hM.out _ HB.out).mono ?_; rintro e w1 ⟨rfl, hb1⟩; rw [HM.out]; have hB1 := Below.next HB.out hb1; have hbx := (hb1.block w.heap.size (by simp)).trans (heap_alloc_new w _); have hB2 := Below.next hB1 (alloc_below w1 (.cells #[.pointer none, .slice none 0 0] 56)); have hbx2 := ((alloc_below w1 (.cells #[.pointer none, .slice none 0 0] 56)).block w.heap.size (Array.getElem?_eq_some_iff.1 hbx).1).trans hbx; have e0 : (w1.alloc (.cells #[.pointer none, .slice none 0 0] 56)).cell? ⟨w.heap.size, 0, none⟩ = some (.int .i64 p.inp) := by rw [Lib.cell_of_heap hbx2]; rfl)
      | (go_at_call 29; refine (HI.out _ hB2).mono ?_; rintro e w3 ⟨rfl, hb3⟩; have hB3 := Below.next hB2 hb3; have hd3 := (bd_new w1).below hb3; have hbx3 := (hb3.block w.heap.size (Array.getElem?_eq_some_iff.1 hbx2).1).trans hbx2)
      | (go_at_call 28; refine (bWrite _ _ _ _ _ hd3 (by simp only [List.length_nil]; omega) (Nat.le_of_lt hd3.lt)).mono ?_; rintro e w4 ⟨rfl, hd4, hb4, hk4⟩; refine Hid.out ?_))
    refine Lib.hid ?_
    have hsz : w.heap.size < w1.heap.size := (Array.getElem?_eq_some_iff.1 hbx).1
    have hB4 := hB3.trans (hb4.mono (Nat.le_of_lt hsz))
    have hbx4 := (hb4.block w.heap.size hsz).trans hbx3
    rw [List.nil_append] at hd4
    clear hb1 hB1 hbx hB2 hbx2 e0 hb3 hB3 hd3 hbx3 hb4 hk4 g1 g2 HI hl0 l0 hM HB
    generalize w1.heap.size = b at *
    have f1 : w4.cell? ⟨w.heap.size, 1, none⟩ = some (.slice ao p.ops.length co) := by rw [Lib.cell_of_heap hbx4]; rfl
    go_wp2
    clear f1
    go_loopw [21] (fun vi wr => ∃ j : Nat, j ≤ p.ops.length ∧ vi = .int .i64 j ∧ Bd b b (ltx p j) wr ∧ Below w.heap.size w wr ∧ wr.heap[w.heap.size]? = some (.cells #[.int .i64 p.inp, .slice ao p.ops.length co, .slice au p.outs.length cu] 25)) (fun vi _ => p.ops.length - (intOf vi).toNat)
    case atStart => exact ⟨0, Nat.zero_le _, rfl, hd4, hB4, hbx4⟩
    case round =>
      clear hd4 hB4 hbx4
      obtain ⟨j, hj, rfl, hd, hB, hbx⟩ := hrel
      by_cases hlt : j < p.ops.length
      · obtain ⟨b1, off, co', hv, _, hbl⟩ := ho.form (by omega)
        cases hv
        obtain ⟨ca, cb, cc, cd⟩ := ho.op hB hlt
        have hF := HFo.out j hlt
        have HX := hide (ltx_succ p hlt)
        have hl1 := HL.out j (by omega)
        have hl2 := mkT_len i0 hF
        have hl3 := dec_20 (n := j) (by omega)
        rw [stpT_mk] at HX
        have HK := hide (fun W (hb : Below w.heap.size w W) => sMaker p.ops[j] p.inp W i0 hF (HT.out W hb))
        unfold opv at HK
        have HN : Hid (∀ W, Below w.heap.size w W → Calls Tryd.prog 30 #[.int .i64 (IntKind.i64.wrap (p.inp + (j : Int))), .int .i64 p.inp] W fun e w' => e = .returned (tx (116 :: dec j)) ∧ Below W.heap.size W w') := fun W hb => by
          have e1 : IntKind.i64.wrap (p.inp + (j : Int)) = p.inp + (j : Int) := by rw [IntKind.wrap_i64]; omega
          have e2 : valT p.inp (p.inp + (j : Int)) = 116 :: dec j := by
            unfold valT
            rw [if_neg (by omega)]
            congr 2; omega
          rw [e1, ← e2]
          exact sName _ _ W (by omega) i0 (by omega) (HT.out W hb)
        generalize p.ops[j] = o at *
        generalize mkT p.inp o = mt at *
        have g1 : ∀ W, (binOp .add 9 (tx (116 :: dec j)) (.string ⟨#[32, 61, 32]⟩)).run Tryd.prog W = .ok (tx ((116 :: dec j) ++ [32, 61, 32])) W := fun W => tx_add _ [32, 61, 32] (by simp only [List.length_append, List.length_cons, List.length_nil]; omega) W
        have g2 : ∀ W, (binOp .add 9 (tx ((116 :: dec j) ++ [32, 61, 32])) (tx mt)).run Tryd.prog W = .ok (tx (((116 :: dec j) ++ [32, 61, 32]) ++ mt)) W := fun W => tx_add _ _ (by simp only [List.length_append, List.length_cons, List.length_nil]; omega) W
        have g3 : ∀ W, (binOp .add 9 (tx (((116 :: dec j) ++ [32, 61, 32]) ++ mt)) (.string ⟨#[10]⟩)).run Tryd.prog W = .ok (tx ((((116 :: dec j) ++ [32, 61, 32]) ++ mt) ++ [10])) W := fun W => tx_add _ [10] (by simp only [List.length_append, List.length_cons, List.length_nil]; omega) W
        have HE : Hid (ltx p j ++ ((((116 :: dec j) ++ [32, 61, 32]) ++ mt) ++ [10]) = ltx p (j + 1)) := by show _ = _; rw [HX.out]; simp
        have HLn : Hid ((ltx p j).length + ((((116 :: dec j) ++ [32, 61, 32]) ++ mt) ++ [10]).length ≤ 140737488355328) := by show _ ≤ _; simp only [List.length_append, List.length_cons, List.length_nil]; omega
        generalize (((116 :: dec j) ++ [32, 61, 32]) ++ mt) ++ [10] = t3 at *
        generalize ((116 :: dec j) ++ [32, 61, 32]) ++ mt = t2 at *
        generalize (116 :: dec j) ++ [32, 61, 32] = t1 at *
        generalize 116 :: dec j = t0 at *
        have hbw := hd.lt
        have hA := alloc_below wr (.cells #[.int .u8 o.k, .int .i64 o.a, .int .i64 o.b, .int .u64 o.c] 47)
        have hA2 := Below.next hB hA
        have HD := hide (hd.below hA)
        have hbx2 := (hA.block w.heap.size (Array.getElem?_eq_some_iff.1 hbx).1).trans hbx
        have hcp := heap_alloc_new wr (.cells #[.int .u8 o.k, .int .i64 o.a, .int .i64 o.b, .int .u64 o.c] 47)
        clear hl1 hl2 hl3 HX hd
        go_wp2
        generalize hW0 : wr.alloc (.cells #[.int .u8 o.k, .int .i64 o.a, .int .i64 o.b, .int .u64 o.c] 47) = W0 at *
        have HS : Hid (∀ W' : World, W'.heap[w.heap.size]? = W0.heap[w.heap.size]? → W'.heap[wr.heap.size]? = W0.heap[wr.heap.size]? → W'.cell? ⟨w.heap.size, 0, none⟩ = some (.int .i64 p.inp) ∧ W'.cell? ⟨wr.heap.size, 0, none⟩ = some (.int .u8 o.k) ∧ W'.cell? ⟨wr.heap.size, 1, none⟩ = some (.int .i64 o.a) ∧ W'.cell? ⟨wr.heap.size, 2, none⟩ = some (.int .i64 o.b) ∧ W'.cell? ⟨wr.heap.size, 3, none⟩ = some (.int .u64 o.c)) := fun W' h1 h2 => by
          have h1' := h1.trans hbx2
          have h2' := h2.trans hcp
          exact ⟨by rw [Lib.cell_of_heap h1']; rfl, by rw [Lib.cell_of_heap h2']; rfl, by rw [Lib.cell_of_heap h2']; rfl, by rw [Lib.cell_of_heap h2']; rfl, by rw [Lib.cell_of_heap h2']; rfl⟩
        have hz1 : w.heap.size < W0.heap.size := (Array.getElem?_eq_some_iff.1 hbx2).1
        have hz2 : wr.heap.size < W0.heap.size := (Array.getElem?_eq_some_iff.1 hcp).1
        have hS0 := HS.out W0.drew rfl rfl
        go_region_held3 (fun W' => W'.cell? ⟨w.heap.size, 0, none⟩ = some (.int .i64 p.inp) ∧ W'.cell? ⟨wr.heap.size, 0, none⟩ = some (.int .u8 o.k) ∧ W'.cell? ⟨wr.heap.size, 1, none⟩ = some (.int .i64 o.a) ∧ W'.cell? ⟨wr.heap.size, 2, none⟩ = some (.int .i64 o.b) ∧ W'.cell? ⟨wr.heap.size, 3, none⟩ = some (.int .u64 o.c)) (first | with_reducible exact hS7 | with_reducible exact hS6 | with_reducible exact hS5 | with_reducible exact hS0) (first
          | (go_at_call 28; refine (bWrite b b _ t3 w6 hd6 HLn.out (Nat.le_of_lt hd6.lt)).mono ?_; rintro e w7 ⟨rfl, hd7, hb7, hk7⟩; have hx7 := (hb7.block w.heap.size hsz).trans (hC6.block _ hz1); have hy7 : w7.heap[wr.heap.size]? = W0.heap[wr.heap.size]? := (hk7 wr.heap.size _ ((hC6.block _ hz2).trans hcp) (fun e => by have := Option.some.inj e; omega) (fun c f e => by cases e)).trans hcp.symm; have hS7 := HS.out w7 hx7 hy7)
          | (go_at_call 31; refine (HK.out _ hB5).mono ?_; rintro e w6 ⟨rfl, hb6⟩; have hC6 := Below.next hC5 hb6; have hB6 := Below.next hB5 hb6; have hd6 := HD.out.below hC6; have hS6 := HS.out w6 (hC6.block _ hz1) (hC6.block _ hz2))
          | (go_at_call 30; refine (HN.out _ hA2.drew).mono ?_; rintro e w5 ⟨rfl, hb5⟩; have hC5 := Below.next (Below.refl W0.heap.size W0).drew hb5; have hB5 := Below.next hA2.drew hb5; have hS5 := HS.out w5 (hC5.block _ hz1) (hC5.block _ hz2)))
        have hB7 := hB6.trans (hb7.mono (Nat.le_of_lt hsz))
        have hx8 := hx7.trans hbx2
        rw [HE.out] at hd7
        clear hS0 hS5 hS6 hS7 HS HN HK g1 g2 g3 hC5 hC6 hB5 hB6 hb5 hb6 hb7 hk7 hy7 hx7 hcp
        go_wp2
        go_roundw
        case rel => exact ⟨j + 1, by omega, by go_num, hd7, hB7, hx8⟩
        case measure => simp [intOf]; omega
      · obtain rfl : j = p.ops.length := by omega
        have HEo := hide (otx_zero p)
        have hl1 := HL.out p.ops.length (Nat.le_refl _)
        have hbw := hd.lt
        have hln : (ltx p p.ops.length).length + ([111, 117, 116, 115] : Tx).length ≤ 140737488355328 := by simp only [List.length_cons, List.length_nil]; omega
        have HW := hide (bWrite b b _ [111, 117, 116, 115] wr hd hln (Nat.le_of_lt hbw))
        unfold tx at HW
        go_wp2_with (first
          | (go_at_call 28; refine HW.out.mono ?_; rintro e w5 ⟨rfl, hd5, hb5, hk5⟩; refine Hid.out ?_))
        refine Lib.hid ?_
        have hB5 := hB.trans (hb5.mono (Nat.le_of_lt hsz))
        have hbx5 := (hb5.block w.heap.size hsz).trans hbx
        rw [← HEo.out] at hd5
        clear hd hB hbx hb5 hk5 HW hbw hl1 hln
        have f2 : w5.cell? ⟨w.heap.size, 2, none⟩ = some (.slice au p.outs.length cu) := by rw [Lib.cell_of_heap hbx5]; rfl
        go_wp2
        clear f2
        go_loopw [46] (fun vi wr => ∃ j : Nat, j ≤ p.outs.length ∧ vi = .int .i64 j ∧ Bd b b (otx p j) wr ∧ Below w.heap.size w wr ∧ wr.heap[w.heap.size]? = some (.cells #[.int .i64 p.inp, .slice ao p.ops.length co, .slice au p.outs.length cu] 25)) (fun vi _ => p.outs.length - (intOf vi).toNat)
        case atStart => exact ⟨0, Nat.zero_le _, rfl, hd5, hB5, hbx5⟩
        case round =>
          clear hd5 hB5 hbx5
          obtain ⟨j, hj, rfl, hd, hB, hbx⟩ := hrel
          by_cases hlt : j < p.outs.length
          · obtain ⟨b1, off, cu', hv, _, hbl⟩ := hu.form (by omega)
            cases hv
            have ca := hu.int hB hlt
            have hF := HFu.out j hlt
            have HX := hide (otx_succ p hlt)
            have hl1 := HO.out j (by omega)
            have hl2 := valT_21 (inp := p.inp) hF.1 i0 (by omega)
            have HN := hide (sName p.outs[j] p.inp wr hF.1 i0 (by omega) (HT.out wr hB))
            have e0 : wr.cell? ⟨w.heap.size, 0, none⟩ = some (.int .i64 p.inp) := by rw [Lib.cell_of_heap hbx]; rfl
            generalize p.outs[j] = o at *
            generalize valT p.inp o = mt at *
            have g1 : ∀ W, (binOp .add 9 (.string ⟨#[32]⟩) (tx mt)).run Tryd.prog W = .ok (tx (32 :: mt)) W := fun W => tx_add [32] mt (by simp only [List.length_append, List.length_cons, List.length_nil]; omega) W
            have HLn : Hid ((otx p j).length + (32 :: mt).length ≤ 140737488355328) := by show _ ≤ _; simp only [List.length_append, List.length_cons, List.length_nil]; omega
            generalize 32 :: mt = t1 at *
            clear hl1 hl2
            go_wp2_with (first
              | (go_at_call 28; refine (bWrite b b _ t1 w6 hd6 HLn.out (Nat.le_of_lt hd6.lt)).mono ?_; rintro e w7 ⟨rfl, hd7, hb7, hk7⟩; refine Hid.out ?_)
              | (go_at_call 30; refine HN.out.mono ?_; rintro e w6 ⟨rfl, hb6⟩; have hd6 := hd.below hb6; have hB6 := Below.next hB hb6))
            refine Lib.hid ?_
            have hB7 := hB6.trans (hb7.mono (Nat.le_of_lt hsz))
            have hx8 := (hb7.block w.heap.size hsz).trans ((hb6.block _ (Array.getElem?_eq_some_iff.1 hbx).1).trans hbx)
            rw [← HX.out] at hd7
            clear hb7 hk7 hb6 hd6 hB6 g1 HN e0
            go_wp2
            go_roundw
            case rel => exact ⟨j + 1, by omega, by go_num, hd7, hB7, hx8⟩
            case measure => simp [intOf]; omega
          · obtain rfl : j = p.outs.length := by omega
            have HEn := hide (otx_end p)
            have hl1 := HO.out p.outs.length (Nat.le_refl _)
            have hln : (otx p p.outs.length).length + ([10] : Tx).length ≤ 140737488355328 := by simp only [List.length_cons, List.length_nil]; omega
            have HW := hide (bWrite b b _ [10] wr hd hln (Nat.le_of_lt hd.lt))
            unfold tx at HW
            clear hl1 hln
            go_wp2_with (first
              | (go_at_call 28; refine HW.out.mono ?_; rintro e w5 ⟨rfl, hd5, hb5, hk5⟩; rw [HEn.out] at hd5)
              | (go_at_call 32; refine (bString b b _ w5 hd5 (Nat.le_of_lt hd5.lt)).mono ?_; rintro e w8 ⟨rfl, hb8⟩))
            go_ret2
            exact ⟨rfl, (hB.trans (hb5.mono (Nat.le_of_lt hsz))).trans (hb8.mono (Nat.le_of_lt hsz))⟩
  · rw [if_neg hm, if_neg hm]
    have HM : Hid (mayB p = false) := by show _ = _; cases hc : mayB p with | true => exact absurd hc hm | false => rfl
    clear hm
    go_enter Tryd.func14, Tryd.ntmps14
    go_wp2_with (go_at_call 9; refine (hM.out _ HB.out).mono ?_; rintro e w1 ⟨rfl, hb1⟩; rw [HM.out])
    go_ret2
    exact ⟨rfl, Below.next HB.out hb1⟩

end Go.Proofs.YtjkialmhajbcfaaDoor
