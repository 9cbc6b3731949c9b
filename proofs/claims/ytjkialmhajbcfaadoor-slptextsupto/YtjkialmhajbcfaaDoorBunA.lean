/- Texts laid together: SlyA, SlyB, SlyC, SlyD, SlyP, SlyG. -/
import Derived.Test.YtjkialmhajbcfaaDoorBunY
import Derived.Test.YtjkialmhajbcfaaDoorBSlwG
import Derived.Test.YtjkialmhajbcfaaDoorBSlwB
import Derived.Test.YtjkialmhajbcfaaDoorBunV
namespace Go.Proofs.YtjkialmhajbcfaaDoor
open Go.RowKit Fld Slp
set_option linter.unusedVariables false
set_option linter.unusedSimpArgs false

set_option maxHeartbeats 200000 in
theorem dValue (v inp : Int) (w : World) (h0 : 0 ≤ v) (h1 : 0 ≤ inp) (h2 : v ≤ 9223372036854775807) (hT : Tb9 w) : Calls Tryd.prog 47 #[.int .i64 inp, .int .i64 v] w fun e w' => e = .returned (tx (valT inp v)) ∧ Below w.heap.size w w' := by
  unfold valT
  by_cases hc : v < inp
  · rw [if_pos hc]
    obtain ⟨n, rfl⟩ := Int.eq_ofNat_of_zero_le h0
    rw [Int.toNat_natCast]
    have hl := dec_20 (n := n) (by omega)
    have HI := hide (lItoa n w (by omega) hT)
    have ha : ∀ W, (binOp .add 9 (.string ⟨#[120]⟩) (tx (dec n))).run Tryd.prog W = .ok (tx (120 :: dec n)) W := fun W => tx_add [120] (dec n) (by simp only [List.length_cons, List.length_nil]; omega) W
    go_enter Tryd.func47, Tryd.ntmps47
    go_wp2_with (go_at_call 29; refine HI.out.mono ?_; rintro e w1 ⟨rfl, hb⟩)
    go_ret
    exact ⟨rfl, hb⟩
  · rw [if_neg hc]
    obtain ⟨n, hn⟩ := Int.eq_ofNat_of_zero_le (show 0 ≤ v - inp by omega)
    rw [hn, Int.toNat_natCast]
    have hl := dec_20 (n := n) (by omega)
    have HI := hide (lItoa n w (by omega) hT)
    have ha : ∀ W, (binOp .add 9 (.string ⟨#[116]⟩) (tx (dec n))).run Tryd.prog W = .ok (tx (116 :: dec n)) W := fun W => tx_add [116] (dec n) (by simp only [List.length_cons, List.length_nil]; omega) W
    go_enter Tryd.func47, Tryd.ntmps47
    go_wp2_with (go_at_call 29; refine HI.out.mono ?_; rintro e w1 ⟨rfl, hb⟩)
    go_ret
    exact ⟨rfl, hb⟩

theorem sg_at1 (W : World) : (Instr.index 82 (.agg #[.string ⟨#[]⟩, .string ⟨#[32, 43, 32]⟩, .string ⟨#[32, 45, 32]⟩, .string ⟨#[32, 42, 32]⟩]) (.int .u8 1)).run Tryd.prog W = .ok (.string ⟨#[32, 43, 32]⟩) W := by kernel_rfl
theorem sg_at2 (W : World) : (Instr.index 82 (.agg #[.string ⟨#[]⟩, .string ⟨#[32, 43, 32]⟩, .string ⟨#[32, 45, 32]⟩, .string ⟨#[32, 42, 32]⟩]) (.int .u8 2)).run Tryd.prog W = .ok (.string ⟨#[32, 45, 32]⟩) W := by kernel_rfl
theorem sg_at3 (W : World) : (Instr.index 82 (.agg #[.string ⟨#[]⟩, .string ⟨#[32, 43, 32]⟩, .string ⟨#[32, 45, 32]⟩, .string ⟨#[32, 42, 32]⟩]) (.int .u8 3)).run Tryd.prog W = .ok (.string ⟨#[32, 42, 32]⟩) W := by kernel_rfl

set_option maxRecDepth 100000 in
set_option maxHeartbeats 600000 in
theorem dLine (w : World) (inp : Int) (vo : Value) (au : Option Addr) (nu cu : Nat) (ops : List O4) (i : Nat) (ho : Lm opw 4 w vo ops) (hi : i < ops.length) (h0 : 0 ≤ inp) (hF : Fit ops[i]) (hT : Tb9 w) :
    Calls Tryd.prog 33 #[.agg #[.int .i64 inp, vo, .slice au nu cu], .int .i64 (i : Int)] w fun e w' => e = .returned (tx (stpT inp i ops[i])) ∧ Below w.heap.size w w' := by
  have hlen := ho.len
  obtain ⟨b, off, co, rfl, _, hbl⟩ := ho.form (by omega)
  have hB0 := alloc_below w (.cells #[.int .i64 inp, .slice (some ⟨b, off, none⟩) ops.length co, .slice au nu cu] 25)
  obtain ⟨ca, cb, cc, cd⟩ := ho.op hB0 hi
  have hl := dec_20 (n := i) (by omega)
  have HT := hide (fun W (hb : Below w.heap.size w W) => hT.below hb)
  have HI := hide (fun W (hb : Below w.heap.size w W) => lItoa i W (by omega) (HT.out W hb))
  have hi0 : (0 : Int) ≤ (i : Int) := by omega
  have hi1 : (i : Int) < (ops.length : Int) := by omega
  generalize ops[i] = o at *
  obtain ⟨k, a, b', c⟩ := o
  dsimp only at ca cb cc cd
  have g1 : ∀ W, (binOp .add 9 (.string ⟨#[116]⟩) (tx (dec i))).run Tryd.prog W = .ok (tx (116 :: dec i)) W := fun W => tx_add [116] (dec i) (by simp only [List.length_cons, List.length_nil]; omega) W
  have g2 : ∀ W, (binOp .add 9 (tx (116 :: dec i)) (.string ⟨#[32, 61, 32]⟩)).run Tryd.prog W = .ok (tx ((116 :: dec i) ++ [32, 61, 32])) W := fun W => tx_add (116 :: dec i) [32, 61, 32] (by simp only [List.length_cons, List.length_nil]; omega) W
  obtain ⟨n1, n2, hB⟩ := alloc2 w (.cells #[.int .i64 inp, .slice (some ⟨b, off, none⟩) ops.length co, .slice au nu cu] 25) (.cells #[.int .u8 k, .int .i64 a, .int .i64 b', .int .u64 c] 47)
  rcases hF with ⟨hk, c0, c1⟩ | ⟨hk, ⟨a0, a1⟩, b0, b1⟩
  · dsimp only at hk c0 c1
    subst hk
    obtain ⟨n, rfl⟩ := Int.eq_ofNat_of_zero_le c0
    have hl2 := dec_20 (n := n) (by omega)
    have HE : Hid (((116 :: dec i) ++ [32, 61, 32]) ++ dec n = stpT inp i ⟨4, a, b', (n : Int)⟩) := by show _ = _; unfold stpT; simp
    have g3 : ∀ W, (binOp .add 9 (tx ((116 :: dec i) ++ [32, 61, 32])) (tx (dec n))).run Tryd.prog W = .ok (tx (((116 :: dec i) ++ [32, 61, 32]) ++ dec n)) W := fun W => tx_add _ _ (by simp only [List.length_append, List.length_cons, List.length_nil]; omega) W
    rw [HE.out] at g3
    have HFo := hide (fun W (hb : Below w.heap.size w W) => lFormatU n W (by omega) (HT.out W hb))
    generalize (116 :: dec i) ++ [32, 61, 32] = t2 at *
    generalize 116 :: dec i = t1 at *
    generalize stpT inp i ⟨4, a, b', (n : Int)⟩ = t3 at *
    have HB := hide hB
    have N2 := hide n2
    clear hB n1 n2 HE hl hl2 ho c0 c1
    go_enter Tryd.func33, Tryd.ntmps33
    go_wp2_with (first
      | (go_at_call 29; refine (HI.out _ HB.out).mono ?_; rintro e w1 ⟨rfl, hb1⟩; have hB1 := Below.next HB.out hb1; obtain ⟨p0, p1, p2, p3⟩ := cell4 ((hb1.block _ (Array.getElem?_eq_some_iff.1 N2.out).1).trans N2.out))
      | (go_at_call 45; refine (HFo.out _ hB1).mono ?_; rintro e w2 ⟨rfl, hb2⟩))
    go_ret
    exact ⟨rfl, Below.next hB1 hb2⟩
  · dsimp only at hk a0 a1 b0 b1
    have hk4 : ¬ k = 4 := by omega
    have l1 := valT_21 (inp := inp) a0 h0 (by omega)
    have l2 := valT_21 (inp := inp) b0 h0 (by omega)
    have HV1 := hide (fun W (hb : Below w.heap.size w W) => dValue a inp W a0 h0 (by omega) (HT.out W hb))
    have HV2 := hide (fun W (hb : Below w.heap.size w W) => dValue b' inp W b0 h0 (by omega) (HT.out W hb))
    have HE : Hid (((((116 :: dec i) ++ [32, 61, 32]) ++ valT inp a) ++ [32, sgn k, 32]) ++ valT inp b' = stpT inp i ⟨k, a, b', c⟩) := by show _ = _; unfold stpT; rw [if_neg hk4]; simp
    generalize valT inp a = ta at *
    generalize valT inp b' = tb at *
    have g3 : ∀ W, (binOp .add 9 (tx ((116 :: dec i) ++ [32, 61, 32])) (tx ta)).run Tryd.prog W = .ok (tx (((116 :: dec i) ++ [32, 61, 32]) ++ ta)) W := fun W => tx_add _ _ (by simp only [List.length_append, List.length_cons, List.length_nil]; omega) W
    have g4 : ∀ W, (binOp .add 9 (tx (((116 :: dec i) ++ [32, 61, 32]) ++ ta)) (.string ⟨#[32, sgn k, 32]⟩)).run Tryd.prog W = .ok (tx ((((116 :: dec i) ++ [32, 61, 32]) ++ ta) ++ [32, sgn k, 32])) W := fun W => tx_add _ [32, sgn k, 32] (by simp only [List.length_append, List.length_cons, List.length_nil]; omega) W
    have g5 : ∀ W, (binOp .add 9 (tx ((((116 :: dec i) ++ [32, 61, 32]) ++ ta) ++ [32, sgn k, 32])) (tx tb)).run Tryd.prog W = .ok (tx (((((116 :: dec i) ++ [32, 61, 32]) ++ ta) ++ [32, sgn k, 32]) ++ tb)) W := fun W => tx_add _ _ (by simp only [List.length_append, List.length_cons, List.length_nil]; omega) W
    rw [HE.out] at g5
    generalize (((116 :: dec i) ++ [32, 61, 32]) ++ ta) ++ [32, sgn k, 32] = t4 at *
    generalize ((116 :: dec i) ++ [32, 61, 32]) ++ ta = t3 at *
    generalize (116 :: dec i) ++ [32, 61, 32] = t2 at *
    generalize 116 :: dec i = t1 at *
    generalize stpT inp i ⟨k, a, b', c⟩ = t5 at *
    have HB := hide hB
    have N2 := hide n2
    have N1 := hide n1
    clear hB n1 n2 HE hl l1 l2 ho a0 a1 b0 b1 hk4
    have gs1 := sg_at1
    have gs2 := sg_at2
    have gs3 := sg_at3
    rcases hk with rfl | rfl | rfl
    all_goals
      first
        | (have g6 : ∀ W, (binOp .add 9 (tx t3) (.string ⟨#[32, 43, 32]⟩)).run Tryd.prog W = .ok (tx t4) W := g4)
        | (have g6 : ∀ W, (binOp .add 9 (tx t3) (.string ⟨#[32, 45, 32]⟩)).run Tryd.prog W = .ok (tx t4) W := g4)
        | (have g6 : ∀ W, (binOp .add 9 (tx t3) (.string ⟨#[32, 42, 32]⟩)).run Tryd.prog W = .ok (tx t4) W := g4)
      go_enter Tryd.func33, Tryd.ntmps33
      go_upto_region 6 with (go_at_call 29; refine (HI.out _ HB.out).mono ?_; rintro e w1 ⟨rfl, hb1⟩; have hB1 := Below.next HB.out hb1; have m2 := (hb1.block _ (Array.getElem?_eq_some_iff.1 N2.out).1).trans N2.out; have m1 := (hb1.block _ (Array.getElem?_eq_some_iff.1 N1.out).1).trans N1.out; obtain ⟨p0, p1, p2, p3⟩ := cell4 m2)
      have HS : Hid (∀ W', Below w1.heap.size w1 W' → W'.cell? ⟨w.heap.size, 0, none⟩ = some (.int .i64 inp) ∧ W'.cell? ⟨w.heap.size + 1, 1, none⟩ = some (.int .i64 a) ∧ W'.cell? ⟨w.heap.size + 1, 2, none⟩ = some (.int .i64 b')) := fun W' hb => ⟨(cell3 ((hb.block _ (Array.getElem?_eq_some_iff.1 m1).1).trans m1)).1, (cell4 ((hb.block _ (Array.getElem?_eq_some_iff.1 m2).1).trans m2)).2.1, (cell4 ((hb.block _ (Array.getElem?_eq_some_iff.1 m2).1).trans m2)).2.2.1⟩
      have hS0 := HS.out w1.drew (Below.refl _ w1).drew
      clear m1 m2 p0 p1 p2 p3
      go_region_held3 (fun W' => W'.cell? ⟨w.heap.size, 0, none⟩ = some (.int .i64 inp) ∧ W'.cell? ⟨w.heap.size + 1, 1, none⟩ = some (.int .i64 a) ∧ W'.cell? ⟨w.heap.size + 1, 2, none⟩ = some (.int .i64 b')) (first | with_reducible exact hS3 | with_reducible exact hS2 | with_reducible exact hS0) (first
        | (go_at_call 47; refine (HV2.out _ hB2).mono ?_; rintro e w3 ⟨rfl, hb3⟩; have hS3 := HS.out w3 (Below.next hC2 hb3))
        | (go_at_call 47; refine (HV1.out _ hB1.drew).mono ?_; rintro e w2 ⟨rfl, hb2⟩; have hC2 := Below.next (Below.refl w1.heap.size w1).drew hb2; have hB2 := Below.next hB1.drew hb2; have hS2 := HS.out w2 hC2))
      go_wp2
      go_ret
      exact ⟨rfl, Below.next hB2 hb3⟩

end Go.Proofs.YtjkialmhajbcfaaDoor

namespace Go.Proofs.YtjkialmhajbcfaaDoor
open Go.RowKit Fld Slp
set_option linter.unusedVariables false
set_option linter.unusedSimpArgs false

def oT (inp : Int) (outs : List Int) (j : Nat) : Tx := [111, 117, 116, 115] ++ ((outs.take j).map (fun v => 32 :: valT inp v)).flatten
theorem oT_zero (inp : Int) (outs : List Int) : oT inp outs 0 = [111, 117, 116, 115] := by simp [oT]
theorem oT_succ (inp : Int) (outs : List Int) {j : Nat} (h : j < outs.length) : oT inp outs (j + 1) = oT inp outs j ++ (32 :: valT inp outs[j]) := by
  unfold oT
  rw [List.take_succ_eq_append_getElem h, List.map_append, List.flatten_append, List.append_assoc]
  simp
theorem oT_end (inp : Int) (outs : List Int) : oT inp outs outs.length = outT inp outs := by unfold oT outT; rw [List.take_length]
theorem oT_len {inp : Int} {outs : List Int} (h0 : 0 ≤ inp) (hv : ∀ j (h : j < outs.length), 0 ≤ outs[j] ∧ outs[j] ≤ 1000) : ∀ j, j ≤ outs.length → (oT inp outs j).length ≤ 4 + 22 * j := by
  intro j
  induction j with
  | zero => intro _; rw [oT_zero]; simp
  | succ j ih =>
    intro hj
    rw [oT_succ inp outs (by omega)]
    have := ih (by omega)
    have h1 := hv j (by omega)
    have := valT_21 (inp := inp) h1.1 h0 (by omega)
    simp only [List.length_append, List.length_cons]; omega

set_option maxRecDepth 100000 in
set_option maxHeartbeats 600000 in
theorem dLast (w : World) (inp : Int) (ao : Option Addr) (no co : Nat) (vu : Value) (outs : List Int) (hu : Lm iw 1 w vu outs) (hl : outs.length ≤ 64) (h0 : 0 ≤ inp) (hv : ∀ j (h : j < outs.length), 0 ≤ outs[j] ∧ outs[j] ≤ 1000) (hT : Tb9 w) :
    Calls Tryd.prog 34 #[.agg #[.int .i64 inp, .slice ao no co, vu]] w fun e w' => e = .returned (tx (outT inp outs)) ∧ Below w.heap.size w w' := by
  have HU := hide hu
  have HTb := hide (fun W (hb : Below w.heap.size w W) => hT.below hb)
  have HL := hide (oT_len h0 hv)
  have HV := hide hv
  obtain ⟨au, cu, rfl, _⟩ := hu.spell
  have hB := alloc_below w (.cells #[.int .i64 inp, .slice ao no co, .slice au outs.length cu] 25)
  have hN := heap_alloc_new w (.cells #[.int .i64 inp, .slice ao no co, .slice au outs.length cu] 25)
  clear hu hv hT
  have e0 : Hid (tx (oT inp outs 0) = .string ⟨#[111, 117, 116, 115]⟩) := by show _ = _; rw [oT_zero]; rfl
  go_enter Tryd.func34, Tryd.ntmps34
  go_wp2_with fail
  go_loopw [3, 4] (fun vs vi wr => ∃ j : Nat, j ≤ outs.length ∧ vi = .int .i64 j ∧ vs = tx (oT inp outs j) ∧ Below w.heap.size w wr ∧ wr.heap[w.heap.size]? = some (.cells #[.int .i64 inp, .slice ao no co, .slice au outs.length cu] 25 (0, 0))) (fun _ vi _ => outs.length - (intOf vi).toNat)
  case atStart => exact ⟨0, Nat.zero_le _, rfl, e0.out.symm, hB, hN⟩
  case round =>
    clear hB hN
    obtain ⟨j, hj, rfl, rfl, hB, hN⟩ := hrel
    obtain ⟨c0, c1, c2⟩ := cell3 hN
    by_cases hlt : j < outs.length
    · obtain ⟨b, off, cu', hvv, _, hbl⟩ := HU.out.form (by omega)
      cases hvv
      have ca := HU.out.int hB hlt
      have h1 := HV.out j hlt
      have HVa := hide (fun W (hb : Below w.heap.size w W) => dValue outs[j] inp W h1.1 h0 (by omega) (HTb.out W hb))
      have l1 := HL.out j hj
      have l2 := valT_21 (inp := inp) h1.1 h0 (by omega)
      have HE := hide (oT_succ inp outs hlt)
      generalize valT inp outs[j] = tv at *
      generalize outs[j] = v at *
      have hj0 : (0 : Int) ≤ (j : Int) := by omega
      have hj1 : (j : Int) < (outs.length : Int) := by omega
      have g1 : ∀ W, (binOp .add 9 (.string ⟨#[32]⟩) (tx tv)).run Tryd.prog W = .ok (tx (32 :: tv)) W := fun W => tx_add [32] tv (by simp only [List.length_cons, List.length_nil]; omega) W
      have g2 : ∀ W, (binOp .add 9 (tx (oT inp outs j)) (tx (32 :: tv))).run Tryd.prog W = .ok (tx (oT inp outs j ++ (32 :: tv))) W := fun W => tx_add _ _ (by simp only [List.length_cons, List.length_nil]; omega) W
      rw [← HE.out] at g2
      generalize oT inp outs j = t0 at *
      generalize 32 :: tv = t1 at *
      obtain ⟨t2, HT2⟩ : ∃ t2, Hid (oT inp outs (j + 1) = t2) := ⟨_, rfl⟩
      rw [HT2.out] at g2
      have HS : Hid (∀ W', Below wr.heap.size wr W' → W'.cell? ⟨w.heap.size, 0, none⟩ = some (.int .i64 inp) ∧ W'.cell? ⟨w.heap.size, 2, none⟩ = some (.slice (some ⟨b, off, none⟩) outs.length cu) ∧ W'.cell? ⟨b, off + j, none⟩ = some (.int .i64 v)) := fun W' hb => ⟨(hb.cell (cell_in c0)).trans c0, (hb.cell (cell_in c2)).trans c2, (hb.cell (cell_in ca)).trans ca⟩
      have hS0 := HS.out wr.drew (Below.refl _ wr).drew
      have HN := hide hN
      clear HE l1 l2 h1 hN
      go_upto_region 5 with fail
      go_region_held3 (fun W' => W'.cell? ⟨w.heap.size, 0, none⟩ = some (.int .i64 inp) ∧ W'.cell? ⟨w.heap.size, 2, none⟩ = some (.slice (some ⟨b, off, none⟩) outs.length cu) ∧ W'.cell? ⟨b, off + j, none⟩ = some (.int .i64 v)) (first | with_reducible exact hS2 | with_reducible exact hS0) (first
        | (go_at_call 47; refine (HVa.out _ hB.drew).mono ?_; rintro e w2 ⟨rfl, hb2⟩; have hC2 := Below.next (Below.refl wr.heap.size wr).drew hb2; have hS2 := HS.out w2 hC2))
      go_wp2_with fail
      go_roundw
      case rel => exact ⟨j + 1, by omega, by go_num, by rw [HT2.out], Below.next hB hC2, (hC2.block _ (Array.getElem?_eq_some_iff.1 HN.out).1).trans HN.out⟩
      case measure => simp [intOf]; omega
    · obtain rfl : j = outs.length := by omega
      rw [oT_end]
      go_wp2_with fail
      go_ret
      exact ⟨rfl, hB⟩

theorem ltx_all (p : Pr) : (ltx p p.ops.length ++ outT p.inp p.outs) ++ [10] = txt p := by
  rw [← otx_end]
  unfold otx outT
  rw [List.take_length]
  simp
theorem outT_len {p : Pr} (hm : mayB p = true) : (outT p.inp p.outs).length ≤ 2000 := by
  obtain ⟨⟨h0, h1, h2, h3⟩, _⟩ := mayB_iff.1 hm
  have := oT_len h0 (fun j h => may_outs hm h) p.outs.length (Nat.le_refl _)
  rw [oT_end] at this
  omega

set_option maxRecDepth 100000 in
set_option maxHeartbeats 600000 in
theorem dText (v : Value) (p : Pr) (w : World) (h : Pm w v p) (hT : Tb9 w) : IsText 15 v w p := by
  unfold IsText
  have hM := hide (fun W (hb : Below w.heap.size w W) => dMay v p W (h.below hb))
  have hcw := h.cw
  have HTb := hide (fun W (hb : Below w.heap.size w W) => hT.below hb)
  obtain ⟨vo, vu, rfl, ho, hu⟩ := h.form
  have HO := hide ho
  have HU := hide hu
  obtain ⟨ao, co, rfl, _⟩ := ho.spell
  obtain ⟨au, cu, rfl, _⟩ := hu.spell
  have hB := alloc_below w (.cells #[.int .i64 p.inp, .slice ao p.ops.length co, .slice au p.outs.length cu] 25)
  have hN := heap_alloc_new w (.cells #[.int .i64 p.inp, .slice ao p.ops.length co, .slice au p.outs.length cu] 25)
  clear ho hu h hT
  cases hm : mayB p with
  | false =>
    have e1 : txtE p = 2 := by unfold txtE; rw [if_neg (by rw [hm]; simp)]
    have e2 : txtT p = [] := by unfold txtT; rw [if_neg (by rw [hm]; simp)]
    rw [e1, e2]
    rw [hm] at hM
    have e3 : Hid (tx [] = .string ⟨#[]⟩) := rfl
    rw [e3.out]
    clear hm e1 e2
    go_enter Tryd.func15, Tryd.ntmps15
    go_wp2_with (go_at_call 10; refine (hM.out _ hB).mono ?_; rintro e w1 ⟨rfl, hb1⟩)
    go_ret2
    exact ⟨rfl, Below.next hB hb1⟩
  | true =>
    have e1 : txtE p = 0 := by unfold txtE; rw [if_pos hm]
    have e2 : txtT p = txt p := by unfold txtT; rw [if_pos hm]
    rw [e1, e2]
    obtain ⟨⟨h0, h1, h2, h3⟩, _, _⟩ := mayB_iff.1 hm
    have HLn := hide (fun W (hb : Below w.heap.size w W) j (hj : j < p.ops.length) => dLine W p.inp _ au p.outs.length cu p.ops j (HO.out.below hb) hj h0 (may_ops hm hcw hj) (HTb.out W hb))
    have HLa := hide (fun W (hb : Below w.heap.size w W) => dLast W p.inp ao p.ops.length co _ p.outs (HU.out.below hb) h3 h0 (fun j h => may_outs hm h) (HTb.out W hb))
    have HLl := hide (ltx_len hm hcw)
    have HLs := hide (fun j (hj : j < p.ops.length) => mkT_len h0 (may_ops hm hcw hj))
    have lo := outT_len hm
    have la := HLl.out p.ops.length (Nat.le_refl _)
    have HI := hide (fun W (hb : Below w.heap.size w W) => lItoaI p.inp W h0 (by omega) (HTb.out W hb))
    have ld := dec_20 (n := p.inp.toNat) (by omega)
    rw [hm] at hM
    have HE0 : Hid (hdT p.inp = [105, 110, 112, 117, 116, 115, 32] ++ dec p.inp.toNat) := rfl
    have g1 : ∀ W, (binOp .add 9 (.string ⟨#[105, 110, 112, 117, 116, 115, 32]⟩) (tx (dec p.inp.toNat))).run Tryd.prog W = .ok (tx (hdT p.inp)) W := fun W => tx_add [105, 110, 112, 117, 116, 115, 32] _ (by simp only [List.length_cons, List.length_nil]; omega) W
    have g2 : ∀ W, (binOp .add 9 (tx (hdT p.inp)) (.string ⟨#[10]⟩)).run Tryd.prog W = .ok (tx (hdT p.inp ++ [10])) W := fun W => tx_add _ [10] (by rw [HE0.out]; simp only [List.length_append, List.length_cons, List.length_nil]; omega) W
    rw [← ltx_zero] at g2
    have g5 : ∀ W, (binOp .add 9 (tx (ltx p p.ops.length)) (tx (outT p.inp p.outs))).run Tryd.prog W = .ok (tx (ltx p p.ops.length ++ outT p.inp p.outs)) W := fun W => tx_add _ _ (by omega) W
    have g6 : ∀ W, (binOp .add 9 (tx (ltx p p.ops.length ++ outT p.inp p.outs)) (.string ⟨#[10]⟩)).run Tryd.prog W = .ok (tx ((ltx p p.ops.length ++ outT p.inp p.outs) ++ [10])) W := fun W => tx_add _ [10] (by simp only [List.length_append, List.length_cons, List.length_nil]; omega) W
    rw [ltx_all] at g6
    clear hm e1 e2 hcw lo la ld
    go_enter Tryd.func15, Tryd.ntmps15
    go_wp2_with (first
      | (go_at_call 10; refine (hM.out _ hB).mono ?_; rintro e w1 ⟨rfl, hb1⟩; have hB1 := Below.next hB hb1; have n1 := (hb1.block _ (Array.getElem?_eq_some_iff.1 hN).1).trans hN; obtain ⟨c0, c1, c2⟩ := cell3 n1)
      | (go_at_call 29; refine (HI.out _ hB1).mono ?_; rintro e w2 ⟨rfl, hb2⟩; have hB2 := Below.next hB1 hb2; have n2 := (hb2.block _ (Array.getElem?_eq_some_iff.1 n1).1).trans n1))
    go_loopw [4, 5] (fun vs vi wr => ∃ j : Nat, j ≤ p.ops.length ∧ vi = .int .i64 j ∧ vs = tx (ltx p j) ∧ Below w.heap.size w wr ∧ wr.heap[w.heap.size]? = some (.cells #[.int .i64 p.inp, .slice ao p.ops.length co, .slice au p.outs.length cu] 25 (0, 0))) (fun _ vi _ => p.ops.length - (intOf vi).toNat)
    case atStart => exact ⟨0, Nat.zero_le _, rfl, rfl, hB2, n2⟩
    case round =>
      clear hB2 n2 hB1 n1 c0 c1 c2 hb1 hb2 hB hN
      obtain ⟨j, hj, rfl, rfl, hB, hN⟩ := hrel
      obtain ⟨c0, c1, c2⟩ := cell3 hN
      by_cases hlt : j < p.ops.length
      · have HLj := hide (fun W hb => HLn.out W hb j hlt)
        have l1 := HLl.out j hj
        have l2 := HLs.out j hlt
        have l3 := dec_20 (n := j) (by omega)
        have HE := hide (ltx_succ p hlt)
        have l4 : (stpT p.inp j p.ops[j]).length ≤ 80 := by rw [stpT_mk]; simp only [List.length_append, List.length_cons, List.length_nil]; omega
        generalize stpT p.inp j p.ops[j] = ts at *
        have g3 : ∀ W, (binOp .add 9 (tx ts) (.string ⟨#[10]⟩)).run Tryd.prog W = .ok (tx (ts ++ [10])) W := fun W => tx_add ts [10] (by simp only [List.length_cons, List.length_nil]; omega) W
        have g4 : ∀ W, (binOp .add 9 (tx (ltx p j)) (tx (ts ++ [10]))).run Tryd.prog W = .ok (tx (ltx p j ++ (ts ++ [10]))) W := fun W => tx_add _ _ (by simp only [List.length_append, List.length_cons, List.length_nil]; omega) W
        rw [← HE.out] at g4
        generalize ts ++ [10] = t1 at *
        obtain ⟨t2, HT2⟩ : ∃ t2, Hid (ltx p (j + 1) = t2) := ⟨_, rfl⟩
        rw [HT2.out] at g4
        have hj1 : (j : Int) < (p.ops.length : Int) := by omega
        have HN := hide hN
        clear HE l1 l2 l3 l4 hN g1 g2 g5 g6
        go_wp2_with (go_at_call 33; refine (HLj.out _ hB).mono ?_; rintro e w3 ⟨rfl, hb3⟩)
        go_roundw
        case rel => exact ⟨j + 1, by omega, by go_num, by rw [HT2.out], Below.next hB hb3, (hb3.block _ (Array.getElem?_eq_some_iff.1 HN.out).1).trans HN.out⟩
        case measure => simp [intOf]; omega
      · obtain rfl : j = p.ops.length := by omega
        go_wp2_with (go_at_call 34; refine (HLa.out _ hB).mono ?_; rintro e w4 ⟨rfl, hb4⟩)
        go_ret2
        exact ⟨rfl, Below.next hB hb4⟩

end Go.Proofs.YtjkialmhajbcfaaDoor

namespace Go.Proofs.YtjkialmhajbcfaaDoor
open Go.RowKit Fld Slp
set_option linter.unusedVariables false
set_option linter.unusedSimpArgs false

/-- A value's number, or -1. -/
def rdV (n own : Nat) (x : Tx) : Int := match valP n own x with | some v => v | none => -1
theorem rdV_hit {n own v : Nat} {x : Tx} (hw : own ≤ 9223372036854775807) (hv : v < own) (h : valT n v = x) : rdV n own x = (v : Int) := by
  unfold rdV; rw [← h, valP_val (by omega) (by omega) hw]
theorem rdV_miss {n own : Nat} {x : Tx} (h : ∀ u : Nat, u < own → valT n u ≠ x) : rdV n own x = -1 := by
  unfold rdV
  cases hp : valP n own x with
  | none => rfl
  | some v =>
    obtain ⟨h0, h1, h2⟩ := valP_some hp
    obtain ⟨u, rfl⟩ := Int.eq_ofNat_of_zero_le h0
    exact absurd h2.symm (h u (by omega))

set_option maxRecDepth 100000 in
set_option maxHeartbeats 400000 in
theorem dReadV (w : World) (n own : Nat) (x : Tx) (hn : n ≤ 64) (ho : own ≤ 1000) (hT : Tb9 w) :
    Calls Tryd.prog 39 #[.int .i64 (n : Int), .int .i64 (own : Int), tx x] w fun e w' => e = .returned (.int .i64 (rdV n own x)) ∧ Below w.heap.size w w' := by
  have HTb := hide (fun W (hb : Below w.heap.size w W) => hT.below hb)
  have hB := Below.refl w.heap.size w
  clear hT
  have HM := hide (rdV_miss (n := n) (own := own) (x := x))
  have HH := hide (fun v => rdV_hit (n := n) (own := own) (v := v) (x := x) (by omega))
  generalize rdV n own x = r at *
  go_enter Tryd.func39, Tryd.ntmps39
  go_wp2_with fail
  go_loopw [7] (fun vi wr => ∃ v : Nat, v ≤ own ∧ vi = .int .i64 v ∧ Hid (∀ u : Nat, u < v → valT n u ≠ x) ∧ Below w.heap.size w wr) (fun vi _ => own - (intOf vi).toNat)
  case atStart => exact ⟨0, Nat.zero_le _, rfl, (fun u hu => absurd hu (Nat.not_lt_zero u)), hB⟩
  case round =>
    clear hB
    obtain ⟨v, hv, rfl, HK, hB⟩ := hrel
    by_cases hlt : v < own
    · have HV := hide (dValue (v : Int) (n : Int) wr (by omega) (by omega) (by omega) (HTb.out _ hB))
      have hv1 : (v : Int) < (own : Int) := by omega
      by_cases he : valT n v = x
      · have HR := hide (HH.out v hlt he)
        have g1 := tx_guard2 (valT n v) x
        have g2 := tx_same he
        clear he
        generalize valT (n : Int) (v : Int) = tv at *
        go_wp2_with (go_at_call 47; refine HV.out.mono ?_; rintro e w2 ⟨rfl, hb2⟩)
        go_ret
        exact ⟨by rw [HR.out]; rfl, Below.next hB hb2⟩
      · have HK2 : Hid (∀ u : Nat, u < v + 1 → valT n u ≠ x) := fun u hu => by
          by_cases hu2 : u = v
          · rw [hu2]; exact he
          · exact HK.out u (by omega)
        have g1 := tx_guard2 (valT n v) x
        have g2 := tx_other he
        clear he
        generalize valT (n : Int) (v : Int) = tv at *
        go_wp2_with (go_at_call 47; refine HV.out.mono ?_; rintro e w2 ⟨rfl, hb2⟩)
        go_roundw
        case rel => exact ⟨v + 1, by omega, by go_num, HK2, Below.next hB hb2⟩
        case measure => simp [intOf]; omega
    · obtain rfl : v = own := by omega
      have HR := hide (HM.out HK.out)
      go_wp2_with fail
      go_ret
      exact ⟨by rw [HR.out]; rfl, hB⟩

theorem tx_at (l : Tx) (i : Nat) (h : i < l.length) (W : World) : (Instr.index 9 (tx l) (.int .i64 (i : Int))).run Tryd.prog W = .ok (.int .u8 l[i].toNat) W := by
  unfold tx
  have h1 : (⟨l.toArray⟩ : ByteArray).size = l.length := tx_size l
  simp [go_sem, tx_size, h]
  rfl

theorem num_succ (l : Tx) {i : Nat} (h : i < l.length) : num (l.take (i + 1)) = 10 * num (l.take i) + (l[i].toNat - 48) := by
  rw [List.take_succ_eq_append_getElem h, num_snoc]
/-- What Number answers. -/
def nmN (s : Tx) (most : Nat) : Nat := match nmb s most with | some n => n | none => 0
def nmO (s : Tx) (most : Nat) : Bool := (nmb s most).isSome
theorem nm_no {s : Tx} {most : Nat} (h : nmb s most = none) : nmN s most = 0 ∧ nmO s most = false := by unfold nmN nmO; rw [h]; exact ⟨rfl, rfl⟩
theorem nm_yes {s : Tx} {most n : Nat} (h : nmb s most = some n) : nmN s most = n ∧ nmO s most = true := by unfold nmN nmO; rw [h]; exact ⟨rfl, rfl⟩
theorem nmb_digit {s : Tx} {most i : Nat} (h : i < s.length) (hd : ¬ (48 ≤ s[i].toNat ∧ s[i].toNat ≤ 57)) : nmb s most = none := by
  unfold nmb
  exact if_neg (fun hc => hd (hc.2.1 _ (List.getElem_mem h)))
theorem nmb_big {s : Tx} {most i : Nat} (h : most < num (s.take i)) : nmb s most = none := by
  unfold nmb
  exact if_neg (fun hc => by have := num_take s i; have := hc.2.2.2; omega)
theorem nmb_zeros {s : Tx} {most : Nat} (h : s.head? = some 48) (h1 : 1 < s.length) : nmb s most = none := by
  unfold nmb
  exact if_neg (fun hc => by have := hc.2.2.1 h; omega)
theorem nmb_fine {s : Tx} {most : Nat} (h0 : s ≠ []) (hd : ∀ i (h : i < s.length), 48 ≤ s[i].toNat ∧ s[i].toNat ≤ 57) (hz : s.head? = some 48 → s.length = 1) (hm : num s ≤ most) : nmb s most = some (num s) := by
  unfold nmb
  refine if_pos ⟨h0, fun d hm => ?_, hz, hm⟩
  obtain ⟨i, hi, rfl⟩ := List.getElem_of_mem hm
  exact hd i hi

set_option maxRecDepth 100000 in
set_option maxHeartbeats 400000 in
theorem dNumber (w : World) (s : Tx) (most : Nat) (hm : most ≤ 18446744073709551615) (hl : s.length ≤ 281474976710656) :
    Calls Tryd.prog 38 #[tx s, .int .u64 (most : Int)] w fun e w' => e = .returned (.tuple #[.int .u64 (nmN s most : Int), .bool (nmO s most)]) ∧ w' = w := by
  have hlen := tx_len s
  cases s with
  | nil =>
    have HR := hide (nm_no (s := []) (most := most) (by unfold nmb; exact if_neg (fun h => h.1 rfl)))
    have e0 : tx [] = .string ⟨#[]⟩ := rfl
    rw [e0] at hlen ⊢
    clear e0
    go_enter Tryd.func38, Tryd.ntmps38
    go_wp2_with fail
    go_ret2
    exact ⟨by rw [HR.out.1, HR.out.2]; rfl, rfl⟩
  | cons c r =>
    have gg := tx_guard (c :: r)
    have ge : ∀ W, (binOp .eql 9 (tx (c :: r)) (.string ⟨#[]⟩)).run Tryd.prog W = .ok (.bool false) W := fun W => tx_eq (c :: r) [] W
    have gh := tx_head c r
    have HAt := hide (fun i (h : i < (c :: r).length) => tx_at (c :: r) i h)
    by_cases hz : c = 48 ∧ r ≠ []
    · obtain ⟨rfl, hr⟩ := hz
      have h1 : 1 < (48 :: r : Tx).length := by have := List.length_pos_iff.2 hr; simp; omega
      have HR := hide (nm_no (nmb_zeros (s := 48 :: r) (most := most) rfl h1))
      have h1' : (1 : Int) < ((48 :: r : Tx).length : Int) := by omega
      have h48 : ((48 : UInt8).toNat : Int) = 48 := rfl
      rw [h48] at gh
      generalize (48 :: r : Tx) = l at *
      clear h48 HAt hr
      go_enter Tryd.func38, Tryd.ntmps38
      go_wp2_with fail
      go_ret2
      exact ⟨by rw [HR.out.1, HR.out.2]; rfl, rfl⟩
    · have hcs : ((c.toNat : Int) = 48 ∧ ((c :: r).length : Int) = 1) ∨ ¬ (c.toNat : Int) = 48 := by
        by_cases h48 : c = 48
        · have hr : r = [] := Classical.byContradiction (fun h => hz ⟨h48, h⟩)
          subst h48 hr
          exact .inl ⟨rfl, rfl⟩
        · refine .inr (fun h => h48 (UInt8.toNat_inj.1 ?_))
          show c.toNat = 48
          omega
      have HZ : Hid ((c :: r).head? = some 48 → (c :: r).length = 1) := fun h => by
        have h48 : c = 48 := by simpa using h
        have hr : r = [] := Classical.byContradiction (fun h => hz ⟨h48, h⟩)
        subst hr; rfl
      have hne : (c :: r) ≠ [] := by simp
      have HFi := hide (nmb_fine (most := most) hne)
      have HNd := hide (fun i h hd => nm_no (nmb_digit (s := c :: r) (most := most) (i := i) h hd))
      have HNb := hide (fun i h => nm_no (nmb_big (s := c :: r) (most := most) (i := i) h))
      have HYe := hide (fun n h => nm_yes (s := c :: r) (most := most) (n := n) h)
      have HSu := hide (fun i h => num_succ (c :: r) (i := i) h)
      generalize (c.toNat : Int) = hd at *
      generalize (c :: r : Tx) = l at *
      have h0 : num (l.take 0) = 0 := rfl
      clear hz hne
      rcases hcs with ⟨rfl, h1⟩ | h1
      all_goals
        go_enter Tryd.func38, Tryd.ntmps38
        go_wp2_with fail
        go_loopw [6, 7] (fun vn vi wr => ∃ (i : Nat) (n : Nat), i ≤ l.length ∧ vi = .int .i64 i ∧ vn = .int .u64 n ∧ Hid (num (l.take i) = n) ∧ n ≤ most ∧ Hid (∀ j (h : j < l.length), j < i → 48 ≤ l[j].toNat ∧ l[j].toNat ≤ 57) ∧ wr = w) (fun _ vi _ => l.length - (intOf vi).toNat)
        case atStart => exact ⟨0, 0, Nat.zero_le _, rfl, rfl, h0, Nat.zero_le _, (fun j _ h => absurd h (Nat.not_lt_zero j)), rfl⟩
        case round =>
          obtain ⟨i, n, hi, rfl, rfl, HN, hn, HDg, rfl⟩ := hrel
          clear gh gg ge h1
          by_cases hlt : i < l.length
          · have hi0 : (0 : Int) ≤ (i : Int) := by omega
            have hi1 : (i : Int) < (l.length : Int) := by omega
            have gat := HAt.out i hlt
            by_cases hdg : 48 ≤ l[i].toNat ∧ l[i].toNat ≤ 57
            · have HSi := hide (HSu.out i hlt)
              obtain ⟨d, hd⟩ : ∃ d : Nat, l[i].toNat = d + 48 := ⟨l[i].toNat - 48, by omega⟩
              have hx : ((l[i].toNat : Nat) : Int) = (d : Int) + 48 := by omega
              have hd9 : d ≤ 9 := by omega
              have HDg2 : Hid (∀ j (h : j < l.length), j < i + 1 → 48 ≤ l[j].toNat ∧ l[j].toNat ≤ 57) := fun j h hj => by
                by_cases hji : j = i
                · subst hji; exact hdg
                · exact HDg.out j h (by omega)
              rw [HN.out, hd, Nat.add_sub_cancel] at HSi
              rw [hx] at gat
              clear hdg hd hx
              have hw1 : IntKind.u64.wrap ((d : Int) + 48) = (d : Int) + 48 := by rw [IntKind.wrap_u64]; omega
              have hw2 : IntKind.u64.wrap ((d : Int) + 48 - 48) = (d : Int) := by rw [IntKind.wrap_u64]; omega
              have h9 : ¬ (9 : Int) < (d : Int) := by omega
              by_cases hmd : most < d
              · have HR := hide (HNb.out (i + 1) (by rw [HSi.out]; omega))
                go_wp2_with fail
                go_ret2
                exact ⟨by rw [HR.out.1, HR.out.2]; rfl, rfl⟩
              · have hw3 : IntKind.u64.wrap ((most : Int) - (d : Int)) = ((most - d : Nat) : Int) := by rw [IntKind.wrap_u64]; omega
                have hw4 : IntKind.u64.wrap (10 * (n : Int)) = 10 * (n : Int) ∨ most < 10 * n + d := by rw [IntKind.wrap_u64]; omega
                by_cases hb : most < 10 * n + d
                · have HR := hide (HNb.out (i + 1) (by rw [HSi.out]; exact hb))
                  have hq : (most - d) / 10 < n := by omega
                  clear hw4 hb
                  go_wp2_with fail
                  go_ret2
                  exact ⟨by rw [HR.out.1, HR.out.2]; rfl, rfl⟩
                · have hq : ¬ (most - d) / 10 < n := by omega
                  have hw5 : IntKind.u64.wrap (10 * (n : Int)) = 10 * (n : Int) := by rw [IntKind.wrap_u64]; omega
                  have hw6 : IntKind.u64.wrap (10 * (n : Int) + (d : Int)) = ((10 * n + d : Nat) : Int) := by rw [IntKind.wrap_u64]; omega
                  clear hw4
                  go_wp2_with fail
                  go_roundw
                  case rel => exact ⟨i + 1, 10 * n + d, by omega, by go_num, by first | rfl | (simp; done), HSi, by omega, HDg2, by first | rfl | trivial⟩
                  case measure => simp [intOf]; omega
            · have HR := hide (HNd.out i hlt hdg)
              have hx255 : l[i].toNat < 256 := UInt8.toNat_lt l[i]
              generalize l[i].toNat = x at *
              have hw1 : IntKind.u64.wrap (x : Int) = (x : Int) := by rw [IntKind.wrap_u64]; omega
              have h9 : (9 : Int) < IntKind.u64.wrap ((x : Int) - 48) := by rw [IntKind.wrap_u64]; omega
              obtain ⟨D, hD⟩ : ∃ D, IntKind.u64.wrap ((x : Int) - 48) = D := ⟨_, rfl⟩
              rw [hD] at h9
              go_wp2_with fail
              go_ret2
              exact ⟨by rw [HR.out.1, HR.out.2]; rfl, rfl⟩
          · obtain rfl : i = l.length := by omega
            have HN2 := HN.out
            rw [List.take_length] at HN2
            have HR := hide (HYe.out n (by rw [HFi.out (fun j h => HDg.out j h h) HZ.out (by rw [HN2]; exact hn), HN2]))
            go_wp2_with fail
            go_ret2
            exact ⟨by rw [HR.out.1, HR.out.2]; rfl, rfl⟩

end Go.Proofs.YtjkialmhajbcfaaDoor

namespace Go.Proofs.YtjkialmhajbcfaaDoor
open Go.RowKit Fld Slp
set_option linter.unusedVariables false
set_option linter.unusedSimpArgs false

/-- A text's cell. -/
def sw (t : Tx) : List Value := [tx t]
theorem sw_len (t : Tx) : (sw t).length = 1 := rfl
theorem str_info : (Tryd.prog.info? 9).map (fun i => (i.zero, i.size, i.bytes)) = some (some (.string ⟨#[]⟩), 1, 16) := by kernel_rfl
/-- One text appended. -/
theorem appS1 (W : World) (base : Nat) (u : Value) (A : List Tx) (a : Addr) (x : Tx) (hO : W.ownsRow base 9 1 u A.length (A.flatMap sw)) (hc : W.cell? a = some (tx x)) (hl : A.length ≤ 2000000) (hb : base ≤ W.heap.size) :
    ∃ (au' : Option Addr) (cu' : Nat) (W' : World), (Builtin.append_ #[70, 70] 70 #[u, .slice (some a) 1 1]).run Tryd.prog W = .ok (.slice au' (A.length + 1) cu') W' ∧ W'.ownsRow base 9 1 (.slice au' (A.length + 1) cu') (A ++ [x]).length ((A ++ [x]).flatMap sw) ∧ Below base W W' := by
  obtain ⟨i0, hi0, hz0, hz1, hz2⟩ := info_parts str_info
  obtain ⟨v', W', hr, ho, hg, _, hbk⟩ := run_append_own_at (P := Tryd.prog) (w := W) base 70 70 9 i0 (.string ⟨#[]⟩) 1 16 Tryd.underlying70 hi0 hz0 hz1 hz2 rfl (by decide) u A.length (A.flatMap sw) hO a 1 1 [tx x] rfl (fun j u hj => by
    cases j with
    | zero => simp at hj; rw [← hj]; exact hc
    | succ j => simp at hj) (by simp [Value.oneCell', tx]) (by unfold maxLen; omega) (by omega) hb
  obtain ⟨au', cu', rfl⟩ := own_slice ho
  refine ⟨au', cu', W', hr, ?_, (Below.refl base W).grown hg hb (fun k hk => own_base hO k hk)⟩
  rw [List.flatMap_append, List.length_append]; exact ho
theorem tx_mid (l : Tx) (a b : Nat) (ha : a ≤ b) (hb : b ≤ l.length) (W : World) : (Instr.slice 9 (tx l) (some (.int .i64 (a : Int))) (some (.int .i64 (b : Int))) none).run Tryd.prog W = .ok (tx ((l.take b).drop a)) W := by
  unfold tx
  rw [run_slice_string_if W 9 _ .i64 .i64 (a : Int) (b : Int) Tryd.underlying9, if_pos (by rw [tx_size]; omega), if_pos (by omega)]
  congr 2
  apply ByteArray.ext
  simp [ByteArray.data_extract, List.drop_take]

theorem pst_tail (c : UInt8) : ∀ l : Tx, ∃ pre, l = pre ++ (pst c l).2 := by
  apply rev_ind
  · exact ⟨[], rfl⟩
  · intro l x ⟨pre, h⟩
    rw [pst_snoc]
    unfold cutS
    by_cases hx : x = c
    · rw [if_pos hx]; exact ⟨l ++ [x], by simp⟩
    · rw [if_neg hx]
      refine ⟨pre, ?_⟩
      show l ++ [x] = pre ++ ((pst c l).2 ++ [x])
      rw [← List.append_assoc, ← h]
/-- How far the cutting has come when i letters are seen; f: where the piece under way begins. -/
structure PcI (c : UInt8) (s : Tx) (i f : Nat) (A : List Tx) : Prop where
  le : f ≤ i
  eq : (s.take i).drop f = (pst c (s.take i)).2
  ls : (pst c (s.take i)).1 = A
theorem pci_zero (c : UInt8) (s : Tx) : PcI c s 0 0 [] := ⟨Nat.le_refl _, rfl, rfl⟩
theorem pst_at (c : UInt8) (s : Tx) {i : Nat} (h : i < s.length) : pst c (s.take (i + 1)) = cutS c (pst c (s.take i)) s[i] := by
  rw [List.take_succ_eq_append_getElem h, pst_snoc]
theorem PcI.hit {c : UInt8} {s : Tx} {i f : Nat} {A : List Tx} (h : PcI c s i f A) (hi : i < s.length) (hc : s[i] = c) : PcI c s (i + 1) (i + 1) (A ++ [(s.take i).drop f]) := by
  have e := pst_at c s hi
  rw [hc, show pst c (s.take i) = ((pst c (s.take i)).1, (pst c (s.take i)).2) from rfl, cut_hit] at e
  refine ⟨Nat.le_refl _, ?_, ?_⟩
  · rw [e]
    exact List.drop_eq_nil_of_le (by rw [List.length_take]; omega)
  · rw [e, h.eq, h.ls]
theorem PcI.miss {c : UInt8} {s : Tx} {i f : Nat} {A : List Tx} (h : PcI c s i f A) (hi : i < s.length) (hc : ¬ s[i] = c) : PcI c s (i + 1) f A := by
  have e := pst_at c s hi
  rw [show pst c (s.take i) = ((pst c (s.take i)).1, (pst c (s.take i)).2) from rfl, cut_miss hc] at e
  have hle := h.le
  refine ⟨by omega, ?_, ?_⟩
  · rw [e, List.take_succ_eq_append_getElem hi, List.drop_append_of_le_length (by rw [List.length_take]; omega), h.eq]
  · rw [e]; exact h.ls
theorem PcI.fin {c : UInt8} {s : Tx} {f : Nat} {A : List Tx} (h : PcI c s s.length f A) : A ++ [(s.take s.length).drop f] = pcs c s := by
  have e1 := h.eq
  have e2 := h.ls
  rw [List.take_length] at e1 e2 ⊢
  unfold pcs
  rw [e1, e2]
theorem PcI.len {c : UInt8} {s : Tx} {i f : Nat} {A : List Tx} (h : PcI c s i f A) (hi : i ≤ s.length) : A.length ≤ i := by
  have key : ∀ l : Tx, (pst c l).1.length ≤ l.length := by
    apply rev_ind
    · exact Nat.le_refl _
    · intro l x ih
      rw [pst_snoc]
      unfold cutS
      split
      · simp; omega
      · simp; omega
  have := key (s.take i)
  rw [h.ls, List.length_take] at this
  omega

set_option maxRecDepth 100000 in
set_option maxHeartbeats 400000 in
theorem dPieces (w : World) (s : Tx) (c : UInt8) (hl : s.length ≤ 1100000) :
    Calls Tryd.prog 37 #[tx s, .int .u8 (c.toNat : Int)] w fun e w' => ∃ a k, e = .returned (.slice a (pcs c s).length k) ∧ w'.ownsRow w.heap.size 9 1 (.slice a (pcs c s).length k) (pcs c s).length ((pcs c s).flatMap sw) ∧ Below w.heap.size w w' := by
  have hlen := tx_len s
  have HAt := hide (fun i (h : i < s.length) => tx_at s i h)
  have HMid := hide (fun a b ha hb => tx_mid s a b ha hb)
  have hB := Below.refl w.heap.size w
  go_enter Tryd.func37, Tryd.ntmps37
  go_wp2_with fail
  go_loopw [5, 6, 7] (fun vl vf vi wr => ∃ (i : Nat), vi = .int .i64 i ∧ Below w.heap.size w wr ∧ ((i ≤ s.length ∧ ∃ (f : Nat) (A : List Tx) (a : Option Addr) (k : Nat), vf = .int .i64 f ∧ vl = .slice a A.length k ∧ Hid (PcI c s i f A) ∧ Hid (wr.ownsRow w.heap.size 9 1 (.slice a A.length k) A.length (A.flatMap sw))) ∨ (i = s.length + 1 ∧ ∃ (a : Option Addr) (k : Nat), vl = .slice a (pcs c s).length k ∧ Hid (wr.ownsRow w.heap.size 9 1 (.slice a (pcs c s).length k) (pcs c s).length ((pcs c s).flatMap sw))))) (fun _ _ vi _ => s.length + 1 - (intOf vi).toNat)
  case atStart => exact ⟨0, rfl, hB, .inl ⟨Nat.zero_le _, 0, [], none, 0, rfl, rfl, pci_zero c s, own_nil _ _ _ _⟩⟩
  case round =>
    clear hB
    obtain ⟨i, rfl, hB, hcase⟩ := hrel
    rcases hcase with ⟨hi, f, A, a, k, rfl, rfl, HI, HO⟩ | ⟨rfl, a, k, rfl, HO⟩
    · have hA := HI.out.len hi
      have hf := HI.out.le
      have hi1 : (i : Int) ≤ (s.length : Int) := by omega
      have hi0 : (0 : Int) ≤ (i : Int) := by omega
      have gm := HMid.out f i hf hi
      have HA1 := hide (fun t => appS1 (wr.alloc (.cells #[tx t] 9)) w.heap.size _ A ⟨wr.heap.size, 0, none⟩ t (own_kept HO.out (below_own (alloc_below wr _)) (fun g _ => by simp)) (by rw [Lib.cell_of_heap (heap_alloc_new wr _)]; rfl) (by omega) (Nat.le_trans hB.size (alloc_below wr _).size))
      obtain ⟨t, HTt⟩ : ∃ t, Hid ((s.take i).drop f = t) := ⟨_, rfl⟩
      rw [HTt.out] at gm
      obtain ⟨a', k', W', hr, hO', hb'⟩ := HA1.out t
      have HO' := hide hO'
      have HB' := hide (Below.trans (Below.next hB (alloc_below wr (.cells #[tx t] 9))) hb')
      clear hO' hb' HA1
      obtain ⟨tb, htb⟩ : ∃ tb, tx t = .string tb := ⟨_, rfl⟩
      rw [htb] at gm hr
      clear htb
      by_cases he : i = s.length
      · have HFi := hide (show A ++ [t] = pcs c s by rw [← HTt.out]; subst he; exact HI.out.fin)
        rw [HFi.out] at HO'
        have HLn : Hid (A.length + 1 = (pcs c s).length) := by show _ = _; rw [← HFi.out]; simp
        subst he
        clear hf hA
        go_wp2_with (at_builtin; refine Lib.wpList_append_run _ rfl _ _ _ _ rfl _ _ rfl rfl _ _ hr ?_)
        go_roundw
        case rel => exact ⟨s.length + 1, by go_num, HB'.out, .inr ⟨rfl, a', k', by rw [HLn.out], by have := HO'.out; rw [HLn.out] at this; exact this⟩⟩
        case measure => simp [intOf]
      · have hlt : i < s.length := by omega
        have hne : ¬ (i : Int) = (s.length : Int) := by omega
        have hi2 : (i : Int) < (s.length : Int) := by omega
        have gat := HAt.out i hlt
        by_cases hc : s[i] = c
        · have HI2 := hide (HI.out.hit hlt hc)
          rw [hc] at gat
          rw [HTt.out] at HI2
          go_wp2_with (at_builtin; refine Lib.wpList_append_run _ rfl _ _ _ _ rfl _ _ rfl rfl _ _ hr ?_)
          go_roundw
          case rel => exact ⟨i + 1, by go_num, HB'.out, .inl ⟨by omega, i + 1, A ++ [t], a', k', by go_num, by simp, HI2, by have := HO'.out; simp only [List.length_append, List.length_cons, List.length_nil, Nat.zero_add] at this ⊢; exact this⟩⟩
          case measure => simp [intOf]; omega
        · have HI2 := hide (HI.out.miss hlt hc)
          have hcn : ¬ ((s[i].toNat : Nat) : Int) = (c.toNat : Int) := fun h => hc (UInt8.toNat_inj.1 (by omega))
          have hcb : (((s[i].toNat : Nat) : Int) == (c.toNat : Int)) = false := beq_eq_false_iff_ne.2 hcn
          have hib : ((i : Int) == (s.length : Int)) = false := beq_eq_false_iff_ne.2 hne
          go_wp2_with fail
          go_roundw
          case rel => exact ⟨i + 1, by go_num, hB, .inl ⟨by omega, f, A, a, k, rfl, rfl, HI2, HO⟩⟩
          case measure => simp [intOf]; omega
    · have hgt : ¬ ((s.length : Int) + 1 ≤ (s.length : Int)) := by omega
      go_wp2_with fail
      go_ret
      exact ⟨a, k, rfl, HO.out, hB⟩

end Go.Proofs.YtjkialmhajbcfaaDoor

namespace Go.Proofs.YtjkialmhajbcfaaDoor
open Go.RowKit Fld Slp
set_option linter.unusedVariables false

def sgK (g : Tx) : Int := match sgP g with | some k => k | none => 0
def docO (n own : Nat) : List Tx → O4 × Bool
  | [_, _, x] => (⟨4, 0, 0, (nmN x 18446744073709551615 : Int)⟩, nmO x 18446744073709551615)
  | [_, _, x, g, y] => (⟨sgK g, rdV n own x, rdV n own y, 0⟩, true)
  | _ => (⟨0, 0, 0, 0⟩, true)
def dstO (n i : Nat) (l : Tx) : O4 := (docO n (n + i) (pcs 32 l)).1
def dstB (n i : Nat) (l : Tx) : Bool := (docO n (n + i) (pcs 32 l)).2 && (opM (dstO n i l) ((n : Int) + i) && (decide (i + 1 ≤ 256) && decide (stpT n i (dstO n i l) = l)))
theorem nmN_le (s : Tx) (m : Nat) : nmN s m ≤ m := by
  unfold nmN
  cases h : nmb s m with
  | none => exact Nat.zero_le _
  | some n => exact (nmb_some h).2
theorem rdV_in (n own : Nat) (x : Tx) : -1 ≤ rdV n own x ∧ rdV n own x ≤ (own : Int) := by
  unfold rdV
  cases h : valP n own x with
  | none => exact ⟨by decide, by show (-1 : Int) ≤ _; omega⟩
  | some v => obtain ⟨h0, h1, _⟩ := valP_some h; exact ⟨by show -1 ≤ v; omega, by show v ≤ _; omega⟩
theorem sgK_in (g : Tx) : 0 ≤ sgK g ∧ sgK g ≤ 3 := by
  unfold sgK
  cases h : sgP g with
  | none => exact ⟨by decide, by decide⟩
  | some k => obtain ⟨h0, _⟩ := sgP_some h; exact ⟨by show 0 ≤ k; omega, by show k ≤ 3; omega⟩
theorem docO_ok (n own : Nat) (ws : List Tx) (ho : own ≤ 1000) : Ok4 (docO n own ws).1 ∧ 0 ≤ (docO n own ws).1.c ∧ (docO n own ws).1.c ≤ 18446744073709551615 := by
  unfold docO
  split
  · rename_i x
    have := nmN_le x 18446744073709551615
    unfold Ok4
    dsimp only
    omega
  · rename_i x g y
    have h1 := rdV_in n own x
    have h2 := rdV_in n own y
    have h3 := sgK_in g
    unfold Ok4
    dsimp only
    omega
  · unfold Ok4
    dsimp only
    omega
theorem dst_some {n i : Nat} {l : Tx} {o : O4} (h : stP n i l = some o) (hw : n + i ≤ 9223372036854775807) : docO n (n + i) (pcs 32 l) = (o, true) := by
  obtain ⟨hm, hc, hl⟩ := stP_some h
  unfold opM at hm
  by_cases h1 : o.k = 1 ∨ o.k = 2 ∨ o.k = 3
  · rw [if_pos h1, decide_eq_true_iff] at hm
    obtain ⟨a0, a1, b0, b1, c0⟩ := hm
    rw [hl, stpT_two _ _ (by omega), pcs_jnt 32 _ (by simp) (fun w hw => by
      have : w = 116 :: dec i ∨ w = [61] ∨ w = valT n o.a ∨ w = [sgn o.k] ∨ w = valT n o.b := by simpa using hw
      rcases this with rfl | rfl | rfl | rfl | rfl
      · exact t_not
      · decide
      · exact valT_not (by decide)
      · exact sgn_not _
      · exact valT_not (by decide))]
    show ((⟨sgK [sgn o.k], rdV n (n + i) (valT n o.a), rdV n (n + i) (valT n o.b), 0⟩ : O4), true) = (o, true)
    unfold rdV sgK
    rw [valP_val a0 (by omega) hw, valP_val b0 (by omega) hw, sgP_sgn h1]
    show ((⟨o.k, o.a, o.b, 0⟩ : O4), true) = (o, true)
    rw [← c0]
  · rw [if_neg h1] at hm
    by_cases h4 : o.k = 4
    · rw [if_pos h4, decide_eq_true_iff] at hm
      rw [hl, stpT_four _ _ h4, pcs_jnt 32 _ (by simp) (fun w hw => by
        have : w = 116 :: dec i ∨ w = [61] ∨ w = dec o.c.toNat := by simpa using hw
        rcases this with rfl | rfl | rfl
        · exact t_not
        · decide
        · exact dec_not (.inl (by decide)))]
      show ((⟨4, 0, 0, (nmN (dec o.c.toNat) 18446744073709551615 : Int)⟩ : O4), nmO (dec o.c.toNat) 18446744073709551615) = (o, true)
      obtain ⟨e1, e2⟩ := nm_yes (nmb_dec (n := o.c.toNat) (most := 18446744073709551615) (by omega))
      rw [e1, e2, Int.toNat_of_nonneg hc.1]
      cases o; simp_all
    · rw [if_neg h4] at hm; cases hm
theorem dst_true {n i : Nat} {l : Tx} (hw : n + i ≤ 1000) (h : dstB n i l = true) : stP n i l = some (dstO n i l) ∧ i < 256 := by
  unfold dstB at h
  simp only [Bool.and_eq_true, decide_eq_true_eq] at h
  obtain ⟨_, hm, h256, he⟩ := h
  have hc := docO_ok n (n + i) (pcs 32 l) (by omega)
  refine ⟨?_, by omega⟩
  have := stP_stpT hm hc.2 (by omega)
  rw [he] at this; exact this
theorem dst_false {n i : Nat} {l : Tx} (hw : n + i ≤ 1000) (h : dstB n i l = false) : stP n i l = none ∨ 256 ≤ i := by
  cases hp : stP n i l with
  | none => exact .inl rfl
  | some o =>
    refine .inr (Classical.byContradiction (fun hlt => ?_))
    have e := dst_some hp (by omega)
    obtain ⟨hm, hc, hl⟩ := stP_some hp
    have e1 : dstO n i l = o := by unfold dstO; rw [e]
    have : dstB n i l = true := by
      unfold dstB
      rw [e, e1, hm]
      simp only [Bool.and_eq_true, decide_eq_true_eq, Bool.true_and]
      exact ⟨by omega, hl.symm⟩
    rw [this] at h; cases h

end Go.Proofs.YtjkialmhajbcfaaDoor

namespace Go.Proofs.YtjkialmhajbcfaaDoor
open Go.RowKit Fld Slp
set_option linter.unusedVariables false

theorem rdV_valT {n own : Nat} {v : Int} (h0 : 0 ≤ v) (h1 : v < own) (hw : own ≤ 9223372036854775807) : rdV n own (valT n v) = v := by unfold rdV; rw [valP_val h0 h1 hw]
theorem ou_doc {n : Nat} {ops : List O4} {w0 : Tx} {ws : List Tx} {l : Tx} (hn : n ≤ 64) (hle : ops.length ≤ 256) (hm : opsM n 0 ops = true) (hp : pcs 32 l = w0 :: ws) (h0 : w0 = ouW) :
    (mayB ⟨n, ops, ws.map (rdV n (n + ops.length))⟩ = true ∧ outT n (ws.map (rdV n (n + ops.length))) = l → ouP n (n + ops.length) l = some (ws.map (rdV n (n + ops.length)))) ∧
    (¬ (mayB ⟨n, ops, ws.map (rdV n (n + ops.length))⟩ = true ∧ outT n (ws.map (rdV n (n + ops.length))) = l) → ouP n (n + ops.length) l = none) := by
  constructor
  · rintro ⟨h1, h2⟩
    obtain ⟨⟨_, _, _, h3⟩, _, h5⟩ := mayB_iff.1 h1
    have := ouP_outT (n := n) (own := n + ops.length) (outs := ws.map (rdV n (n + ops.length))) (by omega) h3 (fun v hv => by
      have h6 := of_decide_eq_true (List.all_eq_true.1 h5 v hv)
      exact ⟨h6.1, by have h7 : v < (n : Int) + ops.length := h6.2; omega⟩)
    rw [h2] at this; exact this
  · intro h1
    cases ho : ouP n (n + ops.length) l with
    | none => rfl
    | some o =>
      exfalso
      obtain ⟨l1, l2, l3⟩ := ouP_some ho
      have e := out_pcs n o
      rw [← l3, hp] at e
      injection e with e1 e2
      have e3 : ws.map (rdV n (n + ops.length)) = o := by
        rw [e2, List.map_map]
        apply map_same
        intro i hi
        have := l2 o[i] (List.getElem_mem hi)
        exact rdV_valT this.1 (by omega) (by omega)
      refine h1 ⟨?_, by rw [e3]; exact l3.symm⟩
      rw [e3]
      refine mayB_iff.2 ⟨⟨by show (0 : Int) ≤ n; omega, by show (n : Int) ≤ 64; omega, hle, l1⟩, hm, ?_⟩
      show o.all _ = true
      rw [List.all_eq_true]
      intro v hv
      have := l2 v hv
      exact decide_eq_true ⟨this.1, by show v < (n : Int) + ops.length; omega⟩
/-- What stands when i lines are read: R is the whole answer. -/
structure DI (R : Pr × Nat) (ls : List Tx) (rest : Tx) (i : Nat) (d : Bool) (inp : Int) (ops : List O4) (outs : List Int) : Prop where
  zero : i = 0 → d = false ∧ inp = 0 ∧ ops = [] ∧ outs = [] ∧ R = rdT ls rest
  go : 0 < i → d = false → outs = [] ∧ ∃ n : Nat, inp = n ∧ n ≤ 64 ∧ R = rdGo n rest i ops (ls.drop i)
  don : 0 < i → d = true → ∃ n : Nat, inp = n ∧ n ≤ 64 ∧ R = if ls.drop i = [] ∧ rest = [] then ((⟨n, ops, outs⟩ : Pr), 0) else (pz, i + 1)
  inb : 0 ≤ inp ∧ inp ≤ 64
  len : ops.length ≤ 256
  may : opsM inp 0 ops = true
  ok : ∀ o ∈ ops, Ok4 o
theorem di_zero (ls : List Tx) (rest : Tx) : DI (rdT ls rest) ls rest 0 false 0 [] [] :=
  ⟨fun _ => ⟨rfl, rfl, rfl, rfl, rfl⟩, fun h => absurd h (Nat.lt_irrefl 0), fun h => absurd h (Nat.lt_irrefl 0), ⟨by decide, by decide⟩, by decide, rfl, (fun o ho => by cases ho)⟩
/-- The first line. -/
theorem DI.first {R : Pr × Nat} {ls : List Tx} {rest : Tx} {d : Bool} {inp : Int} {ops : List O4} {outs : List Int} (h : DI R ls rest 0 d inp ops outs) (hi : 0 < ls.length) :
    (∀ n : Nat, hdP ls[0] = some n → DI R ls rest 1 false n [] []) ∧ (hdP ls[0] = none → R = (pz, 0 + 1)) := by
  obtain ⟨_, _, _, _, hR⟩ := h.zero rfl
  obtain ⟨l, ls', rfl⟩ : ∃ l ls', ls = l :: ls' := by
    cases ls with
    | nil => simp at hi
    | cons l ls' => exact ⟨l, ls', rfl⟩
  constructor
  · intro n hn
    have hn' : hdP l = some n := hn
    have hle := (hdP_some hn').1
    have e : R = rdGo n rest 1 [] ls' := by
      rw [hR]
      show (match hdP l with | some n => rdGo n rest 1 [] ls' | none => (pz, 1)) = _
      rw [hn']
    exact ⟨(fun h => by cases h), fun _ _ => ⟨rfl, n, rfl, hle, e⟩, (fun _ h => by cases h), ⟨by omega, by omega⟩, by decide, rfl, (fun o ho => by cases ho)⟩
  · intro hn
    have hn' : hdP l = none := hn
    rw [hR]
    show (match hdP l with | some n => rdGo n rest 1 [] ls' | none => (pz, 1)) = _
    rw [hn']
theorem drop_at (ls : List Tx) {i : Nat} (h : i < ls.length) : ls.drop i = ls[i] :: ls.drop (i + 1) := List.drop_eq_getElem_cons h
/-- A line of outs. -/
theorem DI.outs {R : Pr × Nat} {ls : List Tx} {rest : Tx} {i : Nat} {inp : Int} {ops : List O4} {outs : List Int} (h : DI R ls rest i false inp ops outs) (hi0 : 0 < i) (hi : i < ls.length) (ho : isOut ls[i] = true) :
    outs = [] ∧ ∃ n : Nat, inp = n ∧ n ≤ 64 ∧ (∀ os, ouP n (n + ops.length) ls[i] = some os → DI R ls rest (i + 1) true n ops os) ∧ (ouP n (n + ops.length) ls[i] = none → R = (pz, i + 1)) := by
  obtain ⟨e0, n, rfl, hn, hR⟩ := h.go hi0 rfl
  rw [drop_at ls hi, rdGo, if_pos ho] at hR
  refine ⟨e0, n, rfl, hn, fun os hos => ?_, fun hno => ?_⟩
  · rw [hos] at hR
    exact ⟨(fun h => by omega), (fun _ h => by cases h), fun _ _ => ⟨n, rfl, hn, by rw [hR]⟩, h.inb, h.len, h.may, h.ok⟩
  · rw [hno] at hR; exact hR
/-- A line of a step. -/
theorem DI.step {R : Pr × Nat} {ls : List Tx} {rest : Tx} {i : Nat} {inp : Int} {ops : List O4} {outs : List Int} (h : DI R ls rest i false inp ops outs) (hi0 : 0 < i) (hi : i < ls.length) (ho : isOut ls[i] = false) :
    outs = [] ∧ ∃ n : Nat, inp = n ∧ n ≤ 64 ∧ (dstB n ops.length ls[i] = true → DI R ls rest (i + 1) false n (ops ++ [dstO n ops.length ls[i]]) []) ∧ (dstB n ops.length ls[i] = false → R = (pz, i + 1)) := by
  obtain ⟨e0, n, rfl, hn, hR⟩ := h.go hi0 rfl
  have hlen := h.len
  rw [drop_at ls hi, rdGo, if_neg (by rw [ho]; simp)] at hR
  refine ⟨e0, n, rfl, hn, fun hb => ?_, fun hb => ?_⟩
  · obtain ⟨h1, h2⟩ := dst_true (by omega) hb
    rw [h1] at hR
    have hR' : R = rdGo n rest (i + 1) (ops ++ [dstO n ops.length ls[i]]) (ls.drop (i + 1)) := by
      rw [hR]
      exact if_pos h2
    obtain ⟨s1, s2, s3⟩ := stP_some h1
    have hok := docO_ok n (n + ops.length) (pcs 32 ls[i]) (by omega)
    refine ⟨(fun h => by omega), fun _ _ => ⟨rfl, n, rfl, hn, hR'⟩, (fun _ h => by cases h), h.inb, by simp; omega, ?_, fun o ho => ?_⟩
    · rw [opsM_snoc, h.may, Nat.zero_add, s1]; rfl
    · rcases List.mem_append.1 ho with ho | ho
      · exact h.ok o ho
      · rw [List.mem_singleton.1 ho]; exact hok.1
  · rcases dst_false (by omega) hb with h1 | h1
    · rw [h1] at hR; exact hR
    · cases hp : stP n ops.length ls[i] with
      | none => rw [hp] at hR; exact hR
      | some o =>
        rw [hp] at hR
        rw [hR]
        exact if_neg (by omega)
/-- A line behind the last one. -/
theorem DI.more {R : Pr × Nat} {ls : List Tx} {rest : Tx} {i : Nat} {inp : Int} {ops : List O4} {outs : List Int} (h : DI R ls rest i true inp ops outs) (hi0 : 0 < i) (hi : i < ls.length) : R = (pz, i + 1) := by
  obtain ⟨n, rfl, hn, hR⟩ := h.don hi0 rfl
  rw [hR, if_neg]
  rw [drop_at ls hi]
  rintro ⟨e, _⟩; cases e
theorem DI.pos {R : Pr × Nat} {ls : List Tx} {rest : Tx} {i : Nat} {inp : Int} {ops : List O4} {outs : List Int} (h : DI R ls rest i true inp ops outs) : 0 < i := by
  rcases Nat.eq_zero_or_pos i with h0 | h0
  · obtain ⟨e, _⟩ := h.zero h0; cases e
  · exact h0
/-- The end. -/
theorem DI.fin {R : Pr × Nat} {ls : List Tx} {rest : Tx} {d : Bool} {inp : Int} {ops : List O4} {outs : List Int} (h : DI R ls rest ls.length d inp ops outs) :
    (d = false → R = (pz, ls.length + 1)) ∧ (d = true → rest ≠ [] → R = (pz, ls.length + 1)) ∧ (d = true → rest = [] → R = (⟨inp, ops, outs⟩, 0)) := by
  refine ⟨fun hd => ?_, fun hd hr => ?_, fun hd hr => ?_⟩
  · rcases Nat.eq_zero_or_pos ls.length with h0 | h0
    · have hR := (h.zero h0).2.2.2.2
      have : ls = [] := List.length_eq_zero_iff.1 h0
      rw [hR, this]; rfl
    · obtain ⟨_, n, _, _, hR⟩ := h.go h0 hd
      rw [hR, List.drop_length, rdGo]
  · subst hd
    obtain ⟨n, _, _, hR⟩ := h.don h.pos rfl
    rw [hR, if_neg (fun x => hr x.2)]
  · subst hd
    obtain ⟨n, e, _, hR⟩ := h.don h.pos rfl
    rw [hR, if_pos ⟨List.drop_length, hr⟩, e]

end Go.Proofs.YtjkialmhajbcfaaDoor

