import Derived.Test.YtpibiagohfnbmaaBPdsC
import Derived.Deep.CutBlock
set_option linter.unusedVariables false
set_option linter.unusedSimpArgs false
set_option maxRecDepth 100000
set_option maxHeartbeats 4000000
namespace Go.Proofs.Ytpibiagohfnbmaa
open Go.RowKit Fld Pln Rnk
def GivesQ (k : FuncId) (args : Array Value) (W : World) (xss : List (List Int)) (n0 e0 : Int) : Prop :=
 Calls Try.prog k args W fun e w' => ∃ v' us, e = .returned (.tuple #[v', .int .i64 n0, .int .i64 e0]) ∧ Mtx w' W.heap.size v' us xss ∧ Below W.heap.size W w'
theorem GivesQ.none {k : FuncId} {args : Array Value} {W : World} {e0 : Int} (h : Calls Try.prog k args W fun e w' => e = .returned (.tuple #[.slice none 0 0, .int .i64 0, .int .i64 e0]) ∧ Below W.heap.size W w') : GivesQ k args W [] 0 e0 :=
 h.mono fun e w' ⟨he, hb⟩ => ⟨_, [], he, (Lss.nil _ _ 0).mtx, hb⟩
def pdk (p : Pn) (tape : List Int) (a n k : Nat) : List (List Int) := mkl n (fun t => if t < k then drw p.f tape (a + t * p.w.toNat) p.w.toNat else [])
theorem pdk_len (p : Pn) (tape : List Int) (a n k : Nat) : (pdk p tape a n k).length = n := mkl_len _ _
theorem pdk_all (p : Pn) (tape : List Int) (a n : Nat) : pdk p tape a n n = pdR p tape a n := mkl_congr (fun t ht => by rw [if_pos ht])
theorem pdk_lay (p : Pn) (tape : List Int) {a n k : Nat} (hk : k < n) : (pdk p tape a n k).set k (drw p.f tape (a + k * p.w.toNat) p.w.toNat) = pdk p tape a n (k + 1) := by
 unfold pdk
 rw [mkl_set _ hk]
 refine mkl_congr (fun t ht => ?_)
 by_cases e : t = k
 · rw [if_pos e, if_pos (by omega), e]
 · rw [if_neg e]
   by_cases e2 : t < k
   · rw [if_pos e2, if_pos (by omega)]
   · rw [if_neg e2, if_neg (by omega)]
theorem pd_case (p : Pn) (tape : List Int) (a : Int) (hm : mayP p = true) :
 (pdE p tape a = 2 ∧ pdL p tape a = [] ∧ pdN p tape a = 0 ∧ ¬ (0 <= a ∧ a <= (tape.length : Int)))
 ∨ (pdE p tape a = 7 ∧ pdL p tape a = [] ∧ pdN p tape a = 0 ∧ (0 <= a ∧ a <= (tape.length : Int)) ∧ (tape.length : Int) - a < p.t * p.w)
 ∨ (pdE p tape a = 0 ∧ pdL p tape a = pdR p tape a.toNat p.t.toNat ∧ pdN p tape a = a + p.t * p.w ∧ (0 <= a ∧ a <= (tape.length : Int)) ∧ a + p.t * p.w <= (tape.length : Int)) := by
 have hf : fdB p.f = true := (may_iff.1 hm).1
 have hb := tw_bound hm
 have he : pdE p tape a = tdE p.f tape a (p.t * p.w) := if_pos hm
 unfold pdL pdN
 rw [he]
 rcases td_case p.f tape a (p.t * p.w) with ⟨e1, _, _, hc⟩ | ⟨e1, _, _, _, hp, _, hd⟩ | ⟨e1, _, _, _, hp, _, hd⟩
 · refine .inl ⟨e1, by rw [e1]; rfl, by rw [e1]; rfl, ?_⟩
   rcases hc with hc | ⟨_, hc⟩ | ⟨_, _, hc⟩
   · rw [hf] at hc; cases hc
   · exact hc
   · omega
 · exact .inr (.inl ⟨e1, by rw [e1]; rfl, by rw [e1]; rfl, hp, hd⟩)
 · exact .inr (.inr ⟨e1, if_pos e1, if_pos e1, hp, hd⟩)
theorem gBlocks (p : Pn) (v : Value) (tape : List Int) (a : Int) (w : World) (hp : Ok8p p) (h : Rw w v tape) (ha : -9223372036854775808 <= a ∧ a <= 9223372036854775807) :
 GivesQ 8 #[plv p, v, .int .i64 a] w (pdL p tape a) (pdN p tape a) (pdE p tape a) := by
 have hlen := h.len
 have HT := hide (fun W (hb : Below w.heap.size w W) b m hb1 hm1 => gTake p.f v tape b m W (h.below hb) hb1 hm1)
 obtain ⟨ao, cap, rfl, hcap⟩ := h.spell
 have HI := hide (fun W => gIsPlace ao tape.length cap a hlen W)
 have HM := hide (gMay p hp)
 obtain ⟨pb, hA⟩ := pb_box (w := w) p
 have HS := hide (fun W' (hb : Below (w.alloc (.cells #[.int .u8 p.f, .int .i64 p.n, .int .i64 p.k, .int .i64 p.t, .int .i64 p.s, .int .i64 p.e, .int .i64 p.d, .int .i64 p.w] 24)).heap.size _ W') => (pb.below hb).cells)
 obtain ⟨c0, c1, c2, c3, c4, c5, c6, c7⟩ := pb.cells
 obtain ⟨a0, a1⟩ := ha
 cases hm : mayP p with
 | false =>
  have e1 : pdE p tape a = 2 := by unfold pdE; rw [hm]; rfl
  rw [show pdL p tape a = [] by unfold pdL; rw [e1]; rfl, show pdN p tape a = 0 by unfold pdN; rw [e1]; rfl, e1]
  rw [hm] at HM
  apply GivesQ.none
  clear hm hp h HT HS pb e1
  generalize tape.length = n at *
  unfold plv plw at *
  go_enter Try.func8, Try.ntmps8
  go_wp2_with (first
   | (go_at_call 21; refine (HM.out _).mono ?_; rintro e w1 ⟨rfl, hb1⟩))
  go_ret3
  exact ⟨rfl, Below.next hA hb1⟩
 | true =>
  obtain ⟨_, _, ⟨t0, t1⟩, _, _, _, ⟨w0, w1⟩⟩ := may_facts hm
  have hf : fdB p.f = true := (may_iff.1 hm).1
  rw [hm] at HM
  rcases pd_case p tape a hm with ⟨e1, e2, e3, hc⟩ | hcase
  · rw [e1, e2, e3]
    rw [decide_eq_false hc] at HI
    apply GivesQ.none
    clear hm hp h HT HS pb e1 e2 e3 hc
    generalize tape.length = n at *
    unfold plv plw at *
    go_enter Try.func8, Try.ntmps8
    go_wp2_with (first
     | (go_at_call 21; refine (HM.out _).mono ?_; rintro e w1 ⟨rfl, hb1⟩)
     | (go_at_call 19; refine (HI.out _).mono ?_; rintro e w2 ⟨rfl, hw⟩; rw [hw]; clear hw))
    go_ret3
    exact ⟨rfl, Below.next hA hb1⟩
  · have hpl : 0 <= a ∧ a <= (tape.length : Int) := by rcases hcase with ⟨_, _, _, hq, _⟩ | ⟨_, _, _, hq, _⟩ <;> exact hq
    rw [decide_eq_true hpl] at HI
    obtain ⟨A, rfl⟩ : ∃ A : Nat, a = (A : Int) := ⟨a.toNat, by omega⟩
    obtain ⟨T, HTt⟩ : ∃ T : Nat, Hid (p.t = (T : Int)) := ⟨p.t.toNat, by show _ = _; omega⟩
    obtain ⟨K, HK⟩ : ∃ K : Nat, Hid (p.w = (K : Int)) := ⟨p.w.toNat, by show _ = _; omega⟩
    have HTn : Hid (p.t.toNat = T) := by show _ = _; rw [HTt.out]; rfl
    have HKn : Hid (p.w.toNat = K) := by show _ = _; rw [HK.out]; rfl
    have hT64 : T <= 64 := by have := HTt.out; omega
    have hK64 : 1 <= K ∧ K <= 64 := by have := HK.out; omega
    have HLY := hide (fun k (hk : k < T) => pdk_lay p tape (a := A) hk)
    rw [HKn.out] at HLY
    have HPL := hide (fun k => pdk_len p tape A T k)
    have HPA := hide (pdk_all p tape A T)
    have HDL := hide (fun k (hk : k + K <= tape.length) => drw_len (f := p.f) (tape := tape) hk)
    obtain ⟨RL, HRL⟩ : ∃ z, Hid (pdL p tape (A : Int) = z) := ⟨_, rfl⟩
    obtain ⟨RN, HRN⟩ : ∃ z, Hid (pdN p tape (A : Int) = z) := ⟨_, rfl⟩
    obtain ⟨RE, HRE⟩ : ∃ z, Hid (pdE p tape (A : Int) = z) := ⟨_, rfl⟩
    rw [HRL.out, HRN.out, HRE.out]
    have hmul : p.t * p.w = ((T * K : Nat) : Int) := by rw [HTt.out, HK.out]; push_cast; rfl
    have HF0 : Hid (A + T * K <= tape.length -> RE = 0 ∧ RL = pdk p tape A T T ∧ RN = ((A + T * K : Nat) : Int)) := fun hl => by
     rw [HRL.out, HRN.out, HRE.out, hmul] at hcase
     rcases hcase with ⟨_, _, _, _, q⟩ | ⟨q1, q2, q3, _, _⟩
     · omega
     · refine ⟨q1, ?_, by omega⟩
       rw [q2, Int.toNat_natCast, HTn.out, <- pdk_all]
    have HF7 : Hid (∀ k, k < T -> tape.length < A + k * K + K -> RE = 7 ∧ RL = [] ∧ RN = 0) := fun k hk hl => by
     rw [HRL.out, HRN.out, HRE.out, hmul] at hcase
     have hle : k * K + K <= T * K := by rw [<- Nat.succ_mul]; exact Nat.mul_le_mul_right K hk
     rcases hcase with ⟨q1, q2, q3, _⟩ | ⟨_, _, _, _, q⟩
     · exact ⟨q1, q2, q3⟩
     · omega
    have HT2 : Hid (∀ N W, Below w.heap.size w W -> N + K <= tape.length -> GivesP 6 #[.int .u8 p.f, .slice ao tape.length cap, .int .i64 (N : Int), .int .i64 (K : Int)] W (drw p.f tape N K) ((N : Int) + (K : Int)) 0) := fun N W hb hl => by
     have := HT.out W hb (N : Int) (K : Int) (by omega) (by omega)
     rcases td_case p.f tape (N : Int) (K : Int) with ⟨_, _, _, q⟩ | ⟨_, _, _, _, _, _, q⟩ | ⟨q1, q2, q3, _⟩
     · exfalso
       rcases q with q | ⟨_, q⟩ | ⟨_, _, q⟩
       · rw [hf] at q; cases q
       · omega
       · omega
     · omega
     · rw [q1, q2, q3] at this; exact this
    have HT3 : Hid (∀ N W, Below w.heap.size w W -> N <= tape.length -> tape.length < N + K -> GivesP 6 #[.int .u8 p.f, .slice ao tape.length cap, .int .i64 (N : Int), .int .i64 (K : Int)] W [] 0 7) := fun N W hb hl hk => by
     have := HT.out W hb (N : Int) (K : Int) (by omega) (by omega)
     rcases td_case p.f tape (N : Int) (K : Int) with ⟨_, _, _, q⟩ | ⟨q1, q2, q3, _⟩ | ⟨_, _, _, _, _, _, q⟩
     · exfalso
       rcases q with q | ⟨_, q⟩ | ⟨_, _, q⟩
       · rw [hf] at q; cases q
       · omega
       · omega
     · rw [q1, q2, q3] at this; exact this
     · omega
    have HM0 := hide (fun W => mtx_new W (lo := W.heap.size) (n := T) (Nat.le_refl _) (by omega) (fun t => if t < 0 then drw p.f tape (A + t * p.w.toNat) p.w.toNat else []) (fun t ht => if_neg (by omega)))
    rw [show mkl T (fun t => if t < 0 then drw p.f tape (A + t * p.w.toNat) p.w.toNat else []) = pdk p tape A T 0 from rfl] at HM0
    have hmk := makeN T (by omega)
    have hAl : A <= tape.length := by omega
    clear hcase hpl hf hm hp h HT pb hmul t0 t1 w0 w1 HTn HKn
    generalize pdk p tape A T = ps at *
    show Calls _ _ _ _ _
    unfold plv plw at *
    go_enter Try.func8, Try.ntmps8
    go_upto_region 1 with fail
    generalize w.alloc (.cells #[.int .u8 p.f, .int .i64 p.n, .int .i64 p.k, .int .i64 p.t, .int .i64 p.s, .int .i64 p.e, .int .i64 p.d, .int .i64 p.w] 24) = W0 at *
    rw [HTt.out, HK.out] at HS HM
    rw [HTt.out] at c3
    rw [HK.out] at c7
    go_upto_region 3 with (first
     | (go_at_call 21; refine (HM.out _).mono ?_; rintro e w1 ⟨rfl, hb1⟩; clear c0 c1 c2 c3 c4 c5 c6 c7; obtain ⟨c0, c1, c2, c3, c4, c5, c6, c7⟩ := HS.out _ hb1)
     | (go_at_call 19; refine (HI.out _).mono ?_; rintro e w2 ⟨rfl, hw⟩; rw [hw]; clear hw))
    have hB1 := Below.next hA hb1
    have hM1 := hide (HM0.out w1)
    have hal := alloc_below w1 (.cells (nvs T).toArray 25)
    go_wp2_with fail
    generalize w1.alloc (.cells (nvs T).toArray 25) = W2 at *
    clear hmk HM0 c0 c1 c2 c3 c4 c5 c6 c7
    go_loopw [6, 7, 25] (fun vp vn vi wr => ∃ (k : Nat) (us : List Value), k <= T ∧ vp = .slice (some ⟨w1.heap.size, 0, none⟩) T T ∧ vn = .int .i64 ((A + k * K : Nat) : Int) ∧ vi = .int .i64 (k : Int) ∧ Hid (A + k * K <= tape.length) ∧ Hid (Mtx wr w1.heap.size (.slice (some ⟨w1.heap.size, 0, none⟩) T T) us (ps k)) ∧ Below w1.heap.size w1 wr) (fun _ _ vi _ => T - (intOf vi).toNat)
    case atStart => exact ⟨0, _, Nat.zero_le _, rfl, by rw [Nat.zero_mul, Nat.add_zero], rfl, by show _ <= _; rw [Nat.zero_mul]; exact hAl, hM1, hal⟩
    case round =>
     clear hM1 hal
     obtain ⟨k, us, hk, rfl, rfl, rfl, HN, HM1, hB⟩ := hrel
     have hBw := Below.next hB1 hB
     obtain ⟨c0, c1, c2, c3, c4, c5, c6, c7⟩ := HS.out _ (Below.next hb1 hB)
     by_cases hlt : k < T
     · have HF7k := hide (HF7.out k hlt)
       have HLYk := hide (HLY.out k hlt)
       have hsuc : A + (k + 1) * K = A + k * K + K := by rw [Nat.succ_mul]; omega
       have Hsuc := hide hsuc
       have k0 : (0 : Int) <= (k : Int) := by omega
       have k1 : (k : Int) < (T : Int) := by omega
       have hnl := HN.out
       obtain ⟨N, HNN⟩ : ∃ N, Hid (A + k * K = N) := ⟨_, rfl⟩
       rw [HNN.out] at HF7k HLYk Hsuc hnl ⊢
       clear hsuc HF7 HLY HF0 HN
       by_cases hfit : N + K <= tape.length
       · have HC := hide (HT2.out N wr hBw hfit)
         have HD := hide (HDL.out N hfit)
         have HfN := hide hfit
         unfold GivesP at HC
         rw [HD.out] at HC
         clear HT2 HT3 HDL HF7k c1 c2 c3 c4 c5 c6 hfit
         generalize drw p.f tape N K = zs at *
         go_wp2_with (first
          | (go_at_call 6; refine HC.out.mono ?_; rintro e w3 ⟨v3, rfl, hO3, hb3⟩; have HM3 := hide (HM1.out.below hb3); have d3 := HM3.out.cell (i := k) (by rw [HPL.out]; exact hlt); have f3 := free_own (by have := HM3.out.row; rw [HPL.out] at this; exact this) k; have HO3 := hide hO3; obtain ⟨a3, q3, rfl⟩ := own_form hO3; clear hO3))
         have hOw : w3.ownsRow w1.heap.size 49 1 (.slice a3 K q3) zs.length (vals zs) := by rw [HD.out]; exact own_mono HO3.out hB.size
         have hlay := HM3.out.lay (by rw [HPL.out]) (k := k) (by rw [HPL.out]; exact hlt) hOw (fun i g hi hne hg e => by
          have h1 := HM1.out.tops hi hg
          have h2 := own_base HO3.out g e
          omega)
         rw [HLYk.out] at hlay
         have hlay2 := hide hlay
         have hB3 : Below w1.heap.size w1 (w3.setCell ⟨w1.heap.size, k, none⟩ (.slice a3 K q3)) := (Below.next hB hb3).setCell (p := ⟨w1.heap.size, k, none⟩) (Nat.le_refl _) _
         have hfit2 : A + (k + 1) * K <= tape.length := by rw [Hsuc.out]; exact HfN.out
         go_roundw
         case rel => exact ⟨k + 1, _, by omega, rfl, by rw [Hsuc.out]; go_num, by go_num, hfit2, hlay2, hB3⟩
         case measure => simp [intOf]; omega
       · have HC := hide (HT3.out N wr hBw hnl (by omega))
         unfold GivesP at HC
         have h7 := hide (HF7k.out (by omega))
         clear HT2 HT3 HDL HF7k HLYk c1 c2 c3 c4 c5 c6 hfit
         go_wp2_with (first
          | (go_at_call 6; refine HC.out.mono ?_; rintro e w3 ⟨v3, rfl, hO3, hb3⟩; have HM3 := hide (HM1.out.below hb3); have d3 := HM3.out.cell (i := k) (by rw [HPL.out]; exact hlt); have f3 := free_own (by have := HM3.out.row; rw [HPL.out] at this; exact this) k; have HO3 := hide hO3; obtain ⟨a3, q3, rfl⟩ := own_form hO3; clear hO3))
         go_ret3
         obtain ⟨r1, r2, r3⟩ := h7.out
         rw [r1, r2, r3]
         exact ⟨_, [], rfl, (Lss.nil _ _ 0).mtx, (Below.next hBw hb3).setCell (p := ⟨w1.heap.size, k, none⟩) hB1.size _⟩
     · obtain rfl : k = T := by omega
       have h0 := hide (HF0.out HN.out)
       clear HT2 HT3 HDL HF7 HLY HF0 c0 c1 c2 c3 c4 c5 c6 c7
       go_wp2
       go_ret3
       obtain ⟨r1, r2, r3⟩ := h0.out
       rw [r1, r2, r3]
       exact ⟨_, us, rfl, HM1.out.low hB1.size, hBw⟩
theorem rd_no {p : Pn} {tape : List Int} {a : Int} (h : ¬ (mayP p = true ∧ 0 <= a ∧ a <= (tape.length : Int))) : rdE19 p tape a = 2 ∧ rdN19 p tape a = 0 := by
 have e : rdE19 p tape a = 2 := if_neg h
 exact ⟨e, by unfold rdN19; rw [e]; rfl⟩
theorem rd_yes {p : Pn} {tape : List Int} {a : Int} (h : mayP p = true ∧ 0 <= a ∧ a <= (tape.length : Int)) : rdE19 p tape a = 0 ∧ rdN19 p tape a = if p.t * p.w = 0 then 65536 else if 65536 < ((tape.length : Int) - a) / (p.t * p.w) then 65536 else ((tape.length : Int) - a) / (p.t * p.w) := by
 have e : rdE19 p tape a = 0 := if_pos h
 exact ⟨e, if_pos e⟩
theorem quo_left {L D : Int} (h0 : 0 <= L) (h1 : L <= 17592186043904) (hD : 0 < D) : L.tdiv D = L / D ∧ 0 <= L / D ∧ L / D <= 17592186043904 :=
 ⟨Int.tdiv_eq_ediv_of_nonneg h0, Int.ediv_nonneg h0 (Int.le_of_lt hD), Int.le_trans (Int.ediv_le_self _ h0) h1⟩
theorem gRounds (p : Pn) (v : Value) (tape : List Int) (a : Int) (w : World) (hp : Ok8p p) (h : Rw w v tape) (ha : -9223372036854775808 <= a ∧ a <= 9223372036854775807) :
 Calls Try.prog 10 #[plv p, v, .int .i64 a] w fun e w' => e = .returned (.tuple #[.int .i64 (rdN19 p tape a), .int .i64 (rdE19 p tape a)]) ∧ Below w.heap.size w w' := by
 have hlen := h.len
 obtain ⟨ao, cap, rfl, hcap⟩ := h.spell
 have HI := hide (fun W => gIsPlace ao tape.length cap a hlen W)
 have HM := hide (gMay p hp)
 obtain ⟨pb, hA⟩ := pb_box (w := w) p
 have HS := hide (fun W' (hb : Below (w.alloc (.cells #[.int .u8 p.f, .int .i64 p.n, .int .i64 p.k, .int .i64 p.t, .int .i64 p.s, .int .i64 p.e, .int .i64 p.d, .int .i64 p.w] 24)).heap.size _ W') => (pb.below hb).cells)
 obtain ⟨a0, a1⟩ := ha
 cases hm : mayP p with
 | false =>
  obtain ⟨e1, e2⟩ := rd_no (p := p) (tape := tape) (a := a) (fun q => by rw [hm] at q; cases q.1)
  rw [e1, e2]
  rw [hm] at HM
  clear hm hp h HS pb e1 e2
  generalize tape.length = n at *
  unfold plv plw at *
  go_enter Try.func10, Try.ntmps10
  go_wp2_with (first
   | (go_at_call 21; refine (HM.out _).mono ?_; rintro e w1 ⟨rfl, hb1⟩))
  go_ret2
  exact ⟨rfl, Below.next hA hb1⟩
 | true =>
  obtain ⟨_, _, ⟨t0, t1⟩, _, _, _, ⟨w0, w1⟩⟩ := may_facts hm
  obtain ⟨d0, d1⟩ := tw_bound hm
  rw [hm] at HM
  by_cases hc : 0 <= a ∧ a <= (tape.length : Int)
  · obtain ⟨e1, e2⟩ := rd_yes ⟨hm, hc⟩
    rw [e1, e2]
    rw [decide_eq_true hc] at HI
    obtain ⟨q0, q1⟩ := hc
    obtain ⟨D, hD⟩ : ∃ D, p.t * p.w = D := ⟨_, rfl⟩
    rw [hD] at d0 d1 ⊢
    clear hm hp h pb e1 e2
    generalize tape.length = n at *
    unfold plv plw at *
    by_cases hz : D = 0
    · rw [if_pos hz]
      go_enter Try.func10, Try.ntmps10
      go_wp2_with (first
       | (go_at_call 21; refine (HM.out _).mono ?_; rintro e w1 ⟨rfl, hb1⟩; obtain ⟨c0, c1, c2, c3, c4, c5, c6, c7⟩ := HS.out _ hb1)
       | (go_at_call 19; refine (HI.out _).mono ?_; rintro e w2 ⟨rfl, hw⟩; rw [hw]; clear hw))
      go_ret2
      exact ⟨rfl, Below.next hA hb1⟩
    · rw [if_neg hz]
      obtain ⟨z1, z2, z3⟩ := quo_left (L := (n : Int) - a) (D := D) (by omega) (by omega) (by omega)
      generalize ((n : Int) - a) / D = Q at *
      by_cases hQ : 65536 < Q
      · rw [if_pos hQ]
        go_enter Try.func10, Try.ntmps10
        go_wp2_with (first
         | (go_at_call 21; refine (HM.out _).mono ?_; rintro e w1 ⟨rfl, hb1⟩; obtain ⟨c0, c1, c2, c3, c4, c5, c6, c7⟩ := HS.out _ hb1)
         | (go_at_call 19; refine (HI.out _).mono ?_; rintro e w2 ⟨rfl, hw⟩; rw [hw]; clear hw))
        go_ret2
        exact ⟨rfl, Below.next hA hb1⟩
      · rw [if_neg hQ]
        go_enter Try.func10, Try.ntmps10
        go_wp2_with (first
         | (go_at_call 21; refine (HM.out _).mono ?_; rintro e w1 ⟨rfl, hb1⟩; obtain ⟨c0, c1, c2, c3, c4, c5, c6, c7⟩ := HS.out _ hb1)
         | (go_at_call 19; refine (HI.out _).mono ?_; rintro e w2 ⟨rfl, hw⟩; rw [hw]; clear hw))
        go_ret2
        exact ⟨rfl, Below.next hA hb1⟩
  · obtain ⟨e1, e2⟩ := rd_no (p := p) (tape := tape) (a := a) (fun q => hc q.2)
    rw [e1, e2]
    rw [decide_eq_false hc] at HI
    clear hm hp h HS pb e1 e2 hc
    generalize tape.length = n at *
    unfold plv plw at *
    go_enter Try.func10, Try.ntmps10
    go_wp2_with (first
     | (go_at_call 21; refine (HM.out _).mono ?_; rintro e w1 ⟨rfl, hb1⟩)
     | (go_at_call 19; refine (HI.out _).mono ?_; rintro e w2 ⟨rfl, hw⟩; rw [hw]; clear hw))
    go_ret2
    exact ⟨rfl, Below.next hA hb1⟩
end Go.Proofs.Ytpibiagohfnbmaa
