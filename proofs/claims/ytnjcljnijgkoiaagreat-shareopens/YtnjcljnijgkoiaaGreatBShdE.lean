/-
  Layer 14: the document's own package: Open where it answers an error ahead of the names.
-/
import Derived.Test.YtnjcljnijgkoiaaGreatBunHF
import Derived.Test.YtnjcljnijgkoiaaGreatBunHD
namespace Go.Proofs.YtnjcljnijgkoiaaGreat
open Go.RowKit Fld Pln Shr
set_option linter.unusedVariables false
set_option linter.unusedSimpArgs false

/-- The error behind the names' bounds, and behind their number. -/
def opA (p : Pn) (who : List Int) (l : List (List Int)) : Int := if whoB p.n who then bdE p l (p.k + p.t) else 2
def opB (p : Pn) (who : List Int) (l : List (List Int)) : Int := if opA p who l = 0 ∧ ¬ (who.length : Int) = p.k + p.t then 3 else opA p who l
theorem op_ab {p : Pn} {who : List Int} {l : List (List Int)} (hm : mayP p = true) : opE p who l = if opB p who l = 0 then (if who.Nodup then 0 else 6) else opB p who l := by
  unfold opE opB opA bdE
  rw [hm]
  cases elsB p.f l <;> cases whoB p.n who <;> cases blkB p.w (p.k + p.t) l <;> by_cases hl : (who.length : Int) = p.k + p.t <;> simp [hl]
theorem op_no {p : Pn} {who : List Int} {l : List (List Int)} (hm : mayP p = false) : opE p who l = 2 := by
  unfold opE
  rw [hm]; rfl
theorem op_none {p : Pn} {who : List Int} {l : List (List Int)} (h : ¬ opE p who l = 0) : opdL p who l = [] ∧ oppL p who l = [] := by
  unfold opdL oppL
  rw [if_neg h, if_neg h]; exact ⟨rfl, rfl⟩
/-- The error while the names' bounds are asked. -/
def whE (n b0 : Int) (who : List Int) (k : Nat) : Int := if whoB n (who.take k) then b0 else 2
theorem whE_yes {n b0 : Int} {who : List Int} {k : Nat} (hk : k < who.length) (h : 0 ≤ who.getD k 0 ∧ who.getD k 0 < n) : whE n b0 who (k + 1) = whE n b0 who k := by
  unfold whE
  have : whoB n (who.take (k + 1)) = whoB n (who.take k) := by
    rw [← take_snocI hk]
    unfold whoB
    rw [List.all_append, List.all_cons, List.all_nil, decide_eq_true h, Bool.and_true, Bool.and_true]
  rw [this]
theorem whE_no {n b0 : Int} {who : List Int} {k : Nat} (hk : k < who.length) (h : ¬ (0 ≤ who.getD k 0 ∧ who.getD k 0 < n)) : whE n b0 who (k + 1) = 2 := by
  unfold whE
  have : whoB n (who.take (k + 1)) = false := by
    rw [← take_snocI hk]
    unfold whoB
    rw [List.all_append, List.all_cons, List.all_nil, decide_eq_false h, Bool.and_true, Bool.and_false]
  rw [this]; rfl

set_option maxRecDepth 100000 in
set_option maxHeartbeats 1600000 in
theorem dOpen_no (p : Pn) (vw vs : Value) (who : List Int) (l : List (List Int)) (w : World) (hp : Ok8p p) (h1 : Rws w vs l) (h3 : Lm iw 1 w vw who) (hno : mayP p = false ∨ (mayP p = true ∧ ¬ opB p who l = 0)) :
    Calls Tryz.prog 17 #[plv p, vw, vs] w fun e w' => e = .returned (.tuple #[.slice none 0 0, .slice none 0 0, .int .i64 (opE p who l)]) ∧ Below w.heap.size w w' := by
  obtain ⟨pb, hA⟩ := pb_box (w := w) p
  have HM := hide (dMayP p hp)
  have HS := hide (fun W' (hb : Below (w.alloc (.cells #[.int .u8 p.f, .int .i64 p.n, .int .i64 p.k, .int .i64 p.t, .int .i64 p.s, .int .i64 p.e, .int .i64 p.d, .int .i64 p.w] 24)).heap.size _ W') => (pb.below hb).cells)
  obtain ⟨c0, c1, c2, c3, c4, c5, c6, c7⟩ := pb.cells
  have HL := hide h3
  have hln := h3.len
  have HB := hide (fun W (hb : Below w.heap.size w W) => dBad1 p (p.k + p.t) vs l W (h1.below hb))
  obtain ⟨asl, csl, rfl, _, _, _⟩ := h1
  obtain ⟨aw, cw, rfl, _⟩ := h3.spell
  rcases hno with hm | ⟨hm, hz⟩
  · rw [op_no hm]
    rw [hm] at HM
    clear hm pb hp HB HL h3
    rw [plan_eq] at *
    generalize l.length = nl at *
    generalize who.length = nw at *
    go_enter Tryz.func17, Tryz.ntmps17
    go_wp2_with (go_at_call 38; refine (HM.out _).mono ?_; rintro e w1 ⟨rfl, hb1⟩)
    go_ret3
    exact ⟨rfl, Below.next hA hb1⟩
  · obtain ⟨_, ⟨k0, k1⟩, ⟨t0, t1⟩, _⟩ := may_facts hm
    rw [op_ab hm, if_neg hz]
    rw [hm] at HM
    have HEy := hide (fun k hk h => whE_yes (n := p.n) (b0 := bdE p l (p.k + p.t)) (who := who) (k := k) hk h)
    have HEn := hide (fun k hk h => whE_no (n := p.n) (b0 := bdE p l (p.k + p.t)) (who := who) (k := k) hk h)
    have HE0 : Hid (whE p.n (bdE p l (p.k + p.t)) who 0 = bdE p l (p.k + p.t)) := rfl
    have HEl : Hid (whE p.n (bdE p l (p.k + p.t)) who who.length = opA p who l) := by show _ = _; unfold whE opA; rw [List.take_length]
    have Hob : Hid (opB p who l = if opA p who l = 0 ∧ ¬ (who.length : Int) = p.k + p.t then 3 else opA p who l) := rfl
    have Hz := hide hz
    clear hm hz pb hp h3
    generalize whE p.n (bdE p l (p.k + p.t)) who = E at *
    generalize bdE p l (p.k + p.t) = b0 at *
    generalize opA p who l = ea at *
    generalize opB p who l = eb at *
    rw [plan_eq] at *
    generalize l.length = nl at *
    go_enter Tryz.func17, Tryz.ntmps17
    go_upto_region 1 with fail
    generalize w.alloc (.cells #[.int .u8 p.f, .int .i64 p.n, .int .i64 p.k, .int .i64 p.t, .int .i64 p.s, .int .i64 p.e, .int .i64 p.d, .int .i64 p.w] 24) = W0 at *
    go_wp2_with (first
      | (go_at_call 38; refine (HM.out _).mono ?_; rintro e w1 ⟨rfl, hb1⟩; have hC1 := hb1; have hB1 := Below.next hA hC1; clear c0 c1 c2 c3 c4 c5 c6 c7; obtain ⟨c0, c1, c2, c3, c4, c5, c6, c7⟩ := HS.out _ hC1)
      | (go_at_call 42; refine (HB.out _ hB1).mono ?_; rintro e w2 ⟨rfl, hb2⟩; have hC2 := Below.next hC1 hb2; have hB2 := Below.next hA hC2))
    clear c0 c1 c2 c3 c4 c5 c6 c7 HB HM
    go_loopw [9, 10] (fun ve vi wr => ∃ k : Nat, k ≤ who.length ∧ vi = .int .i64 k ∧ ve = .int .i64 (E k) ∧ Below W0.heap.size W0 wr) (fun _ vi _ => who.length - (intOf vi).toNat)
    case atStart => exact ⟨0, Nat.zero_le _, rfl, by rw [HE0.out], hC2⟩
    case round =>
      clear hC2 hB2 hb2 hb1 hC1 hB1
      obtain ⟨k, hk, rfl, rfl, hB⟩ := hrel
      by_cases hlt : k < who.length
      · obtain ⟨b, off, cp, heq, _, _⟩ := HL.out.form (by omega)
        cases heq
        have hck := (lmi_cell HL.out (Below.next hA hB) hlt).2
        have k0' : (0 : Int) ≤ (k : Int) := by omega
        have k1' : (k : Int) < (who.length : Int) := by omega
        obtain ⟨c0, c1, c2, c3, c4, c5, c6, c7⟩ := HS.out _ hB
        by_cases hi : 0 ≤ who.getD k 0 ∧ who.getD k 0 < p.n
        · have HEk := hide (HEy.out k hlt hi)
          obtain ⟨q1, q2⟩ := hi
          generalize who.getD k 0 = x at *
          have q3 : ¬ x < 0 := by omega
          have q4 : ¬ p.n ≤ x := by omega
          clear HEy HEn HE0 HEl Hob Hz
          generalize hEk : E k = ek at *
          go_upto_region 7 with fail
          go_quiet (fail)
          have hB2 := below_drewN hB nq
          clear c0 c1 c2 c3 c4 c5 c6 c7
          go_wp2
          go_roundw
          case rel => exact ⟨k + 1, by omega, by go_num, by rw [HEk.out], hB2⟩
          case measure => simp [intOf]; omega
        · have HEk := hide (HEn.out k hlt hi)
          generalize who.getD k 0 = x at *
          clear HEy HEn HE0 HEl Hob Hz
          generalize hEk : E k = ek at *
          by_cases hx : x < 0
          · clear hi
            go_upto_region 7 with fail
            go_quiet (fail)
            have hB2 := below_drewN hB nq
            clear c0 c1 c2 c3 c4 c5 c6 c7
            go_wp2
            go_roundw
            case rel => exact ⟨k + 1, by omega, by go_num, by rw [HEk.out], hB2⟩
            case measure => simp [intOf]; omega
          · have hx2 : p.n ≤ x := by omega
            clear hi
            go_upto_region 7 with fail
            go_quiet (fail)
            have hB2 := below_drewN hB nq
            clear c0 c1 c2 c3 c4 c5 c6 c7
            go_wp2
            go_roundw
            case rel => exact ⟨k + 1, by omega, by go_num, by rw [HEk.out], hB2⟩
            case measure => simp [intOf]; omega
      · obtain rfl : k = who.length := by omega
        obtain ⟨c0, c1, c2, c3, c4, c5, c6, c7⟩ := HS.out _ hB
        have hBe := Below.next hA hB
        rw [HEl.out]
        clear HEy HEn HE0 HEl HL HS
        generalize who.length = nw at *
        by_cases h0 : ea = 0
        · subst h0
          have hne : ¬ (nw : Int) = p.k + p.t := fun e => Hz.out (by rw [Hob.out, if_neg (fun h => h.2 e)])
          have hr : eb = 3 := by rw [Hob.out, if_pos ⟨rfl, hne⟩]
          subst hr
          have ht : ((nw : Int) != p.k + p.t) = true := bne_iff_ne.2 hne
          clear Hob Hz hne
          by_cases hw0 : 0 < (nw : Int)
          · go_wp2_with fail
            refine wp_loop_rounds 2 ?_
            rw [rounds_succ]
            go_wp2
            go_ret3
            exact ⟨rfl, hBe⟩
          · obtain rfl : nw = 0 := by omega
            go_wp2_with fail
            refine wp_loop_rounds 2 ?_
            rw [rounds_succ]
            go_wp2
            go_ret3
            exact ⟨rfl, hBe⟩
        · have hr : eb = ea := by rw [Hob.out, if_neg (fun h => h0 h.1)]
          subst hr
          have ht : (eb == 0) = false := by simpa using h0
          have ht2 : (eb != 0) = true := bne_iff_ne.2 h0
          clear Hob Hz h0
          by_cases hw0 : 0 < (nw : Int)
          · go_wp2_with fail
            refine wp_loop_rounds 2 ?_
            rw [rounds_succ]
            go_wp2
            go_ret3
            exact ⟨rfl, hBe⟩
          · obtain rfl : nw = 0 := by omega
            go_wp2_with fail
            refine wp_loop_rounds 2 ?_
            rw [rounds_succ]
            go_wp2
            go_ret3
            exact ⟨rfl, hBe⟩

end Go.Proofs.YtnjcljnijgkoiaaGreat
