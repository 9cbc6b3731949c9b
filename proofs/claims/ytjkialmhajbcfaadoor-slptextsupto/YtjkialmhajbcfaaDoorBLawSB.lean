/-
  The statements of layer 9: SlpBack walked.
-/
import Derived.Test.YtjkialmhajbcfaaDoorBLawSA
import Derived.Test.YtjkialmhajbcfaaDoorBSlwB
namespace Go.Proofs.YtjkialmhajbcfaaDoor
open Go.RowKit Fld Slp
set_option linter.unusedVariables false
set_option linter.unusedSimpArgs false

theorem tx_bytes (b : ByteArray) : Value.string b = tx b.data.toList := by unfold tx; simp

set_option maxRecDepth 100000 in
set_option maxHeartbeats 1000000 in
theorem back_any (w : World) (vp : Value) (p : Pr) (z : ByteArray) (hp : Pm w vp p) (hl : z.data.toList.length ≤ 281474976710656) (hT : Tb9 w) : Calls Tryd.prog 6 #[vp, .string z] w fun e w' => e = .returned (.bool true) ∧ Below w.heap.size w w' := by
  rw [tx_bytes]
  generalize z.data.toList = s at *
  have HP := hide hp
  have HT := hide hT
  clear hT
  have HCw := hide hp.cw
  obtain ⟨vo, vu, rfl, ho, hu⟩ := hp.form
  obtain ⟨ao, co, rfl, _⟩ := ho.spell
  obtain ⟨au, cu, rfl, _⟩ := hu.spell
  clear hp ho hu
  have hA := alloc_below w (.cells #[.int .i64 p.inp, .slice ao p.ops.length co, .slice au p.outs.length cu] 25)
  have hN := heap_alloc_new w (.cells #[.int .i64 p.inp, .slice ao p.ops.length co, .slice au p.outs.length cu] 25)
  have HX := hide (fun W' (hb : Below w.heap.size w W') => sText _ p W' (HP.out.below hb) (HT.out.below hb))
  have HM := hide (fun W' (hb : Below w.heap.size w W') => dMay _ p W' (HP.out.below hb))
  have HA := hide (fun W' (hb : Below w.heap.size w W') => anch9 W' (HT.out.below hb))
  unfold IsText at HX
  unfold Anch9 at HA
  cases hm : mayB p with
  | false =>
    have e1 : txtE p = 2 := by unfold txtE; rw [if_neg (by rw [hm]; simp)]
    rw [e1] at HX
    rw [hm] at HM
    generalize tx (txtT p) = T at *
    go_enter Tryd.func6, Tryd.ntmps6
    go_wp2_with (first
      | (go_at_call 14; refine (HX.out _ hA).mono ?_; rintro e w1 ⟨rfl, hb1⟩; have hB1 := Below.next hA hb1; obtain ⟨c0, c1, c2⟩ := cell3 ((hb1.block _ (Array.getElem?_eq_some_iff.1 hN).1).trans hN))
      | (go_at_call 10; refine (HM.out _ hB1).mono ?_; rintro e w2 ⟨rfl, hb2⟩; have hB2 := Below.next hB1 hb2)
      | (go_at_call 13; refine (HA.out _ hB2).mono ?_; rintro e w3 ⟨rfl, hb3⟩; have hB3 := Below.next hB2 hb3))
    go_ret
    exact ⟨rfl, hB3⟩
  | true =>
    have e1 : txtE p = 0 := by unfold txtE; rw [if_pos hm]
    have e2 : txtT p = txt p := by unfold txtT; rw [if_pos hm]
    have hlen : (txt p).length ≤ 281474976710656 := by
      have h1 := otx_len hm HCw.out p.outs.length (Nat.le_refl _)
      have h2 := (mayB_iff.1 hm).1
      rw [← otx_end]; simp; omega
    have HR := hide (fun W' (hb : Below w.heap.size w W') => sRead (txt p) W' hlen (HT.out.below hb))
    have hre : rdS (txt p) = (p, 0) := read_text hm HCw.out
    have hre2 : rdE (txt p) = 0 := by unfold rdE; rw [hre]; rfl
    unfold IsRead at HR
    rw [hre, hre2] at HR
    rw [e1, e2] at HX
    rw [hm] at HM
    have HS := hide (fun W' v2 (hb : Below w.heap.size w W') (h2 : Pm W' v2 p) => dSame _ v2 p p W' (HP.out.below hb) h2)
    unfold IsSame at HS
    have HR2 := hide (fun W' (hb : Below w.heap.size w W') => sRead s W' hl (HT.out.below hb))
    unfold IsRead at HR2
    by_cases hz : (rdS s).2 = 0
    · obtain ⟨hm2, _, ht2⟩ := text_read hz
      have hzE : rdE s = 0 := by unfold rdE; rw [if_pos hz]
      rw [hz, hzE] at HR2
      have HX2 := hide (fun W' v3 (hb : Below w.heap.size w W') (h3 : Pm W' v3 (rdS s).1) => sText v3 _ W' h3 (HT.out.below hb))
      unfold IsText at HX2
      have e3 : txtE (rdS s).1 = 0 := by unfold txtE; rw [if_pos hm2]
      have e4 : txtT (rdS s).1 = s := by unfold txtT; rw [if_pos hm2, ht2]
      rw [e3, e4] at HX2
      have HM2 := hide (fun W' v3 (h3 : Pm W' v3 (rdS s).1) => sMay v3 _ W' h3)
      rw [hm2] at HM2
      have g1 := tx_guard2 s s
      have g2 := tx_same (a := s) (b := s) rfl
      generalize (rdS s).1 = q at *
      generalize tx (txt p) = T at *
      generalize tx s = T2 at *
      clear hz hre hre2 hzE hlen ht2 hm2 e1 e2 e3 e4 hm hl
      go_enter Tryd.func6, Tryd.ntmps6
      go_wp2_with (first
        | (go_at_call 14; refine (HX2.out _ _ hB6 hp6).mono ?_; rintro e w7 ⟨rfl, hb7⟩; have hB7 := Below.next hB6 hb7)
        | (go_at_call 14; refine (HX.out _ hA).mono ?_; clear HX; rintro e w1 ⟨rfl, hb1⟩; have hB1 := Below.next hA hb1; have n1 := (hb1.block _ (Array.getElem?_eq_some_iff.1 hN).1).trans hN; obtain ⟨c0, c1, c2⟩ := cell3 n1)
        | (go_at_call 10; refine (HM.out _ hB1).mono ?_; rintro e w2 ⟨rfl, hb2⟩; have hB2 := Below.next hB1 hb2; have n2 := (hb2.block _ (Array.getElem?_eq_some_iff.1 n1).1).trans n1)
        | (go_at_call 16; refine (HR.out _ hB2).mono ?_; clear HR; rintro e w3 ⟨v3, rfl, hp3, hb3⟩; have hB3 := Below.next hB2 hb3; have hA3 := fun o => alloc_below w3 o; have hB4 := fun o => Below.next hB3 (hA3 o); have n3 := (hb3.block _ (Array.getElem?_eq_some_iff.1 n2).1).trans n2; have n4 := fun o => ((hA3 o).block _ (Array.getElem?_eq_some_iff.1 n3).1).trans n3; obtain ⟨yo, yu, hv3, ho3, hu3⟩ := hp3.form; obtain ⟨eo, fo, rfl, _⟩ := ho3.spell; obtain ⟨eu, fu, rfl, _⟩ := hu3.spell; subst hv3; have k0 := fun o => (cell3 (n4 o)).1; have k1 := fun o => (cell3 (n4 o)).2.1; have k2 := fun o => (cell3 (n4 o)).2.2; have HP4 := hide (fun o => hp3.below (hA3 o)); clear hp3 ho3 hu3 n3)
        | (go_at_call 12; refine (HS.out _ _ (hB4 _) (HP4.out _)).mono ?_; rintro e w5 ⟨r5, rfl, hr5, hb5⟩; obtain rfl : r5 = true := (by simpa using hr5); clear hr5; have hB5 := Below.next (hB4 _) hb5)
        | (go_at_call 16; refine (HR2.out _ hB5).mono ?_; rintro e w6' ⟨v6, rfl, hp6', hb6'⟩; have hB6' := Below.next hB5 hb6'; obtain ⟨zo, zu, hv6, ho6, hu6⟩ := hp6'.form; obtain ⟨io, jo, rfl, _⟩ := ho6.spell; obtain ⟨iu, ju, rfl, _⟩ := hu6.spell; subst hv6; have hA6 := alloc_below w6' (.cells #[.int .i64 q.inp, .slice io q.ops.length jo, .slice iu q.outs.length ju] 25); have hN6 := heap_alloc_new w6' (.cells #[.int .i64 q.inp, .slice io q.ops.length jo, .slice iu q.outs.length ju] 25); have hB6 := Below.next hB6' hA6; have hp6 := hp6'.below hA6; clear ho6 hu6)
        | (go_at_call 13; refine (HA.out _ hB7).mono ?_; rintro e w8 ⟨rfl, hb8⟩; have hB8 := Below.next hB7 hb8; have hp8 := (hp6.below hb7).below hb8; have n8 := (hb8.block _ (Nat.lt_of_lt_of_le (Array.getElem?_eq_some_iff.1 hN6).1 hb7.size)).trans ((hb7.block _ (Array.getElem?_eq_some_iff.1 hN6).1).trans hN6); obtain ⟨q0, q1, q2⟩ := cell3 n8)
        | (go_at_call 9; refine (HM2.out _ _ hp8).mono ?_; rintro e w9 ⟨rfl, hb9⟩; have hB9 := Below.next hB8 hb9))
      go_ret
      exact ⟨rfl, hB9⟩
    · have hzE : rdE s = 90 := by unfold rdE; rw [if_neg hz]
      rw [hzE] at HR2
      obtain ⟨m, hm9⟩ : ∃ m : Nat, (rdS s).2 = m + 1 := ⟨(rdS s).2 - 1, by omega⟩
      have hge : (1 : Int) ≤ ((m + 1 : Nat) : Int) := by omega
      rw [hm9] at HR2
      generalize ((m + 1 : Nat) : Int) = mm at *
      generalize (rdS s).1 = q at *
      generalize tx (txt p) = T at *
      generalize tx s = T2 at *
      clear hz hre hre2 hzE hlen e1 e2 hm hl hm9
      go_enter Tryd.func6, Tryd.ntmps6
      go_wp2_with (first
        | (go_at_call 14; refine (HX.out _ hA).mono ?_; clear HX; rintro e w1 ⟨rfl, hb1⟩; have hB1 := Below.next hA hb1; have n1 := (hb1.block _ (Array.getElem?_eq_some_iff.1 hN).1).trans hN; obtain ⟨c0, c1, c2⟩ := cell3 n1)
        | (go_at_call 10; refine (HM.out _ hB1).mono ?_; rintro e w2 ⟨rfl, hb2⟩; have hB2 := Below.next hB1 hb2; have n2 := (hb2.block _ (Array.getElem?_eq_some_iff.1 n1).1).trans n1)
        | (go_at_call 16; refine (HR.out _ hB2).mono ?_; clear HR; rintro e w3 ⟨v3, rfl, hp3, hb3⟩; have hB3 := Below.next hB2 hb3; have hA3 := fun o => alloc_below w3 o; have hB4 := fun o => Below.next hB3 (hA3 o); have n3 := (hb3.block _ (Array.getElem?_eq_some_iff.1 n2).1).trans n2; have n4 := fun o => ((hA3 o).block _ (Array.getElem?_eq_some_iff.1 n3).1).trans n3; obtain ⟨yo, yu, hv3, ho3, hu3⟩ := hp3.form; obtain ⟨eo, fo, rfl, _⟩ := ho3.spell; obtain ⟨eu, fu, rfl, _⟩ := hu3.spell; subst hv3; have k0 := fun o => (cell3 (n4 o)).1; have k1 := fun o => (cell3 (n4 o)).2.1; have k2 := fun o => (cell3 (n4 o)).2.2; have HP4 := hide (fun o => hp3.below (hA3 o)); clear hp3 ho3 hu3 n3)
        | (go_at_call 12; refine (HS.out _ _ (hB4 _) (HP4.out _)).mono ?_; rintro e w5 ⟨r5, rfl, hr5, hb5⟩; obtain rfl : r5 = true := (by simpa using hr5); clear hr5; have hB5 := Below.next (hB4 _) hb5)
        | (go_at_call 16; refine (HR2.out _ hB5).mono ?_; rintro e w6' ⟨v6, rfl, hp6', hb6'⟩; have hB6' := Below.next hB5 hb6'; obtain ⟨zo, zu, hv6, ho6, hu6⟩ := hp6'.form; obtain ⟨io, jo, rfl, _⟩ := ho6.spell; obtain ⟨iu, ju, rfl, _⟩ := hu6.spell; subst hv6; have hA6 := alloc_below w6' (.cells #[.int .i64 q.inp, .slice io q.ops.length jo, .slice iu q.outs.length ju] 25); have hB6 := Below.next hB6' hA6; clear ho6 hu6)
        | (go_at_call 13; refine (HA.out _ hB6).mono ?_; rintro e w8 ⟨rfl, hb8⟩; have hB8 := Below.next hB6 hb8))
      go_ret
      exact ⟨rfl, hB8⟩

end Go.Proofs.YtjkialmhajbcfaaDoor
