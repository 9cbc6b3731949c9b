/-
  The statements of layer 9: SlpTexts walked.
-/
import Derived.Test.YtjkialmhajbcfaaDoorBLawSB
import Derived.Test.YtjkialmhajbcfaaDoorBSlyI
namespace Go.Proofs.YtjkialmhajbcfaaDoor
open Go.RowKit Fld Slp
set_option linter.unusedVariables false
set_option linter.unusedSimpArgs false

set_option maxRecDepth 100000 in
set_option maxHeartbeats 1000000 in
theorem texts_any (w : World) (vp : Value) (p : Pr) (z : ByteArray) (hp : Pm w vp p) (hl : z.data.toList.length ≤ 1048576) (hT : Tb9 w) : Calls Tryd.prog 4 #[vp, .string z] w fun e w' => e = .returned (.bool true) ∧ Below w.heap.size w w' := by
  rw [tx_bytes]
  generalize z.data.toList = s at *
  have HP := hide hp
  have HT := hide hT
  clear hT
  obtain ⟨vo, vu, rfl, ho, hu⟩ := hp.form
  obtain ⟨ao, co, rfl, _⟩ := ho.spell
  obtain ⟨au, cu, rfl, _⟩ := hu.spell
  clear hp ho hu
  have hA := alloc_below w (.cells #[.int .i64 p.inp, .slice ao p.ops.length co, .slice au p.outs.length cu] 25)
  have hN := heap_alloc_new w (.cells #[.int .i64 p.inp, .slice ao p.ops.length co, .slice au p.outs.length cu] 25)
  have HX := hide (fun W' (hb : Below w.heap.size w W') => sText _ p W' (HP.out.below hb) (HT.out.below hb))
  have HD := hide (fun W' (hb : Below w.heap.size w W') => dText _ p W' (HP.out.below hb) (HT.out.below hb))
  have HR := hide (fun W' (hb : Below w.heap.size w W') => sRead s W' (by omega) (HT.out.below hb))
  have HQ := hide (fun W' (hb : Below w.heap.size w W') => dRead s W' hl (HT.out.below hb))
  unfold IsText at HX HD
  unfold IsRead at HR HQ
  have HS := hide (fun W' v1 v2 (h1 : Pm W' v1 (rdS s).1) (h2 : Pm W' v2 (rdS s).1) => dSame v1 v2 _ _ W' h1 h2)
  unfold IsSame at HS
  have g1 := tx_guard2 (txtT p) (txtT p)
  have g2 := tx_same (a := txtT p) (b := txtT p) rfl
  generalize tx (txtT p) = T at *
  generalize txtE p = te at *
  generalize (rdS s).1 = q at *
  generalize (((rdS s).2 : Nat) : Int) = m at *
  generalize rdE s = re at *
  generalize tx s = T2 at *
  go_enter Tryd.func4, Tryd.ntmps4
  go_wp2_with (first
    | (go_at_call 14; refine (HX.out _ hA).mono ?_; rintro e w1 ⟨rfl, hb1⟩; have hB1 := Below.next hA hb1; have n1 := (hb1.block _ (Array.getElem?_eq_some_iff.1 hN).1).trans hN; obtain ⟨c0, c1, c2⟩ := cell3 n1)
    | (go_at_call 15; refine (HD.out _ hB1).mono ?_; rintro e w2 ⟨rfl, hb2⟩; have hB2 := Below.next hB1 hb2)
    | (go_at_call 16; refine (HR.out _ hB2).mono ?_; rintro e w3 ⟨v3, rfl, hp3, hb3⟩; have hB3 := Below.next hB2 hb3; obtain ⟨yo, yu, hv3, ho3, hu3⟩ := hp3.form; obtain ⟨eo, fo, rfl, _⟩ := ho3.spell; obtain ⟨eu, fu, rfl, _⟩ := hu3.spell; subst hv3; have hA3 := alloc_below w3 (.cells #[.int .i64 q.inp, .slice eo q.ops.length fo, .slice eu q.outs.length fu] 25); have hN3 := heap_alloc_new w3 (.cells #[.int .i64 q.inp, .slice eo q.ops.length fo, .slice eu q.outs.length fu] 25); have hB4 := Below.next hB3 hA3; have HP4 := hide (hp3.below hA3); clear hp3 ho3 hu3)
    | (go_at_call 17; refine (HQ.out _ hB4).mono ?_; rintro e w5 ⟨v5, rfl, hp5, hb5⟩; have hB5 := Below.next hB4 hb5; obtain ⟨zo, zu, hv5, ho5, hu5⟩ := hp5.form; obtain ⟨io, jo, rfl, _⟩ := ho5.spell; obtain ⟨iu, ju, rfl, _⟩ := hu5.spell; subst hv5; have hA5 := alloc_below w5 (.cells #[.int .i64 q.inp, .slice io q.ops.length jo, .slice iu q.outs.length ju] 25); have hB6 := Below.next hB5 hA5; have HP6 := hide (hp5.below hA5); have HP7 := hide ((HP4.out.below hb5).below hA5); obtain ⟨x0, x1, x2⟩ := cell3 ((hA5.block _ (Nat.lt_of_lt_of_le (Array.getElem?_eq_some_iff.1 hN3).1 hb5.size)).trans ((hb5.block _ (Array.getElem?_eq_some_iff.1 hN3).1).trans hN3)); clear hp5 ho5 hu5)
    | (go_at_call 12; refine (HS.out _ _ _ HP7.out HP6.out).mono ?_; rintro e w7 ⟨r7, rfl, hr7, hb7⟩; obtain rfl : r7 = true := (by simpa using hr7); clear hr7; have hB7 := Below.next hB6 hb7))
  go_ret
  exact ⟨rfl, hB7⟩

end Go.Proofs.YtjkialmhajbcfaaDoor
