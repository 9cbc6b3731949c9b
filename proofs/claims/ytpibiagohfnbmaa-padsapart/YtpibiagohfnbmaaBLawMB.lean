import Derived.Test.YtpibiagohfnbmaaBLawMA
import Derived.Test.YtpibiagohfnbmaaBunYJ
set_option linter.unusedVariables false
set_option linter.unusedSimpArgs false
set_option maxRecDepth 100000
set_option maxHeartbeats 4000000
namespace Go.Proofs.Ytpibiagohfnbmaa
open Go.RowKit Fld Pln Rnk
theorem td_ok {f : Int} (hf : fdB f = true) {tape : List Int} {a m : Nat} (h : a + m <= tape.length) : tdL f tape (a : Int) (m : Int) = drw f tape a m ∧ tdN f tape (a : Int) (m : Int) = ((a + m : Nat) : Int) ∧ tdE f tape (a : Int) (m : Int) = 0 := by
 have e : tdE f tape (a : Int) (m : Int) = 0 := td_zero.2 ⟨hf, by omega, by omega, by omega⟩
 refine ⟨?_, ?_, e⟩
 · rw [show tdL f tape (a : Int) (m : Int) = drw f tape (a : Int).toNat (m : Int).toNat from if_pos e, Int.toNat_natCast, Int.toNat_natCast]
 · rw [show tdN f tape (a : Int) (m : Int) = (a : Int) + (m : Int) from if_pos e]; push_cast; rfl
theorem td_seven {f : Int} (hf : fdB f = true) {tape : List Int} {a m : Nat} (h : tape.length < a + m) (ha : a <= tape.length) : tdL f tape (a : Int) (m : Int) = [] ∧ tdN f tape (a : Int) (m : Int) = 0 ∧ tdE f tape (a : Int) (m : Int) = 7 := by
 rcases td_case f tape (a : Int) (m : Int) with ⟨_, _, _, q⟩ | ⟨q1, q2, q3, _⟩ | ⟨_, _, _, _, _, _, q⟩
 · exfalso
   rcases q with q | ⟨_, q⟩ | ⟨_, _, q⟩
   · rw [hf] at q; cases q
   · omega
   · omega
 · exact ⟨q2, q3, q1⟩
 · omega
theorem td_some {f : Int} {tape : List Int} {a m : Nat} (h : tape.length < a + m) : tdE f tape (a : Int) (m : Int) ≠ 0 := fun e => by
 have := (td_zero.1 e).2.2.2
 omega
theorem arr3_box {w W : World} {a b c : Int} {T : TypeId} (hW : w.alloc (.cells #[.int .u8 a, .int .u8 b, .int .u8 c] T) = W) : W.cell? ⟨w.heap.size, 0, none⟩ = some (.int .u8 a) ∧ W.cell? ⟨w.heap.size, 1, none⟩ = some (.int .u8 b) ∧ W.cell? ⟨w.heap.size, 2, none⟩ = some (.int .u8 c) ∧ Below w.heap.size w W := by
 subst hW
 exact ⟨by simp [go_sem], by simp [go_sem], by simp [go_sem], alloc_below _ _⟩
theorem wpList_app_run {ops : Array Oper} {rest : List Oper} {o : Oper} {a : Act} {w w' : World} {Q : Exit -> Act -> World -> Prop} (j : Nat) (b : Bool) (hg : o.guard = some (j, b)) (hy : yielded ops a.tmps j = some b) (s x : Operand) (t : TypeId)
 (ho : o.op = .call { callee := .builtin .append, args := #[s, x], argTypes := #[t, t] }) (u vb v : Value) (hs : a.eval s = u) (hx : a.eval x = vb)
 (hr : (Builtin.append_ #[t, t] o.type #[u, vb]).run Try.prog w = .ok v w')
 (h : wpList Try.prog ops Q rest (a.put o.dst v) w') : wpList Try.prog ops Q (o :: rest) a w := by
 refine wpList_step fun K hK => ?_
 rw [if_pos (by simp [Region.wanted, hg, hy])]
 unfold Oper.wp execOp
 simp only [ho, resolve, invoke, builtin, Sem.run_bind, Sem.run_pure, Result.andThen_ok, List.map_toArray, List.map_cons, List.map_nil, hs, hx, hr]
 exact hK _ _ h
theorem padsChain_any (w : World) (f : Int) (v : Value) (tape : List Int) (a m n : Int) (hf : 0 <= f ∧ f <= 255) (h : Rw w v tape) (ha : 0 <= a ∧ a <= 255) (hm : 0 <= m ∧ m <= 255) (hn : 0 <= n ∧ n <= 255) :
 Calls Try.prog 4 #[.int .u8 f, v, .agg #[.int .u8 a, .int .u8 m, .int .u8 n]] w fun e w' => e = .returned (.bool true) ∧ Below w.heap.size w w' := by
 have hlen := h.len
 obtain ⟨A, rfl⟩ : ∃ A : Nat, a = (A : Int) := ⟨a.toNat, by omega⟩
 obtain ⟨M, rfl⟩ : ∃ M : Nat, m = (M : Int) := ⟨m.toNat, by omega⟩
 obtain ⟨N, rfl⟩ : ∃ N : Nat, n = (N : Int) := ⟨n.toNat, by omega⟩
 obtain ⟨a0, a1⟩ := ha
 obtain ⟨m0, m1⟩ := hm
 obtain ⟨n0, n1⟩ := hn
 obtain ⟨f0, f1⟩ := hf
 obtain ⟨G, hG⟩ : ∃ G, f % 2 + 1 = G := ⟨_, rfl⟩
 have hGf : fdB G = true := by
  have : G = 1 ∨ G = 2 := by omega
  rcases this with rfl | rfl <;> decide
 have HT := hide (fun W (hb : Below w.heap.size w W) (b c : Nat) (hb2 : b <= 100000) (hc2 : c <= 100000) => gTake G v tape (b : Int) (c : Int) W (h.below hb) (by omega) (by omega))
 have HX := hide anch19
 obtain ⟨ao, cap, rfl, _⟩ := h.spell
 by_cases h1 : tape.length < A + M
 · have HT1 := hide (fun W hb => HT.out W hb A M (by omega) (by omega))
   have hne : (tdE G tape (A : Int) (M : Int) != 0) = true := bne_iff_ne.2 (td_some h1)
   have h1i : (tape.length : Int) < (A : Int) + (M : Int) := by omega
   unfold GivesP at HT1
   clear HT h hGf
   generalize tdE G tape (A : Int) (M : Int) = e1 at *
   generalize tdN G tape (A : Int) (M : Int) = x1 at *
   generalize tdL G tape (A : Int) (M : Int) = zs at *
   generalize tape.length = k at *
   generalize zs.length = kz at *
   go_enter Try.func4, Try.ntmps4
   go_upto_region 2 with fail
   generalize hW0 : World.alloc w _ = W0
   obtain ⟨g0, g1, g2, hB0⟩ := arr3_box hW0
   clear hW0
   go_quiet (fail)
   have hB1 := below_drewN hB0 nq
   clear g0 g1 g2 hB0
   go_wp2_with (first
    | (go_at_call 6; refine (HT1.out _ hB1).mono ?_; rintro e w2 ⟨v2, rfl, hO2, hb2⟩; have hB2 := Below.next hB1 hb2; obtain ⟨a2, k2, rfl⟩ := own_form hO2; clear hO2)
    | (go_at_call 14; refine (HX.out _).mono ?_; rintro e w3 ⟨rfl, hb3⟩))
   go_ret
   exact ⟨rfl, Below.next hB2 hb3⟩
 · have hl1 : A + M <= tape.length := by omega
   obtain ⟨q1, q2, q3⟩ := td_ok hGf hl1
   have HT1 := hide (fun W hb => HT.out W hb A M (by omega) (by omega))
   rw [q1, q2, q3, Int.natCast_add] at HT1
   have h1i : ¬ (tape.length : Int) < (A : Int) + (M : Int) := by omega
   by_cases h2 : tape.length < A + M + N
   · have h2i : (tape.length : Int) < (A : Int) + (M : Int) + (N : Int) := by omega
     obtain ⟨q4, q5, q6⟩ := td_seven hGf h2 hl1
     obtain ⟨q7, q8, q9⟩ := td_seven hGf (a := A) (m := M + N) (by omega) (by omega : A <= tape.length)
     have HT2 := hide (fun W hb => HT.out W hb (A + M) N (by omega) (by omega))
     have HT3 := hide (fun W hb => HT.out W hb A (M + N) (by omega) (by omega))
     rw [q4, q5, q6, Int.natCast_add] at HT2
     rw [q7, q8, q9, Int.natCast_add] at HT3
     unfold GivesP at HT1 HT2 HT3
     clear HT h hGf q1 q2 q3 q4 q5 q6 q7 q8 q9
     generalize drw G tape A M = zs at *
     generalize tape.length = k at *
     generalize zs.length = kz at *
     go_enter Try.func4, Try.ntmps4
     go_upto_region 2 with fail
     generalize hW0 : World.alloc w _ = W0
     obtain ⟨g0, g1, g2, hB0⟩ := arr3_box hW0
     clear hW0
     go_quiet (fail)
     have hB1 := below_drewN hB0 nq
     clear g0 g1 g2 hB0
     go_upto_region 6 with (go_at_call 6; refine (HT1.out _ hB1).mono ?_; rintro e w2 ⟨v2, rfl, hO2, hb2⟩)
     have hB2 := Below.next hB1 hb2
     obtain ⟨a2, k2, rfl⟩ := own_form hO2
     clear hO2 HT1
     go_upto_region 7 with (go_at_call 6; refine (HT2.out _ hB2).mono ?_; rintro e w3 ⟨v3, rfl, hO3, hb3⟩)
     have hB3 := Below.next hB2 hb3
     obtain ⟨a3, k3, rfl⟩ := own_form hO3
     clear hO3 HT2
     go_wp2_with (first
      | (go_at_call 6; refine (HT3.out _ hB3).mono ?_; rintro e w4 ⟨v4, rfl, hO4, hb4⟩; have hB4 := Below.next hB3 hb4; obtain ⟨a4, k4, rfl⟩ := own_form hO4; clear hO4)
      | (go_at_call 14; refine (HX.out _).mono ?_; rintro e w5 ⟨rfl, hb5⟩))
     go_ret
     exact ⟨rfl, Below.next hB4 hb5⟩
   · have h2i : ¬ (tape.length : Int) < (A : Int) + (M : Int) + (N : Int) := by omega
     have hl2 : A + M + N <= tape.length := by omega
     obtain ⟨q4, q5, q6⟩ := td_ok hGf hl2
     obtain ⟨q7, q8, q9⟩ := td_ok hGf (a := A) (m := M + N) (by omega : A + (M + N) <= tape.length)
     have HT2 := hide (fun W hb => HT.out W hb (A + M) N (by omega) (by omega))
     have HT3 := hide (fun W hb => HT.out W hb A (M + N) (by omega) (by omega))
     rw [q4, q5, q6, Int.natCast_add A M] at HT2
     rw [q7, q8, q9, Int.natCast_add M N, show A + (M + N) = A + M + N by omega] at HT3
     have HE := hide (drw_app G tape A M N)
     have HW1 := drw_wd hGf hlen A M
     have HW3 := drw_wd hGf hlen A (M + N)
     have HL1 := hide (drw_len (f := G) hl1)
     have HL2 := hide (drw_len (f := G) hl2)
     unfold GivesP at HT1 HT2 HT3
     clear HT h hGf q1 q2 q3 q4 q5 q6 q7 q8 q9
     generalize drw G tape A M = zs at *
     generalize drw G tape (A + M) N = ys at *
     generalize drw G tape A (M + N) = ts at *
     have HC := hide (fun W v (hO : Rw W v zs) => Copy_any v zs W hO.1)
     have HP := hide (fun W base lo u vb x1 x2 x3 => appWO W base lo u zs ys vb x1 x2 (by rw [HL1.out, HL2.out]; omega) x3)
     rw [HE.out] at HP
     have HSm : Hid (∀ W v1 v2, Rw W v1 ts -> Rw W v2 ts -> Calls Try.prog 12 #[v1, v2] W fun e w' => e = .returned (.bool true) ∧ Below W.heap.size W w') := fun W v1 v2 x1 x2 => Same_yes v1 v2 _ W x1.1 x2.1
     have HW1 := hide HW1
     have HW3 := hide HW3
     generalize ((A + M + N : Nat) : Int) = Y at *
     generalize tape.length = k at *
     go_enter Try.func4, Try.ntmps4
     go_upto_region 2 with fail
     generalize hW0 : World.alloc w _ = W0
     obtain ⟨g0, g1, g2, hB0⟩ := arr3_box hW0
     clear hW0
     go_quiet (fail)
     have hB1 := below_drewN hB0 nq
     clear g0 g1 g2 hB0
     go_upto_region 6 with (go_at_call 6; refine (HT1.out _ hB1).mono ?_; rintro e w2 ⟨v2, rfl, hO2, hb2⟩)
     have hB2 := Below.next hB1 hb2
     have r2 := hide (HW1.out.row hO2)
     obtain ⟨a2, k2, rfl⟩ := own_form hO2
     clear hO2 HT1
     go_upto_region 7 with (go_at_call 6; refine (HT2.out _ hB2).mono ?_; rintro e w3 ⟨v3, rfl, hO3, hb3⟩)
     have hB3 := Below.next hB2 hb3
     have r2b := hide (r2.out.below hb3)
     have HO3 := hide hO3
     obtain ⟨a3, k3, rfl⟩ := own_form hO3
     clear hO3 HT2 r2
     go_wp2_with (first
      | (go_at_call 6; refine (HT3.out _ hB3).mono ?_; rintro e w4 ⟨v4, rfl, hO4, hb4⟩; have hB4 := Below.next hB3 hb4; have r4 := hide (HW3.out.row hO4); have r2c := hide (r2b.out.below hb4); have HO3b := hide (own_below HO3.out hb4); obtain ⟨a4, k4, rfl⟩ := own_form hO4; clear hO4)
      | (go_at_call 14; refine (HX.out _).mono ?_; rintro e w5 ⟨rfl, hb5⟩; have r4b := hide (r4.out.below hb5); have r2d := hide (r2c.out.below hb5); have HO3c := hide (own_below HO3b.out hb5); have hB5 := Below.next hB4 hb5)
      | (go_at_call 15; refine (HC.out _ _ r2d.out).mono ?_; rintro e w6 ⟨v6, rfl, hO6, hb6⟩; have hB6 := Below.next hB5 hb6; have r4c := hide (r4b.out.below hb6); obtain ⟨a6, k6, rfl⟩ := own_form hO6; obtain ⟨v7, w7, hr, hO7, hb7⟩ := HP.out _ _ _ _ _ hO6 (own_below HO3c.out hb6) hb6.size; have hB7 : Below w.heap.size w w7 := Below.next hB5 (hb6.trans hb7); have r7 := hide (HW3.out.row hO7); have r4d := hide (r4b.out.below (hb6.trans hb7)); obtain ⟨a7, k7, rfl⟩ := own_form hO7; clear hO6 hO7)
      | (at_builtin; refine wpList_app_run 25 true rfl (by rfl) _ _ _ rfl _ _ _ rfl rfl hr ?_)
      | (go_at_call 12; refine (HSm.out _ _ _ r7.out r4d.out).mono ?_; rintro e w8 ⟨rfl, hb8⟩))
     go_ret
     exact ⟨rfl, Below.next hB7 hb8⟩
end Go.Proofs.Ytpibiagohfnbmaa
