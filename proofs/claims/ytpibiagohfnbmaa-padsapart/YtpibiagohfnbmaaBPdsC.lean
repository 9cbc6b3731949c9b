import Derived.Test.YtpibiagohfnbmaaBPdsB
set_option linter.unusedVariables false
set_option linter.unusedSimpArgs false
set_option maxRecDepth 100000
set_option maxHeartbeats 4000000
namespace Go.Proofs.Ytpibiagohfnbmaa
open Go.RowKit Fld Pln Rnk
def GivesP (k : FuncId) (args : Array Value) (W : World) (zs : List Int) (n0 e0 : Int) : Prop :=
 Calls Try.prog k args W fun e w' => ∃ v', e = .returned (.tuple #[v', .int .i64 n0, .int .i64 e0]) ∧ w'.ownsRow W.heap.size 49 1 v' zs.length (vals zs) ∧ Below W.heap.size W w'
theorem GivesP.none {k : FuncId} {args : Array Value} {W : World} {e0 : Int} (h : Calls Try.prog k args W fun e w' => e = .returned (.tuple #[.slice none 0 0, .int .i64 0, .int .i64 e0]) ∧ Below W.heap.size W w') : GivesP k args W [] 0 e0 :=
 h.mono fun e w' ⟨he, hb⟩ => ⟨_, he, World.ownsRow_nil _ _ _ _, hb⟩
theorem td_case (f : Int) (tape : List Int) (a m : Int) :
 (tdE f tape a m = 2 ∧ tdL f tape a m = [] ∧ tdN f tape a m = 0 ∧ (fdB f = false ∨ (fdB f = true ∧ ¬ (0 <= a ∧ a <= (tape.length : Int))) ∨ (fdB f = true ∧ (0 <= a ∧ a <= (tape.length : Int)) ∧ m < 0)))
 ∨ (tdE f tape a m = 7 ∧ tdL f tape a m = [] ∧ tdN f tape a m = 0 ∧ fdB f = true ∧ (0 <= a ∧ a <= (tape.length : Int)) ∧ 0 <= m ∧ (tape.length : Int) - a < m)
 ∨ (tdE f tape a m = 0 ∧ tdL f tape a m = drw f tape a.toNat m.toNat ∧ tdN f tape a m = a + m ∧ fdB f = true ∧ (0 <= a ∧ a <= (tape.length : Int)) ∧ 0 <= m ∧ a + m <= (tape.length : Int)) := by
 by_cases h0 : tdE f tape a m = 0
 · have h1 := td_zero.1 h0
   refine .inr (.inr ⟨h0, if_pos h0, if_pos h0, h1.1, ?_, h1.2.2.1, h1.2.2.2⟩)
   omega
 · have hL : tdL f tape a m = [] := if_neg h0
   have hN : tdN f tape a m = 0 := if_neg h0
   by_cases c : fdB f = false ∨ a < 0 ∨ m < 0 ∨ (tape.length : Int) < a
   · refine .inl ⟨if_pos c, hL, hN, ?_⟩
     cases hf : fdB f with
     | false => exact .inl rfl
     | true =>
      right
      by_cases d : 0 <= a ∧ a <= (tape.length : Int)
      · refine .inr ⟨rfl, d, ?_⟩
        rcases c with c | c | c | c
        · rw [hf] at c; cases c
        all_goals omega
      · exact .inl ⟨rfl, d⟩
   · have d : (tape.length : Int) - a < m := by
      apply Int.not_le.1
      intro d
      apply h0
      unfold tdE
      rw [if_neg c, if_neg (by omega)]
     refine .inr (.inl ⟨by unfold tdE; rw [if_neg c, if_pos d], hL, hN, ?_, ?_, ?_, d⟩)
     · cases e : fdB f with
       | true => rfl
       | false => exact absurd (.inl e) c
     · have c1 : ¬ a < 0 := fun e => c (.inr (.inl e))
       have c3 : ¬ (tape.length : Int) < a := fun e => c (.inr (.inr (.inr e)))
       omega
     · have c2 : ¬ m < 0 := fun e => c (.inr (.inr (.inl e)))
       omega
theorem cut3 {w : World} {ao : Option Addr} {n cap : Nat} {xs : List Int} (h : Rw w (.slice ao n cap) xs) {k j : Nat} (hk : k + j <= xs.length) :
 ∃ a2, (∀ W : World, (Instr.slice 25 (.slice ao n cap) (some (.int .i64 (k : Int))) (some (.int .i64 ((k : Int) + (j : Int)))) (some (.int .i64 ((k : Int) + (j : Int))))).run Try.prog W = .ok (.slice a2 j j) W) ∧ ∀ W, Below w.heap.size w W -> Rw W (.slice a2 j j) ((xs.drop k).take j) := by
 obtain ⟨i0, hi0, hz0, hz1, hz2⟩ := info_parts u64_info
 obtain ⟨ao', cap', e1, hcap⟩ := h.spell
 injection e1 with e1 e2 e3
 subst e1 e2 e3
 have h1 : (0 : Int) <= (k : Int) ∧ (k : Int) <= (k : Int) + (j : Int) := by omega
 have h2 : (0 : Int) <= (k : Int) + (j : Int) ∧ (k : Int) + (j : Int) <= (cap : Int) := by omega
 have h3 : ((k : Int) + (j : Int)).toNat = k + j := by omega
 have hl : ((xs.drop k).take j).length = j := by rw [List.length_take, List.length_drop]; omega
 by_cases h0 : j = 0
 · subst h0
   refine ⟨ao, fun W => ?_, fun W _ => ?_⟩
   · simp [Instr.slice, Instr.sliceBounds, Instr.sliceBound, asIntOf, run_underlying Try.underlying25, sizeOf, typeInfo, hi0, hz1, show (k : Int) <= (cap : Int) by omega]
     intro hh; omega
   · rw [List.take_zero]
     exact ⟨⟨ao, 0, rfl, by simp, by simp, fun h => absurd rfl h⟩, _, _, _, rfl, Nat.le_refl _⟩
 · obtain ⟨⟨ao', cap', q1, q2, q3, q4⟩, _⟩ := h
   injection q1 with q1 _ _
   subst q1
   obtain ⟨b, off, rfl, hb, hc⟩ := q4 (by intro e; rw [e] at hk; simp at hk; omega)
   refine ⟨some ⟨b, off + k, none⟩, fun W => ?_, fun W hB => ⟨⟨_, _, by rw [hl], by omega, fun x hx => q3 x (List.mem_of_mem_drop (List.mem_of_mem_take hx)), fun hne => ?_⟩, _, _, _, rfl, Nat.le_refl _⟩⟩
   · have h5 : ¬ (k + j = k) := by omega
     have h6 : k + j - k = j := by omega
     simp [Instr.slice, Instr.sliceBounds, Instr.sliceBound, asIntOf, run_underlying Try.underlying25, sizeOf, typeInfo, hi0, hz1, h1.1, h1.2, h2.1, h2.2, h3, h0, h6, Addr.add]
   · refine ⟨b, off + k, rfl, Nat.lt_of_lt_of_le hb hB.size, fun i hi => ?_⟩
     rw [hl] at hi
     have := hc (k + i) (by omega)
     rw [show off + k + i = off + (k + i) by omega, hB.cell (p := ⟨b, off + (k + i), none⟩) hb, this]
     rw [List.getD_eq_getElem?_getD, List.getD_eq_getElem?_getD, List.getElem?_take_of_lt hi, List.getElem?_drop]
theorem gTake (f : Int) (v : Value) (tape : List Int) (a m : Int) (w : World) (h : Rw w v tape) (ha : -9223372036854775808 <= a ∧ a <= 9223372036854775807) (hm : -9223372036854775808 <= m ∧ m <= 9223372036854775807) :
 GivesP 6 #[.int .u8 f, v, .int .i64 a, .int .i64 m] w (tdL f tape a m) (tdN f tape a m) (tdE f tape a m) := by
 have hlen := h.len
 obtain ⟨ao, cap, rfl, hcap⟩ := h.spell
 have HI := hide (fun W => gIsPlace ao tape.length cap a hlen W)
 obtain ⟨a0, a1⟩ := ha
 obtain ⟨m0, m1⟩ := hm
 rcases td_case f tape a m with ⟨e1, e2, e3, hc⟩ | ⟨e1, e2, e3, hf, ⟨p0, p1⟩, hc, hd⟩ | ⟨e1, e2, e3, hf, ⟨p0, p1⟩, hc, hd⟩
 · rw [e1, e2, e3]
   clear e1 e2 e3
   apply GivesP.none
   rcases hc with hf | ⟨hf, hp⟩ | ⟨hf, hp, hc⟩
   · have HP := hide (fun W => Prime_no f W (fd_no hf).1 (fd_no hf).2)
     clear h hf
     generalize tape.length = n at *
     go_enter Try.func6, Try.ntmps6
     go_wp2_with (first
      | (go_at_call 18; refine (HP.out _).mono ?_; rintro e w1 ⟨rfl, hb⟩))
     go_ret3
     exact ⟨rfl, hb⟩
   · obtain ⟨wd, hfi⟩ := fi_of hf
     have HP := hide (fun W => Prime_yes f _ wd W hfi)
     rw [decide_eq_false hp] at HI
     clear h hf hfi hp
     generalize tape.length = n at *
     go_enter Try.func6, Try.ntmps6
     go_wp2_with (first
      | (go_at_call 18; refine (HP.out _).mono ?_; rintro e w1 ⟨rfl, hb⟩)
      | (go_at_call 19; refine (HI.out _).mono ?_; rintro e w2 ⟨rfl, hw⟩; rw [hw]; clear hw))
     go_ret3
     exact ⟨rfl, hb⟩
   · obtain ⟨wd, hfi⟩ := fi_of hf
     have HP := hide (fun W => Prime_yes f _ wd W hfi)
     rw [decide_eq_true hp] at HI
     clear h hf hfi hp
     generalize tape.length = n at *
     go_enter Try.func6, Try.ntmps6
     go_wp2_with (first
      | (go_at_call 18; refine (HP.out _).mono ?_; rintro e w1 ⟨rfl, hb⟩)
      | (go_at_call 19; refine (HI.out _).mono ?_; rintro e w2 ⟨rfl, hw⟩; rw [hw]; clear hw))
     go_ret3
     exact ⟨rfl, hb⟩
 · rw [e1, e2, e3]
   clear e1 e2 e3
   apply GivesP.none
   obtain ⟨wd, hfi⟩ := fi_of hf
   have HP := hide (fun W => Prime_yes f _ wd W hfi)
   rw [decide_eq_true ⟨p0, p1⟩] at HI
   clear h hf hfi
   generalize tape.length = n at *
   go_enter Try.func6, Try.ntmps6
   go_wp2_with (first
    | (go_at_call 18; refine (HP.out _).mono ?_; rintro e w1 ⟨rfl, hb⟩)
    | (go_at_call 19; refine (HI.out _).mono ?_; rintro e w2 ⟨rfl, hw⟩; rw [hw]; clear hw))
   go_ret3
   exact ⟨rfl, hb⟩
 · rw [e1, e2, e3]
   clear e1 e2 e3
   obtain ⟨wd, hfi⟩ := fi_of hf
   have HP := hide (fun W => Prime_yes f _ wd W hfi)
   rw [decide_eq_true ⟨p0, p1⟩] at HI
   obtain ⟨k, rfl⟩ : ∃ k : Nat, a = (k : Int) := ⟨a.toNat, by omega⟩
   obtain ⟨j, rfl⟩ : ∃ j : Nat, m = (j : Int) := ⟨m.toNat, by omega⟩
   have hkj : k + j <= tape.length := by omega
   obtain ⟨a2, hcut, hpc⟩ := cut3 h hkj
   have hl : ((tape.drop k).take j).length = j := by rw [List.length_take, List.length_drop]; omega
   have HR := hide (fun W hB => gRests (prF f) (.slice a2 j j) _ W hfi.pos hfi.top (hpc W hB))
   have HE : Hid (((tape.drop k).take j).map (· % prF f) = drw f tape k j) := rfl
   have HN := hide (drw_len (f := f) hkj)
   rw [hl, HE.out] at HR
   rw [Int.toNat_natCast, Int.toNat_natCast]
   show Calls _ _ _ _ _
   clear h hf hfi hpc hl HE
   generalize drw f tape k j = zs at *
   generalize prF f = q at *
   generalize tape.length = n at *
   rw [HN.out]
   go_enter Try.func6, Try.ntmps6
   go_wp2_with (first
    | (go_at_call 18; refine (HP.out _).mono ?_; rintro e w1 ⟨rfl, hb⟩)
    | (go_at_call 19; refine (HI.out _).mono ?_; rintro e w2 ⟨rfl, hw⟩; rw [hw]; clear hw)
    | (go_at_call 20; refine (HR.out _ hb).mono ?_; rintro e w3 ⟨rfl, hO, hb3⟩))
   go_ret3
   exact ⟨_, rfl, own_mono hO hb.size, Below.next hb hb3⟩
end Go.Proofs.Ytpibiagohfnbmaa
