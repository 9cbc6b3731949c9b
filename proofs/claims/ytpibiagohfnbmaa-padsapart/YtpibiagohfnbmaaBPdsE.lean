import Derived.Test.YtpibiagohfnbmaaBPdsD
import Derived.Test.YtpibiagohfnbmaaBPlrA
set_option linter.unusedVariables false
set_option linter.unusedSimpArgs false
set_option maxRecDepth 100000
set_option maxHeartbeats 4000000
namespace Go.Proofs.Ytpibiagohfnbmaa
open Go.RowKit Fld Pln Rnk
theorem dTake19 (f : Int) (v : Value) (tape : List Int) (a m : Int) (w : World) (h : Rw w v tape) (ha : -9223372036854775808 <= a ∧ a <= 9223372036854775807) (hm : -9223372036854775808 <= m ∧ m <= 9223372036854775807) :
 GivesP 7 #[.int .u8 f, v, .int .i64 a, .int .i64 m] w (tdL f tape a m) (tdN f tape a m) (tdE f tape a m) := by
 have hlen := h.len
 obtain ⟨i0, hi0, hz0, hz1, hz2⟩ := info_parts u64_info
 have hwd := h.words
 obtain ⟨⟨ao, cap, rfl, _, _, hcell⟩, _⟩ := h
 obtain ⟨a0, a1⟩ := ha
 obtain ⟨m0, m1⟩ := hm
 rcases td_case f tape a m with ⟨e1, e2, e3, hc⟩ | ⟨e1, e2, e3, hf, ⟨p0, p1⟩, hc, hd⟩ | ⟨e1, e2, e3, hf, ⟨p0, p1⟩, hc, hd⟩
 · rw [e1, e2, e3]
   clear e1 e2 e3 hwd hcell
   apply GivesP.none
   rcases hc with hf | hc
   · have HP := hide (fun W => rP_no f W (fd_no hf).1 (fd_no hf).2)
     clear hf
     generalize tape.length = n at *
     go_enter Try.func7, Try.ntmps7
     go_wp2_with (first
      | (go_at_call 17; refine (HP.out _).mono ?_; rintro e w1 ⟨rfl, hw⟩; rw [hw]; clear hw))
     go_ret3
     exact ⟨rfl, Below.refl _ _⟩
   · have hf : fdB f = true := by rcases hc with ⟨q, _⟩ | ⟨q, _⟩ <;> exact q
     have hcs : a < 0 ∨ (0 <= a ∧ m < 0) ∨ (0 <= a ∧ 0 <= m ∧ (tape.length : Int) < a) := by omega
     obtain ⟨wd, hfi⟩ := fi_of hf
     have HP := hide (fun W => rP_yes f _ wd W hfi)
     have hpz : (prF f == 0) = false := beq_eq_false_iff_ne.2 (by have := hfi.pos; omega)
     clear hf hfi hc
     generalize prF f = q at *
     generalize tape.length = n at *
     rcases hcs with hcs | ⟨hc1, hcs⟩ | ⟨hc1, hc2, hcs⟩
     all_goals
      go_enter Try.func7, Try.ntmps7
      go_wp2_with (first
       | (go_at_call 17; refine (HP.out _).mono ?_; rintro e w1 ⟨rfl, hw⟩; rw [hw]; clear hw))
      go_ret3
      exact ⟨rfl, Below.refl _ _⟩
 · rw [e1, e2, e3]
   clear e1 e2 e3 hwd hcell
   apply GivesP.none
   obtain ⟨wd, hfi⟩ := fi_of hf
   have HP := hide (fun W => rP_yes f _ wd W hfi)
   have hpz : (prF f == 0) = false := beq_eq_false_iff_ne.2 (by have := hfi.pos; omega)
   clear hf hfi
   generalize prF f = q at *
   generalize tape.length = n at *
   go_enter Try.func7, Try.ntmps7
   go_wp2_with (first
    | (go_at_call 17; refine (HP.out _).mono ?_; rintro e w1 ⟨rfl, hw⟩; rw [hw]; clear hw))
   go_ret3
   exact ⟨rfl, Below.refl _ _⟩
 · rw [e1, e2, e3]
   clear e1 e2 e3
   obtain ⟨wd, hfi⟩ := fi_of hf
   have HP := hide (fun W => rP_yes f _ wd W hfi)
   have hpz : (prF f == 0) = false := beq_eq_false_iff_ne.2 (by have := hfi.pos; omega)
   obtain ⟨A, rfl⟩ : ∃ A : Nat, a = (A : Int) := ⟨a.toNat, by omega⟩
   obtain ⟨J, rfl⟩ : ∃ J : Nat, m = (J : Int) := ⟨m.toNat, by omega⟩
   have hAJ : A + J <= tape.length := by omega
   rw [Int.toNat_natCast, Int.toNat_natCast]
   have HDL := hide (fun k (hk : k <= J) => drw_len (f := f) (tape := tape) (a := A) (n := k) (by omega))
   have HDZ := hide (drw_zero f tape A)
   have HDM := hide (fun k (hk : k < J) => drw_more f tape A k (by omega))
   have HX := hide (fun k (hk : k < J) => by rw [getD_at (by omega : A + k < tape.length)]; exact hwd _ (List.getElem_mem _) : ∀ k, k < J -> 0 <= tape.getD (A + k) 0 ∧ tape.getD (A + k) 0 <= 18446744073709551615)
   show Calls _ _ _ _ _
   rw [HDL.out J (Nat.le_refl _)]
   have hd2 : ¬ (tape.length : Int) - (A : Int) < (J : Int) := by omega
   have hd3 : ¬ tape.length < A := by omega
   have hd4 : ¬ (A : Int) < 0 := by omega
   have hd5 : ¬ (J : Int) < 0 := by omega
   clear hf hfi hwd hd
   generalize prF f = q at *
   generalize drw f tape A = zs at *
   go_enter Try.func7, Try.ntmps7
   go_wp2_with (first
    | (go_at_call 17; refine (HP.out _).mono ?_; rintro e w1 ⟨rfl, hw⟩; rw [hw]; clear hw))
   go_loopw [11, 12] (fun vo vi wr => ∃ k : Nat, k <= J ∧ vi = .int .i64 k ∧ Hid (wr.ownsRow w.heap.size 49 1 vo k (vals (zs k))) ∧ Below w.heap.size w wr) (fun _ vi _ => J - (intOf vi).toNat)
   case atStart => exact ⟨0, Nat.zero_le _, rfl, by rw [HDZ.out]; exact World.ownsRow_nil _ _ _ _, Below.refl _ _⟩
   case round =>
    obtain ⟨k, hk, rfl, HO, hB⟩ := hrel
    by_cases hlt : k < J
    · obtain ⟨b, off, rfl, hbl, hcl⟩ := hcell (by intro h; rw [h] at hAJ; simp at hAJ; omega)
      have hck : wr.cell? ⟨b, off + (A + k), none⟩ = some (.int .u64 (tape.getD (A + k) 0)) := by rw [hB.cell (p := ⟨b, off + (A + k), none⟩) hbl]; exact hcl (A + k) (by omega)
      obtain ⟨x0, x1⟩ := HX.out k hlt
      have HS := hide (HDM.out k hlt).symm
      have hown := HO.out
      have HT := hide (fun h : 0 <= tape.getD (A + k) 0 => Int.tmod_eq_emod_of_nonneg (b := q) h)
      have hzl := hide (HDL.out k hk)
      clear hcl hcell HX HDL HDZ HDM HO
      generalize tape.getD (A + k) 0 = x at *
      generalize zs k = xs at *
      have k0 : (0 : Int) <= (k : Int) := Int.natCast_nonneg _
      have k1 : (k : Int) < (J : Int) := by omega
      have hqn : ¬ q = 0 := beq_eq_false_iff_ne.1 hpz
      have l0 : (0 : Int) <= (A : Int) + (k : Int) := by omega
      have l1 : (A : Int) + (k : Int) < (tape.length : Int) := by omega
      have l2 : ((A : Int) + (k : Int)).toNat = A + k := by omega
      have l3 : IntKind.i64.wrap ((A : Int) + (k : Int)) = (A : Int) + (k : Int) := by rw [IntKind.wrap_i64]; omega
      have lb : b < wr.heap.size := Nat.lt_of_lt_of_le hbl hB.size
      have hbs := hB.size
      have hbase := own_base hown
      have ab : u11.ownBlock ≠ some b := fun h => by have := hbase b h; omega
      generalize tape.length = n at *
      go_wp2_with fail
      go_region_held3 (fun w' => w'.cell? ⟨b, off + (A + k), none⟩ = some (.int .u64 x))
       (first | go_keep | (rw [hgrow.cell_far _ (by simp; omega) (Ne.symm ab)]; assumption))
       (first
        | (go_at_call 17; refine (HP.out _).mono ?_; rintro e w1 ⟨rfl, hw1⟩; subst hw1)
        | (refine step_append_lies _ (by rfl) _ _ _ (by rfl) w.heap.size 49 i0 _ 1 8 Try.underlying25 hi0 hz0 hz1 hz2 rfl (by omega) u11 k _ (by rfl) ((hown.alloc _).drew) ⟨wr.heap.size, 0, none⟩ 1 1 [.int .u64 (x.tmod q)] (by rfl) (by rfl) (World.news_of_block (cs := #[.int .u64 (x.tmod q)]) (t := 49) (fr := (0, 0)) (heap_alloc_new wr _)) (by simp [Value.oneCell']) (by omega) (by unfold maxLen; omega) (by omega) (by simp; omega) (wr.heap.size + 1) (by simp) ?_; intro gg cap2 w1 hown1 hgrow hat hltg))
      have R := hide (elems_step hB hown hown1 hgrow (HT.out x0) HS.out)
      clear hown1 hgrow hat hltg hown hck l0 l1 l2 l3
      go_wp2
      go_roundw
      case rel => exact ⟨k + 1, by omega, by go_num, R.out.1, R.out.2⟩
      case measure => simp [intOf]; omega
    · obtain rfl : k = J := by omega
      clear hcell HX HDL HDZ HDM
      go_wp2
      go_ret3
      exact ⟨_, rfl, HO.out, hB⟩
theorem cut2 {w : World} {ao : Option Addr} {n cap : Nat} {xs : List Int} (h : Rw w (.slice ao n cap) xs) {k m : Nat} (hk : k <= m) (hm : m <= xs.length) :
 ∃ a2 c2, (∀ W : World, (Instr.slice 25 (.slice ao n cap) (some (.int .i64 (k : Int))) (some (.int .i64 (m : Int))) none).run Try.prog W = .ok (.slice a2 (m - k) c2) W) ∧ ∀ W, Below w.heap.size w W -> Rw W (.slice a2 (m - k) c2) ((xs.drop k).take (m - k)) := by
 obtain ⟨i0, hi0, hz0, hz1, hz2⟩ := info_parts u64_info
 obtain ⟨ao', cap', e1, hcap⟩ := h.spell
 injection e1 with e1 e2 e3
 subst e1 e2 e3
 have h1 : (0 : Int) <= (k : Int) ∧ (k : Int) <= (m : Int) := by omega
 have h2 : (0 : Int) <= (m : Int) ∧ (m : Int) <= (cap : Int) := by omega
 have h3 : m <= cap := by omega
 have hl : ((xs.drop k).take (m - k)).length = m - k := by rw [List.length_take, List.length_drop]; omega
 by_cases h0 : cap = k
 · have e : m = k := by omega
   subst e h0
   refine ⟨ao, 0, fun W => ?_, fun W _ => ?_⟩
   · simp [Instr.slice, Instr.sliceBounds, Instr.sliceBound, asIntOf, run_underlying Try.underlying25, sizeOf, typeInfo, hi0, hz1]
   · rw [Nat.sub_self, List.take_zero]
     exact ⟨⟨ao, 0, rfl, by simp, by simp, fun h => absurd rfl h⟩, _, _, _, rfl, Nat.le_refl _⟩
 · obtain ⟨⟨ao', cap', q1, q2, q3, q4⟩, _⟩ := h
   injection q1 with q1 _ _
   subst q1
   refine ⟨ao.map (·.add k), cap - k, fun W => ?_, fun W hB => ⟨⟨_, _, by rw [hl], by omega, fun x hx => q3 x (List.mem_of_mem_drop (List.mem_of_mem_take hx)), fun hne => ?_⟩, _, _, _, rfl, by omega⟩⟩
   · simp [Instr.slice, Instr.sliceBounds, Instr.sliceBound, asIntOf, run_underlying Try.underlying25, sizeOf, typeInfo, hi0, hz1, h1.2, h2.2, h3, hk, h0]
   · have hp : 0 < m - k := by rw [<- hl]; exact List.length_pos_iff.2 hne
     obtain ⟨b, off, rfl, hb, hc⟩ := q4 (by intro e; rw [e] at hm; simp at hm; omega)
     refine ⟨b, off + k, by simp [Addr.add], Nat.lt_of_lt_of_le hb hB.size, fun i hi => ?_⟩
     rw [hl] at hi
     have := hc (k + i) (by omega)
     rw [show off + k + i = off + (k + i) by omega, hB.cell (p := ⟨b, off + (k + i), none⟩) hb, this]
     rw [List.getD_eq_getElem?_getD, List.getD_eq_getElem?_getD, List.getElem?_take_of_lt hi, List.getElem?_drop]
end Go.Proofs.Ytpibiagohfnbmaa
