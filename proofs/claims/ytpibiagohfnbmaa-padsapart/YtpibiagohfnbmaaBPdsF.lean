import Derived.Test.YtpibiagohfnbmaaBPdsE
set_option linter.unusedVariables false
set_option linter.unusedSimpArgs false
set_option maxRecDepth 100000
set_option maxHeartbeats 4000000
namespace Go.Proofs.Ytpibiagohfnbmaa
open Go.RowKit Fld Pln Rnk
theorem lss_here19 {w : World} {lo hi : Nat} {v : Value} {us : List Value} {xss : List (List Int)} (h : Lss w lo hi v us xss) : Lss w lo w.heap.size v us xss :=
 ⟨h.row, h.each, h.from_, fun i g hg => by
  by_cases hi' : i < xss.length
  · exact own_top (h.each i hi') g hg
  · have : us.getD i nov = nov := by
     rw [List.getD_eq_getElem?_getD, List.getElem?_eq_none (by have := h.len; omega)]; rfl
    rw [this] at hg; simp [nov, Value.ownBlock] at hg, h.up⟩
theorem dBlocks19 (p : Pn) (v : Value) (tape : List Int) (a : Int) (w : World) (hp : Ok8p p) (h : Rw w v tape) (ha : -9223372036854775808 <= a ∧ a <= 9223372036854775807) :
 GivesQ 9 #[plv p, v, .int .i64 a] w (pdL p tape a) (pdN p tape a) (pdE p tape a) := by
 have hlen := h.len
 obtain ⟨i0, hi0, hz0, hz1, hz2⟩ := info_parts sl_infoM
 have HT := hide (fun W (hb : Below w.heap.size w W) m hm1 => dTake19 p.f v tape a m W (h.below hb) ha hm1)
 obtain ⟨ao, cap, rfl, hcap⟩ := h.spell
 have HM := hide (dMayP p hp)
 obtain ⟨pb, hA⟩ := pb_box (w := w) p
 have HS := hide (fun W' (hb : Below (w.alloc (.cells #[.int .u8 p.f, .int .i64 p.n, .int .i64 p.k, .int .i64 p.t, .int .i64 p.s, .int .i64 p.e, .int .i64 p.d, .int .i64 p.w] 24)).heap.size _ W') => (pb.below hb).cells)
 obtain ⟨c0, c1, c2, c3, c4, c5, c6, c7⟩ := pb.cells
 obtain ⟨a0, a1⟩ := ha
 cases hm : mayP p with
 | false =>
  have e1 : pdE p tape a = 2 := by unfold pdE; rw [hm]; rfl
  rw [show pdL p tape a = [] by unfold pdL; rw [e1]; rfl, show pdN p tape a = 0 by unfold pdN; rw [e1]; rfl, e1]
  rw [hm] at HM
  apply GivesQ.none
  clear hm hp h HT HS pb e1
  generalize tape.length = n at *
  unfold plv plw at *
  go_enter Try.func9, Try.ntmps9
  go_wp2_with (first
   | (go_at_call 16; refine (HM.out _).mono ?_; rintro e w1 ⟨rfl, hb1⟩))
  go_ret3
  exact ⟨rfl, Below.next hA hb1⟩
 | true =>
  obtain ⟨_, _, ⟨t0, t1⟩, _, _, _, ⟨w0, w1⟩⟩ := may_facts hm
  obtain ⟨d0, d1⟩ := tw_bound hm
  rw [hm] at HM
  have he : pdE p tape a = tdE p.f tape a (p.t * p.w) := if_pos hm
  have HC := hide (fun W hb => HT.out W hb (p.t * p.w) (by omega))
  unfold GivesP at HC
  by_cases hz : pdE p tape a = 0
  · obtain ⟨e2, e3, q0, q1, q2, q3⟩ : tdL p.f tape a (p.t * p.w) = drw p.f tape a.toNat (p.t * p.w).toNat ∧ tdN p.f tape a (p.t * p.w) = a + p.t * p.w ∧ 0 <= a ∧ a <= tape.length ∧ 0 <= p.t * p.w ∧ a + p.t * p.w <= tape.length := by
     rcases td_case p.f tape a (p.t * p.w) with ⟨e1, _⟩ | ⟨e1, _⟩ | ⟨e1, e2, e3, _, ⟨q0, q1⟩, q2, q3⟩
     · rw [he, e1] at hz; cases hz
     · rw [he, e1] at hz; cases hz
     · exact ⟨e2, e3, q0, q1, q2, q3⟩
    rw [show pdL p tape a = pdR p tape a.toNat p.t.toNat from if_pos hz, show pdN p tape a = a + p.t * p.w from if_pos hz, hz]
    rw [<- he, hz, e2, e3] at HC
    obtain ⟨A, rfl⟩ : ∃ A : Nat, a = (A : Int) := ⟨a.toNat, by omega⟩
    obtain ⟨T, HTt⟩ : ∃ T : Nat, Hid (p.t = (T : Int)) := ⟨p.t.toNat, by show _ = _; omega⟩
    obtain ⟨K, HK⟩ : ∃ K : Nat, Hid (p.w = (K : Int)) := ⟨p.w.toNat, by show _ = _; omega⟩
    have hT64 : T <= 64 := by have := HTt.out; omega
    have hK64 : K <= 64 := by have := HK.out; omega
    have HPM := hide (fun k => pdR_more p tape A k)
    have HPL := hide (fun k => pdR_len p tape A k)
    have HPZ : Hid (pdR p tape A 0 = []) := rfl
    have hmul : p.t * p.w = ((T * K : Nat) : Int) := by rw [HTt.out, HK.out]; push_cast; rfl
    have HDr : Hid (∀ k, k < T -> k * K + K <= T * K) := fun k hk => by rw [<- Nat.succ_mul]; exact Nat.mul_le_mul_right K hk
    have HDC := hide (fun k (hk : k < T) => drw_cut p.f tape A (k * K) K (T * K) (HDr.out k hk))
    obtain ⟨D, HD⟩ : ∃ D, Hid (T * K = D) := ⟨_, rfl⟩
    rw [HD.out] at hmul HDr HDC
    have hTK : A + D <= tape.length := by rw [hmul] at q3; omega
    have hTK2 : D <= 4096 := by rw [hmul] at d1; omega
    have HDL := hide (drw_len (f := p.f) hTK)
    have HRow := hide (fun k => drw_len (f := p.f) (tape := tape) (a := A + k * K) (n := K))
    rw [hmul, Int.toNat_natCast, Int.toNat_natCast, HDL.out] at HC
    rw [hmul, Int.toNat_natCast]
    have hTn : p.t.toNat = T := by rw [HTt.out]; rfl
    have hKn : p.w.toNat = K := by rw [HK.out]; rfl
    rw [hKn] at HPM
    rw [hTn]
    have HWd : Hid (∀ y ∈ drw p.f tape A D, 0 <= y ∧ y <= 18446744073709551615) := fun y hy => by
     obtain ⟨wd, hfi⟩ := fi_of (may_iff.1 hm).1
     unfold drw at hy
     obtain ⟨x, _, rfl⟩ := List.mem_map.1 hy
     have h1 := Int.emod_nonneg x (show prF p.f ≠ 0 by have := hfi.pos; omega)
     have h2 := Int.emod_lt_of_pos x hfi.pos
     have h3 := hfi.top
     omega
    show Calls _ _ _ _ _
    clear hm hp h pb he hz e2 e3 t0 t1 w0 w1 q0 q1 q2 q3 hTn hKn d0 d1 HT
    generalize pdR p tape A = ps at *
    unfold plv plw at *
    go_enter Try.func9, Try.ntmps9
    go_upto_region 1 with fail
    generalize w.alloc (.cells #[.int .u8 p.f, .int .i64 p.n, .int .i64 p.k, .int .i64 p.t, .int .i64 p.s, .int .i64 p.e, .int .i64 p.d, .int .i64 p.w] 24) = W0 at *
    rw [HTt.out, HK.out] at HS HM hmul
    rw [HTt.out] at c3
    rw [HK.out] at c7
    go_wp2_with (first
     | (go_at_call 16; refine (HM.out _).mono ?_; rintro e w1 ⟨rfl, hb1⟩; have hB1 := Below.next hA hb1; clear c0 c1 c2 c3 c4 c5 c6 c7; obtain ⟨c0, c1, c2, c3, c4, c5, c6, c7⟩ := HS.out _ hb1)
     | (go_at_call 7; refine (HC.out _ hB1).mono ?_; rintro e w2 ⟨v2, rfl, hO2, hb2⟩; have hB2 := Below.next hB1 hb2; have hC2 := Below.next hb1 hb2; clear c0 c1 c2 c3 c4 c5 c6 c7; obtain ⟨c0, c1, c2, c3, c4, c5, c6, c7⟩ := HS.out _ hC2))
    have hr2 := rw_of_own hO2 (by rw [HDL.out]; omega) HWd.out
    obtain ⟨a2, q2, rfl⟩ := own_form hO2
    have Hcut := hide (fun k m hk hm => cut2 (k := k) (m := m) hr2 hk (by rw [HDL.out]; exact hm))
    clear HC HM c0 c1 c2 c3 c4 c5 c6 c7 hO2 HWd
    go_loopw [12, 13] (fun vo vi wr => ∃ (k : Nat) (us : List Value), k <= T ∧ vi = .int .i64 k ∧ Hid (Lss wr w2.heap.size wr.heap.size vo us (ps k)) ∧ Below w2.heap.size w2 wr) (fun _ vi _ => T - (intOf vi).toNat)
    case atStart => exact ⟨0, [], Nat.zero_le _, rfl, by rw [HPZ.out]; exact Lss.nil _ _ _, Below.refl _ _⟩
    case round =>
     obtain ⟨k, us, hk, rfl, HL, hB⟩ := hrel
     obtain ⟨c0, c1, c2, c3, c4, c5, c6, c7⟩ := HS.out _ (Below.next hC2 hB)
     by_cases hlt : k < T
     · have k0 : (0 : Int) <= (k : Int) := by omega
       have k1 : (k : Int) < (T : Int) := by omega
       have hle := HDr.out k hlt
       have HRk := hide (HRow.out k)
       have HDk := hide (HDC.out k hlt)
       have HPk := hide (HPM.out k)
       have e1 : (k : Int) * (K : Int) = ((k * K : Nat) : Int) := by push_cast; rfl
       have e2 : ((k : Int) + 1) * (K : Int) = ((k * K + K : Nat) : Int) := by push_cast; rw [Int.add_mul, Int.one_mul]
       have Hml := hide (HPL.out k)
       obtain ⟨P0, HP0⟩ : ∃ P0, Hid (k * K = P0) := ⟨_, rfl⟩
       rw [HP0.out] at hle e1 e2 HRk HDk HPk
       obtain ⟨P1, HP1⟩ : ∃ P1, Hid (P0 + K = P1) := ⟨_, rfl⟩
       rw [HP1.out] at hle e2
       obtain ⟨a3, q3, hcut, hpc⟩ := Hcut.out P0 P1 (by have := HP1.out; omega) hle
       have hPK : P1 - P0 = K := by have := HP1.out; omega
       rw [hPK] at hcut hpc
       rw [HDk.out] at hpc
       have hKl : (drw p.f tape (A + P0) K).length = K := HRk.out (by have := HP1.out; omega)
       have hCp := hide (Copy_any _ _ wr (hpc wr hB).1)
       rw [hKl] at hCp
       have HKl := hide hKl
       have b0 : (P0 : Int) <= 4096 := by have := HP1.out; omega
       have b1 : (P1 : Int) <= 4096 := by omega
       clear hpc HDC HPM HPL HRow hPK hKl HRk HDk
       generalize drw p.f tape (A + P0) K = zs at *
       obtain ⟨ao', co', hv⟩ := own_form HL.out.row
       rw [Hml.out] at hv
       subst hv
       go_wp2_with (first
        | (go_at_call 15; refine hCp.out.mono ?_; rintro e w3 ⟨v3, rfl, hor, hb3⟩; obtain ⟨ar, cr, rfl⟩ := own_form hor; have HL3 := hide (HL.out.below hb3); have hsz3 := hb3.size; have hbs := hB.size; have HRow3 : Hid (∀ ob, World.ownsRow (w3.alloc ob) w2.heap.size 25 1 (.slice ao' k co') k us) := fun ob => (by have := HL3.out.row.alloc ob; rw [Hml.out] at this; exact this))
        | (at_builtin; refine wpList_append_lies _ rfl _ _ _ rfl w2.heap.size 25 i0 _ 1 24 Try.underlying32 hi0 hz0 hz1 hz2 rfl (by omega) (.slice ao' k co') k us rfl (HRow3.out _) ⟨w3.heap.size, 0, none⟩ 1 1 [.slice ar K cr] rfl rfl (World.news_of_block (cs := #[.slice ar K cr]) (t := 25) (fr := (0, 0)) (heap_alloc_new w3 _)) (by simp [Value.oneCell']) (by omega) (by unfold maxLen; omega) (by omega) (by simp; omega) (w3.heap.size + 1) (by simp) ?_; intro gg cap2 w4 hown4 hgrow hat hltg))
       have R := hide (HL3.out.push (w := w2) (H := wr.heap.size) (Nat.le_refl _) hbs (Nat.le_refl _) (Below.next hB hb3) (by rw [HKl.out]; exact hor) (by rw [Hml.out]; exact hown4) hgrow)
       rw [<- HPk.out] at R
       go_roundw
       case rel => exact ⟨k + 1, _, by omega, by go_num, lss_here19 R.out.1, R.out.2⟩
       case measure => simp [intOf]; omega
     · obtain rfl : k = T := by omega
       clear HDC HPM HPL HRow Hcut
       go_wp2
       go_ret3
       exact ⟨_, us, rfl, HL.out.mtx.low hB2.size, Below.next hB2 hB⟩
  · obtain ⟨e2, e3⟩ : tdL p.f tape a (p.t * p.w) = [] ∧ tdN p.f tape a (p.t * p.w) = 0 := ⟨if_neg (fun q => hz (he.trans q)), if_neg (fun q => hz (he.trans q))⟩
    rw [show pdL p tape a = [] from if_neg hz, show pdN p tape a = 0 from if_neg hz]
    rw [<- he, e2, e3] at HC
    apply GivesQ.none
    obtain ⟨D, hD⟩ : ∃ D, p.t * p.w = D := ⟨_, rfl⟩
    rw [hD] at HC d0 d1
    have hne : (pdE p tape a == 0) = false := beq_eq_false_iff_ne.2 hz
    clear hm hp h pb he e2 e3 HT hz
    generalize pdE p tape a = e0 at *
    by_cases ht : 0 < p.t
    all_goals
     unfold plv plw at *
     go_enter Try.func9, Try.ntmps9
     go_wp2_with (first
      | (go_at_call 16; refine (HM.out _).mono ?_; rintro e w1 ⟨rfl, hb1⟩; have hB1 := Below.next hA hb1; clear c0 c1 c2 c3 c4 c5 c6 c7; obtain ⟨c0, c1, c2, c3, c4, c5, c6, c7⟩ := HS.out _ hb1)
      | (go_at_call 7; refine (HC.out _ hB1).mono ?_; rintro e w2 ⟨v2, rfl, hO2, hb2⟩; have hB2 := Below.next hB1 hb2; have hC2 := Below.next hb1 hb2; clear c0 c1 c2 c3 c4 c5 c6 c7; obtain ⟨c0, c1, c2, c3, c4, c5, c6, c7⟩ := HS.out _ hC2; obtain ⟨a2, q2, rfl⟩ := own_form hO2))
     refine wp_loop_rounds 1 ?_
     rw [rounds_succ]
     go_wp2
     go_ret3
     exact ⟨rfl, hB2⟩
theorem dRounds19 (p : Pn) (v : Value) (tape : List Int) (a : Int) (w : World) (hp : Ok8p p) (h : Rw w v tape) (ha : -9223372036854775808 <= a ∧ a <= 9223372036854775807) :
 Calls Try.prog 11 #[plv p, v, .int .i64 a] w fun e w' => e = .returned (.tuple #[.int .i64 (rdN19 p tape a), .int .i64 (rdE19 p tape a)]) ∧ Below w.heap.size w w' := by
 have hlen := h.len
 obtain ⟨ao, cap, rfl, hcap⟩ := h.spell
 have HM := hide (dMayP p hp)
 obtain ⟨pb, hA⟩ := pb_box (w := w) p
 have HS := hide (fun W' (hb : Below (w.alloc (.cells #[.int .u8 p.f, .int .i64 p.n, .int .i64 p.k, .int .i64 p.t, .int .i64 p.s, .int .i64 p.e, .int .i64 p.d, .int .i64 p.w] 24)).heap.size _ W') => (pb.below hb).cells)
 obtain ⟨a0, a1⟩ := ha
 cases hm : mayP p with
 | false =>
  obtain ⟨e1, e2⟩ := rd_no (p := p) (tape := tape) (a := a) (fun q => by rw [hm] at q; cases q.1)
  rw [e1, e2]
  rw [hm] at HM
  clear hm hp h HS pb e1 e2
  generalize tape.length = n at *
  unfold plv plw at *
  go_enter Try.func11, Try.ntmps11
  go_wp2_with (first
   | (go_at_call 16; refine (HM.out _).mono ?_; rintro e w1 ⟨rfl, hb1⟩))
  go_ret2
  exact ⟨rfl, Below.next hA hb1⟩
 | true =>
  obtain ⟨_, _, ⟨t0, t1⟩, _, _, _, ⟨w0, w1⟩⟩ := may_facts hm
  obtain ⟨d0, d1⟩ := tw_bound hm
  rw [hm] at HM
  by_cases hc : 0 <= a ∧ a <= (tape.length : Int)
  · obtain ⟨e1, e2⟩ := rd_yes ⟨hm, hc⟩
    rw [e1, e2]
    obtain ⟨q0, q1⟩ := hc
    obtain ⟨D, hD⟩ : ∃ D, p.t * p.w = D := ⟨_, rfl⟩
    rw [hD] at d0 d1 ⊢
    clear hm hp h pb e1 e2
    generalize tape.length = n at *
    unfold plv plw at *
    by_cases hz : D = 0
    · rw [if_pos hz]
      go_enter Try.func11, Try.ntmps11
      go_wp2_with (first
       | (go_at_call 16; refine (HM.out _).mono ?_; rintro e w1 ⟨rfl, hb1⟩; obtain ⟨c0, c1, c2, c3, c4, c5, c6, c7⟩ := HS.out _ hb1))
      go_ret2
      exact ⟨rfl, Below.next hA hb1⟩
    · rw [if_neg hz]
      have hdz : (D == 0) = false := beq_eq_false_iff_ne.2 hz
      obtain ⟨z1, z2, z3⟩ := quo_left (L := (n : Int) - a) (D := D) (by omega) (by omega) (by omega)
      generalize ((n : Int) - a) / D = Q at *
      by_cases hQ : 65536 < Q
      · rw [if_pos hQ]
        go_enter Try.func11, Try.ntmps11
        go_wp2_with (first
         | (go_at_call 16; refine (HM.out _).mono ?_; rintro e w1 ⟨rfl, hb1⟩; obtain ⟨c0, c1, c2, c3, c4, c5, c6, c7⟩ := HS.out _ hb1))
        go_ret2
        exact ⟨rfl, Below.next hA hb1⟩
      · rw [if_neg hQ]
        go_enter Try.func11, Try.ntmps11
        go_wp2_with (first
         | (go_at_call 16; refine (HM.out _).mono ?_; rintro e w1 ⟨rfl, hb1⟩; obtain ⟨c0, c1, c2, c3, c4, c5, c6, c7⟩ := HS.out _ hb1))
        go_ret2
        exact ⟨rfl, Below.next hA hb1⟩
  · obtain ⟨e1, e2⟩ := rd_no (p := p) (tape := tape) (a := a) (fun q => hc q.2)
    rw [e1, e2]
    have hcs : a < 0 ∨ (0 <= a ∧ (tape.length : Int) < a) := by omega
    clear hm hp h HS pb e1 e2 hc
    generalize tape.length = n at *
    unfold plv plw at *
    rcases hcs with hcs | ⟨hcs1, hcs⟩
    all_goals
     go_enter Try.func11, Try.ntmps11
     go_wp2_with (first
      | (go_at_call 16; refine (HM.out _).mono ?_; rintro e w1 ⟨rfl, hb1⟩))
     go_ret2
     exact ⟨rfl, Below.next hA hb1⟩
end Go.Proofs.Ytpibiagohfnbmaa
