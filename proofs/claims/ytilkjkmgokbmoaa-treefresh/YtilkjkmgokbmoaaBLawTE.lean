/-
  TreeFresh's walk: what is handed in stays, and what is answered is new memory.
-/
import Derived.Test.YtilkjkmgokbmoaaBTreO
namespace Go.Proofs.Ytilkjkmgokbmoaa
open Go.RowKit Fld
set_option linter.unusedVariables false

def Bd (B : Nat → List (List Int)) (N : Nat) : Prop := ∀ i, i < N → (B i).length ≤ 2048 ∧ ∀ k, Wd ((B i).getD k [])
theorem Wd.ws {xs : List Int} (h : Wd xs) : Ws xs := h.2
theorem Bd.over {B : Nat → List (List Int)} {N i k : Nat} {zs : List Int} (h : Bd B N) (hi : i < N) (hk : k < (B i).length) (hz : Wd zs) : Bd (fun j => if j = i then (B i).set k zs else B j) N := by
  intro j hj
  by_cases e : j = i
  · simp only [if_pos e, List.length_set]
    refine ⟨(h i hi).1, fun x => ?_⟩
    rw [getD_set _ _ _ _ _ hk]
    split
    · exact hz
    · exact (h i hi).2 x
  · simp only [if_neg e]; exact h j hj

theorem Lss.at2 {w : World} {lo hi : Nat} {v : Value} {us : List Value} {xss : List (List Int)} (h : Lss w lo hi v us xss) {k : Nat} (hk : k < xss.length) : ∃ g cap, v = .slice (some ⟨g, 0, none⟩) xss.length cap ∧ g < w.heap.size ∧ w.cell? ⟨g, k, none⟩ = some (us.getD k nov) ∧ w.ownsRow lo 48 1 (us.getD k nov) (xss.getD k []).length (vals (xss.getD k [])) := by
  obtain ⟨g, cap, hv, _, hg⟩ := h.row.form (by omega)
  subst hv
  exact ⟨g, cap, rfl, hg, h.list hk, h.each k hk⟩
def Sb (a b c j : Nat) : Prop := j < a ∨ (b ≤ j ∧ j < c)
theorem Sb.lt {a b c d j : Nat} (h : Sb a b c j) (h1 : a ≤ d) (h2 : c ≤ d) : j < d := by rcases h with h | h <;> omega
theorem Sb.sub {a b c b' c' j : Nat} (h : Sb a b' c' j) (h1 : b ≤ b') (h2 : c' ≤ c) : Sb a b c j := by
  rcases h with h | h
  · exact .inl h
  · exact .inr ⟨by omega, by omega⟩

set_option maxRecDepth 100000 in
set_option maxHeartbeats 1000000 in
theorem tfresh_any (f : Int) (v1 v2 : Value) (P xs : List Int) (w : World) (h1 : Rw w v1 P) (h2 : Rw w v2 xs) :
    Calls Try.prog 8 #[.int .u8 f, v1, v2] w fun e w' => e = .returned (.bool true) ∧ Below w.heap.size w w' := by
  have W1 : Hid (Wd P) := ⟨h1.len, h1.words⟩
  have W2 : Hid (Wd xs) := ⟨h2.len, h2.words⟩
  have H1 := hide h1
  have H2 := hide h2
  have ga := hide (fun W => anch6 W)
  have WZ := hide (zeroL_wd f xs)
  have WV := hide (valsL_wd f P xs)
  have DV := hide (fun W (hb : Below w.heap.size w W) => dValues_any f v1 v2 P xs W (h1.below hb) (h2.below hb))
  obtain ⟨a1, k1, e1, _⟩ := h1.spell
  obtain ⟨a2, k2, e2, _⟩ := h2.spell
  subst e1 e2
  clear h1 h2
  go_enter Try.func8, Try.ntmps8
  go_wp2_with fail
  refine (Copy_any _ P w H1.out.1).mono ?_; rintro e w1 ⟨va, rfl, oa, hb1⟩
  go_wp2_with fail
  refine (Copy_any _ xs w1 (H2.out.1.below hb1)).mono ?_; rintro e w2 ⟨vb, rfl, ob, hb2⟩
  have OA := hide (own_below oa hb2)
  have OB := hide ob
  have RA := hide (W1.out.row OA.out)
  have RB := hide (W2.out.row OB.out)
  have GT := hide (tTree_any f vb xs w2 RB.out)
  have GZ := hide (fun W (hb : Below w2.heap.size w2 W) => tZero_any f vb xs W (RB.out.below hb))
  have GV := hide (fun W (ha : Rw W va P) (hb : Rw W vb xs) => tValues_any f va vb P xs W ha hb)
  have GR := hide (fun W u (hb : Below w2.heap.size w2 W) (hr : Rws W u [P, P]) => tRemainders_any f vb u xs [P, P] W (RB.out.below hb) hr (by simp))
  unfold Gives at GZ GV DV
  unfold GivesT at GT
  unfold GivesR at GR
  have BA := Below.next hb1 hb2
  have sb1 := hb1.size
  have sb2 := hb2.size
  clear oa ob hb1 hb2
  generalize chk f [P, xs] = e1 at *
  generalize chk f [xs] = e2 at *
  generalize rmE f xs [P, P] = e3 at *
  generalize zeroL f xs = Z at *
  generalize valsL f P xs = V at *
  go_wp2_with fail
  refine GT.out.mono ?_; rintro e w3 ⟨vt, cut, vs, uss, N, rfl, hV, hT, hcu, b3⟩
  have B3 := b3
  go_wp2_with fail
  refine (GZ.out _ B3).mono ?_; rintro e w4 ⟨vz, rfl, oz, b4⟩
  have B4 := Below.next B3 b4
  go_wp2_with fail
  refine (GV.out _ (RA.out.below B4) (RB.out.below B4)).mono ?_; rintro e w5 ⟨vv, rfl, ov, b5⟩
  have B5 := Below.next B4 b5
  go_wp2_with fail
  refine (Copy_any _ P w5 (H1.out.1.below (Below.next BA B5))).mono ?_; rintro e w6 ⟨vm, rfl, om, b6⟩
  have B6 := Below.next B5 b6
  go_wp2_with fail
  refine (Copy_any _ P w6 (H1.out.1.below (Below.next BA B6))).mono ?_; rintro e w7 ⟨vn, rfl, on, b7⟩
  have B7 := Below.next B6 b7
  obtain ⟨am, cm, rfl⟩ := own_form om
  obtain ⟨an, cn', rfl⟩ := own_form on
  have RM := hide (W1.out.row (own_below om b7))
  have RN := hide (W1.out.row on)
  have RL := hide (fun T => rws_two w7 _ _ P P RM.out RN.out T)
  have BL := hide (fun T => alloc_below w7 (.cells #[.slice am P.length cm, .slice an P.length cn'] T))
  clear on
  go_wp2_with fail
  refine (GR.out _ _ (Below.next B7 (BL.out _)) (RL.out _)).mono ?_; rintro e w9 ⟨vr, us9, rss, rfl, hS9, hL9, b9⟩
  have b8 := BL.out 22
  have c8 : (w7.alloc (.cells #[.slice am P.length cm, .slice an P.length cn'] 22)).cell? ⟨w7.heap.size, 0, none⟩ = some (.slice am P.length cm) := by simp [go_sem]
  have s8' : (w7.alloc (.cells #[.slice am P.length cm, .slice an P.length cn'] 22)).heap.size = w7.heap.size + 1 := by simp
  clear BL RL GT GZ GR
  generalize w7.alloc (.cells #[.slice am P.length cm, .slice an P.length cn'] 22) = w8 at *
  have B8 := Below.next B7 b8
  have B9 := Below.next B8 b9
  have q3 := b3.size
  have q4 := b4.size
  have q5 := b5.size
  have q6 := b6.size
  have q7 := b7.size
  have q9 := b9.size
  have hVz := WZ.out.ws
  have HZ : Hid (∀ W, Kq (Sb w2.heap.size w3.heap.size w9.heap.size) w9 W → W.ownsRow w3.heap.size 48 1 vz Z.length (vals Z)) := fun W hk =>
    hk.own (own_below (own_below (own_below (own_below (own_below oz b5) b6) b7) b8) b9) (fun g hg => .inr ⟨(oz.lt g hg).1, by have := (oz.lt g hg).2; omega⟩)
  have HZb : Hid (∀ g, vz.ownBlock = some g → w3.heap.size ≤ g ∧ g < w4.heap.size) := fun g hg => oz.lt g hg
  have HV' : Hid (∀ W, Kq (Sb w2.heap.size w4.heap.size w9.heap.size) w9 W → W.ownsRow w4.heap.size 48 1 vv V.length (vals V)) := fun W hk =>
    hk.own (own_below (own_below (own_below (own_below ov b6) b7) b8) b9) (fun g hg => .inr ⟨(ov.lt g hg).1, by have := (ov.lt g hg).2; omega⟩)
  have HVb : Hid (∀ g, vv.ownBlock = some g → w4.heap.size ≤ g ∧ g < w5.heap.size) := fun g hg => ov.lt g hg
  have HR : Hid (∀ W, Kq (Sb w2.heap.size w5.heap.size w9.heap.size) w9 W → Lss W w8.heap.size w9.heap.size vr us9 rss) := fun W hk =>
    hk.lss hL9 (fun j h1 h2 => .inr ⟨by omega, h2⟩)
  have HE : Hid (∀ W, Kq (Sb w2.heap.size w5.heap.size w8.heap.size) w9 W → Rw W va P ∧ Rw W vb xs ∧ Rw W (.slice am P.length cm) P ∧ W.cell? ⟨w7.heap.size, 0, none⟩ = some (.slice am P.length cm)) := fun W hk =>
    ⟨W1.out.row (hk.own (own_below OA.out B9) (fun g hg => .inl (OA.out.lt g hg).2)), W2.out.row (hk.own (own_below OB.out B9) (fun g hg => .inl (OB.out.lt g hg).2)),
      W1.out.row (hk.own (own_below (own_below (own_below om b7) b8) b9) (fun g hg => .inr ⟨(om.lt g hg).1, by have := (om.lt g hg).2; omega⟩)),
      ((hk.cell (a := ⟨w7.heap.size, 0, none⟩) (.inr ⟨by show _ ≤ w7.heap.size; omega, by show w7.heap.size < _; omega⟩)).trans (b9.cell (p := ⟨w7.heap.size, 0, none⟩) (by show w7.heap.size < _; omega))).trans c8⟩
  have HLT : Hid (Lvs w9 w2.heap.size cut vt vs uss (tre (pOf f) xs) N) := (((((hV.below b4).below b5).below b6).below b7).below b8).below b9
  have HBD : Hid (Bd (tre (pOf f) xs) N) := fun i hi => ⟨((hT.wd (by omega)).2.2 i).2, ((hT.wd (by omega)).2.2 i).1⟩
  have hN12 : N ≤ 12 := by
    by_cases h0 : 0 < N
    · exact (hT.wd h0).2.1
    · omega
  have WR := hide (hS9.wd)
  have hR2 := hS9.wd.2
  have BW := hide (Below.next BA B9)
  obtain ⟨at', ct, rfl⟩ := hV.spelt
  obtain ⟨ar, cr, rfl⟩ := own_form hL9.row
  obtain ⟨az, cz, rfl⟩ := own_form oz
  obtain ⟨av, cv, rfl⟩ := own_form ov
  clear oz ov om hV hT hL9 hS9 b3 b4 b5 b6 b7 b8 b9 B3 B4 B5 B6 B7 B8 B9 c8 hVz OA OB RA RB RM RN
  go_wp2
  go_loopw [19] (fun vi wr => ∃ (i : Nat) (B : Nat → List (List Int)), i ≤ N ∧ vi = .int .i64 i ∧ Hid (Lvs wr w2.heap.size cut (.slice at' N ct) vs uss B N) ∧ Hid (Bd B N) ∧ Hid (Kq (Sb w2.heap.size w3.heap.size w9.heap.size) w9 wr)) (fun vi _ => N - (intOf vi).toNat)
  case atStart => exact ⟨0, _, Nat.zero_le _, rfl, HLT, HBD, Kq.refl _ _⟩
  case round =>
    clear HLT HBD
    obtain ⟨i, B, hi, rfl, HL, HB, HK⟩ := hrel
    by_cases hlt : i < N
    · have hL := HL.out.each i hlt
      obtain ⟨gt, capt, et, hgt0, hgt1⟩ := HL.out.row.form (by omega)
      cases et
      obtain ⟨al, cl, el⟩ := own_form hL.row
      have Lb : (B i).length ≤ 2048 := (HB.out i hlt).1
      have HCT : Hid (∀ W B', Lvs W w2.heap.size cut (.slice (some ⟨gt, 0, none⟩) N ct) vs uss B' N → W.cell? ⟨gt, i, none⟩ = some (.slice al (B i).length cl)) := fun W B' h => by rw [h.level hlt, el]
      have i0 : (0 : Int) ≤ (i : Int) := by omega
      have i1 : (i : Int) < (N : Int) := by omega
      obtain ⟨L, hLq⟩ : ∃ L, (B i).length = L := ⟨_, rfl⟩
      have HLQ := hide hLq
      rw [hLq] at Lb HCT el
      have d0 := HCT.out wr B HL.out
      clear hL hLq
      obtain ⟨wo, rfl⟩ : ∃ wo : World, wo = wr := ⟨_, rfl⟩
      go_wp2
      go_loopw [20] (fun vk wr => ∃ (k : Nat) (B : Nat → List (List Int)), k ≤ L ∧ vk = .int .i64 k ∧ Hid ((B i).length = L) ∧ Hid (Lvs wr w2.heap.size cut (.slice (some ⟨gt, 0, none⟩) N ct) vs uss B N) ∧ Hid (Bd B N) ∧ Hid (Kq (Sb w2.heap.size w3.heap.size w9.heap.size) w9 wr)) (fun vk _ => L - (intOf vk).toNat)
      case atStart => exact ⟨0, B, Nat.zero_le _, rfl, HLQ, HL, HB, HK⟩
      case round =>
        clear HL HB HK HLQ d0
        obtain ⟨k, B, hk, rfl, HLQ, HL, HB, HK⟩ := hrel
        have d1 := HCT.out wr B HL.out
        by_cases hltk : k < L
        · have hLi := HL.out.each i hlt
          rw [el] at hLi
          obtain ⟨gl, capl, eg, hgl0, hgl1⟩ := hLi.row.form (by rw [HLQ.out]; omega)
          rw [HLQ.out] at eg
          cases eg
          have hWk := (HB.out i hlt).2
          have hcr := hide (CopyRows_any _ (B i) wr (hLi.rws hWk (by rw [HLQ.out]; omega)) (by rw [HLQ.out]; exact Lb))
          have HCL : Hid (∀ W B', Lvs W w2.heap.size cut (.slice (some ⟨gt, 0, none⟩) N ct) vs uss B' N → (B' i).length = L → ∀ n, n < L → W.cell? ⟨gl, n, none⟩ = some ((uss i).getD n nov) ∧ W.ownsRow (cut i) 48 1 ((uss i).getD n nov) ((B' i).getD n []).length (vals ((B' i).getD n []))) := fun W B' h hl n hn => by
            have h1 := h.each i hlt
            rw [el] at h1
            have h2 := h1.row
            rw [hl] at h2
            exact ⟨by rw [h2.cellAt n (by omega), List.getD_eq_getElem?_getD, List.getElem?_eq_getElem (by rw [h1.len, hl]; exact hn)]; rfl, h1.each n (by rw [hl]; exact hn)⟩
          have hks := HK.out.size
          have hct := HL.out.cuts i (by omega) 0 (by omega)
          have hct2 := HL.out.cuts N (by omega) (i + 1) (by omega)
          have hfr := HL.out.from_
          have hub : Hid (∀ g, ((uss i).getD k nov).ownBlock = some g → w2.heap.size ≤ g ∧ g < w3.heap.size) := fun g hg => by
            have h1 := hLi.from_ k g hg
            have h2 := hLi.top k g hg
            omega
          have k0 : (0 : Int) ≤ (k : Int) := by omega
          have k1' : (k : Int) < (L : Int) := by omega
          clear hLi
          go_wp2_with fail
          refine hcr.out.mono ?_; rintro e w10 ⟨vkp, usk, rfl, hKp, b10⟩
          have HL10 := hide (HL.out.below b10)
          have e10 := HCT.out _ _ HL10.out
          obtain ⟨f10, o10⟩ := HCL.out _ _ HL10.out HLQ.out k hltk
          have s10 := b10.size
          have hsp := hide (Spoil_own _ _ (cut i) _ 9 w10 (by decide) (by decide) o10 (hWk k).ws (hWk k).1 (by omega))
          obtain ⟨aq, cq, eq⟩ := own_form o10
          have HEQ := hide eq
          rw [eq] at f10 hsp
          have hkl : usk.length = L := by rw [hKp.len, HLQ.out]
          obtain ⟨ak, ck, ekp⟩ := own_form hKp.row
          rw [HLQ.out] at ekp
          subst ekp
          obtain ⟨nk, hnk⟩ : ∃ nk, ((B i).getD k []).length = nk := ⟨_, rfl⟩
          rw [hnk] at f10 hsp HEQ
          have HNK := hide hnk
          clear hnk
          clear o10 hcr d1 eq
          go_wp2_with (go_at_call 30; refine hsp.out.mono ?_; rintro e w11 ⟨rfl, hg11, zs, hzs, ozs⟩)
          have hzl := own_len ozs
          have HLQ2 : Hid (((fun j => if j = i then (B i).set k zs else B j) i).length = L) := by
            show _ = _
            simp only [if_true, List.length_set]; exact HLQ.out
          have HL11 : Hid (Lvs w11 w2.heap.size cut (.slice (some ⟨gt, 0, none⟩) N ct) vs uss (fun j => if j = i then (B i).set k zs else B j) N) := HL10.out.over hlt (by rw [HLQ.out]; exact hltk) (by rw [HEQ.out]; exact hg11) (by rw [HEQ.out, HNK.out]; exact ozs)
          have HB11 : Hid (Bd (fun j => if j = i then (B i).set k zs else B j) N) := HB.out.over hlt (by rw [HLQ.out]; exact hltk) ⟨by rw [hzl, ← HNK.out]; exact (hWk k).1, hzs⟩
          rw [HEQ.out] at hub
          have HK11 : Hid (Kq (Sb w2.heap.size w3.heap.size w9.heap.size) w9 w11) := by
            refine HK.out.trans ((Below.kq b10 (fun j hj => hj.lt (by omega) (by omega))).trans (grown_kq hg11 (fun j hj => hj.lt (by omega) (by omega)) (fun g hg hs => ?_)))
            have := hub.out g hg
            rcases hs with hs | hs <;> omega
          have HKP : Hid (Lss w11 wr.heap.size w10.heap.size (.slice ak L ck) usk (B i)) := by
            refine hKp.kept hg11 (fun g hg hc => ?_) (fun j g hj hg hc => ?_)
            · have h1 := own_base hKp.row g hg
              have h2 := hub.out g hc
              omega
            · have h1 := hKp.from_ j g hg
              have h2 := hub.out g hc
              omega
          have HSM : Hid (∀ n, k < n → ((fun j => if j = i then (B i).set k zs else B j) i).getD n [] = (B i).getD n []) := fun n hn => by
            simp only [if_true]
            rw [getD_set _ _ _ _ _ (by rw [HLQ.out]; exact hltk), if_neg (by omega)]
          clear hKp hg11 ozs HL10 e10 f10 hub HL HB HK hsp hzs
          go_loopw [22] (fun vn wr => ∃ n : Nat, k + 1 ≤ n ∧ n ≤ L ∧ vn = .int .i64 n ∧ Below w11.heap.size w11 wr) (fun vn _ => L - (intOf vn).toNat)
          case atStart => exact ⟨k + 1, Nat.le_refl _, by omega, by go_num, Below.refl _ _⟩
          case round =>
            obtain ⟨n, hn1, hn2, rfl, hB11⟩ := hrel
            have HLr := hide (HL11.out.below hB11)
            have HKr := hide (HKP.out.below hB11)
            have d2 := HCT.out _ _ HLr.out
            by_cases hltn : n < L
            · obtain ⟨f2, o2⟩ := HCL.out _ _ HLr.out HLQ2.out n hltn
              rw [HSM.out n (by omega)] at o2
              obtain ⟨gk, capk, ek, hgk, f3, o3⟩ := HKr.out.at2 (k := n) (by rw [HLQ.out]; exact hltn)
              rw [HLQ.out] at ek
              cases ek
              have HRo := hide (fun m => Same_quiet _ _ _ (wr.drewN m) (((hWk n).row o2).below (drewN_below wr m)).1 (((hWk n).row o3).below (drewN_below wr m)).1)
              obtain ⟨z2, y2, hz2⟩ := own_form o2
              obtain ⟨z3, y3, hz3⟩ := own_form o3
              rw [hz2] at f2 HRo
              rw [hz3] at f3 HRo
              have n0 : (0 : Int) ≤ (n : Int) := by omega
              have n1 : (n : Int) < (L : Int) := by omega
              generalize ((B i).getD n []).length = ln at *
              clear o2 o3 hz2 hz3 HLr HKr HL11 HKP HB11 HK11 HCL HCT HSM HLQ HLQ2
              go_wp2_with fail
              go_quiet ((first
                | (go_at_call 13; exact Calls.quiet_of (HRo.out _))))
              have hB12 := below_drewN hB11 nq
              clear hB11
              go_wp2
              go_roundw
              case rel => exact ⟨n + 1, by omega, by omega, by go_num, hB12⟩
              case measure => simp [intOf]; omega
            · have HKe := hide (HK11.out.trans (Below.kq hB11 (fun j hj => hj.lt (by have := HK11.out.size; omega) (by have := HK11.out.size; omega))))
              clear HKr HL11 HKP HK11 HCL HCT HSM
              go_wp2
              go_roundw
              case rel => exact ⟨k + 1, _, by omega, by go_num, HLQ2, HLr, HB11, HKe⟩
              case measure => simp [intOf]; omega
        · clear HCT
          go_wp2
          go_roundw
          case rel => exact ⟨i + 1, B, by omega, by go_num, HL, HB, HK⟩
          case measure => simp [intOf]; omega
    · have hks := HK.out.size
      have hsz := hide (Spoil_mark _ _ _ Z 8 wr (by decide) (by decide) (HZ.out _ HK.out) WZ.out.1 (by omega))
      clear HL HB
      go_wp2_with fail
      refine hsz.out.mono ?_; rintro e w12 ⟨rfl, hg12⟩
      have HK12 : Hid (Kq (Sb w2.heap.size w4.heap.size w9.heap.size) w9 w12) := by
        refine (HK.out.mono (fun j hj => hj.sub q4 (Nat.le_refl _))).trans (grown_kq hg12 (fun j hj => hj.lt (by omega) (by omega)) (fun g hg hs => ?_))
        have := HZb.out g hg
        rcases hs with hs | hs <;> omega
      have hks2 := HK12.out.size
      have hsv := hide (Spoil_mark _ _ _ V 7 w12 (by decide) (by decide) (HV'.out _ HK12.out) WV.out.1 (by omega))
      clear HK HZ HZb hg12 hsz
      go_wp2_with fail
      refine hsv.out.mono ?_; rintro e w13 ⟨rfl, hg13⟩
      have HK13 : Hid (Kq (Sb w2.heap.size w5.heap.size w9.heap.size) w9 w13) := by
        refine (HK12.out.mono (fun j hj => hj.sub q5 (Nat.le_refl _))).trans (grown_kq hg13 (fun j hj => hj.lt (by omega) (by omega)) (fun g hg hs => ?_))
        have := HVb.out g hg
        rcases hs with hs | hs <;> omega
      have HLR := hide (HR.out _ HK13.out)
      have HK14 : Hid (Kq (Sb w2.heap.size w5.heap.size w8.heap.size) w9 w13) := HK13.out.mono (fun j hj => hj.sub (Nat.le_refl _) q9)
      clear HK12 HK13 hg13 hsv HV' HVb HR
      obtain ⟨R, hRq⟩ : ∃ R, rss.length = R := ⟨_, rfl⟩
      have HRQ := hide hRq
      have HWR := hide WR.out.1
      rw [hRq] at HLR hR2 ⊢
      clear hRq WR
      go_wp2
      go_loopw [23] (fun vi wr => ∃ (i : Nat) (rs : List (List Int)), i ≤ R ∧ vi = .int .i64 i ∧ Hid (rs.length = R) ∧ Hid (∀ i, Wd (rs.getD i [])) ∧ Hid (Lss wr w8.heap.size w9.heap.size (.slice ar R cr) us9 rs) ∧ Hid (Kq (Sb w2.heap.size w5.heap.size w8.heap.size) w9 wr)) (fun vi _ => R - (intOf vi).toNat)
      case atStart => exact ⟨0, rss, Nat.zero_le _, rfl, HRQ, HWR, HLR, HK14⟩
      case round =>
        clear HLR HK14 HWR HRQ
        obtain ⟨i, rs, hi, rfl, HRQ, HWR, HLR, HK⟩ := hrel
        have hks := HK.out.size
        by_cases hlt : i < R
        · obtain ⟨gr, capr, er, hgr, d1, o1⟩ := HLR.out.at2 (k := i) (by rw [HRQ.out]; exact hlt)
          rw [HRQ.out] at er
          cases er
          have hsp := hide (Spoil_own _ _ _ _ 5 wr (by decide) (by decide) o1 (HWR.out i).ws (HWR.out i).1 (by omega))
          have hub : Hid (∀ g, (us9.getD i nov).ownBlock = some g → w8.heap.size ≤ g) := fun g hg => HLR.out.from_ i g hg
          obtain ⟨aq, cq, eq⟩ := own_form o1
          have HEQ := hide eq
          rw [eq] at d1 hsp
          obtain ⟨nk, hnk⟩ : ∃ nk, (rs.getD i []).length = nk := ⟨_, rfl⟩
          rw [hnk] at d1 hsp HEQ
          have HNK := hide hnk
          have i0 : (0 : Int) ≤ (i : Int) := by omega
          have i1 : (i : Int) < (R : Int) := by omega
          clear hnk o1 eq
          go_wp2_with (go_at_call 30; refine hsp.out.mono ?_; rintro e w14 ⟨rfl, hg14, zs, hzs, ozs⟩)
          have hzl := own_len ozs
          have HLR2 : Hid (Lss w14 w8.heap.size w9.heap.size (.slice (some ⟨gr, 0, none⟩) R cr) us9 (rs.set i zs)) := HLR.out.over (by rw [HRQ.out]; exact hlt) (by rw [HEQ.out]; exact hg14) (by rw [HEQ.out, HNK.out]; exact ozs)
          have HRQ2 : Hid ((rs.set i zs).length = R) := by show _ = _; rw [List.length_set]; exact HRQ.out
          have HWR2 : Hid (∀ j, Wd ((rs.set i zs).getD j [])) := fun j => by
            rw [getD_set _ _ _ _ _ (by rw [HRQ.out]; exact hlt)]
            split
            · exact ⟨by rw [hzl, ← HNK.out]; exact (HWR.out i).1, hzs⟩
            · exact HWR.out j
          rw [HEQ.out] at hub
          have HK2 : Hid (Kq (Sb w2.heap.size w5.heap.size w8.heap.size) w9 w14) := by
            refine HK.out.trans (grown_kq hg14 (fun j hj => hj.lt (by omega) (by omega)) (fun g hg hs => ?_))
            have := hub.out g hg
            rcases hs with hs | hs <;> omega
          clear hg14 ozs hzs HLR HK hub hsp d1 HWR HRQ
          go_roundw
          case rel => exact ⟨i + 1, _, by omega, by go_num, HRQ2, HWR2, HLR2, HK2⟩
          case measure => simp [intOf]; omega
        · obtain ⟨ra, rb, rm, cmm⟩ := HE.out _ HK.out
          have BW2 := hide (Below.trans BW.out (HK.out.below (fun j hj => .inl (by omega))))
          have ra := hide ra
          have rb := hide rb
          have rm := hide rm
          have hm7 : w7.heap.size < wr.heap.size := by omega
          have HC7 : Hid (∀ W, Below wr.heap.size wr W → W.cell? ⟨w7.heap.size, 0, none⟩ = some (.slice am P.length cm)) := fun W hb => (hb.cell (p := ⟨w7.heap.size, 0, none⟩) hm7).trans cmm
          clear HLR HK HWR HRQ HE BW cmm
          go_wp2_with fail
          refine (GV.out _ ra.out rb.out).mono ?_; rintro e w15 ⟨vw, rfl, ow, b15⟩
          go_wp2_with fail
          refine (DV.out _ (Below.next BW2.out b15)).mono ?_; rintro e w16 ⟨vx, rfl, ox, b16⟩
          have R15 := hide (WV.out.row (own_below ow b16)).1
          have R16 := hide (WV.out.row ox).1
          have B16 := Below.next b15 b16
          clear ow ox b15 b16
          go_wp2_with fail
          refine (ga.out _).mono ?_; rintro e w17 ⟨rfl, b17⟩
          have B17 := Below.next B16 b17
          have R15 := hide (R15.out.below b17)
          have R16 := hide (R16.out.below b17)
          clear b17 B16
          go_wp2_with fail
          refine (Same_yes _ _ P _ (ra.out.below B17).1 (H1.out.below (Below.next BW2.out B17)).1).mono ?_; rintro e w18 ⟨rfl, b18⟩
          have B18 := Below.next B17 b18
          have R15 := hide (R15.out.below b18)
          have R16 := hide (R16.out.below b18)
          clear b18 B17
          go_wp2_with fail
          refine (Same_yes _ _ xs _ (rb.out.below B18).1 (H2.out.below (Below.next BW2.out B18)).1).mono ?_; rintro e w19 ⟨rfl, b19⟩
          have B19 := Below.next B18 b19
          have R15 := hide (R15.out.below b19)
          have R16 := hide (R16.out.below b19)
          have c19 := HC7.out _ B19
          clear b19 B18
          go_wp2_with fail
          refine (Same_yes _ _ P _ (rm.out.below B19).1 (H1.out.below (Below.next BW2.out B19)).1).mono ?_; rintro e w20 ⟨rfl, b20⟩
          have B20 := Below.next B19 b20
          have R15 := hide (R15.out.below b20)
          have R16 := hide (R16.out.below b20)
          clear b20 B19 c19
          go_wp2_with fail
          refine (Same_yes _ _ V _ R15.out R16.out).mono ?_; rintro e w21 ⟨rfl, b21⟩
          have B21 := Below.next BW2.out (Below.next B20 b21)
          clear b21 B20
          go_wp2
          go_ret
          exact ⟨by simp, B21⟩

end Go.Proofs.Ytilkjkmgokbmoaa
