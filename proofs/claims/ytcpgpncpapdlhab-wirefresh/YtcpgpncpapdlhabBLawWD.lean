/-
  WireFresh's walk: what is handed in stays, and what is answered is new memory.
-/
import Derived.Test.YtcpgpncpapdlhabBLawWA
import Derived.Deep.AppendLies
namespace Go.Proofs.Ytcpgpncpapdlhab
open Go.RowKit Fld
set_option linter.unusedVariables false

theorem valb_set8 (ys : List Int) (k : Nat) (x : Int) : (valb ys).set k (.int .u8 x) = valb (ys.set k x) := by simp [valb, List.map_set]
theorem own_cell8 {wr : World} {base g n cap k : Nat} {ys : List Int} {T : TypeId} (hO : wr.ownsRow base T 1 (.slice (some ⟨g, 0, none⟩) n cap) n (valb ys)) (hl : ys.length = n) (hk : k < n) : wr.cell? ⟨g, k, none⟩ = some (.int .u8 (ys.getD k 0)) := by
  rw [hO.cellAt k (by omega), valb_at ys k (by omega)]
theorem own_len8 {wr : World} {base n : Nat} {ys : List Int} {T : TypeId} {v : Value} (hO : wr.ownsRow base T 1 v n (valb ys)) : ys.length = n := by
  have := hO.1; rw [valb_length] at this; omega
theorem spoil_step8 {w wr : World} {base g n cap k : Nat} {ys : List Int} {r : Option Nat} {x : Int} {T : TypeId} (hO : wr.ownsRow base T 1 (.slice (some ⟨g, 0, none⟩) n cap) n (valb ys)) (hG : w.grownBy wr r) (hr : r = some g ∨ w.heap.size ≤ g) :
    (wr.setCell ⟨g, k, none⟩ (.int .u8 x)).ownsRow base T 1 (.slice (some ⟨g, 0, none⟩) n cap) n (valb (ys.set k x)) ∧ w.grownBy (wr.setCell ⟨g, k, none⟩ (.int .u8 x)) r := by
  have := hO.stored k (.int .u8 x)
  rw [valb_set8] at this
  exact ⟨this.1, grown_far hG this.2 hr⟩

set_option maxRecDepth 100000 in
set_option maxHeartbeats 400000 in
theorem Spoil8 (v : Value) (n base : Nat) (xs : List Int) (m : Int) (w : World) (m0 : 0 ≤ m) (m1 : m ≤ 255) (hO : w.ownsRow base 5 1 v n (valb xs)) (hn : n ≤ 2097152) (hb : base ≤ w.heap.size) :
    Calls Try.prog 8 #[v, .int .u8 m] w fun e w' => e = .returned (.tuple #[]) ∧ w.grownBy w' v.ownBlock := by
  obtain ⟨i0, hi0, hz0, hz1, hz2⟩ := info_parts u8_info
  have hbk := own_base hO
  obtain ⟨ao, cap, r, hv, hvr⟩ : ∃ ao cap r, v = .slice ao n cap ∧ v.ownBlock = r := by
    rcases hO.2 with ⟨rfl, rfl⟩ | ⟨g, cap, _, rfl, _⟩
    · exact ⟨_, _, _, rfl, rfl⟩
    · exact ⟨_, _, _, rfl, rfl⟩
  have hfm : 0 < n → ∃ g, ao = some ⟨g, 0, none⟩ ∧ r = some g := fun hp => by
    rcases hO.2 with ⟨h1, h2⟩ | ⟨g, c, _, h1, _⟩
    · omega
    · rw [hv] at h1 hvr
      cases h1
      exact ⟨g, rfl, hvr.symm⟩
  rw [hvr]
  rw [hvr] at hbk
  subst hv
  go_enter Try.func8, Try.ntmps8
  go_wp2
  go_loopw [4] (fun vi wr => ∃ (k : Nat) (ys : List Int), k ≤ n ∧ vi = .int .i64 k ∧ wr.ownsRow base 5 1 (.slice ao n cap) n (valb ys) ∧ w.grownBy wr r) (fun vi _ => n - (intOf vi).toNat)
  case atStart => exact ⟨0, xs, Nat.zero_le _, rfl, hO, grown_refl _ _⟩
  case round =>
    clear hO
    obtain ⟨k, ys, hk, rfl, hO, hG⟩ := hrel
    have hyl := own_len8 hO
    by_cases hlt : k < n
    · obtain ⟨g, rfl, rfl⟩ := hfm (by omega)
      have hck := own_cell8 hO hyl hlt
      have hfr := hO.frozenAt k
      generalize ys.getD k 0 = y at *
      go_wp2
      go_roundw
      case rel => exact ⟨k + 1, _, by omega, by go_num, (spoil_step8 hO hG (.inl rfl)).1, (spoil_step8 hO hG (.inl rfl)).2⟩
      case measure => simp [intOf]; omega
    · have hGs := hG.size
      clear hyl
      go_wp2_with (at_builtin; refine wpList_append_lies _ rfl _ _ _ rfl base 5 i0 _ 1 1 Try.underlying22 hi0 hz0 hz1 hz2 rfl (by omega) (.slice ao n cap) n (valb ys) rfl (hO.alloc _) ⟨wr.heap.size, 0, none⟩ 3 3 [.int .u8 m, .int .u8 m, .int .u8 m] rfl rfl (World.news_of_block (cs := #[.int .u8 m, .int .u8 m, .int .u8 m]) (t := 5) (fr := (0, 0)) (heap_alloc_new wr _)) (by simp [Value.oneCell']) (by omega) (by unfold maxLen; omega) (by omega) (by simp; omega) (wr.heap.size + 1) (by simp) ?_; intro gg cap2 w2 hO2 hgrow hat hltg)
      rw [hvr] at hgrow hat
      have hO2 : w2.ownsRow base 5 1 (.slice (some ⟨gg, 0, none⟩) (n + 3) cap2) (n + 3) (valb (ys ++ [m, m, m])) := by simpa [valb] using hO2
      have hG2 : w.grownBy w2 r := grown_trans (grown_alloc hG _) hgrow
      have hrow : r = some gg ∨ w.heap.size ≤ gg := by
        rcases hat with h | h
        · exact .inl h
        · right; omega
      clear hO hG hgrow hat hltg
      go_loopw [5] (fun vi wr => ∃ (k : Nat) (zs : List Int), k ≤ n + 3 ∧ vi = .int .i64 k ∧ wr.ownsRow base 5 1 (.slice (some ⟨gg, 0, none⟩) (n + 3) cap2) (n + 3) (valb zs) ∧ w.grownBy wr r) (fun vi _ => n + 3 - (intOf vi).toNat)
      case atStart => exact ⟨0, _, Nat.zero_le _, rfl, hO2, hG2⟩
      case round =>
        clear hO2 hG2
        obtain ⟨j, zs, hj, rfl, hO, hG⟩ := hrel
        have hzl := own_len8 hO
        by_cases hlt2 : j < n + 3
        · have hck := own_cell8 hO hzl hlt2
          have hfr := hO.frozenAt j
          generalize zs.getD j 0 = y at *
          go_wp2
          go_roundw
          case rel => exact ⟨j + 1, _, by omega, by go_num, (spoil_step8 hO hG hrow).1, (spoil_step8 hO hG hrow).2⟩
          case measure => simp [intOf]; omega
        · go_wp2
          go_end0
          exact ⟨rfl, hG⟩

set_option maxRecDepth 100000 in
set_option maxHeartbeats 1000000 in
theorem wfresh_any (v : Value) (bs : List Int) (w : World) (h : Rb w v bs) (hbl : bs.length ≤ 140737488351232) :
    Calls Try.prog 3 #[v] w fun e w' => e = .returned (.bool true) ∧ Below w.heap.size w w' := by
  have ga := hide (fun W => anch8 W)
  have HY := hide h.by
  have HB := hide (rBytes v bs w h hbl)
  have HRc := hide (fun W base n u (ho : World.ownsRow W base 5 1 u n (valb bs)) => rb_of_own ho h.by h.len)
  have HSl := hide (fun W u (hr : Rb W u bs) => wSeal u bs W hr)
  have HUn := hide (fun W u (hr : Rb W u bs) => wUnseal u bs W hr)
  have HRl := hide (fun W u (hr : Rb W u bs) => wReadList u bs W hr)
  have HrS := hide (fun W (hb : Below w.heap.size w W) => rSeal v bs W (h.below hb))
  unfold GivesB at HSl HrS
  unfold GivesU at HUn
  unfold GivesR8 at HRl
  have WS := hide (slL_ok h.by)
  have WU := hide (usL_ok h.by)
  have WR := hide (rlLo_ok h.by)
  have HR := hide h
  have HSs := hide (fun W u1 u2 (r1 : Rb W u1 (slL sum8 bs)) (r2 : Rb W u2 (slL sum8 bs)) => rSame8 u1 u2 _ _ W r1 r2)
  have HSb := hide (fun W u1 u2 (r1 : Rb W u1 bs) (r2 : Rb W u2 bs) => rSame8 u1 u2 _ _ W r1 r2)
  rw [decide_eq_true rfl] at HSs HSb
  obtain ⟨ao, cap, rfl, _⟩ := h.spell
  clear h
  generalize slL sum8 bs = ss at *
  generalize usL sum8 bs = us at *
  generalize rlLo bs = ls at *
  generalize slE bs = e1 at *
  generalize usE sum8 bs = e2 at *
  generalize usSo sum8 bs = e3 at *
  generalize rlFo bs = e4 at *
  generalize rlSo bs = e5 at *
  generalize rlE bs = e6 at *
  go_enter Try.func3, Try.ntmps3
  go_wp2_with fail
  refine HB.out.mono ?_; rintro e w1 ⟨vc, rfl, oc, b1⟩
  have rc := hide (HRc.out _ _ _ _ oc)
  go_wp2_with fail
  refine (HSl.out _ _ rc.out).mono ?_; rintro e w2 ⟨vs, rfl, os, b2⟩
  go_wp2_with fail
  refine (HUn.out _ _ (rc.out.below b2)).mono ?_; rintro e w3 ⟨vx, rfl, ox, b3⟩
  go_wp2_with fail
  refine (HRl.out _ _ ((rc.out.below b2).below b3)).mono ?_; rintro e w4 ⟨vl, rfl, ol, b4⟩
  go_wp2_with fail
  refine (HSl.out _ _ (((rc.out.below b2).below b3).below b4)).mono ?_; rintro e w5 ⟨vt, rfl, ot, b5⟩
  have z1 := b1.size
  have z2 := b2.size
  have z3 := b3.size
  have z4 := b4.size
  have z5 := b5.size
  have B25 : Below w2.heap.size w2 w5 := Below.next (Below.next b3 b4) b5
  have B5 : Below w1.heap.size w1 w5 := Below.next b2 B25
  have HSo : Hid (w5.ownsRow w1.heap.size 5 1 vs ss.length (valb ss)) := own_below os B25
  have HSb' : Hid (∀ g, vs.ownBlock = some g → w1.heap.size ≤ g ∧ g < w2.heap.size) := fun g hg => os.lt g hg
  have HX : Hid (∀ W, Kq (Sb w1.heap.size w2.heap.size w5.heap.size) w5 W → W.ownsRow w2.heap.size 5 1 vx us.length (valb us)) := fun W hk =>
    hk.own (own_below (own_below ox b4) b5) (fun g hg => .inr ⟨(ox.lt g hg).1, by have := (ox.lt g hg).2; omega⟩)
  have HXb : Hid (∀ g, vx.ownBlock = some g → w2.heap.size ≤ g ∧ g < w3.heap.size) := fun g hg => ox.lt g hg
  have HL : Hid (∀ W, Kq (Sb w1.heap.size w3.heap.size w5.heap.size) w5 W → W.ownsRow w3.heap.size 35 1 vl ls.length (vals ls)) := fun W hk =>
    hk.own (own_below ol b5) (fun g hg => .inr ⟨(ol.lt g hg).1, by have := (ol.lt g hg).2; omega⟩)
  have HLb : Hid (∀ g, vl.ownBlock = some g → w3.heap.size ≤ g ∧ g < w4.heap.size) := fun g hg => ol.lt g hg
  have HT : Hid (∀ W, Kq (Sb w1.heap.size w4.heap.size w5.heap.size) w5 W → Rb W vt ss) := fun W hk =>
    WS.out.rb (hk.own ot (fun g hg => .inr ⟨(ot.lt g hg).1, (ot.lt g hg).2⟩))
  have HE : Hid (∀ W, Kq (Sb w1.heap.size w4.heap.size w5.heap.size) w5 W → Rb W vc bs ∧ Below w.heap.size w W) := fun W hk =>
    ⟨HRc.out _ _ _ _ (hk.own (own_below oc B5) (fun g hg => .inl (oc.lt g hg).2)), Below.next b1 (Below.trans B5 (hk.below (fun j hj => .inl hj)))⟩
  obtain ⟨a1, c1, rfl⟩ := own_form oc
  obtain ⟨a2, c2, rfl⟩ := own_form os
  obtain ⟨a3, c3, rfl⟩ := own_form ox
  obtain ⟨a4, c4, rfl⟩ := own_form ol
  obtain ⟨a5, c5, rfl⟩ := own_form ot
  clear oc os ox ol ot b1 b2 b3 b4 b5 B25 B5 rc
  have hs1 := hide (Spoil8 _ _ _ ss 4 w5 (by decide) (by decide) HSo.out WS.out.2 (by omega))
  go_wp2_with fail
  refine hs1.out.mono ?_; rintro e w6 ⟨rfl, hg6⟩
  have HK6 : Hid (Kq (Sb w1.heap.size w2.heap.size w5.heap.size) w5 w6) := by
    refine grown_kq hg6 (fun j hj => hj.lt (by omega) (by omega)) (fun g hg hs => ?_)
    have := HSb'.out g hg
    rcases hs with hs | hs <;> omega
  have z6 := HK6.out.size
  have hs2 := hide (Spoil8 _ _ _ us 40 w6 (by decide) (by decide) (HX.out _ HK6.out) WU.out.2 (by omega))
  clear hs1 hg6 HSo HSb' HX
  go_wp2_with fail
  refine hs2.out.mono ?_; rintro e w7 ⟨rfl, hg7⟩
  have HK7 : Hid (Kq (Sb w1.heap.size w3.heap.size w5.heap.size) w5 w7) := by
    refine (HK6.out.mono (fun j hj => hj.sub z3 (Nat.le_refl _))).trans (grown_kq hg7 (fun j hj => hj.lt (by omega) (by omega)) (fun g hg hs => ?_))
    have := HXb.out g hg
    rcases hs with hs | hs <;> omega
  have z7 := HK7.out.size
  have hs3 := hide (Spoil_mark _ _ _ ls 9 w7 (by decide) (by decide) (HL.out _ HK7.out) (by have := WR.out.1; omega) (by omega))
  clear hs2 hg7 HXb HL HK6
  go_wp2_with fail
  refine hs3.out.mono ?_; rintro e w8 ⟨rfl, hg8⟩
  have HK8 : Hid (Kq (Sb w1.heap.size w4.heap.size w5.heap.size) w5 w8) := by
    refine (HK7.out.mono (fun j hj => hj.sub z4 (Nat.le_refl _))).trans (grown_kq hg8 (fun j hj => hj.lt (by omega) (by omega)) (fun g hg hs => ?_))
    have := HLb.out g hg
    rcases hs with hs | hs <;> omega
  obtain ⟨rc8, B8⟩ := HE.out _ HK8.out
  have rt8 := HT.out _ HK8.out
  clear hs3 hg8 HLb HK7 HK8 HT HE
  go_wp2_with fail
  refine (HrS.out _ B8).mono ?_; rintro e w9 ⟨vu, rfl, ou, b9⟩
  have ru9 := WS.out.rb ou
  obtain ⟨a9, c9, rfl⟩ := own_form ou
  have B9 := Below.next B8 b9
  clear ou
  go_wp2_with fail
  refine (ga.out _).mono ?_; rintro e w10 ⟨rfl, b10⟩
  have B10 := Below.next B9 b10
  have rc10 := (rc8.below b9).below b10
  have rt10 := (rt8.below b9).below b10
  have ru10 := ru9.below b10
  have rb10 := HR.out.below B10
  go_wp2_with fail
  refine (HSb.out _ _ _ rc10 rb10).mono ?_; rintro e w11 ⟨rfl, hw11⟩
  rw [hw11]
  clear hw11
  go_wp2_with fail
  refine (HSs.out _ _ _ rt10 ru10).mono ?_; rintro e w12 ⟨rfl, hw12⟩
  rw [hw12]
  clear hw12
  go_wp2
  go_ret
  exact ⟨by simp, B10⟩

end Go.Proofs.Ytcpgpncpapdlhab
