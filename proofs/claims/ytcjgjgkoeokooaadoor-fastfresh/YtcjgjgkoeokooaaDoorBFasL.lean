/-
  Layer 4: a transform in place.
-/
import Derived.Test.YtcjgjgkoeokooaaDoorBFasK
import Derived.Test.YtcjgjgkoeokooaaDoorBunR
namespace Go.Proofs.YtcjgjgkoeokooaaDoor
open Go.RowKit Fld
set_option linter.unusedVariables false

set_option maxRecDepth 100000 in
set_option maxHeartbeats 400000 in
theorem Powers_own (f p : Int) (wd : Bool) (a : Int) (n : Nat) (w : World) (h : Fi f p wd) (ha : El p a) (hn : n ≤ 4096) :
    Calls Tryd.prog 75 #[.int .u8 f, .int .u64 a, .int .i64 n] w fun e w' => ∃ g2, e = .returned (.tuple #[.slice (some ⟨g2, 0, none⟩) n n, .int .i64 0]) ∧ w.heap.size ≤ g2 ∧ OwnG w' g2 n (pws p a n) ∧ Below w.heap.size w w' := by
  obtain ⟨i0, hi0, hz0, hz1, hz2⟩ := info_parts u64_info
  have hi := hide (fun W v hr => In_yes f p wd v [a] W h hr (allIn1 ha))
  have hrow := hide (fun T => row1 w a (elWord ha h.top) T)
  have HM := hide (fun W x (hx : El p x) => Mul_yes f p x a wd W h hx ha)
  have HE := hide (fun i => pw_el (a := a) h.md i)
  clear h ha
  go_enter Tryd.func75, Tryd.ntmps75
  go_wp2_with (first
    | (go_at_call 61; refine (hi.out _ _ (hrow.out _)).mono ?_; rintro e w1 ⟨rfl, hb⟩)
    | (at_make; refine wpList_make_full _ rfl _ _ 22 rfl w1.heap.size 39 i0 (.int .u64 0) 1 Tryd.underlying22 hi0 hz0 hz1 .i64 .i64 _ _ n rfl rfl (by omega) (by omega) (by rw [hz2]; omega) (by unfold maxLen; omega) (Nat.le_refl _) ?_; intro w2 hown hgrow))
  have hO := OwnG.made hown
  have hB := Below.next (below_one hb) (below_grown_none hgrow)
  have hg0 := (below_one hb).size
  clear hown hgrow hb
  go_loopw [9, 26] (fun vp vi wr => ∃ (k : Nat) (ys : List Int), k ≤ n ∧ vi = .int .i64 k ∧ vp = .int .u64 (pw p a k) ∧ ys.length = n ∧ OwnG wr w1.heap.size n ys ∧ Hid (∀ j, j < k → ys.getD j 0 = pw p a j) ∧ Below w.heap.size w wr) (fun _ vi _ => n - (intOf vi).toNat)
  case atStart => exact ⟨0, _, Nat.zero_le _, rfl, rfl, by simp, hO, fun j hj => by omega, hB⟩
  case round =>
    clear hO hB
    obtain ⟨k, ys, hk, rfl, rfl, hyl, hO, HY, hB⟩ := hrel
    by_cases hlt : k < n
    · have ho := hO.cell hyl k hlt
      have hfr := hO.free k
      have HS := hide (show mul p (pw p a k) a = pw p a (k + 1) from rfl)
      have HT := hide (upto_pw (P := pw p a k) HY.out (by omega) rfl)
      have hm := hide (fun W => HM.out W _ (HE.out k))
      generalize pw p a k = P at *
      generalize ys.getD k 0 = y at *
      go_wp2_with (go_at_call 60; refine (hm.out _).mono ?_; rintro e w3 ⟨rfl, hb⟩)
      have R1 := own_below (hO.set k P) hb
      have R2 := Below.next (hB.setCell (p := ⟨w1.heap.size, k, none⟩) hg0 (.int .u64 P)) hb
      go_roundw
      case rel => exact ⟨k + 1, _, by omega, by go_num, by rw [HS.out], by simpa using hyl, R1, HT, R2⟩
      case measure => simp [intOf]; omega
    · obtain rfl : k = n := by omega
      have HV : Hid (ys = pws p a k) := ext_getD ys (pws p a k) (by rw [pws_len, hyl]) (fun j hj => by rw [HY.out j (by omega), pws_at p a k j (by omega)])
      generalize pw p a k = P at *
      go_wp2
      go_ret2
      rw [HV.out] at hO
      exact ⟨_, rfl, hg0, hO, hB⟩


theorem els_pws {p a : Int} {wd : Bool} (hm : Md p wd) (n : Nat) : Els p (pws p a n) := fun x hx => by
  unfold pws at hx
  obtain ⟨i, _, rfl⟩ := List.mem_map.1 hx
  exact pw_el hm i
theorem pw_mod {p a : Int} {wd : Bool} (hm : Md p wd) (n : Nat) : pw p a n % p = a ^ n % p := by
  rw [pw_pow hm]
  unfold pow
  rw [Int.toNat_natCast, Int.emod_emod_of_dvd _ (Int.dvd_refl p)]
theorem els_tk {p : Int} (hp : 0 < p) {L : Nat} {xs : List Int} (hx : Els p xs) (i : Nat) : Els p (tk L xs i) := Els.of_co (fun k hk => by
  rw [tk_len] at hk
  rw [co_tk hk]; split
  · exact hx.co hp _
  · exact hx.co hp _)
theorem row_own {w : World} {g n : Nat} {xs : List Int} (h : OwnG w g n xs) (hl : n ≤ 17592186043904) (hw : ∀ x ∈ xs, 0 ≤ x ∧ x ≤ 18446744073709551615) : Row w (.slice (some ⟨g, 0, none⟩) n n) xs :=
  row_of_own h (own_len h).symm (by rw [own_len h]; exact hl) hw
theorem row_grown {w w' : World} {g g2 n : Nat} {xs : List Int} (h : OwnG w g2 n xs) (hG : w.grownBy w' (some g)) (hne : g2 ≠ g) : OwnG w' g2 n xs := by
  have hlt := own_lt h
  refine ⟨h.1, ?_⟩
  rcases h.2 with ⟨h1, _⟩ | ⟨g', cap, cur, h1, h2, h3, h4⟩
  · cases h1
  · cases h1
    exact .inr ⟨g2, n, cur, rfl, h2, (hG.block g2 hlt (by intro e; cases e; exact hne rfl)).trans h3, h4⟩

/-- The powers that a level takes. -/
theorem tw_mod {p a : Int} {wd : Bool} (hm : Md p wd) {L m s : Nat} (hL : m + s + 1 = L) {k : Nat} (hk : k < 2 ^ s) : k * 2 ^ m < 2 ^ (m + s) ∧ co (pws p a (2 ^ (m + s))) (k * 2 ^ m) % p = Wk a L (s + 1) ^ k % p := by
  have h1 : k * 2 ^ m < 2 ^ (m + s) := by
    rw [Nat.add_comm, Nat.pow_add]
    exact Nat.mul_lt_mul_of_pos_right hk (Nat.pow_pos (by decide))
  refine ⟨h1, ?_⟩
  have e1 : co (pws p a (2 ^ (m + s))) (k * 2 ^ m) = pw p a (k * 2 ^ m) := pws_at p a _ _ h1
  have e2 : L - (s + 1) = m := by omega
  rw [e1, pw_mod hm]
  unfold Wk
  rw [e2, ← Int.pow_mul, Nat.mul_comm]

def lenV : Value → Nat
  | .slice _ n _ => n
  | _ => 0
theorem pow_gt {s L : Nat} (h : s < L) : 2 ^ s < 2 ^ L := Nat.pow_lt_pow_right (by decide) h
theorem half_pow {m s L n M : Nat} (hL : m + s + 1 = L) (hn : n = 2 ^ L) (hM : (n : Int) / 2 = (M : Int)) : M = 2 ^ (m + s) ∧ n = 2 ^ m * 2 ^ (s + 1) ∧ (M : Int) / ((2 ^ s : Nat) : Int) = ((2 ^ m : Nat) : Int) := by
  have e : n = 2 * 2 ^ (m + s) := by rw [hn, ← hL, two_pow]
  have eM : M = 2 ^ (m + s) := by omega
  refine ⟨eM, by rw [hn, ← hL, ← Nat.pow_add]; rfl, ?_⟩
  rw [eM, ← Int.natCast_ediv, Nat.pow_add, Nat.mul_div_cancel _ (Nat.pow_pos (by decide))]

set_option maxRecDepth 100000 in
set_option maxHeartbeats 400000 in
theorem spread_any (f p r : Int) (wd : Bool) (L n : Nat) (xs : List Int) (w : World) (g : Nat) (hF : Fi f p wd) (hL : L ≤ 12) (hn : n = 2 ^ L) (hO : OwnG w g n xs) (hx : Els p xs) (hr : El p r) (hH : Hf p r L) (hT : Tb w) :
    Calls Tryd.prog 55 #[.int .u8 f, .slice (some ⟨g, 0, none⟩) n n, .int .u64 r] w fun e w' => e = .returned (.tuple #[]) ∧ OwnG w' g n (tf p r n xs) ∧ w.grownBy w' (some g) := by
  have hle : n ≤ 4096 := by rw [hn]; exact pow_le12 hL
  have hn1 : 1 ≤ n := by rw [hn]; exact Nat.pow_pos (by decide)
  have HTu := hide (turn_any L n xs w g hL hn hO hT)
  obtain ⟨M, hM⟩ : ∃ M : Nat, (n : Int) / 2 = (M : Int) := ⟨n / 2, by omega⟩
  have hMl : M ≤ 4096 := by omega
  have HPw := hide (fun W => Powers_own f p wd r M W hF hr hMl)
  have hp0 := hF.pos
  have hp1 := hF.top
  have HR := hide hH.rts
  have HF := hide hF
  have HX := hide hx
  have HN := hide hn
  have HMn := hide hM
  have hgl := own_lt hO
  have HSt : Hid (Lv p (Wk r L) (co xs) L 0 (tk L xs n)) := by show Lv _ _ _ _ _ _; rw [hn]; exact Lv.start hp0 hx
  clear hF hx hr hH hT hO hn
  go_enter Tryd.func55, Tryd.ntmps55
  go_wp2_with fail
  refine HTu.out.mono ?_; rintro e w1 ⟨rfl, hO1, hG1⟩
  have O1 := hide hO1
  have G1 := hide hG1
  have hgl1 := Nat.lt_of_lt_of_le hgl hG1.size
  clear hO1 hG1 HTu
  go_wp2_with fail
  refine (HPw.out _).mono ?_; rintro e w2 ⟨g2, rfl, hg2, oP, hb2⟩
  have O2 := hide (own_below O1.out hb2)
  have G2 := hide (grown_below G1.out hb2)
  have OP := hide oP
  have hne : g2 ≠ g := by omega
  clear oP hb2 O1 G1 HPw hgl1 hg2 hgl
  go_wp2_with fail
  go_loopw [8] (fun vh wr => ∃ (s : Nat) (ys : List Int), s ≤ L ∧ vh = .int .i64 ((2 ^ s : Nat) : Int) ∧ Hid (OwnG wr g n ys) ∧ Hid (Els p ys) ∧ Hid (Lv p (Wk r L) (co xs) (L - s) s ys) ∧ Hid (w2.grownBy wr (some g))) (fun vh _ => n - (intOf vh).toNat)
  case atStart => exact ⟨0, _, Nat.zero_le _, rfl, O2, els_tk hp0 HX.out _, HSt, grown_refl _ _⟩
  case round =>
    clear O2 HSt
    obtain ⟨s, ys, hs, rfl, HO, HY, HLv, HG⟩ := hrel
    by_cases hlt : s < L
    · obtain ⟨m, hm⟩ : ∃ m, m + s + 1 = L := ⟨L - s - 1, by omega⟩
      obtain ⟨q1, q2, q3⟩ := half_pow hm HN.out HMn.out
      have hls : L - s = m + 1 := by omega
      rw [hls] at HLv
      have HM2 := hide (HLv.out.first)
      have hpw := pow_gt hlt
      rw [← HN.out] at hpw
      have Hpos : 0 < 2 ^ s := Nat.pow_pos (by decide)
      have HT := hide (two_pow s)
      have HMl : Hid (M = 2 ^ (m + s)) := q1
      have HNq : Hid (n = 2 ^ m * 2 ^ (s + 1)) := q2
      have HTw := hide (fun k hk => tw_mod (a := r) HF.out.md hm (k := k) hk)
      have mpos : 0 < 2 ^ m := Nat.pow_pos (by decide)
      clear HLv q1 q2
      obtain ⟨h, Hh⟩ : ∃ h : Nat, Hid (2 ^ s = h) := ⟨_, rfl⟩
      obtain ⟨st, Hst⟩ : ∃ st : Nat, Hid (2 ^ m = st) := ⟨_, rfl⟩
      rw [Hh.out] at hpw Hpos q3 ⊢
      rw [Hst.out] at q3 mpos
      have h0 : (0 : Int) < (h : Int) := by omega
      have h1 : (h : Int) < (n : Int) := by omega
      have h2 : (h : Int) ≤ 4096 := by omega
      have h3 : ¬ (h : Int) = 0 := by omega
      have M0 : (0 : Int) ≤ (M : Int) := by omega
      have M1 : (M : Int) ≤ 4096 := by omega
      have st0 : (0 : Int) ≤ (st : Int) := Int.natCast_nonneg _
      have st1 : (st : Int) ≤ 4096 := by rw [← q3]; exact Int.le_trans (Int.ediv_le_self _ M0) M1
      have HNs : Hid (n = st * (2 * h)) := by show n = _; rw [← Hst.out, ← Hh.out, ← HT.out]; exact HNq.out
      have HMs : Hid (∀ B zs, B < st → Hid (Md2 p (Wk r L) (co xs) m s B zs) → zs.length = n → Hid (Md2 p (Wk r L) (co xs) m s (B + 1) (jn p (B * (2 * h)) h st (pws p r M) zs h))) := fun B zs hB hM hl => by
        have := Md2.step HR.out hm (ws := pws p r M) (by rw [hl]; exact HN.out) (by rw [Hst.out]; exact hB) (fun k hk => by rw [HMl.out]; exact (HTw.out k hk).2) hM.out
        rw [HT.out, Hh.out, Hst.out] at this
        exact this
      have HKs : Hid (∀ k, k < h → k * st < (pws p r M).length) := fun k hk => by
        have := (HTw.out k (by rw [Hh.out]; exact hk)).1
        rw [pws_len, HMl.out, ← Hst.out]; exact this
      have HEnd := hide (fun zs (h : Md2 p (Wk r L) (co xs) m s st zs) => by rw [← Hst.out] at h; exact h.last)
      have HT2 : Hid (((2 ^ (s + 1) : Nat) : Int) = (h : Int) * 2) := by show _ = _; rw [HT.out, Hh.out]; omega
      have hls2 : L - (s + 1) = m := by omega
      clear HT HTw HR HMl HNq Hst
      go_wp2_with fail
      go_loopw [10] (fun vr wq => ∃ (B : Nat) (zs : List Int) (a : Option Addr), B ≤ st ∧ vr = .slice a (n - B * (2 * h)) (n - B * (2 * h)) ∧ Hid (B < st → a = some ⟨g, B * (2 * h), none⟩) ∧ Hid (OwnG wq g n zs) ∧ Hid (Els p zs) ∧ Hid (Md2 p (Wk r L) (co xs) m s B zs) ∧ Hid (w2.grownBy wq (some g))) (fun vr _ => lenV vr)
      case atStart => exact ⟨0, ys, some ⟨g, 0, none⟩, Nat.zero_le _, by rw [Nat.zero_mul]; rfl, fun _ => by rw [Nat.zero_mul], HO, HY, HM2, HG⟩
      case round =>
        clear HO HY HM2 HG
        obtain ⟨B, zs, a, hB, rfl, Ha, HO, HY, HM2, HG⟩ := hrel
        have zl := own_len HO.out
        by_cases hBl : B < st
        · have hmul : (B + 1) * (2 * h) ≤ st * (2 * h) := Nat.mul_le_mul_right _ hBl
          rw [← HNs.out, Nat.add_mul, Nat.one_mul] at hmul
          have ha := Ha.out hBl
          subst ha
          have HM3 := HMs.out B zs hBl HM2 zl
          have HB1 : Hid ((B + 1) * (2 * h) = B * (2 * h) + h + h) := by show _ = _; rw [Nat.add_mul]; omega
          have HB2 : Hid (B + 1 < st → B * (2 * h) + h + h + h ≤ n) := fun hc => by
            have : (B + 2) * (2 * h) ≤ st * (2 * h) := Nat.mul_le_mul_right _ hc
            rw [← HNs.out, Nat.add_mul] at this; omega
          obtain ⟨o, Ho⟩ : ∃ o : Nat, Hid (B * (2 * h) = o) := ⟨_, rfl⟩
          rw [Ho.out] at hmul HM3 HB1 HB2 ⊢
          obtain ⟨N1, HN1⟩ : ∃ N1 : Nat, Hid (n - o = N1) := ⟨_, rfl⟩
          rw [HN1.out]
          have n1 : o + N1 = n := by have := HN1.out; omega
          have C1 := hide (fun W => cut_at g o N1 N1 h W (by omega) (by omega) (Nat.le_refl _))
          have C2 := hide (fun W => cut_at g (o + h) (N1 - h) (N1 - h) h W (by omega) (by omega) (Nat.le_refl _))
          have u1 : upAt o N1 h = o + h := by unfold upAt; rw [if_neg (by omega)]
          rw [u1] at C1
          have HJ := hide (fun W (hO : OwnG W g n zs) (oP : OwnG W g2 M (pws p r M)) => join_any f p wd (.slice (some ⟨g2, 0, none⟩) M M) (pws p r M) zs W g o h st n HF.out hO HY.out (row_own oP (by omega) (els_words (els_pws HF.out.md M) hp1)) (els_pws HF.out.md M)
            (fun _ b o m k hv => by cases hv; exact hne) (by omega) hle HKs.out (by rw [pws_len]; exact hMl))
          have H1 : (0 : Int) < (N1 : Int) := by omega
          clear u1 Ha HMs HNs HEnd
          go_wp2_with fail
          refine (C1.out _).mono ?_; rintro e w3 ⟨rfl, nq1, rfl⟩
          go_wp2_with fail
          refine (C2.out _).mono ?_; rintro e w4 ⟨rfl, nq2, rfl⟩
          have hBd := below_drewN (Below.refl wr.heap.size wr) (nq1 + nq2)
          have HO4 := hide (own_below HO.out hBd)
          have HG4 := hide (grown_below HG.out hBd)
          have OP4 := hide (row_grown OP.out HG4.out hne)
          clear hBd
          go_wp2_with fail
          refine (HJ.out _ HO4.out OP4.out).mono ?_; rintro e w5 ⟨rfl, o5, g5⟩
          have O5 := hide o5
          have G5 := hide (grown_trans HG4.out g5)
          clear o5 g5 HO4 HG4 OP4
          go_wp2
          go_roundw
          case rel => exact ⟨B + 1, _, some ⟨g, upAt (o + h) (N1 - h) h, none⟩, by omega, by
              have : n - (B + 1) * (2 * h) = N1 - h - h := by rw [HB1.out]; omega
              rw [this], fun hc => by
              rw [HB1.out]; unfold upAt; rw [if_neg (by have := HB2.out hc; omega)], O5, els_jn hp0 HY.out _, HM3, G5⟩
          case measure => simp [lenV]; omega
        · obtain rfl : B = st := by omega
          have e0 : n - B * (2 * h) = 0 := by have := HNs.out; omega
          rw [e0]
          have HL2 := HEnd.out zs HM2.out
          have HLv := hide HL2
          clear HL2 Ha HMs HNs HEnd HM2 HKs
          go_wp2
          go_roundw
          case rel => exact ⟨s + 1, zs, by omega, by rw [HT2.out], HO, HY, by rw [hls2]; exact HLv, HG⟩
          case measure =>
            have := HT2.out
            have := Hh.out
            simp [intOf]; omega
    · obtain rfl : s = L := by omega
      rw [Nat.sub_self] at HLv
      have hz := HLv.out.full (by rw [own_len HO.out]; exact HN.out)
      rw [← HN.out] at hz ⊢
      have HZ := hide hz
      clear hz HLv
      go_wp2
      go_end0
      exact ⟨rfl, by rw [← HZ.out]; exact HO.out, grown_trans G2.out HG.out⟩

end Go.Proofs.YtcjgjgkoeokooaaDoor
