/-
  Layer 4: the program's Transform, Back and Round, or their errors.
-/
import Derived.Test.YtcjgjgkoeokooaaDoorBFasP
namespace Go.Proofs.YtcjgjgkoeokooaaDoor
open Go.RowKit Fld
set_option linter.unusedVariables false

/-- Which error lists for a transform have. -/
def shE (e0 : Int) (ok : Bool) : Int := if e0 = 0 then (if ok = true then 0 else 3) else e0
def okN (n : Nat) (xs : Nat → List Int) : Bool := decide (∀ i, i < n → isP (xs i).length = true ∧ (xs i).length = (xs 0).length)

set_option maxRecDepth 100000 in
set_option maxHeartbeats 200000 in
theorem fshape_any (f : Int) (n : Nat) (v : Nat → Value) (xs : Nat → List Int) (w : World) (b : Nat) (hn : n ≤ 2) (hn0 : 0 < n) (hr : ∀ i, i < n → Rw w (v i) (xs i)) (hc : ∀ i, i < n → w.cell? ⟨b, i, none⟩ = some (v i)) (tl : b < w.heap.size) :
    Calls Tryd.prog 33 #[.int .u8 f, .slice (some ⟨b, 0, none⟩) n n] w fun e w' => e = .returned (.int .i64 (shE (erN f n xs) (okN n xs))) ∧ Below w.heap.size w w' := by
  have HK := hide (fcheck_any f n v xs w b hn hr hc tl)
  by_cases he : erN f n xs = 0
  · have hle : Hid (∀ i, i < n → (xs i).length ≤ 4096) := by
      show ∀ i, i < n → (xs i).length ≤ 4096
      unfold erN at he
      by_cases h1 : ∀ i, i < n → inF f (xs i) = true
      · rw [if_pos h1] at he
        by_cases h2 : ∀ i, i < n → (xs i).length ≤ 4096
        · exact h2
        · rw [if_neg h2] at he; cases he
      · rw [if_neg h1] at he; cases he
    rw [he] at HK ⊢
    have HS := hide (fun i (hi : i < n) => (hr i hi).spell)
    have HC := hide hc
    clear hr hc
    go_enter Tryd.func33, Tryd.ntmps33
    go_wp2_with fail
    refine HK.out.mono ?_; rintro e w1 ⟨rfl, hb1⟩
    go_wp2_with fail
    go_loopw [16] (fun vk wr => ∃ k : Nat, k ≤ n ∧ vk = .int .i64 k ∧ Hid (∀ i, i < k → isP (xs i).length = true ∧ (xs i).length = (xs 0).length) ∧ Below w.heap.size w wr) (fun vk _ => n - (intOf vk).toNat)
    case atStart => exact ⟨0, Nat.zero_le _, rfl, fun i hi => by omega, hb1⟩
    case round =>
      clear hb1
      obtain ⟨k, hk, rfl, HJ, hB⟩ := hrel
      by_cases hlt : k < n
      · have d1 := (hB.cell (p := ⟨b, k, none⟩) tl).trans (HC.out k hlt)
        have d0 := (hB.cell (p := ⟨b, 0, none⟩) tl).trans (HC.out 0 hn0)
        obtain ⟨a, c, hv, _⟩ := HS.out k hlt
        obtain ⟨a0, c0, hv0, _⟩ := HS.out 0 hn0
        rw [hv] at d1
        rw [hv0] at d0
        have k0 : (0 : Int) ≤ (k : Int) := Int.natCast_nonneg _
        have k1 : (k : Int) < (n : Int) := by omega
        have hm := hle.out k hlt
        have hm0 := hle.out 0 hn0
        have HOc := hide (fun W => OnesCount_any (xs k).length W hm)
        have hoc := oc_one hm
        have m0 : (0 : Int) ≤ ((xs k).length : Int) := by omega
        have m1 : ((xs k).length : Int) ≤ 4096 := by omega
        have nn0 : (0 : Int) < (n : Int) := by omega
        by_cases hp : isP (xs k).length = true
        · have hone : ((ocN (xs k).length : Nat) : Int) = 1 := by rw [hp] at hoc; have := beq_iff_eq.1 hoc; omega
          rw [hone] at HOc
          by_cases hl : (xs k).length = (xs 0).length
          · have HJ2 := hide (below_nat (n := n) HJ.out ⟨hp, hl⟩)
            clear hoc hone hp
            generalize (xs k).length = L1 at *
            generalize (xs 0).length = L0 at *
            subst hl
            go_wp2_with (go_at_call 52; refine (HOc.out _).mono ?_; rintro e w2 ⟨rfl, hw⟩; rw [hw]; clear hw)
            go_roundw
            case rel => exact ⟨k + 1, by omega, by go_num, HJ2, hB⟩
            case measure => simp [intOf]; omega
          · have HE : Hid (shE 0 (okN n xs) = 3) := by
              show shE 0 (okN n xs) = 3
              unfold shE okN
              rw [if_pos rfl, if_neg]
              intro h; exact hl ((of_decide_eq_true h) k hlt).2
            have hli : (((xs k).length : Int) != ((xs 0).length : Int)) = true := bne_iff_ne.2 (by omega)
            clear hoc hone hp hl
            generalize (xs k).length = L1 at *
            generalize (xs 0).length = L0 at *
            go_wp2_with (go_at_call 52; refine (HOc.out _).mono ?_; rintro e w2 ⟨rfl, hw⟩; rw [hw]; clear hw)
            go_ret
            exact ⟨ret_i64 HE.out.symm, hB⟩
        · have HE : Hid (shE 0 (okN n xs) = 3) := by
            show shE 0 (okN n xs) = 3
            unfold shE okN
            rw [if_pos rfl, if_neg]
            intro h; exact hp ((of_decide_eq_true h) k hlt).1
          have hone : (((ocN (xs k).length : Nat) : Int) != 1) = true := by
            have : isP (xs k).length = false := by simpa using hp
            rw [this] at hoc
            have := beq_eq_false_iff_ne.1 hoc
            exact bne_iff_ne.2 (by omega)
          clear hoc hp
          generalize ((ocN (xs k).length : Nat) : Int) = oc at *
          generalize (xs k).length = L1 at *
          go_wp2_with (go_at_call 52; refine (HOc.out _).mono ?_; rintro e w2 ⟨rfl, hw⟩; rw [hw]; clear hw)
          go_ret
          exact ⟨ret_i64 HE.out.symm, hB⟩
      · obtain rfl : k = n := by omega
        have HE : Hid (shE 0 (okN k xs) = 0) := by
          show shE 0 (okN k xs) = 0
          unfold shE okN
          rw [if_pos rfl, if_pos (decide_eq_true HJ.out)]
        go_wp2
        go_ret
        exact ⟨ret_i64 HE.out.symm, hB⟩
  · have HE : Hid (shE (erN f n xs) (okN n xs) = erN f n xs) := by show _ = _; unfold shE; rw [if_neg he]
    rw [HE.out]
    have ht : (erN f n xs != 0) = true := bne_iff_ne.2 he
    clear hr hc HE he
    generalize erN f n xs = e0 at *
    go_enter Tryd.func33, Tryd.ntmps33
    go_wp2_with (go_at_call 42; refine HK.out.mono ?_; rintro e w1 ⟨rfl, hb⟩)
    go_ret
    exact ⟨rfl, hb⟩

def trE (f : Int) (xs : List Int) : Int := shE (er f xs []) (isP xs.length)
def rdE (f : Int) (xs ys : List Int) : Int := shE (er f xs ys) (isP xs.length && decide (ys.length = xs.length))
theorem okN_one (xs : Nat → List Int) : okN 1 xs = isP (xs 0).length := by
  unfold okN
  cases h : isP (xs 0).length with
  | true => exact decide_eq_true (fun i hi => by obtain rfl : i = 0 := by omega
                                                 exact ⟨h, rfl⟩)
  | false => exact decide_eq_false (fun h2 => by have := (h2 0 (by decide)).1; rw [h] at this; cases this)
theorem okN_two (xs : Nat → List Int) : okN 2 xs = (isP (xs 0).length && decide ((xs 1).length = (xs 0).length)) := by
  unfold okN
  by_cases h : isP (xs 0).length = true ∧ (xs 1).length = (xs 0).length
  · rw [decide_eq_true (fun i hi => by
      obtain rfl | rfl : i = 0 ∨ i = 1 := by omega
      · exact ⟨h.1, rfl⟩
      · exact ⟨by rw [h.2]; exact h.1, h.2⟩)]
    rw [h.1, decide_eq_true h.2]; rfl
  · rw [decide_eq_false (fun h2 => h ⟨(h2 0 (by decide)).1, (h2 1 (by decide)).2⟩)]
    cases h3 : isP (xs 0).length with
    | false => rfl
    | true => rw [decide_eq_false (fun e => h ⟨h3, e⟩)]; rfl
theorem shape_one (f : Int) (v : Value) (xs : List Int) (w : World) (h : Rw w v xs) (T : TypeId) :
    Calls Tryd.prog 33 #[.int .u8 f, .slice (some ⟨w.heap.size, 0, none⟩) 1 1] (w.alloc (.cells #[v] T)) fun e w' => e = .returned (.int .i64 (trE f xs)) ∧ Below w.heap.size w w' := by
  have ha := alloc_below w (.cells #[v] T)
  have := fshape_any f 1 (fun _ => v) (fun _ => xs) (w.alloc (.cells #[v] T)) w.heap.size (by decide) (by decide) (fun _ _ => h.below ha) (fun i hi => by
    have : i = 0 := by omega
    subst this; simp [go_sem]) (by simp)
  rw [erN_one, okN_one] at this
  exact this.mono fun e w' ⟨he, hb⟩ => ⟨he, below_one hb⟩
theorem shape_two (f : Int) (v1 v2 : Value) (xs ys : List Int) (w : World) (h1 : Rw w v1 xs) (h2 : Rw w v2 ys) (T : TypeId) :
    Calls Tryd.prog 33 #[.int .u8 f, .slice (some ⟨w.heap.size, 0, none⟩) 2 2] (w.alloc (.cells #[v1, v2] T)) fun e w' => e = .returned (.int .i64 (rdE f xs ys)) ∧ Below w.heap.size w w' := by
  have ha := alloc_below w (.cells #[v1, v2] T)
  have := fshape_any f 2 (fun i => if i = 0 then v1 else v2) (fun i => if i = 0 then xs else ys) (w.alloc (.cells #[v1, v2] T)) w.heap.size (by decide) (by decide) (fun i hi => by
    obtain rfl | rfl : i = 0 ∨ i = 1 := by omega
    · exact h1.below ha
    · exact h2.below ha) (two_cells w v1 v2 T) (by simp)
  rw [erN_two, okN_two] at this
  exact this.mono fun e w' ⟨he, hb⟩ => ⟨he, below_one hb⟩

theorem shE_zero {e0 : Int} {ok : Bool} (h : shE e0 ok = 0) : e0 = 0 ∧ ok = true := by
  unfold shE at h
  by_cases h0 : e0 = 0
  · rw [if_pos h0] at h
    by_cases h1 : ok = true
    · exact ⟨h0, h1⟩
    · rw [if_neg h1] at h; cases h
  · rw [if_neg h0] at h; exact absurd h h0
theorem trE_zero {f : Int} {xs : List Int} (h : trE f xs = 0) : ∃ p wd LL gb L, Lb f p wd LL gb ∧ L ≤ 12 ∧ xs.length = 2 ^ L ∧ allIn p xs = true := by
  obtain ⟨h1, h2⟩ := shE_zero h
  obtain ⟨p, wd, hf, i1, _, _, _⟩ := er_zero h1
  obtain ⟨L, hL, hl⟩ := isP_pow h2
  obtain ⟨LL, gb, hB⟩ := hf.lb
  exact ⟨p, wd, LL, gb, L, hB, hL, hl, i1⟩
theorem rdE_zero {f : Int} {xs ys : List Int} (h : rdE f xs ys = 0) : ∃ p wd LL gb L, Lb f p wd LL gb ∧ L ≤ 12 ∧ xs.length = 2 ^ L ∧ ys.length = xs.length ∧ allIn p xs = true ∧ allIn p ys = true := by
  obtain ⟨h1, h2⟩ := shE_zero h
  obtain ⟨p, wd, hf, i1, i2, _, _⟩ := er_zero h1
  simp only [Bool.and_eq_true, decide_eq_true_eq] at h2
  obtain ⟨L, hL, hl⟩ := isP_pow h2.1
  obtain ⟨LL, gb, hB⟩ := hf.lb
  exact ⟨p, wd, LL, gb, L, hB, hL, hl, h2.2, i1, i2⟩
/-- The root of a list's length. -/
def rtOf (f : Int) (n : Nat) : Int := rv (pOf f) (if f = 1 then 31 else 7) (Lib.ctz 64 n)
theorem rtOf_eq {f p : Int} {wd : Bool} {LL : Nat} {gb : Int} (h : Lb f p wd LL gb) {L n : Nat} (hL : L ≤ 12) (hn : n = 2 ^ L) : rtOf f n = rv p gb L := by
  unfold rtOf
  rw [pOf_eq h.fi, hn, ctz_pow L (by omega)]
  rcases h with ⟨rfl, _, _, _, rfl⟩ | ⟨rfl, _, _, _, rfl⟩ <;> rfl
def trL (f : Int) (xs : List Int) : List Int := if trE f xs = 0 then tf (pOf f) (rtOf f xs.length) xs.length xs else []
def bkL (f : Int) (xs : List Int) : List Int := if trE f xs = 0 then bk (pOf f) (inv (pOf f) (rtOf f xs.length)) (inv (pOf f) (xs.length : Int)) xs.length xs else []
def rdM (f : Int) (xs ys : List Int) : List Int := if rdE f xs ys = 0 then rdL (pOf f) xs.length xs ys else []

set_option maxHeartbeats 200000 in
theorem fTransform_any (f : Int) (v : Value) (xs : List Int) (w : World) (h1 : Rw w v xs) (hT : Tb w) : Gives 14 #[.int .u8 f, v] w (trL f xs) (trE f xs) := by
  have hk := hide (fun T => shape_one f v xs w h1 T)
  obtain ⟨a1, c1, rfl, _⟩ := h1.spell
  by_cases he : trE f xs = 0
  · obtain ⟨p, wd, LL, gb, L, hB, hL, hl, i1⟩ := trE_zero he
    have HL : Hid (trL f xs = tf p (rv p gb L) xs.length xs) := by show _ = _; unfold trL; rw [if_pos he, pOf_eq hB.fi, rtOf_eq hB hL hl]
    rw [he, HL.out]
    rw [he] at hk
    have hxe := els_of i1 h1.words
    have hle : xs.length ≤ 4096 := by rw [hl]; exact pow_le12 hL
    have HP := hide (fun W (hb : Below w.heap.size w W) => padded_any _ xs xs.length W (h1.below hb) (Nat.le_refl _) (by omega))
    rw [over_self] at HP
    have HT := hide (fun W g (hO : OwnG W g xs.length xs) (hT : Tb W) (hg : 1 < g) => transform_any f p wd LL gb L xs.length xs W g hB hL hl hO hxe hT hg)
    have HTb := hide hT
    have hT1 := hT.2
    clear h1 hT hB i1 hxe he HL hl
    show Calls _ _ _ _ _
    generalize tf p (rv p gb L) xs.length xs = ts at *
    go_enter Tryd.func14, Tryd.ntmps14
    go_wp2_with fail
    refine (hk.out _).mono ?_; rintro e w1 ⟨rfl, hb1⟩
    go_wp2_with fail
    refine (HP.out _ hb1).mono ?_; rintro e w2 ⟨rfl, o2, hs2, hb2⟩
    have hB2 := Below.next hb1 hb2
    have hs1 := hb1.size
    have ht := hide (HT.out _ _ o2 (HTb.out.below hB2) (by omega))
    clear o2 hb2
    go_wp2_with (go_at_call 35; refine ht.out.mono ?_; rintro e w3 ⟨rfl, o3, g3⟩; have O3 := hide o3; have G3 := hide g3; clear o3 g3)
    go_ret2
    exact ⟨_, rfl, own_ret O3.out hs1, hB2.grown G3.out hB2.size (fun k hk => by cases hk; exact hs1)⟩
  · have HL : Hid (trL f xs = []) := by show _ = _; unfold trL; rw [if_neg he]
    have ht : (trE f xs != 0) = true := bne_iff_ne.2 he
    rw [HL.out]
    clear h1 he HL hT
    generalize trE f xs = e0 at *
    apply Gives.none
    go_enter Tryd.func14, Tryd.ntmps14
    go_wp2_with (go_at_call 33; refine (hk.out _).mono ?_; rintro e w1 ⟨rfl, hb⟩)
    go_ret2
    exact ⟨rfl, hb⟩

set_option maxHeartbeats 200000 in
theorem fBack_any (f : Int) (v : Value) (xs : List Int) (w : World) (h1 : Rw w v xs) (hT : Tb w) : Gives 16 #[.int .u8 f, v] w (bkL f xs) (trE f xs) := by
  have hk := hide (fun T => shape_one f v xs w h1 T)
  obtain ⟨a1, c1, rfl, _⟩ := h1.spell
  by_cases he : trE f xs = 0
  · obtain ⟨p, wd, LL, gb, L, hB, hL, hl, i1⟩ := trE_zero he
    have HL : Hid (bkL f xs = bk p (inv p (rv p gb L)) (inv p (xs.length : Int)) xs.length xs) := by show _ = _; unfold bkL; rw [if_pos he, pOf_eq hB.fi, rtOf_eq hB hL hl]
    rw [he, HL.out]
    rw [he] at hk
    have hxe := els_of i1 h1.words
    have hle : xs.length ≤ 4096 := by rw [hl]; exact pow_le12 hL
    have HP := hide (fun W (hb : Below w.heap.size w W) => padded_any _ xs xs.length W (h1.below hb) (Nat.le_refl _) (by omega))
    rw [over_self] at HP
    have HT := hide (fun W g (hO : OwnG W g xs.length xs) (hT : Tb W) (hg : 1 < g) => back_any f p wd LL gb L xs.length xs W g hB hL hl hO hxe hT hg)
    have HTb := hide hT
    have hT1 := hT.2
    clear h1 hT hB i1 hxe he HL hl
    show Calls _ _ _ _ _
    generalize bk p (inv p (rv p gb L)) (inv p (xs.length : Int)) xs.length xs = ts at *
    go_enter Tryd.func16, Tryd.ntmps16
    go_wp2_with fail
    refine (hk.out _).mono ?_; rintro e w1 ⟨rfl, hb1⟩
    go_wp2_with fail
    refine (HP.out _ hb1).mono ?_; rintro e w2 ⟨rfl, o2, hs2, hb2⟩
    have hB2 := Below.next hb1 hb2
    have hs1 := hb1.size
    have ht := hide (HT.out _ _ o2 (HTb.out.below hB2) (by omega))
    clear o2 hb2
    go_wp2_with (go_at_call 39; refine ht.out.mono ?_; rintro e w3 ⟨rfl, o3, g3⟩; have O3 := hide o3; have G3 := hide g3; clear o3 g3)
    go_ret2
    exact ⟨_, rfl, own_ret O3.out hs1, hB2.grown G3.out hB2.size (fun k hk => by cases hk; exact hs1)⟩
  · have HL : Hid (bkL f xs = []) := by show _ = _; unfold bkL; rw [if_neg he]
    have ht : (trE f xs != 0) = true := bne_iff_ne.2 he
    rw [HL.out]
    clear h1 he HL hT
    generalize trE f xs = e0 at *
    apply Gives.none
    go_enter Tryd.func16, Tryd.ntmps16
    go_wp2_with (go_at_call 33; refine (hk.out _).mono ?_; rintro e w1 ⟨rfl, hb⟩)
    go_ret2
    exact ⟨rfl, hb⟩

set_option maxHeartbeats 200000 in
theorem fRound_any (f : Int) (v1 v2 : Value) (xs ys : List Int) (w : World) (h1 : Rw w v1 xs) (h2 : Rw w v2 ys) (hT : Tb w) : Gives 18 #[.int .u8 f, v1, v2] w (rdM f xs ys) (rdE f xs ys) := by
  have hk := hide (fun T => shape_two f v1 v2 xs ys w h1 h2 T)
  obtain ⟨a1, c1, rfl, _⟩ := h1.spell
  obtain ⟨a2, c2, rfl, _⟩ := h2.spell
  by_cases he : rdE f xs ys = 0
  · obtain ⟨p, wd, LL, gb, L, hB, hL, hl, hly, i1, i2⟩ := rdE_zero he
    have HL : Hid (rdM f xs ys = rdL p xs.length xs ys) := by show _ = _; unfold rdM; rw [if_pos he, pOf_eq hB.fi]
    rw [he, HL.out]
    rw [he] at hk
    have hxe := els_of i1 h1.words
    have hye := els_of i2 h2.words
    have hle : xs.length ≤ 4096 := by rw [hl]; exact pow_le12 hL
    have HP := hide (fun W (hb : Below w.heap.size w W) => padded_any _ xs xs.length W (h1.below hb) (Nat.le_refl _) (by omega))
    rw [over_self] at HP
    have HP2 := hide (fun W (hb : Below w.heap.size w W) => padded_any _ ys ys.length W (h2.below hb) (Nat.le_refl _) (by omega))
    rw [over_self] at HP2
    have HT := hide (fun W g g2 (hO : OwnG W g xs.length xs) (hO2 : OwnG W g2 xs.length ys) hne hT hg hg2 hbg hbg2 => round_any f p wd LL gb L xs.length xs ys W g g2 w.heap.size hB hL hl hO hO2 hne hxe hye hT hg hg2 hbg hbg2)
    have HTb := hide hT
    have hT1 := hT.2
    have HLY := hide hly
    clear h1 h2 hT hB i1 i2 hxe hye he HL hl hly
    show Calls _ _ _ _ _
    generalize rdL p xs.length xs ys = ts at *
    rw [HLY.out] at HP2 hk ⊢
    go_enter Tryd.func18, Tryd.ntmps18
    go_wp2_with fail
    refine (hk.out _).mono ?_; rintro e w1 ⟨rfl, hb1⟩
    go_wp2_with fail
    refine (HP.out _ hb1).mono ?_; rintro e w2 ⟨rfl, o2, hs2, hb2⟩
    have O2 := hide o2
    have hB2 := Below.next hb1 hb2
    have hs1 := hb1.size
    clear o2 hb2
    go_wp2_with fail
    refine (HP2.out _ hB2).mono ?_; rintro e w3 ⟨rfl, o3, hs3, hb3⟩
    have hB3 := Below.next hB2 hb3
    have hsb2 := hB2.size
    have ht := hide (HT.out w3 w1.heap.size w2.heap.size (own_below O2.out hb3) o3 (by omega) (HTb.out.below hB3) (by omega) (by omega) hs1 hsb2)
    clear o3 hb3 O2
    go_wp2_with (go_at_call 41; refine ht.out.mono ?_; rintro e w4 ⟨rfl, o4, hb4⟩; have O4 := hide o4; clear o4)
    go_ret2
    exact ⟨_, rfl, own_ret O4.out hs1, hB3.trans hb4⟩
  · have HL : Hid (rdM f xs ys = []) := by show _ = _; unfold rdM; rw [if_neg he]
    have ht : (rdE f xs ys != 0) = true := bne_iff_ne.2 he
    rw [HL.out]
    clear h1 h2 he HL hT
    generalize rdE f xs ys = e0 at *
    apply Gives.none
    go_enter Tryd.func18, Tryd.ntmps18
    go_wp2_with (go_at_call 33; refine (hk.out _).mono ?_; rintro e w1 ⟨rfl, hb⟩)
    go_ret2
    exact ⟨rfl, hb⟩

end Go.Proofs.YtcjgjgkoeokooaaDoor
