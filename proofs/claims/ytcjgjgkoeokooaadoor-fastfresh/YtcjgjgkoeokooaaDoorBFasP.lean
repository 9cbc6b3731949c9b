/-
  Layer 4: the program's Kara, Mul and Power, or their errors.
-/
import Derived.Test.YtcjgjgkoeokooaaDoorBFasO
namespace Go.Proofs.YtcjgjgkoeokooaaDoor
open Go.RowKit Fld
set_option linter.unusedVariables false

set_option maxHeartbeats 200000 in
theorem fKara_any (f : Int) (v1 v2 : Value) (xs ys : List Int) (w : World) (h1 : Rw w v1 xs) (h2 : Rw w v2 ys) : Gives 9 #[.int .u8 f, v1, v2] w (mulL f xs ys) (mulE f xs ys) := by
  obtain ⟨a1, c1, rfl, _⟩ := h1.spell
  obtain ⟨a2, c2, rfl, _⟩ := h2.spell
  by_cases he : er f xs ys = 0
  · obtain ⟨p, wd, h, i1, i2, m1, m2⟩ := er_zero he
    have HF := hide (factors_in f _ _ xs ys w h1 h2 he)
    have hx := (els_of i1 h1.words).tr h.pos
    have hy := (els_of i2 h2.words).tr h.pos
    have n1 := tr_len xs
    have n2 := tr_len ys
    by_cases hm : 4096 < (tr xs).length + (tr ys).length - 1
    · have HE : Hid (mulE f xs ys = 4) := by show _ = _; unfold mulE; rw [if_pos he, if_pos hm]
      have HL : Hid (mulL f xs ys = []) := mulL_zero (by rw [HE.out]; decide)
      rw [HE.out, HL.out]
      apply Gives.none
      clear h1 h2 hx hy h i1 i2 he HE HL
      go_enter Tryd.func9, Tryd.ntmps9
      go_wp2_with fail
      refine HF.out.mono ?_; rintro e w1 ⟨⟨_, rfl⟩ | ⟨hc, _⟩, hb⟩
      · go_wp2
        go_ret2
        exact ⟨rfl, hb⟩
      · exact absurd hm hc
    · have HE : Hid (mulE f xs ys = 0) := by show _ = _; unfold mulE; rw [if_pos he, if_neg hm]
      have HL : Hid (mulL f xs ys = prd p (tr xs) (tr ys)) := by show _ = _; unfold mulL; rw [HE.out, if_pos rfl, pOf_eq h]
      rw [HE.out, HL.out]
      have HH := hide (fun W u1 u2 (r1 : Rw W u1 (tr xs)) (r2 : Rw W u2 (tr ys)) => halves_any f p wd u1 u2 (tr xs) (tr ys) W h r1 r2 hx hy (by omega))
      have HO := hide (fun zs (hv : HV p (tr xs) (tr ys) zs) => hv.only h.md hx hy (tr_tr xs) (tr_tr ys))
      unfold Hs at HH
      clear h1 h2 hx hy h i1 i2 he HE HL
      show Calls _ _ _ _ _
      go_enter Tryd.func9, Tryd.ntmps9
      go_wp2_with fail
      refine HF.out.mono ?_; rintro e w1 ⟨⟨hc, _⟩ | ⟨_, u1, u2, rfl, r1, r2⟩, hb⟩
      · exact absurd hc hm
      · have HK := hide (HH.out _ _ _ r1 r2)
        clear r1 r2
        go_wp2_with (go_at_call 29; refine HK.out.mono ?_; rintro e w2 ⟨u3, zs, rfl, hv, o3, hb3⟩; have V := hide hv; have O := hide o3; clear hv o3)
        go_ret2
        have hz := HO.out _ V.out
        subst hz
        exact ⟨_, rfl, own_mono O.out hb.size, Below.next hb hb3⟩
  · have HF := hide (factors_no f _ _ _ xs ys w h1 h2 rfl he)
    have HE : Hid (mulE f xs ys = er f xs ys) := by show _ = _; unfold mulE; rw [if_neg he]
    have HL : Hid (mulL f xs ys = []) := mulL_zero (by rw [HE.out]; exact he)
    have ht : (er f xs ys != 0) = true := bne_iff_ne.2 he
    rw [HE.out, HL.out]
    clear h1 h2 he HE HL
    generalize er f xs ys = e0 at *
    apply Gives.none
    go_enter Tryd.func9, Tryd.ntmps9
    go_wp2_with (go_at_call 28; refine HF.out.mono ?_; rintro e w1 ⟨rfl, hb⟩)
    go_ret2
    exact ⟨rfl, hb⟩

set_option maxHeartbeats 200000 in
theorem fMul_any (f : Int) (v1 v2 : Value) (xs ys : List Int) (w : World) (h1 : Rw w v1 xs) (h2 : Rw w v2 ys) (hT : Tb w) : Gets 10 #[.int .u8 f, v1, v2] w (mulL f xs ys) (mulE f xs ys) := by
  obtain ⟨a1, c1, rfl, _⟩ := h1.spell
  obtain ⟨a2, c2, rfl, _⟩ := h2.spell
  by_cases he : er f xs ys = 0
  · obtain ⟨p, wd, h, i1, i2, m1, m2⟩ := er_zero he
    have HF := hide (factors_in f _ _ xs ys w h1 h2 he)
    have hx := (els_of i1 h1.words).tr h.pos
    have hy := (els_of i2 h2.words).tr h.pos
    have n1 := tr_len xs
    have n2 := tr_len ys
    by_cases hm : 4096 < (tr xs).length + (tr ys).length - 1
    · have HE : Hid (mulE f xs ys = 4) := by show _ = _; unfold mulE; rw [if_pos he, if_pos hm]
      have HL : Hid (mulL f xs ys = []) := mulL_zero (by rw [HE.out]; decide)
      rw [HE.out, HL.out]
      apply Gets.none
      clear h1 h2 hx hy h i1 i2 he HE HL
      go_enter Tryd.func10, Tryd.ntmps10
      go_wp2_with fail
      refine HF.out.mono ?_; rintro e w1 ⟨⟨_, rfl⟩ | ⟨hc, _⟩, hb⟩
      · go_wp2
        go_ret2
        exact ⟨rfl, hb⟩
      · exact absurd hm hc
    · have HE : Hid (mulE f xs ys = 0) := by show _ = _; unfold mulE; rw [if_pos he, if_neg hm]
      have HL : Hid (mulL f xs ys = prd p (tr xs) (tr ys)) := by show _ = _; unfold mulL; rw [HE.out, if_pos rfl, pOf_eq h]
      rw [HE.out, HL.out]
      have HH := hide (fun W u1 u2 (hb : Below w.heap.size w W) (r1 : Rw W u1 (tr xs)) (r2 : Rw W u2 (tr ys)) => multiply_any f p wd u1 u2 (tr xs) (tr ys) W h r1 r2 hx hy (tr_tr xs) (tr_tr ys) (by omega) (hT.below hb))
      clear h1 h2 hx hy h i1 i2 he HE HL hT
      show Calls _ _ _ _ _
      go_enter Tryd.func10, Tryd.ntmps10
      go_wp2_with fail
      refine HF.out.mono ?_; rintro e w1 ⟨⟨hc, _⟩ | ⟨_, u1, u2, rfl, r1, r2⟩, hb⟩
      · exact absurd hc hm
      · have HK := hide (HH.out _ _ _ hb r1 r2)
        clear r1 r2
        go_wp2_with (go_at_call 30; refine HK.out.mono ?_; rintro e w2 ⟨u3, rfl, r3, hb3⟩; have R := hide r3; clear r3)
        go_ret2
        exact ⟨_, rfl, R.out, Below.next hb hb3⟩
  · have HF := hide (factors_no f _ _ _ xs ys w h1 h2 rfl he)
    have HE : Hid (mulE f xs ys = er f xs ys) := by show _ = _; unfold mulE; rw [if_neg he]
    have HL : Hid (mulL f xs ys = []) := mulL_zero (by rw [HE.out]; exact he)
    have ht : (er f xs ys != 0) = true := bne_iff_ne.2 he
    rw [HE.out, HL.out]
    clear h1 h2 he HE HL hT
    generalize er f xs ys = e0 at *
    apply Gets.none
    go_enter Tryd.func10, Tryd.ntmps10
    go_wp2_with (go_at_call 28; refine HF.out.mono ?_; rintro e w1 ⟨rfl, hb⟩)
    go_ret2
    exact ⟨rfl, hb⟩

/-- Which error a power has. -/
def powE (f : Int) (xs : List Int) (n : Int) : Int := if n < 0 then 2 else if er f xs [] = 0 then (if 0 < (tr xs).length - 1 ∧ ((4095 / ((tr xs).length - 1) : Nat) : Int) < n then 4 else 0) else er f xs []
/-- The power, if there is one. -/
def PowIs (f : Int) (xs : List Int) (n : Int) (zs : List Int) : Prop := if powE f xs n = 0 then Is (pOf f) zs (cp (co xs) n.toNat) else zs = []
theorem PowIs.only {f n : Int} {xs zs us : List Int} (h : PowIs f xs n zs) (k : PowIs f xs n us) : zs = us := by
  unfold PowIs at h k
  by_cases h0 : powE f xs n = 0
  · rw [if_pos h0] at h k
    exact h.only (by unfold pOf; split <;> decide) k
  · rw [if_neg h0] at h k
    rw [h, k]
theorem cp_tr (xs : List Int) : cp (co (tr xs)) = cp (co xs) := by
  have : co (tr xs) = co xs := funext fun i => co_tr xs i
  rw [this]
theorem powE_lt {f : Int} {xs : List Int} {n : Nat} (h : ¬ (0 < (tr xs).length - 1 ∧ ((4095 / ((tr xs).length - 1) : Nat) : Int) < (n : Int))) : ((tr xs).length - 1) * n ≤ 4095 := by
  by_cases h0 : 0 < (tr xs).length - 1
  · have : n ≤ 4095 / ((tr xs).length - 1) := by
      apply Nat.le_of_not_lt; intro hc; exact h ⟨h0, by omega⟩
    have := (Nat.le_div_iff_mul_le h0).1 this
    rw [Nat.mul_comm]; exact this
  · have : (tr xs).length - 1 = 0 := by omega
    rw [this]; omega

/-- What Power answers. -/
def PowGets (k : FuncId) (args : Array Value) (W : World) (f : Int) (xs : List Int) (n : Int) : Prop :=
  Calls Tryd.prog k args W fun e w' => ∃ v' zs, e = .returned (.tuple #[v', .int .i64 (powE f xs n)]) ∧ PowIs f xs n zs ∧ Rw w' v' zs ∧ Below W.heap.size W w'
theorem PowGets.none {k : FuncId} {args : Array Value} {W : World} {f n e0 : Int} {xs : List Int} (he : powE f xs n = e0) (h0 : e0 ≠ 0) (h : Calls Tryd.prog k args W fun e w' => e = .returned (.tuple #[.slice none 0 0, .int .i64 e0]) ∧ Below W.heap.size W w') : PowGets k args W f xs n :=
  h.mono fun e w' ⟨h1, hb⟩ => ⟨_, [], by rw [he]; exact h1, by unfold PowIs; rw [he, if_neg h0], rw0 _, hb⟩

set_option maxRecDepth 100000 in
set_option maxHeartbeats 200000 in
theorem fPower_any (f n : Int) (v : Value) (xs : List Int) (w : World) (hn0 : -9223372036854775808 ≤ n) (hn1 : n ≤ 9223372036854775807) (h1 : Rw w v xs) (hT : Tb w) : PowGets 20 #[.int .u8 f, v, .int .i64 n] w f xs n := by
  obtain ⟨a1, c1, rfl, _⟩ := h1.spell
  by_cases hneg : n < 0
  · apply PowGets.none (e0 := 2) (by unfold powE; rw [if_pos hneg]) (by decide)
    clear h1 hT
    go_enter Tryd.func20, Tryd.ntmps20
    go_wp2
    go_ret2
    exact ⟨rfl, Below.refl _ _⟩
  have hk := hide (fun T => fcheck_one f _ xs w h1 T)
  by_cases he : er f xs [] = 0
  · obtain ⟨p, wd, h, i1, _, m1, _⟩ := er_zero he
    rw [he] at hk
    obtain ⟨m, rfl⟩ : ∃ m : Nat, n = m := ⟨n.toNat, by omega⟩
    have n1 := tr_len xs
    have d1 := hide (fun W (hb : Below w.heap.size w W) => Degree_any _ xs W (h1.below hb))
    have HC := hide (fun W (hb : Below w.heap.size w W) => cut_any a1 c1 (tr xs).length xs W (h1.below hb) n1)
    rw [take_tr_len] at HC
    have hx := (els_of i1 h1.words).tr h.pos
    obtain ⟨D, HD⟩ : ∃ D, Hid ((tr xs).length - 1 = D) := ⟨_, rfl⟩
    by_cases hbig : 0 < (tr xs).length - 1 ∧ ((4095 / ((tr xs).length - 1) : Nat) : Int) < (m : Int)
    · apply PowGets.none (e0 := 4) (by unfold powE; rw [if_neg hneg, if_pos he, if_pos hbig]) (by decide)
      obtain ⟨Q, hQ⟩ : ∃ Q : Nat, (4095 : Int) / (((tr xs).length : Int) - 1) = (Q : Int) := ⟨4095 / ((tr xs).length - 1), by
        have : ((tr xs).length : Int) - 1 = (((tr xs).length - 1 : Nat) : Int) := by omega
        rw [this, Int.natCast_ediv]; rfl⟩
      have hQ2 : Q = 4095 / ((tr xs).length - 1) := by
        have : ((tr xs).length : Int) - 1 = (((tr xs).length - 1 : Nat) : Int) := by omega
        rw [this] at hQ
        have e : (4095 : Int) / (((tr xs).length - 1 : Nat) : Int) = ((4095 / ((tr xs).length - 1) : Nat) : Int) := by rw [Int.natCast_ediv]; rfl
        omega
      have q1 : (Q : Int) < (m : Int) := by rw [hQ2]; exact hbig.2
      have t0 : (0 : Int) < ((tr xs).length : Int) - 1 := by omega
      have t1 : ((tr xs).length : Int) - 1 ≤ 4096 := by omega
      clear h1 hT hx h i1 hQ2 hbig HC
      generalize ((tr xs).length : Int) - 1 = dd at *
      have t2 : ¬ dd = 0 := by omega
      go_enter Tryd.func20, Tryd.ntmps20
      go_wp2_with fail
      refine (hk.out _).mono ?_; rintro e w1 ⟨rfl, hb1⟩
      go_wp2_with fail
      refine (d1.out _ hb1).mono ?_; rintro e w2 ⟨rfl, hb⟩
      go_wp2
      go_ret2
      exact ⟨rfl, Below.next hb1 hb⟩
    · have hE : powE f xs (m : Int) = 0 := by unfold powE; rw [if_neg hneg, if_pos he, if_neg hbig]
      have hlt := powE_lt (f := f) hbig
      have HP := hide (fun W u (hb : Below w.heap.size w W) (r : Rw W u (tr xs)) => fpower_any f p wd u (tr xs) W h r hx (tr_tr xs) (by omega) (hT.below hb) m (by omega) hlt)
      unfold Ps at HP
      have HI : Hid (∀ zs, Is p zs (cp (co (tr xs)) m) → PowIs f xs (m : Int) zs) := fun zs hz => by
        unfold PowIs
        rw [if_pos hE, pOf_eq h, Int.toNat_natCast, ← cp_tr]; exact hz
      unfold PowGets
      rw [hE]
      by_cases ht0 : (tr xs).length ≤ 1
      · have q0 : ((tr xs).length : Int) - 1 ≤ 0 := by omega
        have q2 : (-1 : Int) ≤ ((tr xs).length : Int) - 1 := by omega
        have q3 : ((tr xs).length : Int) - 1 + 1 = ((tr xs).length : Int) := by omega
        clear h1 hT hx h i1 hbig hlt hE
        go_enter Tryd.func20, Tryd.ntmps20
        go_wp2_with fail
        refine (hk.out _).mono ?_; rintro e w1 ⟨rfl, hb1⟩
        go_wp2_with fail
        refine (d1.out _ hb1).mono ?_; rintro e w2 ⟨rfl, hb⟩
        have hb2 := Below.next hb1 hb
        clear hb hb1
        go_wp2_with fail
        refine (HC.out _ hb2).mono ?_; rintro e w3 ⟨b1, rfl, r1, _, hb⟩
        have hb3 := Below.next hb2 hb
        have HQ := hide (HP.out _ _ hb3 r1)
        clear hb hb2 r1
        go_wp2_with (go_at_call 45; refine HQ.out.mono ?_; rintro e w4 ⟨u4, zs, rfl, is4, r4, hb4⟩; have I4 := hide is4; have R4 := hide r4; clear is4 r4)
        go_ret2
        exact ⟨_, _, rfl, HI.out _ I4.out, R4.out, Below.next hb3 hb4⟩
      · obtain ⟨Q, hQ⟩ : ∃ Q : Nat, (4095 : Int) / (((tr xs).length : Int) - 1) = (Q : Int) := ⟨4095 / ((tr xs).length - 1), by
          have : ((tr xs).length : Int) - 1 = (((tr xs).length - 1 : Nat) : Int) := by omega
          rw [this, Int.natCast_ediv]; rfl⟩
        have hQ2 : Q = 4095 / ((tr xs).length - 1) := by
          have : ((tr xs).length : Int) - 1 = (((tr xs).length - 1 : Nat) : Int) := by omega
          rw [this] at hQ
          have e : (4095 : Int) / (((tr xs).length - 1 : Nat) : Int) = ((4095 / ((tr xs).length - 1) : Nat) : Int) := by rw [Int.natCast_ediv]; rfl
          omega
        have q1 : (m : Int) ≤ (Q : Int) := by
          rw [hQ2]
          apply Int.le_of_not_gt; intro hc
          exact hbig ⟨by omega, hc⟩
        have t0 : (0 : Int) < ((tr xs).length : Int) - 1 := by omega
        have t2 : ¬ ((tr xs).length : Int) - 1 = 0 := by omega
        have q3 : ((tr xs).length : Int) - 1 + 1 = ((tr xs).length : Int) := by omega
        clear h1 hT hx h i1 hbig hlt hE hQ2
        go_enter Tryd.func20, Tryd.ntmps20
        go_wp2_with fail
        refine (hk.out _).mono ?_; rintro e w1 ⟨rfl, hb1⟩
        go_wp2_with fail
        refine (d1.out _ hb1).mono ?_; rintro e w2 ⟨rfl, hb⟩
        have hb2 := Below.next hb1 hb
        clear hb hb1
        go_wp2_with fail
        refine (HC.out _ hb2).mono ?_; rintro e w3 ⟨b1, rfl, r1, _, hb⟩
        have hb3 := Below.next hb2 hb
        have HQ := hide (HP.out _ _ hb3 r1)
        clear hb hb2 r1
        go_wp2_with (go_at_call 45; refine HQ.out.mono ?_; rintro e w4 ⟨u4, zs, rfl, is4, r4, hb4⟩; have I4 := hide is4; have R4 := hide r4; clear is4 r4)
        go_ret2
        exact ⟨_, _, rfl, HI.out _ I4.out, R4.out, Below.next hb3 hb4⟩
  · have ht : (er f xs [] != 0) = true := bne_iff_ne.2 he
    apply PowGets.none (e0 := er f xs []) (by unfold powE; rw [if_neg hneg, if_neg he]) he
    clear h1 he hT
    generalize er f xs [] = e0 at *
    go_enter Tryd.func20, Tryd.ntmps20
    go_wp2_with (go_at_call 42; refine (hk.out _).mono ?_; rintro e w1 ⟨rfl, hb⟩)
    go_ret2
    exact ⟨rfl, hb⟩

end Go.Proofs.YtcjgjgkoeokooaaDoor
