/-
  Layer 4: places exchanged by turned bits; two pieces joined.
-/
import Derived.Test.YtcjgjgkoeokooaaDoorBFasI
import Derived.Test.YtcjgjgkoeokooaaDoorBunR
namespace Go.Proofs.YtcjgjgkoeokooaaDoor
open Go.RowKit Fld
set_option linter.unusedVariables false

theorem fl_fr (n i : Nat) : fl n i = fr n i := by
  induction i with
  | zero => rfl
  | succ i ih => show 2 * fl n i + n / 2 ^ i % 2 = 2 * fr n i + n / 2 ^ i % 2; rw [ih]

set_option maxHeartbeats 100000 in
theorem flogOf_any (n L : Nat) (w : World) (hL : L ≤ 12) (hn : n = 2 ^ L) (hT : Tb w) : Calls Tryd.prog 54 #[.int .i64 (n : Int)] w fun e w' => e = .returned (.int .i64 (L : Int)) ∧ w' = w := by
  have h := hide (tz_pow n L w hL hn hT)
  have hle : n ≤ 4096 := by rw [hn]; exact pow_le12 hL
  have n0 : (0 : Int) ≤ (n : Int) := by omega
  have n1 : (n : Int) ≤ 4096 := by omega
  clear hn hT hle
  generalize (n : Int) = m at *
  go_enter Tryd.func54, Tryd.ntmps54
  go_wp2_with (go_at_call 73; refine h.out.mono ?_; rintro e w1 ⟨rfl, hw⟩; rw [hw]; clear hw)
  go_ret
  exact ⟨rfl, rfl⟩

theorem swap_step {w wr : World} {g n i j : Nat} {ys : List Int} {x y : Int} (hO : OwnG wr g n ys) (hG : w.grownBy wr (some g)) : OwnG ((wr.drew.setCell ⟨g, i, none⟩ (.int .u64 x)).setCell ⟨g, j, none⟩ (.int .u64 y)) g n ((ys.set i x).set j y) ∧ w.grownBy ((wr.drew.setCell ⟨g, i, none⟩ (.int .u64 x)).setCell ⟨g, j, none⟩ (.int .u64 y)) (some g) := by
  have h1 := spoil_step (w := w) (wr := wr.drew) (k := i) (x := x) (own_drew hO) ⟨hG.os, hG.tape, hG.output, hG.size, hG.block⟩ (.inl rfl)
  exact spoil_step (k := j) (x := y) h1.1 h1.2 (.inl rfl)

set_option maxRecDepth 100000 in
set_option maxHeartbeats 200000 in
theorem turn_any (L n : Nat) (xs : List Int) (w : World) (g : Nat) (hL : L ≤ 12) (hn : n = 2 ^ L) (hO : OwnG w g n xs) (hT : Tb w) :
    Calls Tryd.prog 74 #[.slice (some ⟨g, 0, none⟩) n n] w fun e w' => e = .returned (.tuple #[]) ∧ OwnG w' g n (tk L xs n) ∧ w.grownBy w' (some g) := by
  have hl := own_len hO
  have HL := hide (flogOf_any n L w hL hn hT)
  have HN := hide hn
  have hle : n ≤ 4096 := by rw [hn]; exact pow_le12 hL
  have hz := tk_zero (L := L) (xs := xs) (by omega)
  clear hT hn
  go_enter Tryd.func74, Tryd.ntmps74
  go_wp2_with (go_at_call 54; refine HL.out.mono ?_; rintro e w1 ⟨rfl, hw⟩; rw [hw]; clear hw)
  go_loopw [11] (fun vk wr => ∃ k : Nat, k ≤ n ∧ vk = .int .i64 k ∧ OwnG wr g n (tk L xs k) ∧ w.grownBy wr (some g)) (fun vk _ => n - (intOf vk).toNat)
  case atStart => exact ⟨0, Nat.zero_le _, rfl, by rw [hz]; exact hO, grown_refl _ _⟩
  case round =>
    clear hO hz
    obtain ⟨k, hk, rfl, hO, hG⟩ := hrel
    by_cases hlt : k < n
    · have hk2 : k < 2 ^ L := by rw [← HN.out]; exact hlt
      have HFl := hide (fun W => Flip_yes k L W (by omega) hk2)
      have hjl : fr k L < n := by rw [HN.out]; exact fr_lt k L
      have k0 : (0 : Int) ≤ (k : Int) := Int.natCast_nonneg _
      have k1 : (k : Int) < (n : Int) := by omega
      have j0 : (0 : Int) ≤ (fr k L : Int) := Int.natCast_nonneg _
      have j1 : (fr k L : Int) < (n : Int) := by omega
      by_cases hsw : k < fr k L
      · have hs := tk_swap (xs := xs) hk2 (by rw [fl_fr]; exact hsw)
        rw [fl_fr] at hs
        have hO2 := hO
        have d1 := hO.cell (own_len hO) k hlt
        have d2 := hO.cell (own_len hO) (fr k L) hjl
        have f1 := hO.free k
        have f2 := hO.free (fr k L)
        have e1 : (tk L xs k).getD k 0 = co xs k := hs.1
        have e2 : (tk L xs k).getD (fr k L) 0 = co xs (fr k L) := hs.2.1
        rw [e1] at d1
        rw [e2] at d2
        have HS := hide (swap_step (i := k) (j := fr k L) (x := co xs (fr k L)) (y := co xs k) hO hG)
        rw [hs.2.2] at HS
        have hne : ¬ fr k L = k := by omega
        have hne2 : ¬ k = fr k L := by omega
        clear hs hO hO2 hG e1 e2
        generalize co xs k = x at *
        generalize co xs (fr k L) = y at *
        generalize fr k L = j at *
        go_wp2_with (go_at_call 90; refine (HFl.out _).mono ?_; rintro e w1 ⟨rfl, hw⟩; rw [hw]; clear hw)
        go_region
        go_wp2
        go_roundw
        case rel => exact ⟨k + 1, by omega, by go_num, HS.out.1, HS.out.2⟩
        case measure => simp [intOf]; omega
      · have hs := hide (tk_stay (xs := xs) hk2 (by rw [fl_fr]; exact hsw))
        generalize fr k L = j at *
        go_wp2_with (go_at_call 90; refine (HFl.out _).mono ?_; rintro e w1 ⟨rfl, hw⟩; rw [hw]; clear hw)
        go_roundw
        case rel => exact ⟨k + 1, by omega, by go_num, by rw [hs.out]; exact hO, hG⟩
        case measure => simp [intOf]; omega
    · obtain rfl : k = n := by omega
      go_wp2
      go_end0
      exact ⟨rfl, hO, hG⟩

theorem set_at {zs : List Int} {j i : Nat} {z : Int} (hj : j < zs.length) : co (zs.set j z) i = if i = j then z else co zs i := co_set zs j i z hj
theorem grown_drew {w wr : World} {r : Option Nat} (hG : w.grownBy wr r) : w.grownBy wr.drew r := ⟨hG.os, hG.tape, hG.output, hG.size, hG.block⟩

set_option maxRecDepth 100000 in
set_option maxHeartbeats 200000 in
theorem join_any (f p : Int) (wd : Bool) (v : Value) (ws ys : List Int) (w : World) (g o h st n : Nat) (hF : Fi f p wd) (hO : OwnG w g n ys) (hy : Els p ys) (hr : Row w v ws) (hw : Els p ws)
    (hfar : ws ≠ [] → ∀ b o m k, v = .slice (some ⟨b, o, none⟩) m k → b ≠ g) (hl : o + h + h ≤ n) (hn : n ≤ 4096) (hst : ∀ k, k < h → k * st < ws.length) (hwl : ws.length ≤ 4096) :
    Calls Tryd.prog 76 #[.int .u8 f, .slice (some ⟨g, o, none⟩) h h, .slice (some ⟨g, o + h, none⟩) h h, v, .int .i64 st] w fun e w' => e = .returned (.tuple #[]) ∧ OwnG w' g n (jn p o h st ws ys h) ∧ w.grownBy w' (some g) := by
  obtain ⟨ao, cp, rfl, hlen, hww, hcell⟩ := hr
  have hp0 := hF.pos
  have hp1 := hF.top
  have HP := hide (fun W => Prime_yes f p wd W hF)
  have HM := hide (fun W x y (hx : El p x) (hy : El p y) => Mul_yes f p x y wd W hF hx hy)
  have HX := hide hw
  have HY := hide hy
  have HST := hide hst
  have hyl := own_len hO
  clear hF hw hy hww hst
  go_enter Tryd.func76, Tryd.ntmps76
  go_wp2_with (go_at_call 81; refine (HP.out _).mono ?_; rintro e w1 ⟨rfl, hb⟩)
  have hO1 := own_below hO hb
  have hG1 := grown_below (grown_refl w (some g)) hb
  clear hO hb HP
  go_loopw [22] (fun vk wr => ∃ k : Nat, k ≤ h ∧ vk = .int .i64 k ∧ OwnG wr g n (jn p o h st ws ys k) ∧ w.grownBy wr (some g)) (fun vk _ => h - (intOf vk).toNat)
  case atStart => exact ⟨0, Nat.zero_le _, rfl, by rw [jn_zero]; exact hO1, hG1⟩
  case round =>
    clear hO1 hG1
    obtain ⟨k, hk, rfl, hO, hG⟩ := hrel
    by_cases hlt : k < h
    · have hks := HST.out k hlt
      have hwne : ws ≠ [] := by intro h; rw [h] at hks; simp at hks
      obtain ⟨b, ob, rfl, hbl, hcl⟩ := hcell hwne
      have hne := hfar hwne b ob _ _ rfl
      have d1 := hG.cell (hcl (k * st) hks) (by intro h; cases h; exact hne rfl)
      have jl : (jn p o h st ws ys k).length = n := by rw [jn_len, hyl]
      have d2 := hO.cell jl (o + h + k) (by omega)
      have e1 : ws.getD (k * st) 0 = co ws (k * st) := rfl
      have e2 : (jn p o h st ws ys k).getD (o + h + k) 0 = co ys (o + h + k) := jn_high hlt (by omega)
      rw [e1] at d1
      rw [e2] at d2
      have hx := HX.out.co hp0 (k * st)
      have hyh := HY.out.co hp0 (o + h + k)
      have hyk := HY.out.co hp0 (o + k)
      have hm := hide (fun W => HM.out W _ _ hyh hx)
      obtain ⟨m, HMM⟩ : ∃ m, Hid (m = mul p (co ys (o + h + k)) (co ws (k * st))) := ⟨_, rfl⟩
      have hme : El p m := by rw [HMM.out]; exact mul_el hp0
      have HJ := hide (jn_step (ys := ys) (o := o) hlt (by omega) HMM.out)
      rw [← HMM.out] at hm
      obtain ⟨D, hD, D0⟩ : ∃ D : Nat, (k : Int) * (st : Int) = (D : Int) ∧ D = k * st := ⟨k * st, by rw [Int.natCast_mul], rfl⟩
      rw [← D0] at hks
      have D1 : (0 : Int) ≤ (D : Int) := Int.natCast_nonneg _
      have D2 : (D : Int) < (ws.length : Int) := by omega
      have D3 : (D : Int) ≤ 4096 := by omega
      have DW : IntKind.i64.wrap (D : Int) = (D : Int) := by rw [IntKind.wrap_i64]; omega
      have DN : ((D : Int)).toNat = D := Int.toNat_natCast D
      have k0 : (0 : Int) ≤ (k : Int) := Int.natCast_nonneg _
      have k1 : (k : Int) < (h : Int) := by omega
      have m0 := hme.1
      have m1 := hme.2
      have yk0 := hyk.1
      have yk1 := hyk.2
      have HO := hide hO
      have HG := hide hG
      have JK := hide (jn_low (p := p) (st := st) (ws := ws) (ys := ys) (o := o) hlt (by omega))
      -- the three worlds behind the call
      have ha1 : o + k < n := by omega
      have ha2 : o + h + k < n := by omega
      have hA := hide (fun W (hb : Below wr.drew.heap.size wr.drew W) => spoil_step (x := co ys (o + k)) (k := o + h + k) (own_below (own_drew HO.out) hb) (grown_below (grown_drew HG.out) hb) (.inl rfl))
      have hC := hide (fun W (hb : Below wr.drew.heap.size wr.drew W) => (own_below (own_drew HO.out) hb : OwnG W g n (jn p o h st ws ys k)))
      have c1 : Hid (co ((jn p o h st ws ys k).set (o + h + k) (co ys (o + k))) (o + k) = co ys (o + k)) := by
        show _ = _
        rw [set_at (by rw [jl]; omega), if_neg (by omega), JK.out]
      have c2 : Hid (co (((jn p o h st ws ys k).set (o + h + k) (co ys (o + k))).set (o + k) ((co ys (o + k) + m) % p)) (o + h + k) = co ys (o + k)) := by
        show _ = _
        rw [set_at (by rw [List.length_set, jl]; omega), if_neg (by omega), set_at (by rw [jl]; omega), if_pos rfl]
      have r1 := hide (fun W (hO : OwnG W g n ((jn p o h st ws ys k).set (o + h + k) (co ys (o + k)))) => raise_any p m _ W g o n h h k hO ha1 hlt (by rw [c1.out]; exact hyk) m0 (Int.le_of_lt m1) hp1)
      have r2 := hide (fun W (hO : OwnG W g n (((jn p o h st ws ys k).set (o + h + k) (co ys (o + k))).set (o + k) ((co ys (o + k) + m) % p))) => raise_any p (p - m) _ W g (o + h) n h h k hO ha2 hlt (by rw [c2.out]; exact hyk) (by omega) (by omega) hp1)
      rw [c1.out] at r1
      rw [c2.out] at r2
      have hlow : Hid (∀ W, OwnG W g n (jn p o h st ws ys k) → W.cell? ⟨g, o + k, none⟩ = some (.int .u64 (co ys (o + k))) ∧ W.cell? ⟨g, o + h + k, none⟩ = some (.int .u64 (co ys (o + h + k))) ∧ W.frozen? ⟨g, o + h + k, none⟩ = false) := fun W hW => by
        have q1 := hW.cell jl (o + k) ha1
        have q2 := hW.cell jl (o + h + k) ha2
        have q3 : (jn p o h st ws ys k).getD (o + k) 0 = co ys (o + k) := JK.out
        rw [q3] at q1
        rw [e2] at q2
        exact ⟨q1, q2, hW.free _⟩
      clear hcl hcell e1 e2 hx hyh hyk hO hG HX HY HM HST hme JK c1 c2
      generalize co ws (k * st) = x at *
      rw [← D0] at d1
      clear D0
      generalize co ys (o + h + k) = yh at *
      generalize co ys (o + k) = yl at *
      generalize jn p o h st ws ys k = js at *
      clear HMM
      go_wp2_with fail
      go_region_with (go_at_call 60; refine (hm.out _).mono ?_; rintro e w2 ⟨rfl, hb⟩; have q := hlow.out w2 (hC.out w2 hb); have q1 := q.1; have q2 := q.2.1; have q3 := q.2.2; clear q)
      all_goals
        go_wp2_with fail
        refine (r1.out _ (hA.out _ hb).1).mono ?_; rintro e w3 ⟨rfl, rfl⟩
        have hS := spoil_step (x := (yl + m) % p) (k := o + k) (hA.out _ hb).1 (hA.out _ hb).2 (.inl rfl)
        have HS := hide hS
        clear hS
        go_wp2_with fail
        refine (r2.out _ HS.out.1).mono ?_; rintro e w4 ⟨rfl, rfl⟩
        have hS2 := spoil_step (x := (yl + (p - m)) % p) (k := o + h + k) HS.out.1 HS.out.2 (.inl rfl)
        rw [HJ.out] at hS2
        have HS2 := hide hS2
        clear hS2
        go_wp2
        go_roundw
        case rel => exact ⟨k + 1, by omega, by go_num, HS2.out.1, HS2.out.2⟩
        case measure => simp [intOf]; omega
    · obtain rfl : k = h := by omega
      clear hcell
      go_wp2
      go_end0
      exact ⟨rfl, hO, hG⟩

end Go.Proofs.YtcjgjgkoeokooaaDoor
