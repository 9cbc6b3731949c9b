/- Texts laid together: PrvD, PrvE, PrvF, PrvG. -/
import Derived.Test.YtpbfgcepmbpkdaaGreatBDivA
import Derived.Test.YtpbfgcepmbpkdaaGreatBunYA
import Derived.Test.YtpbfgcepmbpkdaaGreatBPntM
import Derived.Test.YtpbfgcepmbpkdaaGreatBunJ
import Derived.Test.YtpbfgcepmbpkdaaGreatBunW
import Derived.Test.YtpbfgcepmbpkdaaGreatBunHB
import Derived.Laws.CopyOwn
import Derived.Test.YtpbfgcepmbpkdaaGreatBunM
import Derived.Lib.SliceRun
namespace Go.Proofs.YtpbfgcepmbpkdaaGreat
open Go.RowKit Fld Rnk
set_option linter.unusedVariables false
set_option linter.unusedSimpArgs false

/-- Rem64 for the two primes. -/
theorem rem_low (l y : Int) (w : World) (l0 : 0 ≤ l) (l1 : l ≤ 18446744073709551615) (y0 : 0 < y) (y1 : y ≤ 18446744073709551615) :
    Calls Tryz.prog 96 #[.int .u64 0, .int .u64 l, .int .u64 y] w fun e w' => e = .returned (.int .u64 (l % y)) ∧ ∃ n, w' = w.drewN n := by
  have HD := hide (div_low l y w l0 l1 y0 y1)
  have hy : ¬ y = 0 := by omega
  generalize l % y = r at *
  go_enter Tryz.func96, Tryz.ntmps96
  go_wp2_with (go_at_call 113; refine HD.out.mono ?_; rintro e w1 ⟨z, rfl, n, rfl⟩)
  go_ret
  exact ⟨rfl, n, rfl⟩

theorem rem_large (h l : Int) (w : World) (h0 : 0 ≤ h) (h1 : h < 18446744069414584321) (l0 : 0 ≤ l) (l1 : l ≤ 18446744073709551615) :
    Calls Tryz.prog 96 #[.int .u64 h, .int .u64 l, .int .u64 18446744069414584321] w fun e w' => e = .returned (.int .u64 ((h * 18446744073709551616 + l) % 18446744069414584321)) ∧ ∃ n, w' = w.drewN n := by
  by_cases c : h = 0
  · subst c
    have := rem_low l 18446744069414584321 w l0 l1 (by decide) (by decide)
    rw [show (0 : Int) * 18446744073709551616 + l = l by omega]
    exact this
  · have HD := hide (div_large h l w (by omega) h1 l0 l1)
    have hm : h % 18446744069414584321 = h := by omega
    generalize (h * 18446744073709551616 + l) % 18446744069414584321 = r at *
    go_enter Tryz.func96, Tryz.ntmps96
    go_wp2_with (go_at_call 113; refine HD.out.mono ?_; rintro e w1 ⟨z, rfl, rfl⟩)
    go_ret
    exact ⟨rfl, 0, rfl⟩

/-- The product. -/
theorem pTimes (p a b : Int) (wd : Bool) (w : World) (hm : Md p wd) (ha : El p a) (hb : El p b) : Calls Tryz.prog 70 #[.int .u64 p, .int .u64 a, .int .u64 b] w fun e w' => e = .returned (.int .u64 (mul p a b)) ∧ ∃ n, w' = w.drewN n := by
  obtain ⟨a1, a2⟩ := ha; obtain ⟨b1, b2⟩ := hb
  have k1 : 0 ≤ low64 (a * b) ∧ low64 (a * b) ≤ 18446744073709551615 ∧ 0 ≤ high64 (a * b) ∧ high64 (a * b) ≤ 18446744073709551615 := by
    unfold low64 high64
    have := Int.mul_nonneg a1 b1
    have : a * b < 18446744073709551616 * 18446744073709551616 := by
      have hb := hm.bounds
      exact Int.lt_of_le_of_lt (mul_le (k := 18446744073709551615) a1 b1 (by omega) (by omega)).2 (by decide)
    omega
  have HR : Hid (∀ W, Calls Tryz.prog 96 #[.int .u64 (high64 (a * b)), .int .u64 (low64 (a * b)), .int .u64 p] W fun e w' => e = .returned (.int .u64 (mul p a b)) ∧ ∃ n, w' = W.drewN n) := fun W => by
    rcases hm with ⟨h1, rfl⟩ | ⟨h1, rfl⟩
    · subst h1
      obtain ⟨m1, m2⟩ := mul_le (k := 2013265920) a1 b1 (by omega) (by omega)
      have e1 : high64 (a * b) = 0 := by unfold high64; omega
      have e2 : low64 (a * b) = a * b := by unfold low64; omega
      rw [e1, e2]
      exact rem_low (a * b) 2013265921 W m1 (by omega) (by decide) (by decide)
    · subst h1
      have e1 := high_low (a * b)
      obtain ⟨m1, m2⟩ := mul_le (k := 18446744069414584320) a1 b1 (by omega) (by omega)
      have := rem_large (high64 (a * b)) (low64 (a * b)) W k1.2.2.1 (by unfold high64; omega) k1.1 k1.2.1
      rw [e1] at this
      exact this
  have HM := hide (fun W => mul64_any a b W a1 (by have := hm.bounds; omega) b1 (by have := hm.bounds; omega))
  generalize mul p a b = r at *
  generalize high64 (a * b) = hh at *
  generalize low64 (a * b) = ll at *
  go_enter Tryz.func70, Tryz.ntmps70
  go_wp2_with (first
    | (go_at_call 95; refine (HM.out _).mono ?_; rintro e w' ⟨rfl, rfl⟩)
    | (go_at_call 96; refine (HR.out _).mono ?_; rintro e w' ⟨rfl, n, rfl⟩))
  go_ret
  exact ⟨rfl, n, rfl⟩

/-- The difference. -/
theorem pLess (p a b : Int) (w : World) (hp : p ≤ 18446744073709551615) (ha : El p a) (hb : El p b) : Calls Tryz.prog 69 #[.int .u64 p, .int .u64 a, .int .u64 b] w fun e w' => e = .returned (.int .u64 (sub p a b)) ∧ w' = w := by
  obtain ⟨a1, a2⟩ := ha; obtain ⟨b1, b2⟩ := hb
  rw [← subR_sub p a b a1 a2 b1 b2]
  by_cases h1 : a < b
  · have HF : Hid (subR p a b = p - (b - a)) := by show _ = _; unfold subR; rw [if_pos h1]; omega
    rw [HF.out]
    clear HF
    go_enter Tryz.func69, Tryz.ntmps69
    go_wp2
    go_ret
    exact ⟨rfl, rfl⟩
  · have HF : Hid (subR p a b = a - b) := by show _ = _; unfold subR; exact if_neg h1
    rw [HF.out]
    clear HF
    go_enter Tryz.func69, Tryz.ntmps69
    go_wp2
    go_ret
    exact ⟨rfl, rfl⟩

set_option maxHeartbeats 200000 in
theorem pInverse (p a : Int) (wd : Bool) (w : World) (hm : Md p wd) (ha : El p a) : Calls Tryz.prog 50 #[.int .u64 p, .int .u64 a] w fun e w' => e = .returned (.int .u64 (inv p a)) ∧ ∃ n, w' = w.drewN n := by
  have hpb := hm.bounds
  have hp0 : 0 < p := by omega
  have hp2 : 2 ≤ p := by omega
  have hone := one_el hm
  unfold inv
  go_enter Tryz.func50, Tryz.ntmps50
  go_wp2
  go_loopw [1, 5, 6] (fun va vp vn wr => ∃ A N P : Int, va = .int .u64 A ∧ vn = .int .u64 N ∧ vp = .int .u64 P ∧ 0 ≤ N ∧ N ≤ 18446744073709551615 ∧ El p A ∧ El p P ∧ Pin p P A N (pow p a (p - 2)) ∧ ∃ n, wr = w.drewN n) (fun _ _ vn _ => (intOf vn).toNat)
  case atStart => exact ⟨a, p - 2, 1, rfl, rfl, rfl, by omega, by omega, ha, hone, Pin.start p a (p - 2), 0, rfl⟩
  case round =>
    obtain ⟨A, N, P, rfl, rfl, rfl, hN0, hN1, hA, hP, hJ, n, rfl⟩ := hrel
    by_cases hpos : 0 < N
    · have hand := and_one_u64 N hN0 hN1
      have hPA := mul_el (a := P) (b := A) hp0
      have hAA := mul_el (a := A) (b := A) hp0
      by_cases ho : N % 2 = 1
      · have HJ := hJ.odd hN0 ho
        have ht : (N % 2 == 1) = true := beq_iff_eq.2 ho
        clear ho
        go_wp2_with (go_at_call 70; refine (pTimes p _ _ wd _ hm (by assumption) (by assumption)).mono ?_; rintro e w1 ⟨rfl, n1, rfl⟩)
        go_roundw
        case rel => exact ⟨_, _, _, rfl, rfl, rfl, by omega, by omega, hAA, hPA, HJ, _, rfl⟩
        case measure => show (N / 2).toNat < N.toNat; omega
      · have HJ := hJ.even hN0 (by omega)
        have ht : (N % 2 == 1) = false := beq_eq_false_iff_ne.2 ho
        clear ho
        go_wp2_with (go_at_call 70; refine (pTimes p _ _ wd _ hm (by assumption) (by assumption)).mono ?_; rintro e w1 ⟨rfl, n1, rfl⟩)
        go_roundw
        case rel => exact ⟨_, _, _, rfl, rfl, rfl, by omega, by omega, hAA, hP, HJ, _, rfl⟩
        case measure => show (N / 2).toNat < N.toNat; omega
    · have hF := hide (hJ.done (by omega) hP)
      go_wp2
      go_ret
      exact ⟨ret_u64 hF.out, n, rfl⟩

/-- What was written is one block alone, but for blocks that are new. -/
theorem grown_of {a b : World} (h : Below a.heap.size a b) (r : Option Nat) : a.grownBy b r := ⟨h.os, h.tape, h.output, h.size, fun j hj _ => h.block j hj⟩
theorem seg_step {w wr : World} {base g N cap nq : Nat} {zs : List Int} {o k : Nat} {f : Nat → Int} {T : TypeId} (hO : wr.ownsRow base T 1 (.slice (some ⟨g, 0, none⟩) N cap) N (vals (seg zs o k f))) (hG : w.grownBy wr (some g)) (hk : o + k < zs.length) :
    ((wr.drewN nq).setCell ⟨g, o + k, none⟩ (.int .u64 (f k))).ownsRow base T 1 (.slice (some ⟨g, 0, none⟩) N cap) N (vals (seg zs o (k + 1) f)) ∧ w.grownBy ((wr.drewN nq).setCell ⟨g, o + k, none⟩ (.int .u64 (f k))) (some g) := by
  have hb : Below wr.heap.size wr (wr.drewN nq) := below_drewN (Below.refl _ wr) nq
  have := spoil_step (k := o + k) (x := f k) (own_below hO hb) (grown_trans hG (grown_of hb _)) (.inl rfl)
  rwa [seg_set hk] at this
theorem seg_cell {wr : World} {base g N cap : Nat} {zs : List Int} {o k : Nat} {f : Nat → Int} {T : TypeId} (hO : wr.ownsRow base T 1 (.slice (some ⟨g, 0, none⟩) N cap) N (vals (seg zs o k f))) (hk : o + k < zs.length) : wr.cell? ⟨g, o + k, none⟩ = some (.int .u64 (co zs (o + k))) ∧ wr.frozen? ⟨g, o + k, none⟩ = false := by
  have hl := own_len hO
  rw [seg_len] at hl
  refine ⟨?_, free_own hO _⟩
  rw [own_cell hO (by rw [seg_len]; exact hl) (by omega)]
  show some (Value.int .u64 (co (seg zs o k f) (o + k))) = _
  rw [seg_here hk (Nat.le_refl _)]

set_option maxRecDepth 100000 in
set_option maxHeartbeats 400000 in
theorem pScale (p c : Int) (wd : Bool) (g o n N cap cp base : Nat) (zs : List Int) (w : World) (hm : Md p wd) (hc : El p c) (hz : Els p zs) (h : w.ownsRow base 50 1 (.slice (some ⟨g, 0, none⟩) N cap) N (vals zs)) (ho : o + n ≤ N) (hN : N ≤ 100000) (hn : n ≤ cp) :
    Calls Tryz.prog 49 #[.int .u64 p, .slice (some ⟨g, o, none⟩) n cp, .int .u64 c] w fun e w' => e = .returned (.tuple #[]) ∧ w'.ownsRow base 50 1 (.slice (some ⟨g, 0, none⟩) N cap) N (vals (seg zs o n (fun k => mul p (co zs (o + k)) c))) ∧ w.grownBy w' (some g) := by
  have hp0 : 0 < p := by have := hm.bounds; omega
  have hl := own_len h
  have HO : Hid (w.ownsRow base 50 1 (.slice (some ⟨g, 0, none⟩) N cap) N (vals (seg zs o 0 (fun k => mul p (co zs (o + k)) c)))) := by rw [seg_zero]; exact h
  have HT := hide (fun (k : Nat) W => pTimes p (co zs (o + k)) c wd W hm (hz.co hp0 _) hc)
  have HS : Hid (∀ (wr : World) (k nq : Nat), wr.ownsRow base 50 1 (.slice (some ⟨g, 0, none⟩) N cap) N (vals (seg zs o k (fun k => mul p (co zs (o + k)) c))) → w.grownBy wr (some g) → k < n → ((wr.drewN nq).setCell ⟨g, o + k, none⟩ (.int .u64 (mul p (co zs (o + k)) c))).ownsRow base 50 1 (.slice (some ⟨g, 0, none⟩) N cap) N (vals (seg zs o (k + 1) (fun k => mul p (co zs (o + k)) c))) ∧ w.grownBy ((wr.drewN nq).setCell ⟨g, o + k, none⟩ (.int .u64 (mul p (co zs (o + k)) c))) (some g)) := fun wr k nq h1 h2 h3 => seg_step h1 h2 (by omega)
  have HC : Hid (∀ (wr : World) (k : Nat), wr.ownsRow base 50 1 (.slice (some ⟨g, 0, none⟩) N cap) N (vals (seg zs o k (fun k => mul p (co zs (o + k)) c))) → k < n → wr.cell? ⟨g, o + k, none⟩ = some (.int .u64 (co zs (o + k))) ∧ wr.frozen? ⟨g, o + k, none⟩ = false) := fun wr k h1 h2 => seg_cell h1 (by omega)
  clear h hz hc
  generalize (fun k => mul p (co zs (o + k)) c) = F at *
  go_enter Tryz.func49, Tryz.ntmps49
  go_wp2
  go_loopw [9] (fun vi wr => ∃ (k : Nat), k ≤ n ∧ vi = .int .i64 k ∧ Hid (wr.ownsRow base 50 1 (.slice (some ⟨g, 0, none⟩) N cap) N (vals (seg zs o k F))) ∧ Hid (w.grownBy wr (some g))) (fun vi _ => n - (intOf vi).toNat)
  case atStart => exact ⟨0, Nat.zero_le _, rfl, HO, grown_refl _ _⟩
  case round =>
    clear HO
    obtain ⟨k, hk, rfl, HO, HG⟩ := hrel
    by_cases hlt : k < n
    · obtain ⟨d1, d2⟩ := HC.out wr k HO.out hlt
      have HT1 := hide (HT.out k)
      have HS1 := hide (fun nq => HS.out wr k nq HO.out HG.out hlt)
      have k0 : (0 : Int) ≤ (k : Int) := by omega
      have k1 : (k : Int) < (n : Int) := by omega
      clear HT HC HS HO HG
      generalize mul p (co zs (o + k)) c = z at *
      generalize co zs (o + k) = x at *
      go_wp2_with (go_at_call 70; refine (HT1.out _).mono ?_; rintro e w1 ⟨rfl, nq, rfl⟩; have S1 := hide (HS1.out nq).1; have S2 := hide (HS1.out nq).2; clear HS1)
      go_roundw
      case rel => exact ⟨k + 1, by omega, by go_num, S1, S2⟩
      case measure => simp [intOf]; omega
    · obtain rfl : k = n := by omega
      clear HT HC HS
      go_wp2
      go_end0
      exact ⟨rfl, HO.out, HG.out⟩

/-- What can be read while a piece of a block is written: n words at another place. -/
def Rdb (w : World) (g o n base N cap : Nat) (zs : List Int) (b2 o2 : Nat) (ys : Nat → Int) : Prop := ∀ (W : World) (k : Nat) (f : Nat → Int), W.ownsRow base 50 1 (.slice (some ⟨g, 0, none⟩) N cap) N (vals (seg zs o k f)) → w.grownBy W (some g) → k < n → W.cell? ⟨b2, o2 + k, none⟩ = some (.int .u64 (ys k))
/-- Another block. -/
theorem rdb_far {w : World} {g o n base N cap : Nat} {zs : List Int} {b2 o2 : Nat} {ys : Nat → Int} (hne : b2 ≠ g) (hb : b2 < w.heap.size) (h : ∀ k, k < n → w.cell? ⟨b2, o2 + k, none⟩ = some (.int .u64 (ys k))) : Rdb w g o n base N cap zs b2 o2 ys := fun W k f hO hG hk => by
  rw [World.cell?_of_block (hG.block b2 hb (fun e => hne (by injection e)))]
  exact h k hk
/-- The same block, elsewhere. -/
theorem rdb_near (w : World) {g o n base N cap : Nat} {zs : List Int} {o2 : Nat} (hl : zs.length = N) (h2 : o2 + n ≤ N) (hd : o2 + n ≤ o ∨ o + n ≤ o2) : Rdb w g o n base N cap zs g o2 (fun k => co zs (o2 + k)) := fun W k f hO hG hk => by
  rw [own_cell hO (by rw [seg_len]; exact hl) (by omega)]
  show some (Value.int .u64 (co (seg zs o k f) (o2 + k))) = _
  rw [seg_co (by omega), if_neg (by omega)]

set_option maxRecDepth 100000 in
set_option maxHeartbeats 400000 in
theorem pTakeOff (p c : Int) (wd : Bool) (g o n N cap cp base b2 o2 cp2 : Nat) (zs : List Int) (ys : Nat → Int) (w : World) (hm : Md p wd) (hc : El p c) (hz : Els p zs) (h : w.ownsRow base 50 1 (.slice (some ⟨g, 0, none⟩) N cap) N (vals zs)) (ho : o + n ≤ N) (hN : N ≤ 100000) (hn : n ≤ cp) (hn2 : n ≤ cp2) (hy : ∀ k, k < n → El p (ys k)) (hr : Rdb w g o n base N cap zs b2 o2 ys) :
    Calls Tryz.prog 43 #[.int .u64 p, .slice (some ⟨g, o, none⟩) n cp, .int .u64 c, .slice (some ⟨b2, o2, none⟩) n cp2] w fun e w' => e = .returned (.tuple #[]) ∧ w'.ownsRow base 50 1 (.slice (some ⟨g, 0, none⟩) N cap) N (vals (seg zs o n (fun k => sub p (co zs (o + k)) (mul p c (ys k))))) ∧ w.grownBy w' (some g) := by
  have hpb := hm.bounds
  have hp0 : 0 < p := by omega
  have hl := own_len h
  have HO : Hid (w.ownsRow base 50 1 (.slice (some ⟨g, 0, none⟩) N cap) N (vals (seg zs o 0 (fun k => sub p (co zs (o + k)) (mul p c (ys k)))))) := by rw [seg_zero]; exact h
  have HT : Hid (∀ (k : Nat) W, k < n → Calls Tryz.prog 70 #[.int .u64 p, .int .u64 c, .int .u64 (ys k)] W fun e w' => e = .returned (.int .u64 (mul p c (ys k))) ∧ ∃ n, w' = W.drewN n) := fun k W hk => pTimes p c (ys k) wd W hm hc (hy k hk)
  have HL : Hid (∀ (k : Nat) W, k < n → Calls Tryz.prog 69 #[.int .u64 p, .int .u64 (co zs (o + k)), .int .u64 (mul p c (ys k))] W fun e w' => e = .returned (.int .u64 (sub p (co zs (o + k)) (mul p c (ys k)))) ∧ w' = W) := fun k W hk => pLess p _ _ W (by omega) (hz.co hp0 _) (mul_el hp0)
  have HS : Hid (∀ (wr : World) (k nq : Nat), wr.ownsRow base 50 1 (.slice (some ⟨g, 0, none⟩) N cap) N (vals (seg zs o k (fun k => sub p (co zs (o + k)) (mul p c (ys k))))) → w.grownBy wr (some g) → k < n → ((wr.drewN nq).setCell ⟨g, o + k, none⟩ (.int .u64 (sub p (co zs (o + k)) (mul p c (ys k))))).ownsRow base 50 1 (.slice (some ⟨g, 0, none⟩) N cap) N (vals (seg zs o (k + 1) (fun k => sub p (co zs (o + k)) (mul p c (ys k))))) ∧ w.grownBy ((wr.drewN nq).setCell ⟨g, o + k, none⟩ (.int .u64 (sub p (co zs (o + k)) (mul p c (ys k))))) (some g)) := fun wr k nq h1 h2 h3 => seg_step h1 h2 (by omega)
  have HC : Hid (∀ (wr : World) (k : Nat), wr.ownsRow base 50 1 (.slice (some ⟨g, 0, none⟩) N cap) N (vals (seg zs o k (fun k => sub p (co zs (o + k)) (mul p c (ys k))))) → k < n → wr.cell? ⟨g, o + k, none⟩ = some (.int .u64 (co zs (o + k))) ∧ wr.frozen? ⟨g, o + k, none⟩ = false) := fun wr k h1 h2 => seg_cell h1 (by omega)
  have HR := hide (fun W k h1 h2 h3 => hr W k (fun k => sub p (co zs (o + k)) (mul p c (ys k))) h1 h2 h3)
  clear h hz hc hy hr
  generalize hF : (fun k => sub p (co zs (o + k)) (mul p c (ys k))) = F at *
  clear hF
  go_enter Tryz.func43, Tryz.ntmps43
  go_wp2
  go_loopw [11] (fun vi wr => ∃ (k : Nat), k ≤ n ∧ vi = .int .i64 k ∧ Hid (wr.ownsRow base 50 1 (.slice (some ⟨g, 0, none⟩) N cap) N (vals (seg zs o k F))) ∧ Hid (w.grownBy wr (some g))) (fun vi _ => n - (intOf vi).toNat)
  case atStart => exact ⟨0, Nat.zero_le _, rfl, HO, grown_refl _ _⟩
  case round =>
    clear HO
    obtain ⟨k, hk, rfl, HO, HG⟩ := hrel
    by_cases hlt : k < n
    · obtain ⟨d1, d2⟩ := HC.out wr k HO.out hlt
      have d3 := HR.out wr k HO.out HG.out hlt
      have HT1 := hide (fun W => HT.out k W hlt)
      have HL1 := hide (fun W => HL.out k W hlt)
      have HS1 := hide (fun nq => HS.out wr k nq HO.out HG.out hlt)
      have k0 : (0 : Int) ≤ (k : Int) := by omega
      have k1 : (k : Int) < (n : Int) := by omega
      clear HT HC HS HO HG HL HR
      generalize sub p (co zs (o + k)) (mul p c (ys k)) = z at *
      generalize mul p c (ys k) = y at *
      generalize co zs (o + k) = x at *
      generalize ys k = y' at *
      go_wp2_with fail
      refine wp_region_last (by kernel_rfl) (by kernel_rfl) (by kernel_rfl) ?_
      simp only [List.dropLast]
      repeat (go_big_quiet_step (first
          | (go_at_call 70; exact Calls.quiet_of (HT1.out _))
          | (go_at_call 69; exact Calls.quiet_of_same (HL1.out _))))
      refine wpQuiet_nil ?_
      intro _ hw'
      obtain ⟨nq, hw''⟩ := hw'
      subst hw''
      simp only [lastL]
      go_wp2
      have S1 := hide (HS1.out nq).1
      have S2 := hide (HS1.out nq).2
      clear HS1
      go_roundw
      case rel => exact ⟨k + 1, by omega, by go_num, S1, S2⟩
      case measure => simp [intOf]; omega
    · obtain rfl : k = n := by omega
      clear HT HC HS HL HR
      go_wp2
      go_end0
      exact ⟨rfl, HO.out, HG.out⟩

end Go.Proofs.YtpbfgcepmbpkdaaGreat

namespace Go.Proofs.YtpbfgcepmbpkdaaGreat
open Go.RowKit Fld Rnk
set_option linter.unusedVariables false
set_option linter.unusedSimpArgs false

/-- Equations as a value. -/
def syv (q : Int) (g N cap T W : Nat) : Value := .agg #[.int .u64 q, .slice (some ⟨g, 0, none⟩) N cap, .int .i64 T, .int .i64 W]

/-- A block that holds equations. -/
def Syb (w : World) (b : Nat) (q : Int) (g N cap T W : Nat) : Prop := w.heap[b]? = some (.cells #[.int .u64 q, .slice (some ⟨g, 0, none⟩) N cap, .int .i64 T, .int .i64 W] 56 (0, 0))
theorem Syb.lt {w : World} {b : Nat} {q : Int} {g N cap T W : Nat} (h : Syb w b q g N cap T W) : b < w.heap.size := (Array.getElem?_eq_some_iff.1 h).1
theorem Syb.below {w w' : World} {b : Nat} {q : Int} {g N cap T W : Nat} (h : Syb w b q g N cap T W) (hb : Below w.heap.size w w') : Syb w' b q g N cap T W := (hb.block b h.lt).trans h
theorem Syb.grown {w w' : World} {b x : Nat} {q : Int} {g N cap T W : Nat} (h : Syb w b q g N cap T W) (hg : w.grownBy w' (some x)) (hne : b ≠ x) : Syb w' b q g N cap T W := (hg.block b h.lt (fun e => hne (by injection e))).trans h
theorem Syb.cells {w : World} {b : Nat} {q : Int} {g N cap T W : Nat} (h : Syb w b q g N cap T W) : w.cell? ⟨b, 0, none⟩ = some (.int .u64 q) ∧ w.cell? ⟨b, 1, none⟩ = some (.slice (some ⟨g, 0, none⟩) N cap) ∧ w.cell? ⟨b, 2, none⟩ = some (.int .i64 T) ∧ w.cell? ⟨b, 3, none⟩ = some (.int .i64 W) := by
  have h' : w.heap[b]? = some (.cells #[.int .u64 q, .slice (some ⟨g, 0, none⟩) N cap, .int .i64 T, .int .i64 W] 56 (0, 0)) := h
  refine ⟨?_, ?_, ?_, ?_⟩ <;> simp [World.cell?, h']
theorem load_sys {w : World} {b : Nat} {q : Int} {g N cap T W : Nat} (h : Syb w b q g N cap T W) : (loadVar 56 ⟨b, 0, none⟩).run Tryz.prog w = .ok (.agg #[.int .u64 q, .slice (some ⟨g, 0, none⟩) N cap, .int .i64 T, .int .i64 W]) w := by
  obtain ⟨c0, c1, c2, c3⟩ := h.cells
  simp [go_sem, c0, c1, c2, c3]

set_option maxHeartbeats 400000 in
theorem pRow (q : Int) (g N cap T W s i : Nat) (w : World) (hs : s = T + W) (hN : N = T * s) (hT : T ≤ 64) (hW : W ≤ 64) (hW0 : 0 < W) (hi : i < T) (hc : N ≤ cap) :
    Calls Tryz.prog 48 #[.agg #[.int .u64 q, .slice (some ⟨g, 0, none⟩) N cap, .int .i64 T, .int .i64 W], .int .i64 i] w fun e w' => e = .returned (.slice (some ⟨g, i * s, none⟩) s s) ∧ Below w.heap.size w w' := by
  have hA := alloc_below w (.cells #[.int .u64 q, .slice (some ⟨g, 0, none⟩) N cap, .int .i64 T, .int .i64 W] 56)
  have e0 : (T : Int) + (W : Int) = (s : Int) := by omega
  obtain ⟨a, Ha⟩ : ∃ a, Hid (i * s = a) := ⟨_, rfl⟩
  have hab : (i + 1) * s = a + s := by rw [Nat.add_mul, Nat.one_mul, Ha.out]
  have hbN : a + s ≤ N := by rw [← hab, hN]; exact Nat.mul_le_mul_right s (by omega)
  have e1 : (i : Int) * (s : Int) = (a : Int) := by rw [← Int.natCast_mul, Ha.out]
  have e2 : ((i : Int) + 1) * (s : Int) = ((a + s : Nat) : Int) := by rw [← hab, Int.natCast_mul]; rfl
  have hNb : N ≤ 64 * 128 := by rw [hN]; exact Nat.mul_le_mul (by omega) (by omega)
  have hs0 : 0 < s := by omega
  have hs1 : s ≤ 128 := by omega
  rw [Ha.out]
  clear Ha hab hN hs hW hT hW0 
  generalize hb : a + s = b at *
  have Hba : Hid (b - a = s) := by show _ = _; omega
  have hab : a < b := by omega
  have c0 : (0 : Int) ≤ (a : Int) := by omega
  have c1 : (a : Int) ≤ (b : Int) := by omega
  have c2 : (b : Int) ≤ (cap : Int) := by omega
  have c3 : ¬ b = a := by omega
  have c4 : ¬ (cap = 0) := by omega
  clear hb
  rw [← Hba.out]
  go_enter Tryz.func48, Tryz.ntmps48
  go_wp2
  go_ret
  exact ⟨rfl, hA⟩

theorem makeG (n : Nat) (hm : n ≤ 100000) (W : World) : (Instr.makeSlice 45 (.int .i64 (n : Int)) (.int .i64 (n : Int))).run Tryz.prog W = .ok (.slice (some ⟨W.heap.size, 0, none⟩) n n) (W.alloc (.cells (zrs n).toArray 50)) := by
  obtain ⟨i, hi, hz, hs, hb⟩ := info_parts w64_info
  have := run_make (P := Tryz.prog) W 45 50 i (.int .u64 0) Tryz.underlying45 hi hz .i64 .i64 (n : Int) (n : Int) (by omega) (by omega) (by rw [hb]; omega) (by omega)
  rw [this, hs, Int.toNat_natCast]
  show Result.ok _ (W.alloc (.cells (madeCells #[.int .u64 0] (n * 1)) 50)) = _
  rw [made_listH]
  unfold zrs vals
  rw [List.map_replicate]
theorem own_newG {W : World} {base n : Nat} {T : TypeId} {cs : List Value} (hb : base ≤ W.heap.size) (hl : cs.length = n) (hn : n ≤ 100000) : (W.alloc (.cells cs.toArray T)).ownsRow base T 1 (.slice (some ⟨W.heap.size, 0, none⟩) n n) n cs :=
  ⟨by rw [hl, Nat.mul_one], .inr ⟨W.heap.size, n, cs.toArray, rfl, hb, heap_alloc_last W _, Nat.le_refl _, by unfold maxLen; omega, by rw [List.size_toArray, hl, Nat.mul_one], by rw [Nat.mul_one, ← hl]; exact List.take_length⟩⟩

set_option maxRecDepth 100000 in
set_option maxHeartbeats 400000 in
theorem pSystemOf (q : Int) (N T W s : Nat) (w : World) (hs : s = T + W) (hN : N = T * s) (hT : T ≤ 64) (hW : W ≤ 64) :
    Calls Tryz.prog 45 #[.int .u64 q, .int .i64 T, .int .i64 W] w fun e w' => ∃ g, e = .returned (.agg #[.int .u64 q, .slice (some ⟨g, 0, none⟩) N N, .int .i64 T, .int .i64 W]) ∧ w'.ownsRow w.heap.size 50 1 (.slice (some ⟨g, 0, none⟩) N N) N (vals (List.replicate N 0)) ∧ Below w.heap.size w w' := by
  have e0 : (T : Int) + (W : Int) = (s : Int) := by omega
  have e1 : (T : Int) * (s : Int) = (N : Int) := by rw [← Int.natCast_mul, hN]
  have hNb : N ≤ 64 * 128 := by rw [hN]; exact Nat.mul_le_mul (by omega) (by omega)
  have hmk := makeG N (by omega)
  clear hN hs
  go_enter Tryz.func45, Tryz.ntmps45
  go_wp2
  have hS : Syb (w.alloc (.cells #[.int .u64 q, .slice (some ⟨w.heap.size + 1, 0, none⟩) N N, .int .i64 T, .int .i64 W] 56)) w.heap.size q (w.heap.size + 1) N N T W := heap_alloc_last w _
  have hA := alloc_below w (.cells #[.int .u64 q, .slice (some ⟨w.heap.size + 1, 0, none⟩) N N, .int .i64 T, .int .i64 W] 56)
  have hsz : (w.alloc (.cells #[.int .u64 q, .slice (some ⟨w.heap.size + 1, 0, none⟩) N N, .int .i64 T, .int .i64 W] 56)).heap.size = w.heap.size + 1 := by simp
  generalize w.alloc (.cells #[.int .u64 q, .slice (some ⟨w.heap.size + 1, 0, none⟩) N N, .int .i64 T, .int .i64 W] 56) = W1 at *
  have hA2 := alloc_below W1 (.cells (zrs N).toArray 50)
  have hO := own_newG (W := W1) (base := w.heap.size) (T := 50) (by omega) (zrs_len N) (by omega)
  rw [hsz] at hO
  refine bodyPost_ret (v := .agg #[.int .u64 q, .slice (some ⟨w.heap.size + 1, 0, none⟩) N N, .int .i64 T, .int .i64 W]) (resCell1 (a := 6) (t := 56) (ad := ⟨w.heap.size, 0, none⟩) rfl rfl (load_sys (hS.below hA2))) rfl ?_
  exact ⟨_, rfl, hO, Below.next hA hA2⟩

end Go.Proofs.YtpbfgcepmbpkdaaGreat

namespace Go.Proofs.YtpbfgcepmbpkdaaGreat
open Go.RowKit Fld Rnk
set_option linter.unusedVariables false
set_option linter.unusedSimpArgs false

theorem laid_seg {zs ys : List Int} {o n : Nat} (hy : ys.length = n) (h : o + n ≤ zs.length) : (vals zs).take o ++ (vals ys ++ (vals zs).drop (o + (vals ys).length)) = vals (seg zs o n (co ys)) := by
  have hv : ∀ (l : List Int), vals l = l.map (Value.int .u64) := fun l => rfl
  rw [vals_length, hy, hv, hv, hv, ← List.map_take, ← List.map_drop, ← List.map_append, ← List.map_append]
  congr 1
  have hl : (zs.take o ++ (ys ++ zs.drop (o + n))).length = zs.length := by
    rw [List.length_append, List.length_append, List.length_take, List.length_drop]; omega
  refine ext_co (hl.trans (seg_len _ _ _ _).symm) (fun i hi => ?_)
  rw [hl] at hi
  rw [seg_co hi]
  unfold co
  rw [List.getD_eq_getElem?_getD, List.getD_eq_getElem?_getD, List.getD_eq_getElem?_getD]
  by_cases c1 : i < o
  · rw [if_neg (by omega), List.getElem?_append_left (by rw [List.length_take]; omega), List.getElem?_take_of_lt c1]
  · rw [List.getElem?_append_right (by rw [List.length_take]; omega), List.length_take, Nat.min_eq_left (by omega)]
    by_cases c2 : i < o + n
    · rw [if_pos ⟨by omega, c2⟩, List.getElem?_append_left (by omega)]
    · rw [if_neg (by omega), List.getElem?_append_right (by omega), List.getElem?_drop]
      congr 2; omega
theorem grown_row (w : World) (g : Nat) (cs : Array Value) : w.grownBy (w.setRow g cs) (some g) :=
  ⟨rfl, rfl, rfl, by simp [World.setRow], fun j _ hj => setRow_other w g j cs (fun e => hj (by rw [e]))⟩
/-- What is copied into a piece. -/
theorem own_laid {w : World} {base g N : Nat} {zs ys : List Int} {o n : Nat} (hO : w.ownsRow base 50 1 (.slice (some ⟨g, 0, none⟩) N N) N (vals zs)) (hN : N ≤ 100000) (hy : ys.length = n) (h : o + n ≤ zs.length) :
    (w.setRow g ((vals zs).toArray.toList.take o ++ (vals ys ++ (vals zs).toArray.toList.drop (o + (vals ys).length))).toArray).ownsRow base 50 1 (.slice (some ⟨g, 0, none⟩) N N) N (vals (seg zs o n (co ys))) := by
  have hl := own_len hO
  have hb := own_base hO g rfl
  refine own_of_block hb ?_ (by rw [seg_len]; exact hl) (by omega)
  rw [setRow_heap w g _ _ _ _ (own_block hO)]
  show some (Obj.cells ((vals zs).take o ++ (vals ys ++ (vals zs).drop (o + (vals ys).length))).toArray _ _) = _
  rw [laid_seg hy h]
theorem vals_read {w : World} {b o n : Nat} {ys : List Int} (hy : ys.length = n) (h : ∀ k, k < n → w.cell? ⟨b, o + k, none⟩ = some (.int .u64 (co ys k))) : ∀ j v, (vals ys)[j]? = some v → w.cell? ((⟨b, o, none⟩ : Addr).add j) = some v := by
  intro j u hj
  have hjl : j < ys.length := by
    have := (List.getElem?_eq_some_iff.1 hj).1
    rwa [vals_length] at this
  have hadd : (⟨b, o, none⟩ : Addr).add j = ⟨b, o + j, none⟩ := by unfold Addr.add; split <;> simp_all
  rw [vals_at ys j hjl] at hj
  rw [hadd, h j (by omega)]
  exact hj

set_option maxRecDepth 100000 in
set_option maxHeartbeats 200000 in
theorem pLay (q : Int) (g N T W s i base b1 o1 c1 b2 o2 c2 : Nat) (zs fs rs : List Int) (w : World) (hs : s = T + W) (hN : N = T * s) (hT : T ≤ 64) (hW : W ≤ 64) (hW0 : 0 < W) (hi : i < T)
    (hO : w.ownsRow base 50 1 (.slice (some ⟨g, 0, none⟩) N N) N (vals zs)) (hf : fs.length = T) (hr : rs.length = W)
    (hb1 : b1 < w.heap.size) (hn1 : b1 ≠ g) (hc1 : ∀ k, k < T → w.cell? ⟨b1, o1 + k, none⟩ = some (.int .u64 (co fs k)))
    (hb2 : b2 < w.heap.size) (hn2 : b2 ≠ g) (hc2 : ∀ k, k < W → w.cell? ⟨b2, o2 + k, none⟩ = some (.int .u64 (co rs k))) :
    Calls Tryz.prog 46 #[.agg #[.int .u64 q, .slice (some ⟨g, 0, none⟩) N N, .int .i64 T, .int .i64 W], .int .i64 i, .slice (some ⟨b1, o1, none⟩) T c1, .slice (some ⟨b2, o2, none⟩) W c2] w fun e w' => e = .returned (.tuple #[]) ∧ w'.ownsRow base 50 1 (.slice (some ⟨g, 0, none⟩) N N) N (vals (seg (seg zs (i * s) T (co fs)) (i * s + T) W (co rs))) ∧ w.grownBy w' (some g) := by
  have hl := own_len hO
  have hgt : g < w.heap.size := own_top hO g rfl
  have hNb : N ≤ 64 * 128 := by rw [hN]; exact Nat.mul_le_mul (by omega) (by omega)
  have hfit := fl_end (T := T) (s := s) (r := i) (m := s) hi (Nat.le_refl s)
  rw [← hN] at hfit
  have HR := hide (fun W' => pRow q g N N T W s i W' hs hN hT hW hW0 hi (Nat.le_refl _))
  have hA := alloc_below w (.cells #[.int .u64 q, .slice (some ⟨g, 0, none⟩) N N, .int .i64 T, .int .i64 W] 56)
  have hS : Syb (w.alloc (.cells #[.int .u64 q, .slice (some ⟨g, 0, none⟩) N N, .int .i64 T, .int .i64 W] 56)) w.heap.size q g N N T W := heap_alloc_last w _
  obtain ⟨d0, d1, d2, d3⟩ := hS.cells
  have HO := hide hO
  have H1 := hide hc1
  have H2 := hide hc2
  have hsT : s - T = W := by omega
  have hs1 : s ≤ 128 := by omega
  have hTs : (T : Int) ≤ (s : Int) := by omega
  have hT0 : (0 : Int) ≤ (T : Int) := by omega
  have hTn : ¬ s = T := by omega
  have hl1 : (vals fs).length = T := by rw [vals_length]; exact hf
  have hl2 : (vals rs).length = W := by rw [vals_length]; exact hr
  clear hO hc1 hc2 hs hN
  generalize hL : i * s = L at *
  have HL := hide hL
  clear hL
  go_enter Tryz.func46, Tryz.ntmps46
  go_upto_region 1 with fail
  generalize w.alloc (.cells #[.int .u64 q, .slice (some ⟨g, 0, none⟩) N N, .int .i64 T, .int .i64 W] 56) = W0 at *
  go_upto_region 2 with (go_at_call 48; refine (HR.out _).mono ?_; rintro e w1 ⟨rfl, hb3⟩)
  have hB := Below.next hA hb3
  have hS1 := hS.below hb3
  have HO1 := hide (own_below HO.out hB)
  have HX := hide (own_laid HO1.out (by omega) hf (by omega : L + T ≤ zs.length))
  have hG1 := grown_trans (grown_of hB (some g)) (grown_row w1 g ((vals zs).toArray.toList.take L ++ (vals fs ++ (vals zs).toArray.toList.drop (L + (vals fs).length))).toArray)
  have hS2 := hS1.grown (grown_row w1 g ((vals zs).toArray.toList.take L ++ (vals fs ++ (vals zs).toArray.toList.drop (L + (vals fs).length))).toArray) (by omega)
  have HV1 : Hid (∀ j v, (vals fs)[j]? = some v → w1.cell? ((⟨b1, o1, none⟩ : Addr).add j) = some v) := vals_read hf (fun k hk => (hB.cell (p := ⟨b1, o1 + k, none⟩) hb1).trans (H1.out k hk))
  have HV2 : Hid (∀ W9, w.grownBy W9 (some g) → ∀ j v, (vals rs)[j]? = some v → W9.cell? ((⟨b2, o2, none⟩ : Addr).add j) = some v) := fun W9 h9 => vals_read hr (fun k hk => by
    rw [World.cell?_of_block (h9.block b2 hb2 (fun e => hn2 (by injection e)))]; exact H2.out k hk)
  clear d0 d1 d2 d3 hS
  have F1 : Hid ((vals fs).length = Nat.min T s) := by show _ = _; rw [hl1]; exact (Nat.min_eq_left (by omega)).symm
  have F2 : Hid (L + (vals fs).length ≤ (vals zs).toArray.size) := by show _ ≤ _; rw [hl1, List.size_toArray, vals_length]; omega
  have F3 : Hid ((vals rs).length = Nat.min W W) := by show _ = _; rw [hl2]; exact (Nat.min_eq_left (by omega)).symm
  have F4 : Hid (L + T + (vals rs).length ≤ (vals (seg zs L T (co fs))).toArray.size) := by show _ ≤ _; rw [hl2, List.size_toArray, vals_length, seg_len]; omega
  clear hl1 hl2
  go_upto_region 3 with (refine wpList_copy_own rfl _ _ _ _ rfl 50 Tryz.underlying45 u64_size _ _ _ _ _ _ _ rfl rfl (vals zs).toArray 50 (own_block HO1.out) (vals fs) F1.out HV1.out F2.out (vals_one fs) ?_)
  generalize w1.setRow g ((vals zs).toArray.toList.take L ++ (vals fs ++ (vals zs).toArray.toList.drop (L + (vals fs).length))).toArray = W2 at *
  obtain ⟨d0, d1, d2, d3⟩ := hS2.cells
  have HY := hide (own_laid HX.out (by omega) hr (by rw [seg_len]; omega : L + T + W ≤ (seg zs L T (co fs)).length))
  have hG2 := grown_trans hG1 (grown_row W2 g ((vals (seg zs L T (co fs))).toArray.toList.take (L + T) ++ (vals rs ++ (vals (seg zs L T (co fs))).toArray.toList.drop (L + T + (vals rs).length))).toArray)
  have HV3 := hide (HV2.out W2 hG1)
  have HB := hide (own_block HX.out)
  have hsl : (vals (seg zs L T (co fs))).length = N := by rw [vals_length, seg_len]; exact hl
  go_wp2_with (refine wpList_copy_own rfl _ _ _ _ rfl 50 Tryz.underlying45 u64_size _ _ _ _ _ _ _ rfl rfl (vals (seg zs L T (co fs))).toArray 50 HB.out (vals rs) F3.out HV3.out F4.out (vals_one rs) ?_)
  go_end0
  exact ⟨rfl, HY.out, hG2⟩

end Go.Proofs.YtpbfgcepmbpkdaaGreat

namespace Go.Proofs.YtpbfgcepmbpkdaaGreat
open Go.RowKit Fld Rnk
set_option linter.unusedVariables false
set_option linter.unusedSimpArgs false

set_option maxRecDepth 100000 in
set_option maxHeartbeats 200000 in
theorem pCloneW (b o n c : Nat) (ys : List Int) (w : World) (hy : ys.length = n) (hn : 0 < n) (hn2 : n ≤ 1000) (hc : n ≤ c) (hb : b < w.heap.size) (h : ∀ k, k < n → w.cell? ⟨b, o + k, none⟩ = some (.int .u64 (co ys k))) :
    Calls Tryz.prog 42 #[.slice (some ⟨b, o, none⟩) n c] w fun e w' => ∃ v', e = .returned v' ∧ w'.ownsRow w.heap.size 50 1 v' n (vals ys) ∧ Below w.heap.size w w' := by
  obtain ⟨i0, hi0, hz0, hz1, hz2⟩ := info_parts u64_info
  have hown := own_empty w 50
  have hB := (Below.refl w.heap.size w).alloc (Nat.le_refl _) (.cells #[] 50)
  have HN : Hid (∀ j u, (vals ys)[j]? = some u → (w.alloc (.cells #[] 50)).cell? ((⟨b, o, none⟩ : Addr).add j) = some u) := vals_read hy (fun k hk => by rw [World.cell?_alloc_lt (h := hb)]; exact h k hk)
  have hq := Lib.run_eql_slice_nil (P := Tryz.prog)
  have HV : Hid ((vals ys).length = n) := by show _ = _; rw [vals_length]; exact hy
  clear h
  go_enter Tryz.func42, Tryz.ntmps42
  go_wp2_with (at_builtin; refine wpList_append_own _ rfl _ _ _ rfl w.heap.size 50 i0 _ 1 8 Tryz.underlying45 hi0 hz0 hz1 hz2 rfl (by omega) _ 0 (vals []) rfl hown ⟨b, o, none⟩ n c (vals ys) rfl (by rw [HV.out]; omega) HN.out (vals_one ys) (by unfold maxLen; omega) (by omega) (by simp) ?_; intro v' w1 hown1 hgrow _)
  go_ret
  exact ⟨_, rfl, by simpa [vals] using hown1, hB.grown hgrow (by simp) (fun k hk => by cases hk; exact Nat.le_refl _)⟩

end Go.Proofs.YtpbfgcepmbpkdaaGreat

