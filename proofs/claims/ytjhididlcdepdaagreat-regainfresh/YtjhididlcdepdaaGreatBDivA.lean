import Derived.Test.YtjhididlcdepdaaGreatBunW
import Derived.Shelf.Small.Bits
import Derived.Deep.CutRange
set_option linter.unusedVariables false
set_option linter.unusedSimpArgs false
set_option maxRecDepth 100000
set_option maxHeartbeats 4000000
namespace Go.Proofs.YtjhididlcdepdaaGreat
open Go.RowKit Fld
structure Kn (h u q r : Int) : Prop where
 q0 : 0 <= q
 q1 : q <= 4294967296
 r0 : 0 <= r
 r1 : r < 8589934592
 eq : q * 4294967295 + r = h
 up : h * 4294967296 + u < (q + 1) * 18446744069414584321
theorem Kn.first {h u : Int} (h0 : 0 <= h) (h1 : h < 18446744069414584321) (u0 : 0 <= u) (u1 : u < 4294967296) : Kn h u (h / 4294967295) (h % 4294967295) := by
 refine ⟨by omega, by omega, by omega, by omega, by omega, by omega⟩
theorem Kn.less {h u q r : Int} (k : Kn h u q r) (h1 : h < 18446744069414584321) (u0 : 0 <= u) (u1 : u < 4294967296) (hr : r < 4294967296) (c : 4294967296 <= q ∨ r * 4294967296 + u < q) : Kn h u (q - 1) (r + 4294967295) := by
 obtain ⟨a, b, c1, d, e, f⟩ := k
 refine ⟨by omega, by omega, by omega, by omega, by omega, by omega⟩
theorem Kn.done {h u q r : Int} (k : Kn h u q r) (u0 : 0 <= u) (u1 : u < 4294967296) (c : 4294967296 <= r ∨ q <= r * 4294967296 + u) : h * 4294967296 + u - q * 18446744069414584321 = (h * 4294967296 + u) % 18446744069414584321 := by
 obtain ⟨a, b, c1, d, e, f⟩ := k
 have h1 : 0 <= h * 4294967296 + u - q * 18446744069414584321 := by omega
 omega
theorem wrap_off (h u q : Int) (h0 : 0 <= h * 4294967296 + u - q * 18446744069414584321) (h1 : h * 4294967296 + u - q * 18446744069414584321 < 18446744073709551616) : IntKind.u64.wrap (IntKind.u64.wrap (IntKind.u64.wrap (h * 4294967296) + u) - IntKind.u64.wrap (q * 18446744069414584321)) = h * 4294967296 + u - q * 18446744069414584321 := by
 rw [IntKind.wrap_u64, IntKind.wrap_u64, IntKind.wrap_u64, IntKind.wrap_u64]; omega
def lzRen : Shelf.Ren := ⟨fun n => if n = 129 then 184 else 156,
 fun n => if n = 3 then 3 else if n = 4 then 4 else if n = 5 then 5 else if n = 9 then 9 else if n = 46 then 148 else 64, fun x => x⟩
theorem lzLays : Lays.n134 Tryz.prog lzRen where
 mixed := by kernel_rfl
 f129 := by kernel_rfl
 f134 := by kernel_rfl
 t3 := by kernel_rfl
 a3 := fun _ => by kernel_rfl
 z3 := fun _ => by kernel_rfl
 v3 := fun _ => by kernel_rfl
 t4 := by kernel_rfl
 a4 := fun _ => by kernel_rfl
 z4 := fun _ => by kernel_rfl
 v4 := fun _ => by kernel_rfl
 t5 := by kernel_rfl
 a5 := fun _ => by kernel_rfl
 z5 := fun _ => by kernel_rfl
 v5 := fun _ => by kernel_rfl
 t9 := by kernel_rfl
 a9 := fun _ => by kernel_rfl
 z9 := fun _ => by kernel_rfl
 v9 := fun _ => by kernel_rfl
 t46 := by kernel_rfl
 a46 := fun _ => by kernel_rfl
 z46 := fun _ => by kernel_rfl
 v46 := fun _ => by kernel_rfl
 t53 := by kernel_rfl
 a53 := fun _ => by kernel_rfl
 z53 := fun _ => by kernel_rfl
 v53 := fun _ => by kernel_rfl
theorem lz_large (w : World) : Calls Tryz.prog 156 #[.int .u64 18446744069414584321] w fun e w' => e = .returned (.int .i64 0) ∧ w' = w := by
 have := Any.bits_LeadingZeros64 lzLays 18446744069414584321 w (by decide) (by decide)
 have e : (64 - (Lib.bitLen (18446744069414584321 : Int).toNat : Int)) = 0 := by decide
 rw [e] at this
 exact this
theorem div_low (l y : Int) (w : World) (l0 : 0 <= l) (l1 : l <= 18446744073709551615) (y0 : 0 < y) (y1 : y <= 18446744073709551615) :
 Calls Tryz.prog 125 #[.int .u64 0, .int .u64 l, .int .u64 y] w fun e w' => ∃ z, e = .returned (.tuple #[.int .u64 z, .int .u64 (l % y)]) ∧ ∃ n, w' = w.drewN n := by
 have hy : ¬ y = 0 := by omega
 have hy2 : ¬ y <= 0 := by omega
 rw [<- Int.tmod_eq_emod_of_nonneg l0]
 go_enter Tryz.func125, Tryz.ntmps125
 go_wp2
 go_quiet (fail)
 go_wp2
 go_ret2
 first
  | exact ⟨_, rfl, nq, rfl⟩
  | exact ⟨_, by rw [Int.tmod_eq_emod_of_nonneg l0]; rfl, nq, rfl⟩
theorem div_ends (h l : Int) : ((h * 4294967296 + l / 4294967296) % 18446744069414584321 * 4294967296 + l % 4294967296) % 18446744069414584321 = (h * 18446744073709551616 + l) % 18446744069414584321 := by omega
theorem or_none (h l : Int) (h0 : 0 <= h) (h1 : h < 18446744073709551616) (l0 : 0 <= l) (l1 : l <= 18446744073709551615) : bits .or .u64 h (l / 18446744073709551616) = h := by
 have e : l / 18446744073709551616 = 0 := by omega
 rw [e]
 obtain ⟨h, rfl⟩ := Int.eq_ofNat_of_zero_le h0
 have e2 : ((h : Int) % 18446744073709551616) = h := by omega
 have e3 : (BitVec.ofNat 64 h ||| 0#64).toNat = h := by rw [BitVec.or_zero, BitVec.toNat_ofNat]; omega
 simp [bits, IntKind.wrap_u64, IntKind.bits, e2]
 show ((BitVec.ofNat 64 h ||| 0#64).toNat : Int) % 18446744073709551616 = h
 rw [e3]; omega
theorem div_large (h l : Int) (w : World) (h0 : 0 < h) (h1 : h < 18446744069414584321) (l0 : 0 <= l) (l1 : l <= 18446744073709551615) :
 Calls Tryz.prog 125 #[.int .u64 h, .int .u64 l, .int .u64 18446744069414584321] w fun e w' => ∃ z, e = .returned (.tuple #[.int .u64 z, .int .u64 ((h * 18446744073709551616 + l) % 18446744069414584321)]) ∧ w' = w := by
 have hL := hide lz_large
 have n0 : ¬ h = 0 := by omega
 have n1 : ¬ 18446744069414584321 <= h := by omega
 have e1 : bits .and .u64 18446744069414584321 4294967295 = 1 := by decide
 have e2 := or_none h l (by omega) (by omega) l0 l1
 have e3 := mask_int l l0 l1
 have y0 : 0 <= l / 4294967296 := by omega
 have y1 : l / 4294967296 < 4294967296 := by omega
 have z0 : 0 <= l % 4294967296 := by omega
 have z1 : l % 4294967296 < 4294967296 := by omega
 have HE := hide (div_ends h l)
 generalize (h * 18446744073709551616 + l) % 18446744069414584321 = R at *
 go_enter Tryz.func125, Tryz.ntmps125
 go_wp2_with (go_at_call 156; refine (hL.out _).mono ?_; rintro e w' ⟨rfl, rfl⟩)
 clear hL e1 e2 e3
 go_loop [15, 16] (fun vq vr => ∃ q r : Int, vq = .int .u64 q ∧ vr = .int .u64 r ∧ Kn h (l / 4294967296) q r ∧ r < 4294967296) (fun vq _ => (intOf vq).toNat)
 case atStart =>
  have k := Kn.first (h := h) (u := l / 4294967296) (by omega) h1 y0 y1
  have e : h - h / 4294967295 * 4294967295 = h % 4294967295 := by omega
  refine ⟨_, _, rfl, rfl, ?_, ?_⟩
  · rw [e]; exact k
  · rw [e]; omega
 case round =>
  obtain ⟨q, r, rfl, rfl, k, hr⟩ := hrel
  have HK := hide k
  obtain ⟨k0, k1, k2, k3, k4, k5⟩ := k
  have f1 : IntKind.u64.wrap q = q := by rw [IntKind.wrap_u64]; omega
  have f2 : IntKind.u64.wrap (4294967296 * r) = 4294967296 * r := by rw [IntKind.wrap_u64]; omega
  have f3 : IntKind.u64.wrap (4294967296 * r + l / 4294967296) = 4294967296 * r + l / 4294967296 := by rw [IntKind.wrap_u64]; omega
  have hor : (4294967296 <= q ∧ (1 <= r ∨ r <= 0)) ∨ (q < 4294967296 ∧ 4294967296 * r + l / 4294967296 < q ∧ (1 <= r ∨ r <= 0)) ∨ (q < 4294967296 ∧ q <= 4294967296 * r + l / 4294967296) := by omega
  have f4 : 0 < q -> IntKind.u64.wrap (q - 1) = q - 1 := fun _ => by rw [IntKind.wrap_u64]; omega
  have f5 : IntKind.u64.wrap (r + 4294967295) = r + 4294967295 := by rw [IntKind.wrap_u64]; omega
  rcases hor with ⟨c1, c3 | c3⟩ | ⟨c1, c2, c3 | c3⟩ | ⟨c1, c2⟩
  · have c4 : 4294967296 <= r + 4294967295 := by omega
    have HK2 := hide (HK.out.less h1 y0 y1 hr (Or.inl c1))
    replace f4 := f4 (by omega)
    have hd := hide (HK2.out.done y0 y1 (Or.inl c4))
    clear HK HK2 k4 k5
    obtain ⟨U, HU⟩ : ∃ U, Hid ((h * 4294967296 + l / 4294967296) % 18446744069414584321 = U) := ⟨_, rfl⟩
    rw [HU.out] at hd HE
    have hU0 : 0 <= U := by rw [<- HU.out]; omega
    have hU1 : U < 18446744069414584321 := by rw [<- HU.out]; omega
    have hUe : IntKind.u64.wrap (IntKind.u64.wrap (IntKind.u64.wrap (h * 4294967296) + l / 4294967296) - IntKind.u64.wrap ((q - 1) * 18446744069414584321)) = U := by
     have h7 := hd.out
     rw [wrap_off h (l / 4294967296) (q - 1) (by omega) (by omega), h7]
    clear hd
    go_upto_region 21 with fail
    (try clear c1)
    (try clear c2)
    (try clear c3)
    (try clear c4)
    clear k0 k1 k2 k3 hr f1 f2 f3
    (try clear f4)
    (try clear f5)
    go_wp2_with fail
    clear hUe
    go_loop [18, 16] (fun vq vr => ∃ q r : Int, vq = .int .u64 q ∧ vr = .int .u64 r ∧ Kn U (l % 4294967296) q r ∧ r < 4294967296) (fun vq _ => (intOf vq).toNat)
    case atStart =>
     have k := Kn.first (h := U) (u := l % 4294967296) (by omega) hU1 z0 z1
     have e : U - U / 4294967295 * 4294967295 = U % 4294967295 := by omega
     refine ⟨_, _, rfl, rfl, ?_, ?_⟩
     · rw [e]; exact k
     · rw [e]; omega
    case round =>
     obtain ⟨q0, r, rfl, rfl, k, hr⟩ := hrel
     have HK := hide k
     obtain ⟨k0, k1, k2, k3, k4, k5⟩ := k
     have f1 : IntKind.u64.wrap q0 = q0 := by rw [IntKind.wrap_u64]; omega
     have f2 : IntKind.u64.wrap (4294967296 * r) = 4294967296 * r := by rw [IntKind.wrap_u64]; omega
     have f3 : IntKind.u64.wrap (4294967296 * r + l % 4294967296) = 4294967296 * r + l % 4294967296 := by rw [IntKind.wrap_u64]; omega
     have hor : (4294967296 <= q0 ∧ (1 <= r ∨ r <= 0)) ∨ (q0 < 4294967296 ∧ 4294967296 * r + l % 4294967296 < q0 ∧ (1 <= r ∨ r <= 0)) ∨ (q0 < 4294967296 ∧ q0 <= 4294967296 * r + l % 4294967296) := by omega
     have f4 : 0 < q0 -> IntKind.u64.wrap (q0 - 1) = q0 - 1 := fun _ => by rw [IntKind.wrap_u64]; omega
     have f5 : IntKind.u64.wrap (r + 4294967295) = r + 4294967295 := by rw [IntKind.wrap_u64]; omega
     rcases hor with ⟨c1, c3 | c3⟩ | ⟨c1, c2, c3 | c3⟩ | ⟨c1, c2⟩
     · have c4 : 4294967296 <= r + 4294967295 := by omega
       have HK2 := hide (HK.out.less hU1 z0 z1 hr (Or.inl c1))
       replace f4 := f4 (by omega)
       have hd := hide (HK2.out.done z0 z1 (Or.inl c4))
       clear HK HK2 k4 k5
       have hR : IntKind.u64.wrap (IntKind.u64.wrap (IntKind.u64.wrap (U * 4294967296) + l % 4294967296) - IntKind.u64.wrap ((q0 - 1) * 18446744069414584321)) = R := by
        have h7 := hd.out
        have h8 := HE.out
        rw [wrap_off U (l % 4294967296) (q0 - 1) (by omega) (by omega), h7]; exact h8
       clear hd HE HU
       go_upto_region 28 with fail
       (try clear c1)
       (try clear c2)
       (try clear c3)
       (try clear c4)
       clear k0 k1 k2 k3 hr f1 f2 f3
       (try clear f4)
       (try clear f5)
       go_wp2_with fail
       go_ret2
       exact ⟨⟨_, rfl⟩, rfl⟩
     · have c4 : r + 4294967295 < 4294967296 := by omega
       have HK2 := hide (HK.out.less hU1 z0 z1 hr (Or.inl c1))
       replace f4 := f4 (by omega)
       clear HK k4 k5
       go_wp2_with fail
       go_round
       case rel => exact ⟨_, _, rfl, rfl, HK2.out, by omega⟩
       case measure => simp [intOf]; omega
     · have c4 : 4294967296 <= r + 4294967295 := by omega
       have HK2 := hide (HK.out.less hU1 z0 z1 hr (Or.inr (by omega)))
       replace f4 := f4 (by omega)
       have hd := hide (HK2.out.done z0 z1 (Or.inl c4))
       clear HK HK2 k4 k5
       have hR : IntKind.u64.wrap (IntKind.u64.wrap (IntKind.u64.wrap (U * 4294967296) + l % 4294967296) - IntKind.u64.wrap ((q0 - 1) * 18446744069414584321)) = R := by
        have h7 := hd.out
        have h8 := HE.out
        rw [wrap_off U (l % 4294967296) (q0 - 1) (by omega) (by omega), h7]; exact h8
       clear hd HE HU
       go_upto_region 28 with fail
       (try clear c1)
       (try clear c2)
       (try clear c3)
       (try clear c4)
       clear k0 k1 k2 k3 hr f1 f2 f3
       (try clear f4)
       (try clear f5)
       go_wp2_with fail
       go_ret2
       exact ⟨⟨_, rfl⟩, rfl⟩
     · have c4 : r + 4294967295 < 4294967296 := by omega
       have HK2 := hide (HK.out.less hU1 z0 z1 hr (Or.inr (by omega)))
       replace f4 := f4 (by omega)
       clear HK k4 k5
       go_wp2_with fail
       go_round
       case rel => exact ⟨_, _, rfl, rfl, HK2.out, by omega⟩
       case measure => simp [intOf]; omega
     · have hd := hide (HK.out.done z0 z1 (Or.inr (by omega)))
       clear HK k4 k5 f4 f5
       have hR : IntKind.u64.wrap (IntKind.u64.wrap (IntKind.u64.wrap (U * 4294967296) + l % 4294967296) - IntKind.u64.wrap (q0 * 18446744069414584321)) = R := by
        have h7 := hd.out
        have h8 := HE.out
        rw [wrap_off U (l % 4294967296) q0 (by omega) (by omega), h7]; exact h8
       clear hd HE HU
       go_upto_region 28 with fail
       (try clear c1)
       (try clear c2)
       (try clear c3)
       (try clear c4)
       clear k0 k1 k2 k3 hr f1 f2 f3
       (try clear f4)
       (try clear f5)
       go_wp2_with fail
       go_ret2
       exact ⟨⟨_, rfl⟩, rfl⟩
  · have c4 : r + 4294967295 < 4294967296 := by omega
    have HK2 := hide (HK.out.less h1 y0 y1 hr (Or.inl c1))
    replace f4 := f4 (by omega)
    clear HK k4 k5
    go_wp2_with fail
    go_round
    case rel => exact ⟨_, _, rfl, rfl, HK2.out, by omega⟩
    case measure => simp [intOf]; omega
  · have c4 : 4294967296 <= r + 4294967295 := by omega
    have HK2 := hide (HK.out.less h1 y0 y1 hr (Or.inr (by omega)))
    replace f4 := f4 (by omega)
    have hd := hide (HK2.out.done y0 y1 (Or.inl c4))
    clear HK HK2 k4 k5
    obtain ⟨U, HU⟩ : ∃ U, Hid ((h * 4294967296 + l / 4294967296) % 18446744069414584321 = U) := ⟨_, rfl⟩
    rw [HU.out] at hd HE
    have hU0 : 0 <= U := by rw [<- HU.out]; omega
    have hU1 : U < 18446744069414584321 := by rw [<- HU.out]; omega
    have hUe : IntKind.u64.wrap (IntKind.u64.wrap (IntKind.u64.wrap (h * 4294967296) + l / 4294967296) - IntKind.u64.wrap ((q - 1) * 18446744069414584321)) = U := by
     have h7 := hd.out
     rw [wrap_off h (l / 4294967296) (q - 1) (by omega) (by omega), h7]
    clear hd
    go_upto_region 21 with fail
    (try clear c1)
    (try clear c2)
    (try clear c3)
    (try clear c4)
    clear k0 k1 k2 k3 hr f1 f2 f3
    (try clear f4)
    (try clear f5)
    go_wp2_with fail
    clear hUe
    go_loop [18, 16] (fun vq vr => ∃ q r : Int, vq = .int .u64 q ∧ vr = .int .u64 r ∧ Kn U (l % 4294967296) q r ∧ r < 4294967296) (fun vq _ => (intOf vq).toNat)
    case atStart =>
     have k := Kn.first (h := U) (u := l % 4294967296) (by omega) hU1 z0 z1
     have e : U - U / 4294967295 * 4294967295 = U % 4294967295 := by omega
     refine ⟨_, _, rfl, rfl, ?_, ?_⟩
     · rw [e]; exact k
     · rw [e]; omega
    case round =>
     obtain ⟨q0, r, rfl, rfl, k, hr⟩ := hrel
     have HK := hide k
     obtain ⟨k0, k1, k2, k3, k4, k5⟩ := k
     have f1 : IntKind.u64.wrap q0 = q0 := by rw [IntKind.wrap_u64]; omega
     have f2 : IntKind.u64.wrap (4294967296 * r) = 4294967296 * r := by rw [IntKind.wrap_u64]; omega
     have f3 : IntKind.u64.wrap (4294967296 * r + l % 4294967296) = 4294967296 * r + l % 4294967296 := by rw [IntKind.wrap_u64]; omega
     have hor : (4294967296 <= q0 ∧ (1 <= r ∨ r <= 0)) ∨ (q0 < 4294967296 ∧ 4294967296 * r + l % 4294967296 < q0 ∧ (1 <= r ∨ r <= 0)) ∨ (q0 < 4294967296 ∧ q0 <= 4294967296 * r + l % 4294967296) := by omega
     have f4 : 0 < q0 -> IntKind.u64.wrap (q0 - 1) = q0 - 1 := fun _ => by rw [IntKind.wrap_u64]; omega
     have f5 : IntKind.u64.wrap (r + 4294967295) = r + 4294967295 := by rw [IntKind.wrap_u64]; omega
     rcases hor with ⟨c1, c3 | c3⟩ | ⟨c1, c2, c3 | c3⟩ | ⟨c1, c2⟩
     · have c4 : 4294967296 <= r + 4294967295 := by omega
       have HK2 := hide (HK.out.less hU1 z0 z1 hr (Or.inl c1))
       replace f4 := f4 (by omega)
       have hd := hide (HK2.out.done z0 z1 (Or.inl c4))
       clear HK HK2 k4 k5
       have hR : IntKind.u64.wrap (IntKind.u64.wrap (IntKind.u64.wrap (U * 4294967296) + l % 4294967296) - IntKind.u64.wrap ((q0 - 1) * 18446744069414584321)) = R := by
        have h7 := hd.out
        have h8 := HE.out
        rw [wrap_off U (l % 4294967296) (q0 - 1) (by omega) (by omega), h7]; exact h8
       clear hd HE HU
       go_upto_region 28 with fail
       (try clear c1)
       (try clear c2)
       (try clear c3)
       (try clear c4)
       clear k0 k1 k2 k3 hr f1 f2 f3
       (try clear f4)
       (try clear f5)
       go_wp2_with fail
       go_ret2
       exact ⟨⟨_, rfl⟩, rfl⟩
     · have c4 : r + 4294967295 < 4294967296 := by omega
       have HK2 := hide (HK.out.less hU1 z0 z1 hr (Or.inl c1))
       replace f4 := f4 (by omega)
       clear HK k4 k5
       go_wp2_with fail
       go_round
       case rel => exact ⟨_, _, rfl, rfl, HK2.out, by omega⟩
       case measure => simp [intOf]; omega
     · have c4 : 4294967296 <= r + 4294967295 := by omega
       have HK2 := hide (HK.out.less hU1 z0 z1 hr (Or.inr (by omega)))
       replace f4 := f4 (by omega)
       have hd := hide (HK2.out.done z0 z1 (Or.inl c4))
       clear HK HK2 k4 k5
       have hR : IntKind.u64.wrap (IntKind.u64.wrap (IntKind.u64.wrap (U * 4294967296) + l % 4294967296) - IntKind.u64.wrap ((q0 - 1) * 18446744069414584321)) = R := by
        have h7 := hd.out
        have h8 := HE.out
        rw [wrap_off U (l % 4294967296) (q0 - 1) (by omega) (by omega), h7]; exact h8
       clear hd HE HU
       go_upto_region 28 with fail
       (try clear c1)
       (try clear c2)
       (try clear c3)
       (try clear c4)
       clear k0 k1 k2 k3 hr f1 f2 f3
       (try clear f4)
       (try clear f5)
       go_wp2_with fail
       go_ret2
       exact ⟨⟨_, rfl⟩, rfl⟩
     · have c4 : r + 4294967295 < 4294967296 := by omega
       have HK2 := hide (HK.out.less hU1 z0 z1 hr (Or.inr (by omega)))
       replace f4 := f4 (by omega)
       clear HK k4 k5
       go_wp2_with fail
       go_round
       case rel => exact ⟨_, _, rfl, rfl, HK2.out, by omega⟩
       case measure => simp [intOf]; omega
     · have hd := hide (HK.out.done z0 z1 (Or.inr (by omega)))
       clear HK k4 k5 f4 f5
       have hR : IntKind.u64.wrap (IntKind.u64.wrap (IntKind.u64.wrap (U * 4294967296) + l % 4294967296) - IntKind.u64.wrap (q0 * 18446744069414584321)) = R := by
        have h7 := hd.out
        have h8 := HE.out
        rw [wrap_off U (l % 4294967296) q0 (by omega) (by omega), h7]; exact h8
       clear hd HE HU
       go_upto_region 28 with fail
       (try clear c1)
       (try clear c2)
       (try clear c3)
       (try clear c4)
       clear k0 k1 k2 k3 hr f1 f2 f3
       (try clear f4)
       (try clear f5)
       go_wp2_with fail
       go_ret2
       exact ⟨⟨_, rfl⟩, rfl⟩
  · have c4 : r + 4294967295 < 4294967296 := by omega
    have HK2 := hide (HK.out.less h1 y0 y1 hr (Or.inr (by omega)))
    replace f4 := f4 (by omega)
    clear HK k4 k5
    go_wp2_with fail
    go_round
    case rel => exact ⟨_, _, rfl, rfl, HK2.out, by omega⟩
    case measure => simp [intOf]; omega
  · have hd := hide (HK.out.done y0 y1 (Or.inr (by omega)))
    clear HK k4 k5 f4 f5
    obtain ⟨U, HU⟩ : ∃ U, Hid ((h * 4294967296 + l / 4294967296) % 18446744069414584321 = U) := ⟨_, rfl⟩
    rw [HU.out] at hd HE
    have hU0 : 0 <= U := by rw [<- HU.out]; omega
    have hU1 : U < 18446744069414584321 := by rw [<- HU.out]; omega
    have hUe : IntKind.u64.wrap (IntKind.u64.wrap (IntKind.u64.wrap (h * 4294967296) + l / 4294967296) - IntKind.u64.wrap (q * 18446744069414584321)) = U := by
     have h7 := hd.out
     rw [wrap_off h (l / 4294967296) q (by omega) (by omega), h7]
    clear hd
    go_upto_region 21 with fail
    (try clear c1)
    (try clear c2)
    (try clear c3)
    (try clear c4)
    clear k0 k1 k2 k3 hr f1 f2 f3
    (try clear f4)
    (try clear f5)
    go_wp2_with fail
    clear hUe
    go_loop [18, 16] (fun vq vr => ∃ q r : Int, vq = .int .u64 q ∧ vr = .int .u64 r ∧ Kn U (l % 4294967296) q r ∧ r < 4294967296) (fun vq _ => (intOf vq).toNat)
    case atStart =>
     have k := Kn.first (h := U) (u := l % 4294967296) (by omega) hU1 z0 z1
     have e : U - U / 4294967295 * 4294967295 = U % 4294967295 := by omega
     refine ⟨_, _, rfl, rfl, ?_, ?_⟩
     · rw [e]; exact k
     · rw [e]; omega
    case round =>
     obtain ⟨q0, r, rfl, rfl, k, hr⟩ := hrel
     have HK := hide k
     obtain ⟨k0, k1, k2, k3, k4, k5⟩ := k
     have f1 : IntKind.u64.wrap q0 = q0 := by rw [IntKind.wrap_u64]; omega
     have f2 : IntKind.u64.wrap (4294967296 * r) = 4294967296 * r := by rw [IntKind.wrap_u64]; omega
     have f3 : IntKind.u64.wrap (4294967296 * r + l % 4294967296) = 4294967296 * r + l % 4294967296 := by rw [IntKind.wrap_u64]; omega
     have hor : (4294967296 <= q0 ∧ (1 <= r ∨ r <= 0)) ∨ (q0 < 4294967296 ∧ 4294967296 * r + l % 4294967296 < q0 ∧ (1 <= r ∨ r <= 0)) ∨ (q0 < 4294967296 ∧ q0 <= 4294967296 * r + l % 4294967296) := by omega
     have f4 : 0 < q0 -> IntKind.u64.wrap (q0 - 1) = q0 - 1 := fun _ => by rw [IntKind.wrap_u64]; omega
     have f5 : IntKind.u64.wrap (r + 4294967295) = r + 4294967295 := by rw [IntKind.wrap_u64]; omega
     rcases hor with ⟨c1, c3 | c3⟩ | ⟨c1, c2, c3 | c3⟩ | ⟨c1, c2⟩
     · have c4 : 4294967296 <= r + 4294967295 := by omega
       have HK2 := hide (HK.out.less hU1 z0 z1 hr (Or.inl c1))
       replace f4 := f4 (by omega)
       have hd := hide (HK2.out.done z0 z1 (Or.inl c4))
       clear HK HK2 k4 k5
       have hR : IntKind.u64.wrap (IntKind.u64.wrap (IntKind.u64.wrap (U * 4294967296) + l % 4294967296) - IntKind.u64.wrap ((q0 - 1) * 18446744069414584321)) = R := by
        have h7 := hd.out
        have h8 := HE.out
        rw [wrap_off U (l % 4294967296) (q0 - 1) (by omega) (by omega), h7]; exact h8
       clear hd HE HU
       go_upto_region 28 with fail
       (try clear c1)
       (try clear c2)
       (try clear c3)
       (try clear c4)
       clear k0 k1 k2 k3 hr f1 f2 f3
       (try clear f4)
       (try clear f5)
       go_wp2_with fail
       go_ret2
       exact ⟨⟨_, rfl⟩, rfl⟩
     · have c4 : r + 4294967295 < 4294967296 := by omega
       have HK2 := hide (HK.out.less hU1 z0 z1 hr (Or.inl c1))
       replace f4 := f4 (by omega)
       clear HK k4 k5
       go_wp2_with fail
       go_round
       case rel => exact ⟨_, _, rfl, rfl, HK2.out, by omega⟩
       case measure => simp [intOf]; omega
     · have c4 : 4294967296 <= r + 4294967295 := by omega
       have HK2 := hide (HK.out.less hU1 z0 z1 hr (Or.inr (by omega)))
       replace f4 := f4 (by omega)
       have hd := hide (HK2.out.done z0 z1 (Or.inl c4))
       clear HK HK2 k4 k5
       have hR : IntKind.u64.wrap (IntKind.u64.wrap (IntKind.u64.wrap (U * 4294967296) + l % 4294967296) - IntKind.u64.wrap ((q0 - 1) * 18446744069414584321)) = R := by
        have h7 := hd.out
        have h8 := HE.out
        rw [wrap_off U (l % 4294967296) (q0 - 1) (by omega) (by omega), h7]; exact h8
       clear hd HE HU
       go_upto_region 28 with fail
       (try clear c1)
       (try clear c2)
       (try clear c3)
       (try clear c4)
       clear k0 k1 k2 k3 hr f1 f2 f3
       (try clear f4)
       (try clear f5)
       go_wp2_with fail
       go_ret2
       exact ⟨⟨_, rfl⟩, rfl⟩
     · have c4 : r + 4294967295 < 4294967296 := by omega
       have HK2 := hide (HK.out.less hU1 z0 z1 hr (Or.inr (by omega)))
       replace f4 := f4 (by omega)
       clear HK k4 k5
       go_wp2_with fail
       go_round
       case rel => exact ⟨_, _, rfl, rfl, HK2.out, by omega⟩
       case measure => simp [intOf]; omega
     · have hd := hide (HK.out.done z0 z1 (Or.inr (by omega)))
       clear HK k4 k5 f4 f5
       have hR : IntKind.u64.wrap (IntKind.u64.wrap (IntKind.u64.wrap (U * 4294967296) + l % 4294967296) - IntKind.u64.wrap (q0 * 18446744069414584321)) = R := by
        have h7 := hd.out
        have h8 := HE.out
        rw [wrap_off U (l % 4294967296) q0 (by omega) (by omega), h7]; exact h8
       clear hd HE HU
       go_upto_region 28 with fail
       (try clear c1)
       (try clear c2)
       (try clear c3)
       (try clear c4)
       clear k0 k1 k2 k3 hr f1 f2 f3
       (try clear f4)
       (try clear f5)
       go_wp2_with fail
       go_ret2
       exact ⟨⟨_, rfl⟩, rfl⟩
end Go.Proofs.YtjhididlcdepdaaGreat
