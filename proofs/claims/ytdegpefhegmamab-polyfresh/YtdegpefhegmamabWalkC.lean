/-
  The field's power and inverse.
-/
import Derived.Test.YtdegpefhegmamabWalkB
import Derived.Test.YtdegpefhegmamabModC
namespace Go.Proofs.Ytdegpefhegmamab
open Go.RowKit Fld

theorem Boxed.first (w : World) (p : Int) (wd : Bool) (T : TypeId) : Boxed w p wd (w.alloc (.cells #[.int .u64 p, .bool wd] T)) :=
  ⟨by simp [go_sem], by simp [go_sem], by simp, (Below.refl _ _).alloc (Nat.le_refl _) _⟩

theorem one_el {p : Int} {wd : Bool} (h : Md p wd) : El p 1 := ⟨by decide, by have := h.bounds; omega⟩

theorem bounds_mul_le {q s r : Int} (h : q * s ≤ r) (hr : r ≤ 18446744073709551615) : q * s ≤ 18446744073709551615 := by omega

set_option maxHeartbeats 200000 in
theorem inverse_any (p a : Int) (wd : Bool) (w : World) (hm : Md p wd) (h0 : 0 < a) (h1 : a < p) :
    Calls Try.prog 41 #[.agg #[.int .u64 p, .bool wd], .int .u64 a] w fun e w' =>
      e = .returned (.int .u64 (inv p a)) ∧ Below w.heap.size w w' := by
  have hpb := hm.bounds
  have hp1 : p ≤ 18446744073709551615 := by omega
  have hE0 := Eu.start hm h0 h1
  go_enter Try.func41, Try.ntmps41
  go_wp2
  go_loopw [5, 6, 7, 8, 9] (fun vr vs vu vv vm wr => ∃ (r s u v : Int) (mi : Bool), vr = .int .u64 r ∧ vs = .int .u64 s ∧ vu = .int .u64 u ∧ vv = .int .u64 v ∧ vm = .bool mi ∧ Eu p a r s u v mi ∧ r ≤ p ∧ Boxed w p wd wr) (fun _ vs _ _ _ _ => (intOf vs).toNat)
  case atStart => exact ⟨p, a, 0, 1, false, rfl, rfl, rfl, rfl, rfl, hE0, Int.le_refl p, Boxed.first w p wd _⟩
  case round =>
    obtain ⟨r, s, u, v, mi, rfl, rfl, rfl, rfl, rfl, hE, hrp, hB⟩ := hrel
    have hc0 := hB.1
    have hc1 := hB.2.1
    have hs1 := hE.s1
    have hrs := hE.rs
    by_cases hgt : 1 < s
    · obtain ⟨hE2, hlt, hq0, hqs⟩ := hE.step hgt
      have hs2 := hE2.s1
      have hu0 := hE.u0
      have hv0 := hE2.v0
      have hqv := Int.mul_nonneg hq0 hE.v0
      have hqs0 := Int.mul_nonneg hq0 (Int.le_trans (by decide) hs1)
      have hvp : u + r / s * v ≤ p := by
        rcases hE2.le with h | h
        · exact h.2.1
        · omega
      go_wp2
      go_roundw
      case rel => exact ⟨_, _, _, _, _, rfl, rfl, rfl, rfl, rfl, hE2, by omega, hB⟩
      case measure => show (r - r / s * s).toNat < s.toNat; omega
    · have hD := (hE.done hgt (by omega)).eq hm h0 h1
      have hv0 := hE.v0
      have hvp : v ≤ p := by
        rcases hE.le with h | h
        · exact h.2.1
        · omega
      cases mi
      · have HD := hide (show v = inv p a by simpa using hD)
        clear hD
        go_wp2
        go_ret
        exact ⟨ret_u64 HD.out, hB.2.2.2⟩
      · have HD := hide (show p - v = inv p a by simpa using hD)
        clear hD
        go_wp2
        go_ret
        exact ⟨ret_u64 HD.out, hB.2.2.2⟩

end Go.Proofs.Ytdegpefhegmamab
