/-
  The field's product: what downSmall, downLarge and mul answer.
-/
import Derived.Test.YtdegpefhegmamabWalkA
import Derived.Deep.RegionHeld3
namespace Go.Proofs.Ytdegpefhegmamab
open Go.RowKit Fld

theorem bcell {W w1 : World} (hb : Below W.heap.size W w1) : (∀ b o, b < W.heap.size → w1.cell? ⟨b, o, none⟩ = W.cell? ⟨b, o, none⟩) ∧ (∀ b o, b < W.heap.size → w1.frozen? ⟨b, o, none⟩ = W.frozen? ⟨b, o, none⟩) :=
  ⟨fun b o h => hb.cell (p := ⟨b, o, none⟩) h, fun b o h => hb.frozen (p := ⟨b, o, none⟩) h⟩

theorem mask_int (a : Int) (h0 : 0 ≤ a) (h1 : a ≤ 18446744073709551615) : bits .and .u64 a 4294967295 = a % 4294967296 := by
  obtain ⟨a, rfl⟩ := Int.eq_ofNat_of_zero_le h0
  rw [Mul64.maskN a (by omega)]; omega

theorem hide {p : Prop} (h : p) : Hid p := h

/-- The box of a struct, and that nothing old has turned. -/
def Boxed (w0 : World) (p : Int) (wd : Bool) (w : World) : Prop :=
  w.cell? ⟨w0.heap.size, 0, none⟩ = some (.int .u64 p) ∧ w.cell? ⟨w0.heap.size, 1, none⟩ = some (.bool wd) ∧ w0.heap.size < w.heap.size ∧ Below w0.heap.size w0 w

theorem Boxed.below {w0 w w1 : World} {p : Int} {wd : Bool} (h : Boxed w0 p wd w) (hb : Below w.heap.size w w1) : Boxed w0 p wd w1 :=
  ⟨by rw [hb.cell (p := ⟨w0.heap.size, 0, none⟩) h.2.2.1]; exact h.1, by rw [hb.cell (p := ⟨w0.heap.size, 1, none⟩) h.2.2.1]; exact h.2.1, Nat.lt_of_lt_of_le h.2.2.1 hb.size, h.2.2.2.trans (hb.mono (Nat.le_of_lt h.2.2.1))⟩

theorem Boxed.start (w : World) (p : Int) (wd : Bool) (T : TypeId) : Boxed w p wd (w.alloc (.cells #[.int .u64 p, .bool wd] T)).drew :=
  ⟨by simp [go_sem], by simp [go_sem], by simp, ((Below.refl _ _).alloc (Nat.le_refl _) _).drew⟩

set_option maxHeartbeats 400000 in
theorem downSmall_any (x : Int) (wd : Bool) (w : World) (h0 : 0 ≤ x) (h1 : x ≤ 4053239664633446400) :
    Calls Try.prog 44 #[.agg #[.int .u64 2013265921, .bool wd], .int .u64 x] w fun e w' =>
      e = .returned (.int .u64 (x % 2013265921)) ∧ Below w.heap.size w w' := by
  obtain ⟨d1, d2, d3⟩ := down_small x h0 h1
  have HF : Hid (sub 2013265921 (x % 2013265920) (x / 2013265920) = x % 2013265921) := d3
  clear d3
  go_enter Try.func44, Try.ntmps44
  go_wp2_with (go_at_call 37; refine (sub_any 2013265921 (x % 2013265920) (x / 2013265920) wd _ (by decide) d1 d2).mono ?_; rintro e w' ⟨rfl, hb⟩)
  go_ret
  refine ⟨ret_u64 HF.out, ?_⟩
  exact ((Below.refl _ _).alloc (Nat.le_refl _) _).trans (hb.mono (by simp))

set_option maxHeartbeats 100000 in
theorem downLarge_any (p h l : Int) (wd : Bool) (w : World) (hp : p = 18446744069414584321) (h0 : 0 ≤ h) (h1 : h ≤ 18446744073709551615) (l0 : 0 ≤ l) (l1 : l ≤ 18446744073709551615) :
    Calls Try.prog 43 #[.agg #[.int .u64 p, .bool wd], .int .u64 h, .int .u64 l] w fun e w' =>
      e = .returned (.int .u64 ((h * 18446744073709551616 + l) % p)) ∧ Below w.heap.size w w' := by
  obtain ⟨d1, d2, d3, d4⟩ := down_large h l h0 h1 l0 l1
  obtain ⟨m1, m2, m3, m4⟩ := mask32 h h0 h1
  have hp1 : p ≤ 18446744073709551615 := by omega
  have hp2 : h / 4294967296 < p := by omega
  rw [← hp] at d1 d2 d3 d4
  clear hp
  have HF := hide d4
  clear d4
  have hm := mask_int h h0 h1
  have ew : IntKind.u64.wrap (h % 4294967296 * 4294967295) = h % 4294967296 * 4294967295 := by rw [IntKind.wrap_u64]; omega
  rw [← ew] at m3 m4 d3 HF
  clear ew
  go_enter Try.func43, Try.ntmps43
  go_wp2
  go_region_held3 (fun w' => w'.cell? ⟨w.heap.size, 0, none⟩ = some (.int .u64 p) ∧ w'.cell? ⟨w.heap.size, 1, none⟩ = some (.bool wd) ∧ w.heap.size < w'.heap.size ∧ Below w.heap.size w w') (first | exact Boxed.start _ _ _ _ | exact hS2 | exact hS) (first
    | (go_at_call 37; refine (sub_raw p l (h / 4294967296) wd _ hp1 l0 m1 l1 hp2).mono ?_; rintro e w' ⟨rfl, hb⟩; have hS := Boxed.below (Boxed.start w p wd 56) hb)
    | (go_at_call 38; refine (add_any p _ _ wd _ hp1 d1 m3 d2 m4 d3).mono ?_; rintro e w2 ⟨rfl, hb2⟩; have hS2 := Boxed.below hS hb2))
  go_wp2
  go_ret
  exact ⟨ret_u64 HF.out, hS2.2.2.2⟩

set_option maxHeartbeats 100000 in
theorem mul_small (p a b : Int) (w : World) (hp : p = 2013265921) (ha : El p a) (hb : El p b) :
    Calls Try.prog 36 #[.agg #[.int .u64 p, .bool false], .int .u64 a, .int .u64 b] w fun e w' =>
      e = .returned (.int .u64 (mul p a b)) ∧ Below w.heap.size w w' := by
  obtain ⟨a1, a2⟩ := ha; obtain ⟨b1, b2⟩ := hb
  obtain ⟨m1, m2⟩ := mul_le (k := 2013265920) a1 b1 (by omega) (by omega)
  have e2 : low64 (a * b) = a * b := by unfold low64; omega
  have hx := fun W => downSmall_any (a * b) false W m1 m2
  have HM := fun W => mul64_any a b W a1 (by omega) b1 (by omega)
  simp only [e2] at HM
  unfold mul
  rw [← hp] at hx
  clear hp e2
  go_enter Try.func36, Try.ntmps36
  go_wp2_with (first
    | (go_at_call 42; refine (HM _).mono ?_; rintro e w' ⟨rfl, rfl⟩)
    | (go_at_call 44; refine (hx _).mono ?_; rintro e w' ⟨rfl, hb⟩))
  go_ret
  exact ⟨rfl, ((Below.refl _ _).alloc (Nat.le_refl _) _).trans (hb.mono (by simp))⟩

set_option maxHeartbeats 100000 in
theorem mul_large (p a b : Int) (w : World) (hp : p = 18446744069414584321) (ha : El p a) (hb : El p b) :
    Calls Try.prog 36 #[.agg #[.int .u64 p, .bool true], .int .u64 a, .int .u64 b] w fun e w' =>
      e = .returned (.int .u64 (mul p a b)) ∧ Below w.heap.size w w' := by
  obtain ⟨a1, a2⟩ := ha; obtain ⟨b1, b2⟩ := hb
  obtain ⟨m1, m2⟩ := mul_le (k := 18446744073709551615) a1 b1 (by omega) (by omega)
  have e1 := high_low (a * b)
  have k1 : 0 ≤ low64 (a * b) ∧ low64 (a * b) ≤ 18446744073709551615 ∧ 0 ≤ high64 (a * b) ∧ high64 (a * b) ≤ 18446744073709551615 := by
    unfold low64 high64; omega
  have hx := fun W => downLarge_any p (high64 (a * b)) (low64 (a * b)) true W hp k1.2.2.1 k1.2.2.2 k1.1 k1.2.1
  have HM := fun W => mul64_any a b W a1 (by omega) b1 (by omega)
  rw [e1] at hx
  unfold mul
  generalize high64 (a * b) = hh at *
  generalize low64 (a * b) = ll at *
  clear hp e1 k1
  go_enter Try.func36, Try.ntmps36
  go_wp2_with (first
    | (go_at_call 42; refine (HM _).mono ?_; rintro e w' ⟨rfl, rfl⟩)
    | (go_at_call 43; refine (hx _).mono ?_; rintro e w' ⟨rfl, hb⟩))
  go_ret
  exact ⟨rfl, ((Below.refl _ _).alloc (Nat.le_refl _) _).trans (hb.mono (by simp))⟩

theorem mul_any (p a b : Int) (wd : Bool) (w : World) (hm : Md p wd) (ha : El p a) (hb : El p b) :
    Calls Try.prog 36 #[.agg #[.int .u64 p, .bool wd], .int .u64 a, .int .u64 b] w fun e w' =>
      e = .returned (.int .u64 (mul p a b)) ∧ Below w.heap.size w w' := by
  rcases hm with ⟨h1, rfl⟩ | ⟨h1, rfl⟩
  · exact mul_small p a b w h1 ha hb
  · exact mul_large p a b w h1 ha hb

end Go.Proofs.Ytdegpefhegmamab
