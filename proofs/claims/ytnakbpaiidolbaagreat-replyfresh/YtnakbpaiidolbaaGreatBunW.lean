import Derived.Test.YtnakbpaiidolbaaGreatRows
import Derived.Test.YtnakbpaiidolbaaGreatBunP
import Derived.Test.YtnakbpaiidolbaaGreatBBas
import Derived.Shelf.Spec.BitsCarry
import Derived.Shelf.Bits.Mul64
import Derived.Laws.Bits64b
import Derived.WalkKit
import Derived.WalkSpells
import Derived.WalkLawsBesides
import Derived.Deep.RegionHeld3
import Derived.Below
import Derived.OwnWalk
import Derived.Laws.OwnMore
import Derived.Deep.AppendLies
import Derived.Deep.RegionWith
import Derived.Deep.QuietTactic
import Derived.BigQuiet
import Derived.Laws.AppendOwnNone
namespace Go.Proofs.YtnakbpaiidolbaaGreat
open Go.RowKit Fld
theorem add64 (x y : Int) (hx : 0 ≤ x) (hy : 0 ≤ y) (w : World) : (callFunc 176 #[.int .u64 x, .int .u64 y, .int .u64 0]).run Tryz.prog w =
 .ok (.value (.tuple #[.int .u64 (low64 (x + y)), .int .u64 (high64 (x + y))])) w := by
 rw [run_callFunc_extern Tryz.func176 (by kernel_rfl) (by kernel_rfl) (by kernel_rfl) (e := add64Entry) (by kernel_rfl), run_add64 x y 0 hx hy (by decide) (by decide)]
 simp only [Result.andThen, low64, high64, Int.add_zero]
theorem sub64 (x y : Int) (hx : 0 ≤ x) (hy : 0 ≤ y) (hy' : y < 18446744073709551616) (w : World) : (callFunc 186 #[.int .u64 x, .int .u64 y, .int .u64 0]).run Tryz.prog w =
 .ok (.value (.tuple #[.int .u64 (low64 (x - y)), .int .u64 (if x < y then 1 else 0)])) w := by
 obtain ⟨x, rfl⟩ := Int.eq_ofNat_of_zero_le hx
 obtain ⟨y, rfl⟩ := Int.eq_ofNat_of_zero_le hy
 have e1 : (((x + 18446744073709551616 - y - 0) % 18446744073709551616 : Nat) : Int) = low64 ((x : Int) - y) := by unfold low64; omega
 have e2 : ((if x < y + 0 then 1 else 0 : Nat) : Int) = if (x : Int) < y then 1 else 0 := by split <;> split <;> omega
 rw [← e1, ← e2, run_callFunc_extern Tryz.func186 (by kernel_rfl) (by kernel_rfl) (by kernel_rfl) (e := sub64Entry) (by kernel_rfl)]
 refine (congrArg (fun r => Result.andThen r _) (run_sub64 x y 0 (by decide) w)).trans ?_
 rfl
theorem sub64_lt (x y : Int) (hx : 0 ≤ x) (hy' : y < 18446744073709551616) (h : x < y) (w : World) : (callFunc 186 #[.int .u64 x, .int .u64 y, .int .u64 0]).run Tryz.prog w =
 .ok (.value (.tuple #[.int .u64 (low64 (x - y)), .int .u64 1])) w := by
 rw [sub64 x y hx (by omega) hy' w, if_pos h]
theorem sub64_ge (x y : Int) (hy : 0 ≤ y) (hx' : x < 18446744073709551616) (h : y ≤ x) (w : World) : (callFunc 186 #[.int .u64 x, .int .u64 y, .int .u64 0]).run Tryz.prog w =
 .ok (.value (.tuple #[.int .u64 (x - y), .int .u64 0])) w := by
 have e : low64 (x - y) = x - y := by unfold low64; omega
 rw [sub64 x y (by omega) hy (by omega) w, if_neg (by omega), e]
theorem ret_u64 {a b : Int} (h : a = b) : Ending.returned (.int .u64 a) = .returned (.int .u64 b) := by rw [h]
set_option maxHeartbeats 400000 in
theorem add_any (p a b : Int) (wd : Bool) (w : World) (hp : p ≤ 18446744073709551615) (ha : 0 ≤ a) (hb : 0 ≤ b) (ha' : a ≤ 18446744073709551615) (hb' : b ≤ 18446744073709551615) (hs : a + b < 2 * p) :
 Calls Tryz.prog 159 #[.agg #[.int .u64 p, .bool wd], .int .u64 a, .int .u64 b] w fun e w' =>
  e = .returned (.int .u64 (add p a b)) ∧ Below w.heap.size w w' := by
 by_cases h1 : a + b < p
 · have e1 : low64 (a + b) = a + b := by unfold low64; omega
   have e2 : high64 (a + b) = 0 := by unfold high64; omega
   have hadd := fun w => add64 a b ha hb w
   rw [e1, e2] at hadd
   have HF : Hid (add p a b = a + b) := by unfold add; exact Int.emod_eq_of_lt (by omega) h1
   clear e1 e2
   go_enter Tryz.func159, Tryz.ntmps159
   go_wp2_with (simp only [hadd])
   go_ret
   exact ⟨ret_u64 HF.out.symm, (Below.refl _ _).alloc (Nat.le_refl _) _⟩
 have HF : Hid (add p a b = a + b - p) := by unfold add; exact emod_sub_self _ _ (by omega) hs
 have hadd := fun w => add64 a b ha hb w
 by_cases h2 : a + b ≤ 18446744073709551615
 · have e1 : low64 (a + b) = a + b := by unfold low64; omega
   have e2 : high64 (a + b) = 0 := by unfold high64; omega
   rw [e1, e2] at hadd
   clear e1 e2
   go_enter Tryz.func159, Tryz.ntmps159
   go_wp2_with (simp only [hadd])
   go_ret
   exact ⟨ret_u64 HF.out.symm, (Below.refl _ _).alloc (Nat.le_refl _) _⟩
 · have HL : Hid (low64 (a + b) = a + b - 18446744073709551616) := by show low64 (a + b) = _; unfold low64; omega
   have e2 : high64 (a + b) = 1 := by unfold high64; omega
   rw [e2] at hadd
   clear e2
   generalize low64 (a + b) = lo at *
   go_enter Tryz.func159, Tryz.ntmps159
   go_wp2_with (simp only [hadd])
   go_ret
   refine ⟨ret_u64 ?_, (Below.refl _ _).alloc (Nat.le_refl _) _⟩
   rw [HF.out, HL.out, IntKind.wrap_u64]; omega
set_option maxHeartbeats 400000 in
theorem sub_raw (p a b : Int) (wd : Bool) (w : World) (hp : p ≤ 18446744073709551615) (ha : 0 ≤ a) (hb : 0 ≤ b) (ha' : a ≤ 18446744073709551615) (hb' : b < p) :
 Calls Tryz.prog 181 #[.agg #[.int .u64 p, .bool wd], .int .u64 a, .int .u64 b] w fun e w' =>
  e = .returned (.int .u64 (subR p a b)) ∧ Below w.heap.size w w' := by
 by_cases h1 : a < b
 · have hsub := fun w => sub64_lt a b ha (by omega) h1 w
   have HL : Hid (low64 (a - b) = a - b + 18446744073709551616) := by show low64 (a - b) = _; unfold low64; omega
   have HF : Hid (subR p a b = a - b + p) := by unfold subR; exact if_pos h1
   generalize low64 (a - b) = lo at *
   go_enter Tryz.func181, Tryz.ntmps181
   go_wp2_with (simp only [hsub])
   go_ret
   refine ⟨ret_u64 ?_, (Below.refl _ _).alloc (Nat.le_refl _) _⟩
   rw [HF.out, HL.out, IntKind.wrap_u64]; omega
 · have hsub := fun w => sub64_ge a b hb (by omega) (by omega) w
   have HF : Hid (subR p a b = a - b) := by unfold subR; exact if_neg h1
   go_enter Tryz.func181, Tryz.ntmps181
   go_wp2_with (simp only [hsub])
   go_ret
   exact ⟨ret_u64 HF.out.symm, (Below.refl _ _).alloc (Nat.le_refl _) _⟩
theorem sub_any (p a b : Int) (wd : Bool) (w : World) (hp : p ≤ 18446744073709551615) (ha : El p a) (hb : El p b) :
 Calls Tryz.prog 181 #[.agg #[.int .u64 p, .bool wd], .int .u64 a, .int .u64 b] w fun e w' =>
  e = .returned (.int .u64 (sub p a b)) ∧ Below w.heap.size w w' := by
 obtain ⟨a1, a2⟩ := ha; obtain ⟨b1, b2⟩ := hb
 rw [← subR_sub p a b a1 a2 b1 b2]
 exact sub_raw p a b wd w hp a1 b1 (by omega) b2
def mulRen : Shelf.Ren := ⟨fun _ => 173, fun n => if n = 46 then 125 else 58, fun x => x⟩
theorem mulLays : Lays.n264 Tryz.prog mulRen where
 mixed := by kernel_rfl
 f264 := by kernel_rfl
 t46 := by kernel_rfl
 a46 := fun _ => by kernel_rfl
 z46 := fun _ => by kernel_rfl
 v46 := fun _ => by kernel_rfl
 t53 := by kernel_rfl
 a53 := fun _ => by kernel_rfl
 z53 := fun _ => by kernel_rfl
 v53 := fun _ => by kernel_rfl
theorem mul64_nat (x y : Nat) (hx : x < 18446744073709551616) (hy : y < 18446744073709551616) (w : World) :
 Calls Tryz.prog 173 #[.int .u64 x, .int .u64 y] w fun e w' => e = .returned (.tuple #[.int .u64 ((x * y / 18446744073709551616 : Nat) : Int), .int .u64 ((x * y % 18446744073709551616 : Nat) : Int)]) ∧ w' = w :=
 Any.bits_Mul64 mulLays x y hx hy w
theorem mul64_any (x y : Int) (w : World) (hx : 0 ≤ x) (hx' : x < 18446744073709551616) (hy : 0 ≤ y) (hy' : y < 18446744073709551616) :
 Calls Tryz.prog 173 #[.int .u64 x, .int .u64 y] w fun e w' => e = .returned (.tuple #[.int .u64 (high64 (x * y)), .int .u64 (low64 (x * y))]) ∧ w' = w := by
 obtain ⟨x, rfl⟩ := Int.eq_ofNat_of_zero_le hx
 obtain ⟨y, rfl⟩ := Int.eq_ofNat_of_zero_le hy
 refine (mul64_nat x y (by omega) (by omega) w).mono ?_
 rintro e w' ⟨rfl, rfl⟩
 refine ⟨?_, rfl⟩
 have e1 : ((x * y / 18446744073709551616 : Nat) : Int) = high64 ((x : Int) * y) := by unfold high64; rw [← Int.natCast_mul]; omega
 have e2 : ((x * y % 18446744073709551616 : Nat) : Int) = low64 ((x : Int) * y) := by unfold low64; rw [← Int.natCast_mul]; omega
 rw [e1, e2]
end Go.Proofs.YtnakbpaiidolbaaGreat
namespace Go.Proofs.YtnakbpaiidolbaaGreat
open Go.RowKit Fld
theorem mask_int (a : Int) (h0 : 0 ≤ a) (h1 : a ≤ 18446744073709551615) : bits .and .u64 a 4294967295 = a % 4294967296 := by
 obtain ⟨a, rfl⟩ := Int.eq_ofNat_of_zero_le h0
 rw [Mul64.maskN a (by omega)]; omega
def Boxed (w0 : World) (p : Int) (wd : Bool) (w : World) : Prop :=
 w.cell? ⟨w0.heap.size, 0, none⟩ = some (.int .u64 p) ∧ w.cell? ⟨w0.heap.size, 1, none⟩ = some (.bool wd) ∧ w0.heap.size < w.heap.size ∧ Below w0.heap.size w0 w
theorem Boxed.below {w0 w w1 : World} {p : Int} {wd : Bool} (h : Boxed w0 p wd w) (hb : Below w.heap.size w w1) : Boxed w0 p wd w1 :=
 ⟨by rw [hb.cell (p := ⟨w0.heap.size, 0, none⟩) h.2.2.1]; exact h.1, by rw [hb.cell (p := ⟨w0.heap.size, 1, none⟩) h.2.2.1]; exact h.2.1, Nat.lt_of_lt_of_le h.2.2.1 hb.size, h.2.2.2.trans (hb.mono (Nat.le_of_lt h.2.2.1))⟩
theorem Boxed.start (w : World) (p : Int) (wd : Bool) (T : TypeId) : Boxed w p wd (w.alloc (.cells #[.int .u64 p, .bool wd] T)).drew :=
 ⟨by simp [go_sem], by simp [go_sem], by simp, ((Below.refl _ _).alloc (Nat.le_refl _) _).drew⟩
set_option maxHeartbeats 400000 in
theorem downSmall_any (x : Int) (wd : Bool) (w : World) (h0 : 0 ≤ x) (h1 : x ≤ 4053239664633446400) :
 Calls Tryz.prog 175 #[.agg #[.int .u64 2013265921, .bool wd], .int .u64 x] w fun e w' =>
  e = .returned (.int .u64 (x % 2013265921)) ∧ Below w.heap.size w w' := by
 obtain ⟨d1, d2, d3⟩ := down_small x h0 h1
 have HF : Hid (sub 2013265921 (x % 2013265920) (x / 2013265920) = x % 2013265921) := d3
 clear d3
 go_enter Tryz.func175, Tryz.ntmps175
 go_wp2_with (go_at_call 181; refine (sub_any 2013265921 (x % 2013265920) (x / 2013265920) wd _ (by decide) d1 d2).mono ?_; rintro e w' ⟨rfl, hb⟩)
 go_ret
 refine ⟨ret_u64 HF.out, ?_⟩
 exact ((Below.refl _ _).alloc (Nat.le_refl _) _).trans (hb.mono (by simp))
set_option maxHeartbeats 100000 in
theorem downLarge_any (p h l : Int) (wd : Bool) (w : World) (hp : p = 18446744069414584321) (h0 : 0 ≤ h) (h1 : h ≤ 18446744073709551615) (l0 : 0 ≤ l) (l1 : l ≤ 18446744073709551615) :
 Calls Tryz.prog 174 #[.agg #[.int .u64 p, .bool wd], .int .u64 h, .int .u64 l] w fun e w' =>
  e = .returned (.int .u64 ((h * 18446744073709551616 + l) % p)) ∧ Below w.heap.size w w' := by
 obtain ⟨d1, d2, d3, d4⟩ := down_large h l h0 h1 l0 l1
 obtain ⟨m1, m2, m3, m4⟩ := mask32 h h0 h1
 have hp1 : p ≤ 18446744073709551615 := by omega
 have hp2 : h / 4294967296 < p := by omega
 rw [← hp] at d1 d2 d3 d4
 clear hp
 have HF := hide d4
 clear d4
 have hm := mask_int h h0 h1
 have ew : IntKind.u64.wrap (h % 4294967296 * 4294967295) = h % 4294967296 * 4294967295 := by rw [IntKind.wrap_u64]; omega
 rw [← ew] at m3 m4 d3 HF
 clear ew
 go_enter Tryz.func174, Tryz.ntmps174
 go_wp2
 go_region_held3 (fun w' => w'.cell? ⟨w.heap.size, 0, none⟩ = some (.int .u64 p) ∧ w'.cell? ⟨w.heap.size, 1, none⟩ = some (.bool wd) ∧ w.heap.size < w'.heap.size ∧ Below w.heap.size w w') (first | exact Boxed.start _ _ _ _ | exact hS2 | exact hS) (first
  | (go_at_call 181; refine (sub_raw p l (h / 4294967296) wd _ hp1 l0 m1 l1 hp2).mono ?_; rintro e w' ⟨rfl, hb⟩; have hS := Boxed.below (Boxed.start w p wd 166) hb)
  | (go_at_call 159; refine (add_any p _ _ wd _ hp1 d1 m3 d2 m4 d3).mono ?_; rintro e w2 ⟨rfl, hb2⟩; have hS2 := Boxed.below hS hb2))
 go_wp2
 go_ret
 exact ⟨ret_u64 HF.out, hS2.2.2.2⟩
set_option maxHeartbeats 100000 in
theorem mul_small (p a b : Int) (w : World) (hp : p = 2013265921) (ha : El p a) (hb : El p b) :
 Calls Tryz.prog 158 #[.agg #[.int .u64 p, .bool false], .int .u64 a, .int .u64 b] w fun e w' =>
  e = .returned (.int .u64 (mul p a b)) ∧ Below w.heap.size w w' := by
 obtain ⟨a1, a2⟩ := ha; obtain ⟨b1, b2⟩ := hb
 obtain ⟨m1, m2⟩ := mul_le (k := 2013265920) a1 b1 (by omega) (by omega)
 have e2 : low64 (a * b) = a * b := by unfold low64; omega
 have hx := fun W => downSmall_any (a * b) false W m1 m2
 have HM := fun W => mul64_any a b W a1 (by omega) b1 (by omega)
 simp only [e2] at HM
 unfold mul
 rw [← hp] at hx
 clear hp e2
 go_enter Tryz.func158, Tryz.ntmps158
 go_wp2_with (first
  | (go_at_call 173; refine (HM _).mono ?_; rintro e w' ⟨rfl, rfl⟩)
  | (go_at_call 175; refine (hx _).mono ?_; rintro e w' ⟨rfl, hb⟩))
 go_ret
 exact ⟨rfl, ((Below.refl _ _).alloc (Nat.le_refl _) _).trans (hb.mono (by simp))⟩
set_option maxHeartbeats 100000 in
theorem mul_large (p a b : Int) (w : World) (hp : p = 18446744069414584321) (ha : El p a) (hb : El p b) :
 Calls Tryz.prog 158 #[.agg #[.int .u64 p, .bool true], .int .u64 a, .int .u64 b] w fun e w' =>
  e = .returned (.int .u64 (mul p a b)) ∧ Below w.heap.size w w' := by
 obtain ⟨a1, a2⟩ := ha; obtain ⟨b1, b2⟩ := hb
 obtain ⟨m1, m2⟩ := mul_le (k := 18446744073709551615) a1 b1 (by omega) (by omega)
 have e1 := high_low (a * b)
 have k1 : 0 ≤ low64 (a * b) ∧ low64 (a * b) ≤ 18446744073709551615 ∧ 0 ≤ high64 (a * b) ∧ high64 (a * b) ≤ 18446744073709551615 := by
  unfold low64 high64; omega
 have hx := fun W => downLarge_any p (high64 (a * b)) (low64 (a * b)) true W hp k1.2.2.1 k1.2.2.2 k1.1 k1.2.1
 have HM := fun W => mul64_any a b W a1 (by omega) b1 (by omega)
 rw [e1] at hx
 unfold mul
 generalize high64 (a * b) = hh at *
 generalize low64 (a * b) = ll at *
 clear hp e1 k1
 go_enter Tryz.func158, Tryz.ntmps158
 go_wp2_with (first
  | (go_at_call 173; refine (HM _).mono ?_; rintro e w' ⟨rfl, rfl⟩)
  | (go_at_call 174; refine (hx _).mono ?_; rintro e w' ⟨rfl, hb⟩))
 go_ret
 exact ⟨rfl, ((Below.refl _ _).alloc (Nat.le_refl _) _).trans (hb.mono (by simp))⟩
theorem mul_any (p a b : Int) (wd : Bool) (w : World) (hm : Md p wd) (ha : El p a) (hb : El p b) :
 Calls Tryz.prog 158 #[.agg #[.int .u64 p, .bool wd], .int .u64 a, .int .u64 b] w fun e w' =>
  e = .returned (.int .u64 (mul p a b)) ∧ Below w.heap.size w w' := by
 rcases hm with ⟨h1, rfl⟩ | ⟨h1, rfl⟩
 · exact mul_small p a b w h1 ha hb
 · exact mul_large p a b w h1 ha hb
end Go.Proofs.YtnakbpaiidolbaaGreat
namespace Go.Proofs.YtnakbpaiidolbaaGreat
open Go.RowKit Fld
theorem Boxed.first (w : World) (p : Int) (wd : Bool) (T : TypeId) : Boxed w p wd (w.alloc (.cells #[.int .u64 p, .bool wd] T)) :=
 ⟨by simp [go_sem], by simp [go_sem], by simp, (Below.refl _ _).alloc (Nat.le_refl _) _⟩
theorem one_el {p : Int} {wd : Bool} (h : Md p wd) : El p 1 := ⟨by decide, by have := h.bounds; omega⟩
set_option maxHeartbeats 200000 in
theorem inverse_any (p a : Int) (wd : Bool) (w : World) (hm : Md p wd) (h0 : 0 < a) (h1 : a < p) :
 Calls Tryz.prog 185 #[.agg #[.int .u64 p, .bool wd], .int .u64 a] w fun e w' =>
  e = .returned (.int .u64 (inv p a)) ∧ Below w.heap.size w w' := by
 have hpb := hm.bounds
 have hp1 : p ≤ 18446744073709551615 := by omega
 have hE0 := Eu.start hm h0 h1
 go_enter Tryz.func185, Tryz.ntmps185
 go_wp2
 go_loopw [5, 6, 7, 8, 9] (fun vr vs vu vv vm wr => ∃ (r s u v : Int) (mi : Bool), vr = .int .u64 r ∧ vs = .int .u64 s ∧ vu = .int .u64 u ∧ vv = .int .u64 v ∧ vm = .bool mi ∧ Eu p a r s u v mi ∧ r ≤ p ∧ Boxed w p wd wr) (fun _ vs _ _ _ _ => (intOf vs).toNat)
 case atStart => exact ⟨p, a, 0, 1, false, rfl, rfl, rfl, rfl, rfl, hE0, Int.le_refl p, Boxed.first w p wd _⟩
 case round =>
  obtain ⟨r, s, u, v, mi, rfl, rfl, rfl, rfl, rfl, hE, hrp, hB⟩ := hrel
  have hc0 := hB.1
  have hc1 := hB.2.1
  have hs1 := hE.s1
  have hrs := hE.rs
  by_cases hgt : 1 < s
  · obtain ⟨hE2, hlt, hq0, hqs⟩ := hE.step hgt
    have hs2 := hE2.s1
    have hu0 := hE.u0
    have hv0 := hE2.v0
    have hqv := Int.mul_nonneg hq0 hE.v0
    have hqs0 := Int.mul_nonneg hq0 (Int.le_trans (by decide) hs1)
    have hvp : u + r / s * v ≤ p := by
     rcases hE2.le with h | h
     · exact h.2.1
     · omega
    go_wp2
    go_roundw
    case rel => exact ⟨_, _, _, _, _, rfl, rfl, rfl, rfl, rfl, hE2, by omega, hB⟩
    case measure => show (r - r / s * s).toNat < s.toNat; omega
  · have hD := (hE.done hgt (by omega)).eq hm h0 h1
    have hv0 := hE.v0
    have hvp : v ≤ p := by
     rcases hE.le with h | h
     · exact h.2.1
     · omega
    cases mi
    · have HD := hide (show v = inv p a by simpa using hD)
      clear hD
      go_wp2
      go_ret
      exact ⟨ret_u64 HD.out, hB.2.2.2⟩
    · have HD := hide (show p - v = inv p a by simpa using hD)
      clear hD
      go_wp2
      go_ret
      exact ⟨ret_u64 HD.out, hB.2.2.2⟩
end Go.Proofs.YtnakbpaiidolbaaGreat
namespace Go.Proofs.YtnakbpaiidolbaaGreat
open Go.RowKit Fld
set_option linter.unusedVariables false
def Fi (f p : Int) (wd : Bool) : Prop := (f = 1 ∧ p = 2013265921 ∧ wd = false) ∨ (f = 2 ∧ p = 18446744069414584321 ∧ wd = true)
theorem Fi.md {f p : Int} {wd : Bool} (h : Fi f p wd) : Md p wd := by
 rcases h with ⟨_, h, k⟩ | ⟨_, h, k⟩
 · exact .inl ⟨h, k⟩
 · exact .inr ⟨h, k⟩
def Row (w : World) (v : Value) (xs : List Int) : Prop :=
 ∃ ao cap, v = .slice ao xs.length cap ∧ xs.length ≤ 17592186043904 ∧ (∀ x ∈ xs, 0 ≤ x ∧ x ≤ 18446744073709551615) ∧
  (xs ≠ [] → ∃ b off, ao = some ⟨b, off, none⟩ ∧ b < w.heap.size ∧ ∀ i, i < xs.length → w.cell? ⟨b, off + i, none⟩ = some (.int .u64 (xs.getD i 0)))
theorem Row.below {w w' : World} {v : Value} {xs : List Int} (h : Row w v xs) (hb : Below w.heap.size w w') : Row w' v xs := by
 obtain ⟨ao, cap, rfl, h1, h2, h3⟩ := h
 refine ⟨ao, cap, rfl, h1, h2, fun hne => ?_⟩
 obtain ⟨b, off, rfl, hlt, hc⟩ := h3 hne
 exact ⟨b, off, rfl, Nat.lt_of_lt_of_le hlt hb.size, fun i hi => by rw [hb.cell (p := ⟨b, off + i, none⟩) hlt]; exact hc i hi⟩
theorem getD_at {xs : List Int} {i : Nat} (h : i < xs.length) : xs.getD i 0 = xs[i] := by
 simp [List.getD_eq_getElem?_getD, h]
def allIn (p : Int) (xs : List Int) : Bool := xs.all fun x => decide (x < p)
theorem allIn_true {p : Int} {xs : List Int} (h : ∀ i, i < xs.length → xs.getD i 0 < p) : allIn p xs = true := by
 unfold allIn; rw [List.all_eq_true]
 intro x hx
 obtain ⟨i, hi, rfl⟩ := List.getElem_of_mem hx
 have := h i hi
 rw [getD_at hi] at this
 simpa using this
theorem allIn_false {p : Int} {xs : List Int} (i : Nat) (hi : i < xs.length) (h : ¬ xs.getD i 0 < p) : allIn p xs = false := by
 unfold allIn
 rw [List.all_eq_false]
 rw [getD_at hi] at h
 exact ⟨xs[i], List.getElem_mem hi, by simpa using h⟩
theorem all_snoc {p x : Int} {xs : List Int} {k : Nat} (h : ∀ i, i < k → xs.getD i 0 < p) (hx : xs.getD k 0 = x) (hlt : x < p) : ∀ i, i < k + 1 → xs.getD i 0 < p := by
 intro i hi
 by_cases he : i = k
 · rw [he, hx]; exact hlt
 · exact h i (by omega)
set_option maxHeartbeats 200000 in
theorem modulusOf_yes (f p : Int) (wd : Bool) (w : World) (h : Fi f p wd) :
 Calls Tryz.prog 141 #[.int .u8 f] w fun e w' => e = .returned (.tuple #[.agg #[.int .u64 p, .bool wd], .bool true]) ∧ Below w.heap.size w w' := by
 rcases h with ⟨rfl, rfl, rfl⟩ | ⟨rfl, rfl, rfl⟩
 · go_enter Tryz.func141, Tryz.ntmps141
   go_wp2
   exact bodyPost_ret (v := .tuple #[.agg #[.int .u64 2013265921, .bool false], .bool true]) (by simp [results, Tryz.results141, go_sem]) rfl ⟨rfl, (Below.refl _ _).alloc (Nat.le_refl _) _⟩
 · go_enter Tryz.func141, Tryz.ntmps141
   go_wp2
   exact bodyPost_ret (v := .tuple #[.agg #[.int .u64 18446744069414584321, .bool true], .bool true]) (by simp [results, Tryz.results141, go_sem]) rfl ⟨rfl, (Below.refl _ _).alloc (Nat.le_refl _) _⟩
set_option maxHeartbeats 200000 in
theorem modulusOf_no (f : Int) (w : World) (h1 : f ≠ 1) (h2 : f ≠ 2) :
 Calls Tryz.prog 141 #[.int .u8 f] w fun e w' => e = .returned (.tuple #[.agg #[.int .u64 0, .bool false], .bool false]) ∧ Below w.heap.size w w' := by
 have e1 : (f == 1) = false := beq_eq_false_iff_ne.2 h1
 have e2 : (f == 2) = false := beq_eq_false_iff_ne.2 h2
 clear h1 h2
 go_enter Tryz.func141, Tryz.ntmps141
 go_wp2
 exact bodyPost_ret (v := .tuple #[.agg #[.int .u64 0, .bool false], .bool false]) (by simp [results, Tryz.results141, go_sem]) rfl ⟨rfl, (Below.refl _ _).alloc (Nat.le_refl _) _⟩
set_option maxHeartbeats 200000 in
theorem has_any (p : Int) (wd : Bool) (v : Value) (xs : List Int) (w : World) (hp : p ≤ 18446744073709551615) (hr : Row w v xs) :
 Calls Tryz.prog 142 #[.agg #[.int .u64 p, .bool wd], v] w fun e w' => e = .returned (.bool (allIn p xs)) ∧ Below w.heap.size w w' := by
 obtain ⟨ao, cap, rfl, hlen, hw, hc⟩ := hr
 go_enter Tryz.func142, Tryz.ntmps142
 go_wp2
 go_loop [9] (fun vi => ∃ k : Nat, k ≤ xs.length ∧ vi = .int .i64 k ∧ ∀ i, i < k → xs.getD i 0 < p) (fun vi => xs.length - (intOf vi).toNat)
 case atStart => exact ⟨0, Nat.zero_le _, rfl, fun i hi => by omega⟩
 case round =>
  obtain ⟨k, hk, rfl, hall⟩ := hrel
  by_cases hlt : k < xs.length
  · obtain ⟨b, off, rfl, hbl, hcell⟩ := hc (by intro h; rw [h] at hlt; simp at hlt)
    have hck : (w.alloc (.cells #[.int .u64 p, .bool wd] 166)).cell? ⟨b, off + k, none⟩ = some (.int .u64 (xs.getD k 0)) := by
     rw [World.cell?_alloc_lt (h := hbl)]; exact hcell k hlt
    have HA := hide hall
    clear hall hcell hc
    by_cases hin : xs.getD k 0 < p
    · generalize hx : xs.getD k 0 = x at *
      have HX := hide hx
      clear hx
      go_wp2
      go_round
      case rel => exact ⟨k + 1, by omega, by go_num, all_snoc HA.out HX.out hin⟩
      case measure => simp [intOf]; omega
    · have HF := hide (allIn_false k hlt hin)
      generalize xs.getD k 0 = x at *
      go_wp2
      go_ret
      rw [HF.out]
      exact ⟨rfl, (Below.refl _ _).alloc (Nat.le_refl _) _⟩
  · have HF := hide (allIn_true (p := p) (xs := xs) (fun i hi => hall i (by omega)))
    clear hall hc
    go_wp2
    go_ret
    rw [HF.out]
    exact ⟨rfl, (Below.refl _ _).alloc (Nat.le_refl _) _⟩
end Go.Proofs.YtnakbpaiidolbaaGreat
namespace Go.Proofs.YtnakbpaiidolbaaGreat.Fld
def Un (p a : Int) : Prop := El p a ∧ a ≠ 0
theorem Un.pos {p a : Int} (h : Un p a) : 0 < a := by have := h.1.1; have := h.2; omega
theorem mul_one_el {p a : Int} (ha : El p a) : mul p a 1 = a := by unfold mul; rw [Int.mul_one]; exact Int.emod_eq_of_lt ha.1 ha.2
theorem mul_zero_left (p a : Int) : mul p 0 a = 0 := by simp [mul]
theorem Un.mul {p a b : Int} {wd : Bool} (h : Md p wd) (ha : Un p a) (hb : Un p b) : Un p (mul p a b) := by
 have hp := h.bounds
 refine ⟨mul_el (by omega), fun hz => ?_⟩
 have e := ring_assoc p a b (inv p b)
 rw [mul_inv h b hb.1 hb.2, mul_one_el ha.1, hz, mul_zero_left] at e
 exact ha.2 e.symm
theorem inv_un {p a : Int} {wd : Bool} (h : Md p wd) (ha : Un p a) : Un p (inv p a) := by
 have hp := h.bounds
 refine ⟨pow_el (by omega), fun hz => ?_⟩
 have e := mul_inv h a ha.1 ha.2
 rw [hz, ring_comm, mul_zero_left] at e
 omega
theorem inv_eq {p a x : Int} {wd : Bool} (h : Md p wd) (ha : Un p a) (hx : El p x) (hm : mul p a x = 1) : x = inv p a := by
 have hp := h.bounds
 exact IsInv.eq h ha.pos ha.1.2 ⟨hx, by have : (a * x) % p = 1 := hm; rw [this]; exact (Int.emod_eq_of_lt (by decide) (by omega)).symm⟩
theorem set_getD (ys : List Int) (k j : Nat) (v : Int) (hk : k < ys.length) : (ys.set k v).getD j 0 = if j = k then v else ys.getD j 0 := by
 simp only [List.getD_eq_getElem?_getD, List.getElem?_set]
 by_cases h : j = k
 · subst h; simp [hk]
 · have : ¬ k = j := fun e => h e.symm
   simp [h, this]
end Go.Proofs.YtnakbpaiidolbaaGreat.Fld
namespace Go.Proofs.YtnakbpaiidolbaaGreat
open Go.RowKit Fld
set_option linter.unusedVariables false
def Two (k : Nat) (a b : Value) (w : World) : Prop :=
 w.cell? ⟨k, 0, none⟩ = some a ∧ w.cell? ⟨k, 1, none⟩ = some b ∧ w.frozen? ⟨k, 0, none⟩ = false ∧ w.frozen? ⟨k, 1, none⟩ = false ∧ k < w.heap.size
theorem Two.below {k : Nat} {a b : Value} {w w' : World} (h : Two k a b w) (hb : Below w.heap.size w w') : Two k a b w' := by
 obtain ⟨h1, h2, h3, h4, h5⟩ := h
 exact ⟨by rw [hb.cell (p := ⟨k, 0, none⟩) h5]; exact h1, by rw [hb.cell (p := ⟨k, 1, none⟩) h5]; exact h2, by rw [hb.frozen (p := ⟨k, 0, none⟩) h5]; exact h3, by rw [hb.frozen (p := ⟨k, 1, none⟩) h5]; exact h4, Nat.lt_of_lt_of_le h5 hb.size⟩
theorem Two.alloc {k : Nat} {a b : Value} {w : World} (h : Two k a b w) (o : Obj) : Two k a b (w.alloc o) := h.below ((Below.refl _ _).alloc (Nat.le_refl _) o)
theorem Two.first (w : World) (a b : Value) (T : TypeId) : Two w.heap.size a b (w.alloc (.cells #[a, b] T)) :=
 ⟨by simp [go_sem], by simp [go_sem], by simp [go_sem], by simp [go_sem], by simp⟩
theorem below_one {w w1 : World} {o : Obj} (hb : Below (w.alloc o).heap.size (w.alloc o) w1) : Below w.heap.size w w1 :=
 ((Below.refl _ _).alloc (Nat.le_refl _) o).trans (hb.mono (by simp))
set_option maxHeartbeats 200000 in
theorem check_nof (f : Int) (v : Value) (w : World) (h1 : f ≠ 1) (h2 : f ≠ 2) :
 Calls Tryz.prog 119 #[.int .u8 f, v] w fun e w' => e = .returned (.tuple #[.agg #[.int .u64 0, .bool false], .bool false]) ∧ Below w.heap.size w w' := by
 have hx := fun W => modulusOf_no f W h1 h2
 clear h1 h2
 go_enter Tryz.func119, Tryz.ntmps119
 go_wp2_with (go_at_call 141; refine (hx _).mono ?_; rintro e w1 ⟨rfl, hb⟩; have hT := (Two.first w (.int .u64 0) (.bool false) 166).below hb; have hTo := fun o => hT.alloc o; simp only [Two] at hTo; obtain ⟨g1, g2, g3, g4, g5⟩ := hT)
 refine bodyPost_ret (v := .tuple #[.agg #[.int .u64 0, .bool false], .bool false]) ?_ rfl ⟨rfl, ?_⟩
 · simp [results, Tryz.results119, go_sem, g1, g2, g5]
 · exact (((below_one hb).setCell (Nat.le_refl _) _).setCell (Nat.le_refl _) _).alloc (by simp; omega) _
set_option maxHeartbeats 400000 in
theorem check_yes (f p : Int) (wd : Bool) (v : Value) (xs : List Int) (w : World) (hfi : Fi f p wd) (hr : Row w v xs) (hin : allIn p xs = true) :
 Calls Tryz.prog 119 #[.int .u8 f, v] w fun e w' => e = .returned (.tuple #[.agg #[.int .u64 p, .bool wd], .bool true]) ∧ Below w.heap.size w w' := by
 have hx := fun W => modulusOf_yes f p wd W hfi
 have hp : p ≤ 18446744073709551615 := by have := hfi.md.bounds; omega
 have hy := fun W h => has_any p wd v xs W hp h
 rw [hin] at hy
 have HY := hide hy
 have HR := hide hr
 clear hfi hin hy hr
 go_enter Tryz.func119, Tryz.ntmps119
 go_wp2_with (first
  | (go_at_call 141; refine (hx _).mono ?_; rintro e w1 ⟨rfl, hb⟩; have hT := (Two.first w (.int .u64 0) (.bool false) 166).below hb; obtain ⟨g1, g2, g3, g4, g5⟩ := id hT)
  | (go_at_call 142; refine (HY.out _ (HR.out.below ((below_one hb).alloc (Nat.le_of_lt g5) _))).mono ?_; rintro e w2 ⟨rfl, hb2⟩; have hT2 := (Two.first w1 (.int .u64 p) (.bool wd) 166).below hb2; obtain ⟨k1, k2, k3, k4, k5⟩ := hT2; have hT3 := (hT.alloc _).below hb2; obtain ⟨j1, j2, j3, j4, j5⟩ := hT3))
 refine bodyPost_ret (v := .tuple #[.agg #[.int .u64 p, .bool wd], .bool true]) ?_ rfl ⟨rfl, ?_⟩
 · simp [results, Tryz.results119, go_sem, j1, j2]
 · exact ((((below_one hb).alloc (Nat.le_of_lt g5) _).trans (hb2.mono (by simp; omega))).setCell (Nat.le_refl _) _).setCell (Nat.le_refl _) _
set_option maxHeartbeats 400000 in
theorem check_out (f p : Int) (wd : Bool) (v : Value) (xs : List Int) (w : World) (hfi : Fi f p wd) (hr : Row w v xs) (hin : allIn p xs = false) :
 Calls Tryz.prog 119 #[.int .u8 f, v] w fun e w' => e = .returned (.tuple #[.agg #[.int .u64 0, .bool false], .bool false]) ∧ Below w.heap.size w w' := by
 have hx := fun W => modulusOf_yes f p wd W hfi
 have hp : p ≤ 18446744073709551615 := by have := hfi.md.bounds; omega
 have hy := fun W h => has_any p wd v xs W hp h
 rw [hin] at hy
 have HY := hide hy
 have HR := hide hr
 clear hfi hin hy hr
 go_enter Tryz.func119, Tryz.ntmps119
 go_wp2_with (first
  | (go_at_call 141; refine (hx _).mono ?_; rintro e w1 ⟨rfl, hb⟩; have hT := (Two.first w (.int .u64 0) (.bool false) 166).below hb; obtain ⟨g1, g2, g3, g4, g5⟩ := id hT)
  | (go_at_call 142; refine (HY.out _ (HR.out.below ((below_one hb).alloc (Nat.le_of_lt g5) _))).mono ?_; rintro e w2 ⟨rfl, hb2⟩; have hT3 := (hT.alloc _).below hb2; obtain ⟨j1, j2, j3, j4, j5⟩ := hT3))
 refine bodyPost_ret (v := .tuple #[.agg #[.int .u64 0, .bool false], .bool false]) ?_ rfl ⟨rfl, ?_⟩
 · simp [results, Tryz.results119, go_sem, j1, j2]
 · exact ((((below_one hb).alloc (Nat.le_of_lt g5) _).trans (hb2.mono (by simp; omega))).setCell (Nat.le_refl _) _).setCell (Nat.le_refl _) _
end Go.Proofs.YtnakbpaiidolbaaGreat
namespace Go.Proofs.YtnakbpaiidolbaaGreat
open Go.RowKit Fld
set_option linter.unusedVariables false
def Bad (f : Int) (xs : List Int) : Prop := (f ≠ 1 ∧ f ≠ 2) ∨ ∃ p wd, Fi f p wd ∧ allIn p xs = false
theorem check_no (f : Int) (v : Value) (xs : List Int) (w : World) (h : Bad f xs) (hr : Row w v xs) :
 Calls Tryz.prog 119 #[.int .u8 f, v] w fun e w' => e = .returned (.tuple #[.agg #[.int .u64 0, .bool false], .bool false]) ∧ Below w.heap.size w w' := by
 rcases h with ⟨h1, h2⟩ | ⟨p, wd, hf, hi⟩
 · exact check_nof f v w h1 h2
 · exact check_out f p wd v xs w hf hr hi
theorem row2 (w : World) (a b : Int) (ha : 0 ≤ a ∧ a ≤ 18446744073709551615) (hb : 0 ≤ b ∧ b ≤ 18446744073709551615) (T : TypeId) :
 Row (w.alloc (.cells #[.int .u64 a, .int .u64 b] T)) (.slice (some ⟨w.heap.size, 0, none⟩) 2 2) [a, b] :=
 ⟨_, _, rfl, by simp, by simp [ha, hb], fun _ => ⟨_, _, rfl, by simp, fun i hi => by
  have : i = 0 ∨ i = 1 := by simp at hi; omega
  rcases this with rfl | rfl <;> simp [go_sem]⟩⟩
theorem row1 (w : World) (a : Int) (ha : 0 ≤ a ∧ a ≤ 18446744073709551615) (T : TypeId) :
 Row (w.alloc (.cells #[.int .u64 a] T)) (.slice (some ⟨w.heap.size, 0, none⟩) 1 1) [a] :=
 ⟨_, _, rfl, by simp, by simp [ha], fun _ => ⟨_, _, rfl, by simp, fun i hi => by
  have : i = 0 := by simp at hi; omega
  subst this; simp [go_sem]⟩⟩
theorem row0 (w : World) : Row w (.slice none 0 0) [] := ⟨_, _, rfl, by simp, by simp, fun h => absurd rfl h⟩
theorem elWord {p a : Int} (h : El p a) (hp : p ≤ 18446744073709551615) : 0 ≤ a ∧ a ≤ 18446744073709551615 := ⟨h.1, by have := h.2; omega⟩
theorem allIn2 {p a b : Int} (ha : El p a) (hb : El p b) : allIn p [a, b] = true := by simp [allIn, ha.2, hb.2]
theorem allIn1 {p a : Int} (ha : El p a) : allIn p [a] = true := by simp [allIn, ha.2]
theorem Fi.top {f p : Int} {wd : Bool} (h : Fi f p wd) : p ≤ 18446744073709551615 := by have := h.md.bounds; omega
theorem Fi.pos {f p : Int} {wd : Bool} (h : Fi f p wd) : 0 < p := by have := h.md.bounds; omega
set_option maxHeartbeats 200000 in
theorem Prime_yes (f p : Int) (wd : Bool) (w : World) (h : Fi f p wd) :
 Calls Tryz.prog 182 #[.int .u8 f] w fun e w' => e = .returned (.tuple #[.int .u64 p, .int .i64 0]) ∧ Below w.heap.size w w' := by
 have hx := fun W => modulusOf_yes f p wd W h
 clear h
 go_enter Tryz.func182, Tryz.ntmps182
 go_wp2_with (go_at_call 141; refine (hx _).mono ?_; rintro e w1 ⟨rfl, hb⟩)
 go_ret2
 exact ⟨rfl, hb.alloc hb.size _⟩
set_option maxHeartbeats 200000 in
theorem In_yes (f p : Int) (wd : Bool) (v : Value) (xs : List Int) (w : World) (h : Fi f p wd) (hr : Row w v xs) (hi : allIn p xs = true) :
 Calls Tryz.prog 90 #[.int .u8 f, v] w fun e w' => e = .returned (.bool true) ∧ Below w.heap.size w w' := by
 have hx := hide (check_yes f p wd v xs w h hr hi)
 clear h hr hi
 go_enter Tryz.func90, Tryz.ntmps90
 go_wp2_with (go_at_call 119; refine hx.out.mono ?_; rintro e w1 ⟨rfl, hb⟩)
 go_ret
 exact ⟨rfl, hb.alloc hb.size _⟩
set_option maxHeartbeats 200000 in
theorem In_no (f : Int) (v : Value) (xs : List Int) (w : World) (h : Bad f xs) (hr : Row w v xs) :
 Calls Tryz.prog 90 #[.int .u8 f, v] w fun e w' => e = .returned (.bool false) ∧ Below w.heap.size w w' := by
 have hx := hide (check_no f v xs w h hr)
 clear h hr
 go_enter Tryz.func90, Tryz.ntmps90
 go_wp2_with (go_at_call 119; refine hx.out.mono ?_; rintro e w1 ⟨rfl, hb⟩)
 go_ret
 exact ⟨rfl, hb.alloc hb.size _⟩
set_option maxHeartbeats 200000 in
theorem Add_yes (f p a b : Int) (wd : Bool) (w : World) (h : Fi f p wd) (ha : El p a) (hb : El p b) :
 Calls Tryz.prog 145 #[.int .u8 f, .int .u64 a, .int .u64 b] w fun e w' => e = .returned (.tuple #[.int .u64 (add p a b), .int .i64 0]) ∧ Below w.heap.size w w' := by
 have hx := fun W v hr => check_yes f p wd v [a, b] W h hr (allIn2 ha hb)
 have hy := fun W => add_any p a b wd W h.top ha.1 hb.1 (elWord ha h.top).2 (elWord hb h.top).2 (by have := ha.2; have := hb.2; omega)
 have hrow := fun T => row2 w a b (elWord ha h.top) (elWord hb h.top) T
 clear h ha hb
 go_enter Tryz.func145, Tryz.ntmps145
 go_wp2_with (first
  | (go_at_call 119; refine (hx _ _ (hrow _)).mono ?_; rintro e w1 ⟨rfl, hb⟩)
  | (go_at_call 159; refine (hy _).mono ?_; rintro e w2 ⟨rfl, hb2⟩))
 go_ret2
 have hz := hb.size
 exact ⟨rfl, ((below_one hb).alloc (by simp at hz; omega) _).trans (hb2.mono (by simp at hz ⊢; omega))⟩
set_option maxHeartbeats 200000 in
theorem Sub_yes (f p a b : Int) (wd : Bool) (w : World) (h : Fi f p wd) (ha : El p a) (hb : El p b) :
 Calls Tryz.prog 168 #[.int .u8 f, .int .u64 a, .int .u64 b] w fun e w' => e = .returned (.tuple #[.int .u64 (sub p a b), .int .i64 0]) ∧ Below w.heap.size w w' := by
 have hx := fun W v hr => check_yes f p wd v [a, b] W h hr (allIn2 ha hb)
 have hy := fun W => sub_any p a b wd W h.top ha hb
 have hrow := fun T => row2 w a b (elWord ha h.top) (elWord hb h.top) T
 clear h ha hb
 go_enter Tryz.func168, Tryz.ntmps168
 go_wp2_with (first
  | (go_at_call 119; refine (hx _ _ (hrow _)).mono ?_; rintro e w1 ⟨rfl, hb⟩)
  | (go_at_call 181; refine (hy _).mono ?_; rintro e w2 ⟨rfl, hb2⟩))
 go_ret2
 have hz := hb.size
 exact ⟨rfl, ((below_one hb).alloc (by simp at hz; omega) _).trans (hb2.mono (by simp at hz ⊢; omega))⟩
set_option maxHeartbeats 200000 in
theorem Mul_yes (f p a b : Int) (wd : Bool) (w : World) (h : Fi f p wd) (ha : El p a) (hb : El p b) :
 Calls Tryz.prog 144 #[.int .u8 f, .int .u64 a, .int .u64 b] w fun e w' => e = .returned (.tuple #[.int .u64 (mul p a b), .int .i64 0]) ∧ Below w.heap.size w w' := by
 have hx := fun W v hr => check_yes f p wd v [a, b] W h hr (allIn2 ha hb)
 have hy := fun W => mul_any p a b wd W h.md ha hb
 have hrow := fun T => row2 w a b (elWord ha h.top) (elWord hb h.top) T
 clear h ha hb
 go_enter Tryz.func144, Tryz.ntmps144
 go_wp2_with (first
  | (go_at_call 119; refine (hx _ _ (hrow _)).mono ?_; rintro e w1 ⟨rfl, hb⟩)
  | (go_at_call 158; refine (hy _).mono ?_; rintro e w2 ⟨rfl, hb2⟩))
 go_ret2
 have hz := hb.size
 exact ⟨rfl, ((below_one hb).alloc (by simp at hz; omega) _).trans (hb2.mono (by simp at hz ⊢; omega))⟩
end Go.Proofs.YtnakbpaiidolbaaGreat
namespace Go.Proofs.YtnakbpaiidolbaaGreat
open Go.RowKit Fld
set_option linter.unusedVariables false
set_option maxHeartbeats 200000 in
theorem rSum_any (p a b : Int) (w : World) (hp : p ≤ 18446744073709551615) (ha : El p a) (hb : El p b) :
 Calls Tryz.prog 44 #[.int .u64 p, .int .u64 a, .int .u64 b] w fun e w' => e = .returned (.int .u64 (add p a b)) ∧ w' = w := by
 obtain ⟨a1, a2⟩ := ha; obtain ⟨b1, b2⟩ := hb
 by_cases h : p - b ≤ a
 · have HF := hide (show a - (p - b) = add p a b by unfold add; rw [emod_sub_self _ _ (by omega) (by omega)]; omega)
   go_enter Tryz.func44, Tryz.ntmps44
   go_wp2
   go_ret
   exact ⟨ret_u64 HF.out, rfl⟩
 · have HF := hide (show a + b = add p a b by unfold add; rw [Int.emod_eq_of_lt (by omega) (by omega)])
   go_enter Tryz.func44, Tryz.ntmps44
   go_wp2
   go_ret
   exact ⟨ret_u64 HF.out, rfl⟩
set_option maxHeartbeats 200000 in
theorem rLess_any (p a b : Int) (w : World) (hp : p ≤ 18446744073709551615) (ha : El p a) (hb : El p b) :
 Calls Tryz.prog 84 #[.int .u64 p, .int .u64 a, .int .u64 b] w fun e w' => e = .returned (.int .u64 (sub p a b)) ∧ w' = w := by
 obtain ⟨a1, a2⟩ := ha; obtain ⟨b1, b2⟩ := hb
 by_cases h : b ≤ a
 · have HF := hide (show a - b = sub p a b by unfold sub; rw [Int.emod_eq_of_lt (by omega) (by omega)])
   go_enter Tryz.func84, Tryz.ntmps84
   go_wp2
   go_ret
   exact ⟨ret_u64 HF.out, rfl⟩
 · have HF := hide (show p - (b - a) = sub p a b by unfold sub; rw [emod_add_self _ _ (by omega) (by omega)]; omega)
   go_enter Tryz.func84, Tryz.ntmps84
   go_wp2
   go_ret
   exact ⟨ret_u64 HF.out, rfl⟩
set_option maxHeartbeats 200000 in
theorem rTimes_any (p a b : Int) (w : World) (hp : p ≤ 18446744073709551615) (ha : El p a) (hb0 : 0 ≤ b) (hb1 : b ≤ 18446744073709551615) :
 Calls Tryz.prog 46 #[.int .u64 p, .int .u64 a, .int .u64 b] w fun e w' => e = .returned (.int .u64 (mul p a b)) ∧ w' = w := by
 have hp0 : 0 < p := by have := ha.1; have := ha.2; omega
 have h0 : El p 0 := ⟨by decide, hp0⟩
 go_enter Tryz.func46, Tryz.ntmps46
 go_wp2
 go_loop [7, 8] (fun vs vi => ∃ (k : Nat) (s : Int), k ≤ 64 ∧ vi = .int .i64 ((k : Int) - 1) ∧ vs = .int .u64 s ∧ El p s ∧ s = mul p a (b / 2 ^ k)) (fun _ vi => (intOf vi + 1).toNat)
 case atStart => exact ⟨64, 0, by omega, rfl, rfl, h0, by rw [shift_all b hb0 hb1, mul_zero_right]⟩
 case round =>
  obtain ⟨k, s, hk, rfl, rfl, hs, hv⟩ := hrel
  by_cases hpos : 0 < k
  · obtain ⟨k, rfl⟩ : ∃ j, k = j + 1 := ⟨k - 1, by omega⟩
    have ek : (((k + 1 : Nat) : Int) - 1) = (k : Int) := by omega
    rw [ek]
    clear ek
    rw [half_pow] at hv
    obtain ⟨q0, q1⟩ := word_shift b k hb0 hb1
    have hand := and_one_u64 (b / 2 ^ k) q0 q1
    have hss := add_el (a := s) (b := s) hp0
    have hsa := add_el (a := add p s s) (b := a) hp0
    by_cases ho : b / 2 ^ k % 2 = 1
    · have ht : (b / 2 ^ k % 2 == 1) = true := beq_iff_eq.2 ho
      have HV := hide (times_odd p a (b / 2 ^ k) ho)
      rw [← hv] at HV
      clear ho hv
      go_wp2_with (go_at_call 44; refine (rSum_any p _ _ _ hp (by assumption) (by assumption)).mono ?_; rintro e w1 ⟨rfl, rfl⟩)
      go_round
      case rel => exact ⟨k, _, by omega, rfl, rfl, hsa, HV.out⟩
      case measure => simp [intOf]
    · have ht : (b / 2 ^ k % 2 == 1) = false := beq_eq_false_iff_ne.2 ho
      have HV := hide (times_even p a (b / 2 ^ k) (by omega))
      rw [← hv] at HV
      clear ho hv
      go_wp2_with (go_at_call 44; refine (rSum_any p _ _ _ hp (by assumption) (by assumption)).mono ?_; rintro e w1 ⟨rfl, rfl⟩)
      go_round
      case rel => exact ⟨k, _, by omega, rfl, rfl, hss, HV.out⟩
      case measure => simp [intOf]
  · have hk0 : k = 0 := by omega
    subst hk0
    have HV := hide hv
    clear hv
    go_wp2
    go_ret
    refine ⟨ret_u64 ?_, rfl⟩
    rw [HV.out]; simp
end Go.Proofs.YtnakbpaiidolbaaGreat
namespace Go.Proofs.YtnakbpaiidolbaaGreat
open Go.RowKit Fld
set_option linter.unusedVariables false
set_option maxHeartbeats 200000 in
theorem rP_yes (f p : Int) (wd : Bool) (w : World) (h : Fi f p wd) :
 Calls Tryz.prog 45 #[.int .u8 f] w fun e w' => e = .returned (.int .u64 p) ∧ w' = w := by
 rcases h with ⟨rfl, rfl, rfl⟩ | ⟨rfl, rfl, rfl⟩
 · go_enter Tryz.func45, Tryz.ntmps45
   go_wp2
   go_ret
   exact ⟨rfl, rfl⟩
 · go_enter Tryz.func45, Tryz.ntmps45
   go_wp2
   go_ret
   exact ⟨rfl, rfl⟩
set_option maxHeartbeats 200000 in
theorem rP_no (f : Int) (w : World) (h1 : f ≠ 1) (h2 : f ≠ 2) :
 Calls Tryz.prog 45 #[.int .u8 f] w fun e w' => e = .returned (.int .u64 0) ∧ w' = w := by
 have e1 : (f == 1) = false := beq_eq_false_iff_ne.2 h1
 have e2 : (f == 2) = false := beq_eq_false_iff_ne.2 h2
 clear h1 h2
 go_enter Tryz.func45, Tryz.ntmps45
 go_wp2
 go_ret
 exact ⟨rfl, rfl⟩
set_option maxHeartbeats 400000 in
theorem rIn_of (f p : Int) (v : Value) (xs : List Int) (w : World) (hp0 : 0 ≤ p) (hp1 : p ≤ 18446744073709551615) (hr : Row w v xs)
 (hP : ∀ W, Calls Tryz.prog 45 #[.int .u8 f] W fun e w' => e = .returned (.int .u64 p) ∧ w' = W) :
 Calls Tryz.prog 54 #[.int .u8 f, v] w fun e w' => e = .returned (.bool (allIn p xs && (p != 0))) ∧ w' = w := by
 obtain ⟨ao, cap, rfl, hlen, hw, hc⟩ := hr
 have HP := hide hP
 clear hP
 go_enter Tryz.func54, Tryz.ntmps54
 go_wp2_with (go_at_call 45; refine (HP.out _).mono ?_; rintro e w1 ⟨rfl, rfl⟩)
 rename_i w1
 go_loop [6] (fun vi => ∃ k : Nat, k ≤ xs.length ∧ vi = .int .i64 k ∧ ∀ i, i < k → xs.getD i 0 < p) (fun vi => xs.length - (intOf vi).toNat)
 case atStart => exact ⟨0, Nat.zero_le _, rfl, fun i hi => by omega⟩
 case round =>
  obtain ⟨k, hk, rfl, hall⟩ := hrel
  by_cases hlt : k < xs.length
  · obtain ⟨b, off, rfl, hbl, hcell⟩ := hc (by intro h; rw [h] at hlt; simp at hlt)
    have hck := hcell k hlt
    have HA := hide hall
    clear hall hcell hc
    by_cases hin : xs.getD k 0 < p
    · generalize hx : xs.getD k 0 = x at *
      have HX := hide hx
      clear hx
      go_wp2
      go_round
      case rel => exact ⟨k + 1, by omega, by go_num, all_snoc HA.out HX.out hin⟩
      case measure => simp [intOf]; omega
    · have HF := hide (allIn_false k hlt hin)
      generalize xs.getD k 0 = x at *
      go_wp2
      go_ret
      rw [HF.out]
      exact ⟨rfl, rfl⟩
  · have HF := hide (allIn_true (p := p) (xs := xs) (fun i hi => hall i (by omega)))
    clear hall hc
    go_wp2
    go_ret
    rw [HF.out]
    exact ⟨rfl, rfl⟩
theorem rIn_yes (f p : Int) (wd : Bool) (v : Value) (xs : List Int) (w : World) (h : Fi f p wd) (hr : Row w v xs) (hi : allIn p xs = true) :
 Calls Tryz.prog 54 #[.int .u8 f, v] w fun e w' => e = .returned (.bool true) ∧ w' = w := by
 have hz := h.pos
 refine (rIn_of f p v xs w (by omega) h.top hr (fun W => rP_yes f p wd W h)).mono ?_
 rintro e w' ⟨rfl, rfl⟩
 have : (p != 0) = true := by simp; omega
 rw [hi, this]; exact ⟨rfl, rfl⟩
theorem rIn_no (f : Int) (v : Value) (xs : List Int) (w : World) (h : Bad f xs) (hr : Row w v xs) :
 Calls Tryz.prog 54 #[.int .u8 f, v] w fun e w' => e = .returned (.bool false) ∧ w' = w := by
 rcases h with ⟨h1, h2⟩ | ⟨p, wd, hf, hi⟩
 · refine (rIn_of f 0 v xs w (by decide) (by decide) hr (fun W => rP_no f W h1 h2)).mono ?_
   rintro e w' ⟨rfl, rfl⟩
   exact ⟨by simp, rfl⟩
 · have hz := hf.pos
   refine (rIn_of f p v xs w (by omega) hf.top hr (fun W => rP_yes f p wd W hf)).mono ?_
   rintro e w' ⟨rfl, rfl⟩
   rw [hi]; exact ⟨rfl, rfl⟩
end Go.Proofs.YtnakbpaiidolbaaGreat
namespace Go.Proofs.YtnakbpaiidolbaaGreat
open Go.RowKit Fld
set_option linter.unusedVariables false
theorem inv_el {p a : Int} (hp : 0 < p) : El p (inv p a) := pow_el hp
set_option maxHeartbeats 200000 in
theorem Div_yes (f p a b : Int) (wd : Bool) (w : World) (h : Fi f p wd) (ha : El p a) (hb : El p b) (hb0 : 0 < b) :
 Calls Tryz.prog 180 #[.int .u8 f, .int .u64 a, .int .u64 b] w fun e w' => e = .returned (.tuple #[.int .u64 (mul p a (inv p b)), .int .i64 0]) ∧ Below w.heap.size w w' := by
 have hx := fun W v hr => check_yes f p wd v [a, b] W h hr (allIn2 ha hb)
 have hy := fun W => inverse_any p b wd W h.md hb0 hb.2
 have hm := fun W => mul_any p a (inv p b) wd W h.md ha (inv_el h.pos)
 have hrow := fun T => row2 w a b (elWord ha h.top) (elWord hb h.top) T
 have hne : (b == 0) = false := beq_eq_false_iff_ne.2 (by omega)
 clear h ha hb hb0
 go_enter Tryz.func180, Tryz.ntmps180
 go_wp2_with (go_at_call 119; refine (hx _ _ (hrow _)).mono ?_; rintro e w1 ⟨rfl, hb⟩)
 go_region_held3 (fun w' => w'.cell? ⟨w1.heap.size, 0, none⟩ = some (.int .u64 p) ∧ w'.cell? ⟨w1.heap.size, 1, none⟩ = some (.bool wd) ∧ w1.heap.size < w'.heap.size ∧ Below w1.heap.size w1 w') (first | exact Boxed.start _ _ _ _ | exact hS2 | exact hS) (first
  | (go_at_call 185; refine (hy _).mono ?_; rintro e w2 ⟨rfl, hb2⟩; have hS := Boxed.below (Boxed.start w1 p wd 166) hb2)
  | (go_at_call 158; refine (hm _).mono ?_; rintro e w3 ⟨rfl, hb3⟩; have hS2 := Boxed.below hS hb3))
 go_wp2
 go_ret2
 have hz := hb.size
 exact ⟨rfl, (below_one hb).trans (hS2.2.2.2.mono (by simp at hz; omega))⟩
set_option maxHeartbeats 200000 in
theorem Inv_of (f a r e : Int) (w : World) (h : Calls Tryz.prog 180 #[.int .u8 f, .int .u64 1, .int .u64 a] w fun x w' => x = .returned (.tuple #[.int .u64 r, .int .i64 e]) ∧ Below w.heap.size w w') :
 Calls Tryz.prog 167 #[.int .u8 f, .int .u64 a] w fun x w' => x = .returned (.tuple #[.int .u64 r, .int .i64 e]) ∧ Below w.heap.size w w' := by
 have H := hide h
 clear h
 go_enter Tryz.func167, Tryz.ntmps167
 go_wp2_with (go_at_call 180; refine H.out.mono ?_; rintro x w1 ⟨rfl, hb⟩)
 go_ret2
 exact ⟨rfl, hb⟩
end Go.Proofs.YtnakbpaiidolbaaGreat
namespace Go.Proofs.YtnakbpaiidolbaaGreat
open Go.RowKit Fld
set_option linter.unusedVariables false
theorem Fi_or (f : Int) : (∃ p wd, Fi f p wd) ∨ (f ≠ 1 ∧ f ≠ 2) := by
 by_cases h1 : f = 1
 · exact .inl ⟨_, _, .inl ⟨h1, rfl, rfl⟩⟩
 by_cases h2 : f = 2
 · exact .inl ⟨_, _, .inr ⟨h2, rfl, rfl⟩⟩
 exact .inr ⟨h1, h2⟩
end Go.Proofs.YtnakbpaiidolbaaGreat
namespace Go.Proofs.YtnakbpaiidolbaaGreat
open Go.RowKit Fld
set_option linter.unusedVariables false
theorem u64_info : (Tryz.prog.info? 58).map (fun i => (i.zero, i.size, i.bytes)) = some (some (.int .u64 0), 1, 8) := by kernel_rfl
def vals (xs : List Int) : List Value := xs.map (Value.int .u64)
theorem vals_length (xs : List Int) : (vals xs).length = xs.length := by simp [vals]
theorem vals_snoc (xs : List Int) (x : Int) : vals xs ++ [.int .u64 x] = vals (xs ++ [x]) := by simp [vals]
theorem own_base {w : World} {base e size n : Nat} {v : Value} {xs : List Value} (h : w.ownsRow base e size v n xs) : ∀ k, v.ownBlock = some k → base ≤ k := by
 intro k hk
 rcases h.2 with ⟨rfl, _⟩ | ⟨g, cap, cur, rfl, hb, _⟩
 · cases hk
 · cases hk; exact hb
theorem row_of_own {w : World} {base : Nat} {v : Value} {n : Nat} {xs : List Int} (h : w.ownsRow base 58 1 v n (vals xs)) (hn : n = xs.length) (hl : xs.length ≤ 17592186043904)
 (hw : ∀ x ∈ xs, 0 ≤ x ∧ x ≤ 18446744073709551615) : Row w v xs := by
 subst hn
 rcases h.2 with ⟨rfl, h0⟩ | ⟨g, cap, cur, rfl, hb, hh, h1, h2, h3, h4⟩
 · exact ⟨none, 0, by rw [h0], hl, hw, fun hne => absurd (List.length_eq_zero_iff.1 h0) hne⟩
 · refine ⟨_, cap, rfl, hl, hw, fun hne => ⟨g, 0, rfl, ?_, fun i hi => ?_⟩⟩
   · apply Nat.lt_of_not_le; intro hc; rw [Array.getElem?_eq_none hc] at hh; cases hh
   · rw [cell_of_row w g (0 + i) cur 58 (0, 0) hh, Nat.zero_add]
     have e1 : cur[i]? = cur.toList[i]? := by simp
     have e2 : cur.toList[i]? = (vals xs)[i]? := by rw [← h4, List.getElem?_take_of_lt (by omega)]
     rw [e1, e2]; simp [vals, List.getD_eq_getElem?_getD, hi]
end Go.Proofs.YtnakbpaiidolbaaGreat
namespace Go.Proofs.YtnakbpaiidolbaaGreat
open Go.RowKit Fld
set_option linter.unusedVariables false
theorem own_below {w w' : World} {base e size n : Nat} {v : Value} {xs : List Value} (h : w.ownsRow base e size v n xs) (hb : Below w.heap.size w w') : w'.ownsRow base e size v n xs := by
 refine ⟨h.1, ?_⟩
 rcases h.2 with h1 | ⟨g, cap, cur, h1, h2, h3, h4⟩
 · exact .inl h1
 · refine .inr ⟨g, cap, cur, h1, h2, ?_, h4⟩
   have hlt : g < w.heap.size := by
    apply Nat.lt_of_not_le; intro hc; rw [Array.getElem?_eq_none hc] at h3; cases h3
   rw [hb.block g hlt]; exact h3
theorem addr_ne {a b i j : Nat} (h : a ≠ b) : (⟨a, i, none⟩ : Addr) ≠ ⟨b, j, none⟩ := fun e => h (congrArg Addr.block e)
theorem vals_set (ys : List Int) (k : Nat) (x : Int) : (vals ys).set k (.int .u64 x) = vals (ys.set k x) := by simp [vals, List.map_set]
theorem vals_at (ys : List Int) (k : Nat) (h : k < ys.length) : (vals ys)[k]? = some (.int .u64 (ys.getD k 0)) := by simp [vals, h, List.getD_eq_getElem?_getD]
theorem below_grown_none {W w1 : World} (h : W.grownBy w1 none) : Below W.heap.size W w1 := (Below.refl _ W).grown h (Nat.le_refl _) (fun k hk => by cases hk)
end Go.Proofs.YtnakbpaiidolbaaGreat
namespace Go.Proofs.YtnakbpaiidolbaaGreat
open Go.RowKit Fld
set_option linter.unusedVariables false
end Go.Proofs.YtnakbpaiidolbaaGreat
namespace Go.Proofs.YtnakbpaiidolbaaGreat
open Go.RowKit Fld
set_option linter.unusedVariables false
end Go.Proofs.YtnakbpaiidolbaaGreat
namespace Go.Proofs.YtnakbpaiidolbaaGreat
open Go.RowKit Fld
set_option linter.unusedVariables false
theorem take_inv_snoc (xs : List Int) (g : Int → Int) (k : Nat) (h : k < xs.length) : (xs.take k).map g ++ [g (xs.getD k 0)] = (xs.take (k + 1)).map g := by
 rw [List.take_succ_eq_append_getElem h, List.map_append, getD_at h]; rfl
theorem push_step {w wr w1 : World} {v v1 : Value} {k : Nat} {ys zs : List Int} {y : Int} {T : TypeId} (hB : Below w.heap.size w wr) (hown : wr.ownsRow w.heap.size T 1 v k (vals ys))
 (h1 : w1.ownsRow w.heap.size T 1 v1 (k + 1) (vals ys ++ [.int .u64 y])) (hg : (wr.alloc (.cells #[.int .u64 y] T)).grownBy w1 v.ownBlock) (hs : ys ++ [y] = zs) :
 w1.ownsRow w.heap.size T 1 v1 (k + 1) (vals zs) ∧ Below w.heap.size w w1 := by
 refine ⟨?_, ?_⟩
 · rw [← hs, ← vals_snoc]; exact h1
 · exact (hB.alloc hB.size _).grown hg (by have := hB.size; simp; omega) (own_base hown)
end Go.Proofs.YtnakbpaiidolbaaGreat
namespace Go.Proofs.YtnakbpaiidolbaaGreat
open Go.RowKit Fld
set_option linter.unusedVariables false
theorem vals_one (xs : List Int) : ∀ u ∈ vals xs, u.oneCell' = true := by
 intro u hu
 obtain ⟨x, _, rfl⟩ := List.mem_map.1 hu
 rfl
theorem own_empty (w : World) (T : TypeId) : (w.alloc (.cells #[] T)).ownsRow w.heap.size T 1 (.slice (some ⟨w.heap.size, 0, none⟩) 0 0) 0 (vals []) :=
 ⟨by simp [vals], .inr ⟨_, 0, #[], rfl, Nat.le_refl _, heap_alloc_new w _, Nat.le_refl _, by unfold maxLen; omega, by simp, by simp [vals]⟩⟩
theorem grown_trans {a b c : World} {r : Option Nat} (h : a.grownBy b r) (k : b.grownBy c r) : a.grownBy c r :=
 ⟨k.os.trans h.os, k.tape.trans h.tape, k.output.trans h.output, Nat.le_trans h.size k.size, fun j hj hne => (k.block j (Nat.lt_of_lt_of_le hj h.size) hne).trans (h.block j hj hne)⟩
theorem grown_refl (a : World) (r : Option Nat) : a.grownBy a r := ⟨rfl, rfl, rfl, Nat.le_refl _, fun _ _ _ => rfl⟩
theorem grown_alloc {a b : World} {r : Option Nat} (h : a.grownBy b r) (o : Obj) : a.grownBy (b.alloc o) r :=
 ⟨h.os, h.tape, h.output, Nat.le_trans h.size (by simp), fun j hj hne => (Below.heap_alloc b o j (Nat.lt_of_lt_of_le hj h.size)).trans (h.block j hj hne)⟩
theorem grown_far {a b c : World} {r : Option Nat} {g : Nat} (h : a.grownBy b r) (k : b.grownBy c (some g)) (hg : r = some g ∨ a.heap.size ≤ g) : a.grownBy c r := by
 refine ⟨k.os.trans h.os, k.tape.trans h.tape, k.output.trans h.output, Nat.le_trans h.size k.size, fun j hj hne => ?_⟩
 refine (k.block j (Nat.lt_of_lt_of_le hj h.size) ?_).trans (h.block j hj hne)
 rcases hg with rfl | hg
 · exact hne
 · intro e; cases e; omega
set_option maxRecDepth 100000 in
set_option maxHeartbeats 200000 in
theorem Copy_any (v : Value) (xs : List Int) (w : World) (hr : Row w v xs) :
 Calls Tryz.prog 48 #[v] w fun e w' => ∃ v', e = .returned v' ∧ w'.ownsRow w.heap.size 58 1 v' xs.length (vals xs) ∧ Below w.heap.size w w' := by
 obtain ⟨ao, cap, rfl, hlen, hw, hc⟩ := hr
 obtain ⟨i0, hi0, hz0, hz1, hz2⟩ := info_parts u64_info
 have hown := own_empty w 58
 have hB := (Below.refl w.heap.size w).alloc (Nat.le_refl _) (.cells #[] 58)
 cases ao with
 | none =>
  have hx : xs = [] := by
   apply Classical.byContradiction; intro hne
   obtain ⟨b, off, h, _⟩ := hc hne; cases h
  subst hx
  clear hc
  go_enter Tryz.func48, Tryz.ntmps48
  go_wp2
  go_ret
  exact ⟨_, rfl, hown, hB⟩
 | some ad =>
  have hnews : ∀ j u, (vals xs)[j]? = some u → (w.alloc (.cells #[] 58)).cell? (ad.add j) = some u := by
   intro j u hj
   have hjl : j < xs.length := by
    apply Nat.lt_of_not_le; intro hcn; rw [List.getElem?_eq_none (by rw [vals_length]; exact hcn)] at hj; cases hj
   obtain ⟨b, off, h, hbl, hcell⟩ := hc (by intro h; rw [h] at hjl; simp at hjl)
   cases h
   have hadd : (⟨b, off, none⟩ : Addr).add j = ⟨b, off + j, none⟩ := by unfold Addr.add; split <;> simp_all
   rw [vals_at xs j hjl] at hj
   rw [hadd, World.cell?_alloc_lt (h := hbl), hcell j hjl]; exact hj
  have HN := hide hnews
  clear hnews hc
  go_enter Tryz.func48, Tryz.ntmps48
  go_wp2_with (at_builtin; refine wpList_append_own _ rfl _ _ _ rfl w.heap.size 58 i0 _ 1 8 Tryz.underlying30 hi0 hz0 hz1 hz2 rfl (by omega) _ 0 (vals []) rfl hown ad xs.length cap (vals xs) rfl (by rw [vals_length]; omega) HN.out (vals_one xs) (by unfold maxLen; omega) (by omega) (by simp) ?_; intro v' w1 hown1 hgrow _)
  go_ret
  exact ⟨_, rfl, by simpa [vals] using hown1, hB.grown hgrow (by simp) (fun k hk => by cases hk; exact Nat.le_refl _)⟩
theorem spoil_step {w wr : World} {base g n cap k : Nat} {ys : List Int} {r : Option Nat} {x : Int} {T : TypeId} (hO : wr.ownsRow base T 1 (.slice (some ⟨g, 0, none⟩) n cap) n (vals ys)) (hG : w.grownBy wr r) (hr : r = some g ∨ w.heap.size ≤ g) :
 (wr.setCell ⟨g, k, none⟩ (.int .u64 x)).ownsRow base T 1 (.slice (some ⟨g, 0, none⟩) n cap) n (vals (ys.set k x)) ∧ w.grownBy (wr.setCell ⟨g, k, none⟩ (.int .u64 x)) r := by
 have := hO.stored k (.int .u64 x)
 rw [vals_set] at this
 exact ⟨this.1, grown_far hG this.2 hr⟩
theorem own_cell {wr : World} {base g n cap k : Nat} {ys : List Int} {T : TypeId} (hO : wr.ownsRow base T 1 (.slice (some ⟨g, 0, none⟩) n cap) n (vals ys)) (hl : ys.length = n) (hk : k < n) : wr.cell? ⟨g, k, none⟩ = some (.int .u64 (ys.getD k 0)) := by
 rw [hO.cellAt k (by omega), vals_at ys k (by omega)]
theorem own_len {wr : World} {base n : Nat} {ys : List Int} {T : TypeId} {v : Value} (hO : wr.ownsRow base T 1 v n (vals ys)) : ys.length = n := by
 have := hO.1; rw [vals_length] at this; omega
set_option maxRecDepth 100000 in
set_option maxHeartbeats 400000 in
theorem Spoil_mark (v : Value) (n base : Nat) (xs : List Int) (m : Int) (w : World) (m0 : 0 ≤ m) (m1 : m ≤ 300) (hO : w.ownsRow base 58 1 v n (vals xs)) (hn : n ≤ 17592186043904) (hb : base ≤ w.heap.size) :
 Calls Tryz.prog 25 #[v, .int .u64 m] w fun e w' => e = .returned (.tuple #[]) ∧ w.grownBy w' v.ownBlock := by
 obtain ⟨i0, hi0, hz0, hz1, hz2⟩ := info_parts u64_info
 have hbk := own_base hO
 have hv : v = .slice none 0 0 ∧ n = 0 ∨ ∃ g cap, v = .slice (some ⟨g, 0, none⟩) n cap := by
  rcases hO.2 with h | ⟨g, cap, _, h, _⟩
  · exact .inl h
  · exact .inr ⟨g, cap, h⟩
 rcases hv with ⟨rfl, rfl⟩ | ⟨g, cap, rfl⟩
 · go_enter Tryz.func25, Tryz.ntmps25
   go_wp2
   go_loopw [4] (fun vi wr => ∃ (k : Nat) (ys : List Int), k ≤ 0 ∧ vi = .int .i64 k ∧ wr.ownsRow base 58 1 (.slice none 0 0) 0 (vals ys) ∧ w.grownBy wr (none)) (fun vi _ => 0 - (intOf vi).toNat)
   case atStart => exact ⟨0, xs, Nat.zero_le _, rfl, hO, grown_refl _ _⟩
   case round =>
    clear hO
    obtain ⟨k, ys, hk, rfl, hO, hG⟩ := hrel
    have hyl := own_len hO
    by_cases hlt : k < 0
    · omega
    · have hGs := hG.size
      go_wp2_with (at_builtin; refine wpList_append_lies _ rfl _ _ _ rfl base 58 i0 _ 1 8 Tryz.underlying30 hi0 hz0 hz1 hz2 rfl (by omega) (.slice none 0 0) 0 (vals ys) rfl (hO.alloc _) ⟨wr.heap.size, 0, none⟩ 3 3 [.int .u64 m, .int .u64 m, .int .u64 m] rfl rfl (World.news_of_block (cs := #[.int .u64 m, .int .u64 m, .int .u64 m]) (t := 58) (fr := (0, 0)) (heap_alloc_new wr _)) (by simp [Value.oneCell']) (by omega) (by unfold maxLen; omega) (by omega) (by simp; omega) (wr.heap.size + 1) (by simp) ?_; intro gg cap2 w2 hO2 hgrow hat hltg)
      have hO2 : w2.ownsRow base 58 1 (.slice (some ⟨gg, 0, none⟩) (3) cap2) (3) (vals (ys ++ [m, m, m])) := by simpa [vals] using hO2
      have hG2 : w.grownBy w2 (none) := grown_trans (grown_alloc hG _) hgrow
      have hrow : (none : Option Nat) = some gg ∨ w.heap.size ≤ gg := by
       rcases hat with h | h
       · exact .inl h
       · right; omega
      clear hO hG hgrow hat hltg hyl
      go_loopw [5] (fun vi wr => ∃ (k : Nat) (zs : List Int), k ≤ 3 ∧ vi = .int .i64 k ∧ wr.ownsRow base 58 1 (.slice (some ⟨gg, 0, none⟩) (3) cap2) (3) (vals zs) ∧ w.grownBy wr (none)) (fun vi _ => 3 - (intOf vi).toNat)
      case atStart => exact ⟨0, _, Nat.zero_le _, rfl, hO2, hG2⟩
      case round =>
       clear hO2 hG2
       obtain ⟨j, zs, hj, rfl, hO, hG⟩ := hrel
       have hzl := own_len hO
       by_cases hlt2 : j < 3
       · have hck := own_cell hO hzl hlt2
         have hfr := hO.frozenAt j
         generalize zs.getD j 0 = y at *
         go_wp2
         go_roundw
         case rel => exact ⟨j + 1, _, by omega, by go_num, (spoil_step hO hG hrow).1, (spoil_step hO hG hrow).2⟩
         case measure => simp [intOf]; omega
       · go_wp2
         go_end0
         exact ⟨rfl, hG⟩
 · go_enter Tryz.func25, Tryz.ntmps25
   go_wp2
   go_loopw [4] (fun vi wr => ∃ (k : Nat) (ys : List Int), k ≤ n ∧ vi = .int .i64 k ∧ wr.ownsRow base 58 1 (.slice (some ⟨g, 0, none⟩) n cap) n (vals ys) ∧ w.grownBy wr (some g)) (fun vi _ => n - (intOf vi).toNat)
   case atStart => exact ⟨0, xs, Nat.zero_le _, rfl, hO, grown_refl _ _⟩
   case round =>
    clear hO
    obtain ⟨k, ys, hk, rfl, hO, hG⟩ := hrel
    have hyl := own_len hO
    by_cases hlt : k < n
    · have hck := own_cell hO hyl hlt
      have hfr := hO.frozenAt k
      generalize ys.getD k 0 = y at *
      go_wp2
      go_roundw
      case rel => exact ⟨k + 1, _, by omega, by go_num, (spoil_step hO hG (.inl rfl)).1, (spoil_step hO hG (.inl rfl)).2⟩
      case measure => simp [intOf]; omega
    · have hGs := hG.size
      go_wp2_with (at_builtin; refine wpList_append_lies _ rfl _ _ _ rfl base 58 i0 _ 1 8 Tryz.underlying30 hi0 hz0 hz1 hz2 rfl (by omega) (.slice (some ⟨g, 0, none⟩) n cap) n (vals ys) rfl (hO.alloc _) ⟨wr.heap.size, 0, none⟩ 3 3 [.int .u64 m, .int .u64 m, .int .u64 m] rfl rfl (World.news_of_block (cs := #[.int .u64 m, .int .u64 m, .int .u64 m]) (t := 58) (fr := (0, 0)) (heap_alloc_new wr _)) (by simp [Value.oneCell']) (by omega) (by unfold maxLen; omega) (by omega) (by simp; omega) (wr.heap.size + 1) (by simp) ?_; intro gg cap2 w2 hO2 hgrow hat hltg)
      have hO2 : w2.ownsRow base 58 1 (.slice (some ⟨gg, 0, none⟩) (n + 3) cap2) (n + 3) (vals (ys ++ [m, m, m])) := by simpa [vals] using hO2
      have hG2 : w.grownBy w2 (some g) := grown_trans (grown_alloc hG _) hgrow
      have hrow : (some g : Option Nat) = some gg ∨ w.heap.size ≤ gg := by
       rcases hat with h | h
       · exact .inl h
       · right; omega
      clear hO hG hgrow hat hltg hyl
      go_loopw [5] (fun vi wr => ∃ (k : Nat) (zs : List Int), k ≤ n + 3 ∧ vi = .int .i64 k ∧ wr.ownsRow base 58 1 (.slice (some ⟨gg, 0, none⟩) (n + 3) cap2) (n + 3) (vals zs) ∧ w.grownBy wr (some g)) (fun vi _ => n + 3 - (intOf vi).toNat)
      case atStart => exact ⟨0, _, Nat.zero_le _, rfl, hO2, hG2⟩
      case round =>
       clear hO2 hG2
       obtain ⟨j, zs, hj, rfl, hO, hG⟩ := hrel
       have hzl := own_len hO
       by_cases hlt2 : j < n + 3
       · have hck := own_cell hO hzl hlt2
         have hfr := hO.frozenAt j
         generalize zs.getD j 0 = y at *
         go_wp2
         go_roundw
         case rel => exact ⟨j + 1, _, by omega, by go_num, (spoil_step hO hG hrow).1, (spoil_step hO hG hrow).2⟩
         case measure => simp [intOf]; omega
       · go_wp2
         go_end0
         exact ⟨rfl, hG⟩
end Go.Proofs.YtnakbpaiidolbaaGreat
namespace Go.Proofs.YtnakbpaiidolbaaGreat
open Go.RowKit Fld
set_option linter.unusedVariables false
set_option maxHeartbeats 400000 in
theorem Same_yes (v1 v2 : Value) (xs : List Int) (w : World) (h1 : Row w v1 xs) (h2 : Row w v2 xs) :
 Calls Tryz.prog 13 #[v1, v2] w fun e w' => e = .returned (.bool true) ∧ Below w.heap.size w w' := by
 obtain ⟨a1, c1, rfl, hlen, _, hc1⟩ := h1
 obtain ⟨a2, c2, rfl, _, _, hc2⟩ := h2
 go_enter Tryz.func13, Tryz.ntmps13
 go_wp2
 go_loopw [5] (fun vi wr => ∃ k : Nat, k ≤ xs.length ∧ vi = .int .i64 k ∧ Below w.heap.size w wr) (fun vi _ => xs.length - (intOf vi).toNat)
 case atStart => exact ⟨0, Nat.zero_le _, rfl, Below.refl _ _⟩
 case round =>
  obtain ⟨k, hk, rfl, hB⟩ := hrel
  by_cases hlt : k < xs.length
  · have hne : xs ≠ [] := by intro h; rw [h] at hlt; simp at hlt
    obtain ⟨b1, o1, rfl, l1, g1⟩ := hc1 hne
    obtain ⟨b2, o2, rfl, l2, g2⟩ := hc2 hne
    have d1 := (hB.cell (p := ⟨b1, o1 + k, none⟩) l1).trans (g1 k hlt)
    have d2 := (hB.cell (p := ⟨b2, o2 + k, none⟩) l2).trans (g2 k hlt)
    have k0 : (0 : Int) ≤ (k : Int) := Int.natCast_nonneg _
    have k1 : (k : Int) < (xs.length : Int) := by omega
    generalize xs.getD k 0 = x at *
    clear g1 g2 hc1 hc2 hne
    go_wp2_with fail
    go_quiet (fail)
    have hB2 := below_drewN hB nq
    clear hB
    go_wp2
    go_roundw
    case rel => exact ⟨k + 1, by omega, by go_num, hB2⟩
    case measure => simp [intOf]; omega
  · clear hc1 hc2
    go_wp2
    go_ret
    exact ⟨rfl, hB⟩
end Go.Proofs.YtnakbpaiidolbaaGreat
namespace Go.Proofs.YtnakbpaiidolbaaGreat
open Go.RowKit Fld
set_option linter.unusedVariables false
end Go.Proofs.YtnakbpaiidolbaaGreat
namespace Go.Proofs.YtnakbpaiidolbaaGreat
open Go.RowKit Fld
set_option linter.unusedVariables false
end Go.Proofs.YtnakbpaiidolbaaGreat
namespace Go.Proofs.YtnakbpaiidolbaaGreat.Fld
set_option linter.unusedVariables false
def sq (p t : Int) (P : List Int) : List Int := tr (mk (P.length - 1) (fun i => hn p t P (i + 1)))
theorem cv_fac (p t : Int) (g : Nat → Int) (k : Nat) : cv (co (fac p t)) g (k + 1) = sub p 0 t * g (k + 1) + g k := by
 show sub p 0 t * g (k + 1) + cv (fun i => co (fac p t) (i + 1)) g k = _
 have : cv (fun i => co (fac p t) (i + 1)) g k = 1 * g k := by
  rw [← cv_single 1 g k]
  exact cv_congr k (fun i _ => by cases i <;> rfl) (fun i _ => rfl)
 rw [this, Int.one_mul]
theorem hn_out {p t : Int} {P : List Int} {i : Nat} (h : P.length ≤ i) : hn p t P i = 0 := by
 unfold hn
 rw [show P.length - i = 0 by omega]; exact Int.zero_emod p
theorem hn_eq {p t : Int} (P : List Int) (i : Nat) : (sub p 0 t * hn p t P (i + 1) + hn p t P i) % p = co P i % p := by
 by_cases h : i < P.length
 · rw [← hn_step h]
   unfold sub add mul
   have e1 : ((0 - t) % p * hn p t P (i + 1) + (hn p t P (i + 1) * t % p + co P i) % p) % p = ((0 - t) * hn p t P (i + 1) + (hn p t P (i + 1) * t + co P i)) % p := by
    simp [Int.add_emod, Int.mul_emod]
   rw [e1]
   congr 1
   rw [Int.sub_mul, Int.zero_mul, Int.mul_comm t]; omega
 · rw [hn_out (by omega), hn_out (by omega), co_out P i (by omega), Int.mul_zero, Int.add_zero]
theorem fac_out {p t : Int} (hp : 0 < p) {P : List Int} (h0 : vl p t P = 0) : Tm p (sq p t P) ∧ pl p P = qm (pl p (fac p t)) (pl p (sq p t P)) := by
 have he : Els p (mk (P.length - 1) (fun i => hn p t P (i + 1))) := Els.mk _ (fun i _ => hn_el hp t P (i + 1))
 refine ⟨Tm.tr hp he, ?_⟩
 unfold sq
 rw [pl_tr]
 have hc : ∀ i, co (mk (P.length - 1) (fun i => hn p t P (i + 1))) i = hn p t P (i + 1) := fun i => by
  rw [co_mk]
  split
  · rfl
  · rw [hn_out (by omega)]
 show pu p (co P) = pu p (cv (co (fac p t)) (co (mk (P.length - 1) (fun i => hn p t P (i + 1)))))
 refine pu_eq (fun i => ?_)
 cases i with
 | zero =>
  show _ = (sub p 0 t * co (mk (P.length - 1) (fun i => hn p t P (i + 1))) 0) % p
  rw [hc, ← hn_eq P 0, hn_zero, h0, Int.add_zero]
 | succ i => rw [cv_fac, hc, hc, ← hn_eq P (i + 1)]
theorem ne_mod {p a b : Int} (ha : El p a) (hb : El p b) (h : a ≠ b) : (a - b) % p ≠ 0 := by
 intro h0
 have h1 := ha.1; have h2 := ha.2; have h3 := hb.1; have h4 := hb.2
 by_cases hge : 0 ≤ a - b
 · rw [Int.emod_eq_of_lt hge (by omega)] at h0; omega
 · have h6 : (a - b + p) % p = 0 := by rw [Int.add_emod_right]; exact h0
   rw [Int.emod_eq_of_lt (by omega) (by omega)] at h6; omega
theorem roots_zero {p : Int} {wd : Bool} (hm : Md p wd) : ∀ (xs P : List Int), Els p xs → xs.Nodup → Tm p P → P.length ≤ xs.length → (∀ x ∈ xs, vl p x P = 0) → P = [] := by
 have hp : 0 < p := by have := hm.bounds; omega
 intro xs
 induction xs with
 | nil => intro P _ _ _ hl _; exact List.length_eq_zero_iff.1 (by simpa using hl)
 | cons x xs ih =>
  intro P hx hn hP hl h0
  apply Classical.byContradiction
  intro hne
  have hq := fac_out (t := x) hp (h0 x List.mem_cons_self)
  have hlen := prod_len hm hP (fac_tm hm) hq.1 hq.2 hne
  have hf : (fac p x).length = 2 := rfl
  have hxs := List.nodup_cons.1 hn
  refine hlen.2.1 (ih _ (fun y hy => hx y (List.mem_cons_of_mem _ hy)) hxs.2 hq.1 (by simp at hl; omega) (fun y hy => ?_))
  have e := vl_mul (p := p) (t := y) (zs := P) (xs := fac p x) (ys := sq p x P) hq.2
  rw [h0 y (List.mem_cons_of_mem _ hy), vl_fac, Int.mul_comm] at e
  have hyx : y ≠ x := fun e => hxs.1 (by rw [← e]; exact hy)
  have := no_div hm _ _ (by rw [Int.emod_emod_of_dvd _ (Int.dvd_refl p)]; exact ne_mod (hx y (List.mem_cons_of_mem _ hy)) (hx x List.mem_cons_self) hyx) e.symm
  rwa [(vl_el hp y _).mod] at this
def Thr (p : Int) (xs ys T : List Int) : Prop := Tm p T ∧ T.length ≤ xs.length ∧ ∀ i, i < xs.length → vl p (co xs i) T = co ys i
theorem Thr.only {p : Int} {wd : Bool} (hm : Md p wd) {xs ys T U : List Int} (hx : Els p xs) (hn : xs.Nodup) (hT : Thr p xs ys T) (hU : Thr p xs ys U) : T = U := by
 have hp : 0 < p := by have := hm.bounds; omega
 have hD := is_sub hp T U
 have hl : (tr (sm p (sub p 0 1) T U)).length ≤ xs.length := by
  refine Nat.le_trans (tr_len _) ?_
  rw [sm_len]; have := hT.2.1; have := hU.2.1; omega
 have hs : pl p T = qa (pl p (tr (sm p (sub p 0 1) T U))) (pl p U) := by
  rw [hD.tm.2]
  exact pu_eq (fun i => by show co T i % p = (co T i - co U i + co U i) % p; congr 1; omega)
 have h0 := roots_zero hm xs _ hx hn hD.tm.1 hl (fun x hx' => by
  obtain ⟨i, hi, rfl⟩ := List.mem_iff_getElem.1 hx'
  have e := vl_add (p := p) (t := xs[i]) hs
  have e1 := hT.2.2 i hi
  have e2 := hU.2.2 i hi
  rw [co_at hi] at e1 e2
  rw [e1, e2] at e
  have hy : El p (co ys i) := by rw [← e1]; exact vl_el hp _ _
  have hv := vl_el hp xs[i] (tr (sm p (sub p 0 1) T U))
  generalize vl p xs[i] (tr (sm p (sub p 0 1) T U)) = d at *
  generalize co ys i = y at *
  have h1 := hv.1; have h2 := hv.2; have h3 := hy.1; have h4 := hy.2
  by_cases hlt : d + y < p
  · rw [Int.emod_eq_of_lt (by omega) hlt] at e; omega
  · rw [emod_sub_self _ _ (by omega) (by omega)] at e; omega)
 rw [h0] at hs
 rw [pl_nil_add] at hs
 exact hT.1.only hp hU.1 hs
theorem nodup_inj {xs : List Int} (hn : xs.Nodup) {i j : Nat} (hi : i < xs.length) (hj : j < xs.length) (h : xs[i] = xs[j]) : i = j := by
 have hp := List.pairwise_iff_getElem.1 hn
 rcases Nat.lt_trichotomy i j with h1 | h1 | h1
 · exact absurd h (hp i j hi hj h1)
 · exact h1
 · exact absurd h.symm (hp j i hj hi h1)
theorem mem_erase {xs : List Int} {i j : Nat} (hi : i < xs.length) (hj : j < xs.length) (h : j ≠ i) : xs[j] ∈ xs.eraseIdx i := List.mem_eraseIdx_iff_getElem?.2 ⟨j, h, List.getElem?_eq_getElem hj⟩
theorem not_mem_erase {xs : List Int} {i : Nat} (hi : i < xs.length) (hn : xs.Nodup) : xs[i] ∉ xs.eraseIdx i := by
 intro h
 obtain ⟨j, hj, he⟩ := List.mem_eraseIdx_iff_getElem?.1 h
 have hj2 : j < xs.length := by
  apply Nat.lt_of_not_le; intro hc; rw [List.getElem?_eq_none hc] at he; cases he
 rw [List.getElem?_eq_getElem hj2] at he
 injection he with he
 exact hj (nodup_inj hn hj2 hi he)
theorem els_erase {p : Int} {xs : List Int} (h : Els p xs) (i : Nat) : Els p (xs.eraseIdx i) := fun x hx => h x (List.mem_of_mem_eraseIdx hx)
def dp (p x : Int) (zs : List Int) : Int := vl p x (zl p zs)
def wt (p : Int) (xs : List Int) (i : Nat) : Int := inv p (dp p (co xs i) (xs.eraseIdx i))
def bs (p : Int) (xs : List Int) (x : Int) (i : Nat) : Int := mul p (wt p xs i) (dp p x (xs.eraseIdx i))
theorem dp_el {p : Int} (hp : 0 < p) (x : Int) (zs : List Int) : El p (dp p x zs) := vl_el hp _ _
theorem dp_nil {p : Int} {wd : Bool} (hm : Md p wd) (x : Int) : dp p x [] = 1 := by
 have hb := hm.bounds
 show (1 + x * 0) % p = 1
 rw [Int.mul_zero]; exact Int.emod_eq_of_lt (by decide) (by omega)
theorem dp_cons {p : Int} {wd : Bool} (hm : Md p wd) (x : Int) (zs : List Int) (z : Int) : dp p x (z :: zs) = mul p (sub p x z) (dp p x zs) := by
 have e := vl_mul (p := p) (t := x) (zs := zl p (z :: zs)) (xs := fac p z) (ys := zl p zs) (by show pl p (prd p (fac p z) (zl p zs)) = _; rw [pl_mul])
 rw [vl_fac] at e
 exact e
theorem dp_un {p : Int} {wd : Bool} (hm : Md p wd) {xs : List Int} (hx : Els p xs) (hn : xs.Nodup) {i : Nat} (hi : i < xs.length) : Un p (dp p (co xs i) (xs.eraseIdx i)) := by
 have hp : 0 < p := by have := hm.bounds; omega
 refine ⟨dp_el hp _ _, fun h => ?_⟩
 have he : El p (co xs i) := hx.co hp i
 have := (zl_root hm he (els_erase hx i)).1 h
 rw [co_at hi] at this
 exact not_mem_erase hi hn this
theorem bs_el {p : Int} (hp : 0 < p) (xs : List Int) (x : Int) (i : Nat) : El p (bs p xs x i) := mul_el hp
theorem bs_here {p : Int} {wd : Bool} (hm : Md p wd) {xs : List Int} (hx : Els p xs) (hn : xs.Nodup) {i : Nat} (hi : i < xs.length) : bs p xs (co xs i) i = 1 := by
 unfold bs wt
 rw [ring_comm]
 have := dp_un hm hx hn hi
 exact mul_inv hm _ this.1 this.2
theorem bs_far {p : Int} {wd : Bool} (hm : Md p wd) {xs : List Int} (hx : Els p xs) {i j : Nat} (hi : i < xs.length) (hj : j < xs.length) (h : j ≠ i) : bs p xs (co xs j) i = 0 := by
 have hp : 0 < p := by have := hm.bounds; omega
 unfold bs
 have : dp p (co xs j) (xs.eraseIdx i) = 0 := (zl_root hm (hx.co hp j) (els_erase hx i)).2 (by rw [co_at hj]; exact mem_erase hi hj h)
 rw [this]; exact mul_zero_right p _
def sc (p c : Int) (xs : List Int) : List Int := tr (sm p c [] xs)
theorem sc_facts {p : Int} (hp : 0 < p) (c : Int) (xs : List Int) : Tm p (sc p c xs) ∧ pl p (sc p c xs) = qm (pl p [c]) (pl p xs) ∧ (sc p c xs).length ≤ xs.length := by
 have h := is_scale hp c xs
 refine ⟨h.tm.1, h.tm.2, Nat.le_trans (tr_len _) ?_⟩
 rw [sm_len]; simp
theorem vl_one (p t c : Int) : vl p t [c] = c % p := by
 show (c + t * 0) % p = c % p
 rw [Int.mul_zero, Int.add_zero]
theorem vl_sc {p : Int} (hp : 0 < p) (t c : Int) (xs : List Int) : vl p t (sc p c xs) = mul p c (vl p t xs) := by
 rw [vl_mul (sc_facts hp c xs).2.1, vl_one]
 exact mul_emod_left c _ p
def tp (p : Int) (xs ys : List Int) : Nat → List Int
 | 0 => []
 | k + 1 => tr (sm p 1 (tp p xs ys k) (sc p (mul p (wt p xs k) (co ys k)) (zl p (xs.eraseIdx k))))
def ds (p : Int) (f g : Nat → Int) : Nat → Int
 | 0 => 0
 | k + 1 => add p (ds p f g k) (mul p (f k) (g k))
theorem ds_el {p : Int} (hp : 0 < p) (f g : Nat → Int) (k : Nat) : El p (ds p f g k) := by
 cases k with
 | zero => exact ⟨Int.le_refl 0, hp⟩
 | succ k => exact add_el hp
theorem ds_congr {p : Int} {f g f' g' : Nat → Int} (k : Nat) (hf : ∀ i, i < k → f i = f' i) (hg : ∀ i, i < k → g i = g' i) : ds p f g k = ds p f' g' k := by
 induction k with
 | zero => rfl
 | succ k ih => show add p _ _ = add p _ _; rw [ih (fun i hi => hf i (by omega)) (fun i hi => hg i (by omega)), hf k (by omega), hg k (by omega)]
theorem tp_tm {p : Int} (hp : 0 < p) (xs ys : List Int) (k : Nat) : Tm p (tp p xs ys k) := by
 cases k with
 | zero => exact Tm.nil p
 | succ k => exact (is_add hp _ _).tm.1
theorem tp_len {p : Int} {wd : Bool} (hm : Md p wd) (xs ys : List Int) (k : Nat) (hk : k ≤ xs.length) : (tp p xs ys k).length ≤ xs.length := by
 have hp : 0 < p := by have := hm.bounds; omega
 induction k with
 | zero => exact Nat.zero_le _
 | succ k ih =>
  refine Nat.le_trans (tr_len _) ?_
  rw [sm_len]
  have h1 := (sc_facts hp (mul p (wt p xs k) (co ys k)) (zl p (xs.eraseIdx k))).2.2
  rw [(zl_facts hm _).2.2, List.length_eraseIdx, if_pos (by omega)] at h1
  have := ih (by omega)
  omega
theorem vl_tp {p : Int} {wd : Bool} (hm : Md p wd) (t : Int) (xs ys : List Int) (k : Nat) : vl p t (tp p xs ys k) = ds p (bs p xs t) (co ys) k := by
 have hp : 0 < p := by have := hm.bounds; omega
 induction k with
 | zero => exact Int.zero_emod p
 | succ k ih =>
  have h := vl_add (p := p) (t := t) (zs := tp p xs ys (k + 1)) (xs := tp p xs ys k) (ys := sc p (mul p (wt p xs k) (co ys k)) (zl p (xs.eraseIdx k))) (by show pl p (tr (sm p 1 (tp p xs ys k) (sc p (mul p (wt p xs k) (co ys k)) (zl p (xs.eraseIdx k))))) = _; rw [pl_tr, pl_add])
  rw [h, ih, vl_sc hp]
  show add p _ _ = add p _ _
  congr 1
  show mul p (mul p (wt p xs k) (co ys k)) (dp p t (xs.eraseIdx k)) = mul p (mul p (wt p xs k) (dp p t (xs.eraseIdx k))) (co ys k)
  rw [ring_assoc, ring_comm p (co ys k), ← ring_assoc]
theorem ds_zero {p : Int} (f g : Nat → Int) (k : Nat) (h : ∀ i, i < k → f i = 0) : ds p f g k = 0 := by
 induction k with
 | zero => rfl
 | succ k ih =>
  show add p _ _ = 0
  rw [ih (fun i hi => h i (by omega)), h k (by omega), mul_zero_left]; exact Int.zero_emod p
theorem ds_one {p : Int} (hp : 0 < p) (f g : Nat → Int) (n j : Nat) (hj : j < n) (h1 : f j = 1) (h0 : ∀ i, i < n → i ≠ j → f i = 0) (hg : El p (g j)) : ds p f g n = g j := by
 induction n with
 | zero => omega
 | succ n ih =>
  show add p _ _ = _
  by_cases e : j = n
  · subst e
    rw [ds_zero f g j (fun i hi => h0 i (by omega) (by omega)), h1]
    unfold add mul
    rw [Int.one_mul, Int.zero_add, Int.emod_emod_of_dvd _ (Int.dvd_refl p)]; exact hg.mod
  · rw [ih (by omega) (fun i hi hne => h0 i (by omega) hne), h0 n (by omega) (by omega), mul_zero_left]
    unfold add
    rw [Int.add_zero]; exact hg.mod
theorem tp_thr {p : Int} {wd : Bool} (hm : Md p wd) {xs ys : List Int} (hx : Els p xs) (hy : Els p ys) (hn : xs.Nodup) : Thr p xs ys (tp p xs ys xs.length) := by
 have hp : 0 < p := by have := hm.bounds; omega
 refine ⟨tp_tm hp xs ys _, tp_len hm xs ys _ (Nat.le_refl _), fun i hi => ?_⟩
 rw [vl_tp hm]
 exact ds_one hp _ _ _ i hi (bs_here hm hx hn hi) (fun j hj hne => bs_far hm hx hj hi (fun e => hne e.symm)) (hy.co hp i)
theorem Thr.value {p : Int} {wd : Bool} (hm : Md p wd) {xs ys T : List Int} (hx : Els p xs) (hy : Els p ys) (hn : xs.Nodup) (hT : Thr p xs ys T) (t : Int) : vl p t T = ds p (bs p xs t) (co ys) xs.length := by
 rw [hT.only hm hx hn (tp_thr hm hx hy hn), vl_tp hm]
theorem zr_take_out (p : Int) (xs : List Int) (i : Nat) (hi : i < xs.length) : zr p xs = qm (pl p (fac p xs[i])) (zr p (xs.eraseIdx i)) := by
 induction xs generalizing i with
 | nil => simp at hi
 | cons x xs ih =>
  cases i with
  | zero => rfl
  | succ i =>
   have h := ih i (by simp at hi; omega)
   show qm (pl p (fac p x)) (zr p xs) = qm (pl p (fac p (xs[i]'(by simp at hi; omega)))) (qm (pl p (fac p x)) (zr p (xs.eraseIdx i)))
   rw [h, qm_left]
theorem slp_fac {p x : Int} {wd : Bool} (hm : Md p wd) : slp p (fac p x) = [1] := by
 have hb := hm.bounds
 have : slp p (fac p x) = tr [1 % p] := by
  show tr (mk 1 (fun i => (((i : Int) + 1) * co (fac p x) (i + 1)) % p)) = _
  rfl
 rw [this, Int.emod_eq_of_lt (by decide) (by omega)]; rfl
theorem slp_place {p : Int} {wd : Bool} (hm : Md p wd) {xs : List Int} {i : Nat} (hi : i < xs.length) : vl p (co xs i) (slp p (zl p xs)) = dp p (co xs i) (xs.eraseIdx i) := by
 have hp : 0 < p := by have := hm.bounds; omega
 have h := slp_mul hp (zs := zl p xs) (xs := fac p xs[i]) (ys := zl p (xs.eraseIdx i)) (by rw [(zl_facts hm _).2.1, (zl_facts hm _).2.1]; exact zr_take_out p xs i hi)
 rw [slp_fac hm, pl_one_mul] at h
 have e := vl_add (p := p) (t := co xs i) (zs := slp p (zl p xs)) (xs := zl p (xs.eraseIdx i)) (ys := prd p (fac p xs[i]) (slp p (zl p (xs.eraseIdx i)))) (by rw [h, pl_mul])
 have e2 := vl_mul (p := p) (t := co xs i) (zs := prd p (fac p xs[i]) (slp p (zl p (xs.eraseIdx i)))) (pl_mul p _ _)
 rw [vl_fac, co_at hi, Int.sub_self, Int.zero_emod, Int.zero_mul, Int.zero_emod] at e2
 rw [co_at hi] at e ⊢
 rw [e, e2, Int.add_zero]
 exact (dp_el hp _ _).mod
end Go.Proofs.YtnakbpaiidolbaaGreat.Fld
namespace Go.Proofs.YtnakbpaiidolbaaGreat.Shr
open Go.Proofs.YtnakbpaiidolbaaGreat.Fld
set_option linter.unusedVariables false
def col (bl : List (List Int)) (t : Nat) : List Int := bl.map (fun b => co b t)
theorem col_len (bl : List (List Int)) (t : Nat) : (col bl t).length = bl.length := List.length_map ..
theorem col_at {bl : List (List Int)} {t k : Nat} (hk : k < bl.length) : co (col bl t) k = co bl[k] t := by
 rw [co_at (by rw [col_len]; exact hk)]; unfold col; rw [List.getElem_map]
theorem col_els {p : Int} (hp : 0 < p) {bl : List (List Int)} (h : ∀ b ∈ bl, Els p b) (t : Nat) : Els p (col bl t) := fun y hy => by
 obtain ⟨b, hb, rfl⟩ := List.mem_map.1 hy
 exact (h b hb).co hp t
def py (p : Int) (xs : List Int) (bl : List (List Int)) (t : Nat) : List Int := tp p xs (col bl t) xs.length
theorem py_thr {p : Int} {wd : Bool} (hm : Md p wd) {xs : List Int} (hx : Els p xs) (hn : xs.Nodup) {bl : List (List Int)} (hb : ∀ b ∈ bl, Els p b) (t : Nat) : Thr p xs (col bl t) (py p xs bl t) := tp_thr hm hx (col_els (by have := hm.bounds; omega) hb t) hn
def pys (p : Int) (xs : List Int) (w : Nat) (bl : List (List Int)) : List (List Int) := (List.range w).map (py p xs bl)
def shr (p : Int) (xs : List Int) (w : Nat) (bl : List (List Int)) (x : Int) : List Int := mk w (fun t => vl p x (py p xs bl t))
theorem shr_pys (p : Int) (xs : List Int) (w : Nat) (bl : List (List Int)) (x : Int) : (pys p xs w bl).map (vl p x) = shr p xs w bl x := by unfold pys shr mk; rw [List.map_map]; rfl
theorem shr_len (p : Int) (xs : List Int) (w : Nat) (bl : List (List Int)) (x : Int) : (shr p xs w bl x).length = w := mk_len _ _
theorem shr_at {p : Int} {xs : List Int} {w : Nat} {bl : List (List Int)} {x : Int} {t : Nat} (ht : t < w) : co (shr p xs w bl x) t = vl p x (py p xs bl t) := by unfold shr; rw [co_mk, if_pos ht]
theorem shr_els {p : Int} (hp : 0 < p) (xs : List Int) (w : Nat) (bl : List (List Int)) (x : Int) : Els p (shr p xs w bl x) := Els.mk _ (fun _ _ => vl_el hp _ _)
theorem shr_row {p : Int} {wd : Bool} (hm : Md p wd) {xs : List Int} (hx : Els p xs) (hn : xs.Nodup) {w : Nat} {bl : List (List Int)} (hb : ∀ b ∈ bl, Els p b) (x : Int) {t : Nat} (ht : t < w) : co (shr p xs w bl x) t = ds p (bs p xs x) (co (col bl t)) xs.length := by
 have hp : 0 < p := by have := hm.bounds; omega
 rw [shr_at ht]; exact Thr.value hm hx (col_els hp hb t) hn (py_thr hm hx hn hb t) x
end Go.Proofs.YtnakbpaiidolbaaGreat.Shr
namespace Go.Proofs.YtnakbpaiidolbaaGreat.Fld
set_option linter.unusedVariables false
def pd (p : Int) : List Int → Int
 | [] => 1
 | x :: l => mul p x (pd p l)
theorem pd_el {p : Int} {wd : Bool} (hm : Md p wd) (l : List Int) : El p (pd p l) := by
 have hb := hm.bounds
 cases l with
 | nil => exact ⟨by show (0 : Int) ≤ 1; decide, by show (1 : Int) < p; omega⟩
 | cons x l => exact mul_el (by omega)
theorem one_mul_el {p a : Int} (ha : El p a) : mul p 1 a = a := by rw [ring_comm]; exact mul_one_el ha
theorem pd_append {p : Int} {wd : Bool} (hm : Md p wd) (l m : List Int) : pd p (l ++ m) = mul p (pd p l) (pd p m) := by
 induction l with
 | nil => exact (one_mul_el (pd_el hm m)).symm
 | cons x l ih => show mul p x (pd p (l ++ m)) = mul p (mul p x (pd p l)) (pd p m); rw [ih, ring_assoc]
theorem pd_one {p x : Int} (hx : El p x) : pd p [x] = x := mul_one_el hx
theorem pd_snoc {p x : Int} {wd : Bool} (hm : Md p wd) (l : List Int) (hx : El p x) : pd p (l ++ [x]) = mul p (pd p l) x := by rw [pd_append hm, pd_one hx]
def ot (p : Int) (l : List Int) (i : Nat) : Int := mul p (pd p (l.take i)) (pd p (l.drop (i + 1)))
theorem ot_el {p : Int} (hp : 0 < p) (l : List Int) (i : Nat) : El p (ot p l i) := mul_el hp
theorem ot_erase {p : Int} {wd : Bool} (hm : Md p wd) (l : List Int) (i : Nat) : ot p l i = pd p (l.eraseIdx i) := by
 rw [List.eraseIdx_eq_take_drop_succ, pd_append hm]; rfl
theorem pd_ahead {p : Int} {wd : Bool} (hm : Md p wd) {l : List Int} (hl : Els p l) {i : Nat} (hi : i < l.length) : pd p (l.take (i + 1)) = mul p (pd p (l.take i)) (co l i) := by
 have he : El p (co l i) := hl.co (by have := hm.bounds; omega) i
 rw [List.take_succ_eq_append_getElem hi, pd_snoc hm _ (by rw [← co_at hi]; exact he), co_at hi]
theorem pd_behind {p : Int} {wd : Bool} (hm : Md p wd) {l : List Int} {i : Nat} (hi : i < l.length) : pd p (l.drop i) = mul p (pd p (l.drop (i + 1))) (co l i) := by
 rw [List.drop_eq_getElem_cons hi, co_at hi, ring_comm]; rfl
theorem ot_whole {p : Int} {wd : Bool} (hm : Md p wd) {l : List Int} (hl : Els p l) {i : Nat} (hi : i < l.length) : mul p (co l i) (ot p l i) = pd p l := by
 have e : pd p l = mul p (pd p (l.take i)) (pd p (l.drop i)) := by rw [← pd_append hm, List.take_append_drop]
 rw [e, pd_behind hm hi]
 unfold ot
 rw [← ring_assoc, ring_comm p (co l i), ring_assoc, ring_comm p (co l i)]
theorem pd_un {p : Int} {wd : Bool} (hm : Md p wd) (l : List Int) (h : ∀ x ∈ l, Un p x) : Un p (pd p l) := by
 have hb := hm.bounds
 induction l with
 | nil => exact ⟨pd_el hm [], by show (1 : Int) ≠ 0; decide⟩
 | cons x l ih => exact Un.mul hm (h x List.mem_cons_self) (ih (fun y hy => h y (List.mem_cons_of_mem _ hy)))
theorem ot_inv {p : Int} {wd : Bool} (hm : Md p wd) {l : List Int} (h : ∀ x ∈ l, Un p x) {i : Nat} (hi : i < l.length) : mul p (inv p (pd p l)) (ot p l i) = inv p (co l i) := by
 have hb := hm.bounds
 have hu : Un p (co l i) := by rw [co_at hi]; exact h _ (List.getElem_mem hi)
 have hw := pd_un hm l h
 refine inv_eq hm hu (mul_el (by omega)) ?_
 rw [ring_comm p (inv p (pd p l)), ← ring_assoc, ot_whole hm (fun x hx => (h x hx).1) hi]
 exact mul_inv hm _ hw.1 hw.2
theorem dp_pd {p x : Int} {wd : Bool} (hm : Md p wd) (zs : List Int) : dp p x zs = pd p (zs.map (fun z => sub p x z)) := by
 induction zs with
 | nil => exact dp_nil hm x
 | cons z zs ih => rw [dp_cons hm, ih]; rfl
theorem map_erase (g : Int → Int) (xs : List Int) (i : Nat) : (xs.map g).eraseIdx i = (xs.eraseIdx i).map g := by
 rw [List.eraseIdx_eq_take_drop_succ, List.eraseIdx_eq_take_drop_succ, List.map_append, List.map_take, List.map_drop]
theorem ot_diff {p x : Int} {wd : Bool} (hm : Md p wd) (xs : List Int) (i : Nat) : ot p (xs.map (fun z => sub p x z)) i = dp p x (xs.eraseIdx i) := by
 rw [ot_erase hm, map_erase, dp_pd hm]
def wts (p : Int) (xs : List Int) : List Int := mk xs.length (wt p xs)
def bsl (p : Int) (xs : List Int) (x : Int) : List Int := mk xs.length (bs p xs x)
theorem wts_len (p : Int) (xs : List Int) : (wts p xs).length = xs.length := mk_len _ _
theorem bsl_len (p : Int) (xs : List Int) (x : Int) : (bsl p xs x).length = xs.length := mk_len _ _
theorem wt_el {p : Int} (hp : 0 < p) (xs : List Int) (i : Nat) : El p (wt p xs i) := pow_el hp
theorem wts_els {p : Int} (hp : 0 < p) (xs : List Int) : Els p (wts p xs) := Els.mk _ (fun i _ => wt_el hp xs i)
theorem bsl_els {p : Int} (hp : 0 < p) (xs : List Int) (x : Int) : Els p (bsl p xs x) := Els.mk _ (fun i _ => bs_el hp xs x i)
theorem wts_at {p : Int} {xs : List Int} {i : Nat} (hi : i < xs.length) : co (wts p xs) i = wt p xs i := by unfold wts; rw [co_mk, if_pos hi]
theorem bsl_at {p : Int} {xs : List Int} {x : Int} {i : Nat} (hi : i < xs.length) : co (bsl p xs x) i = bs p xs x i := by unfold bsl; rw [co_mk, if_pos hi]
end Go.Proofs.YtnakbpaiidolbaaGreat.Fld
