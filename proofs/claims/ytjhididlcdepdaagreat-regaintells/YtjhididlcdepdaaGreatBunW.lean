import Derived.Test.YtjhididlcdepdaaGreatBunP
import Derived.Test.YtjhididlcdepdaaGreatBBas
import Derived.Shelf.Spec.BitsCarry
import Derived.Shelf.Bits.Mul64
import Derived.Deep.RegionHeld3
import Derived.Deep.AppendLies
import Derived.BigQuiet
import Derived.Laws.AppendOwnNone
set_option linter.unusedVariables false
set_option linter.unusedSimpArgs false
set_option maxRecDepth 100000
set_option maxHeartbeats 4000000
namespace Go.Proofs.YtjhididlcdepdaaGreat.Fld
def Un (p a : Int) : Prop := El p a ∧ a ≠ 0
theorem Un.pos {p a : Int} (h : Un p a) : 0 < a := by have := h.1.1; have := h.2; omega
theorem mul_one_el {p a : Int} (ha : El p a) : mul p a 1 = a := by unfold mul; rw [Int.mul_one]; exact Int.emod_eq_of_lt ha.1 ha.2
theorem mul_zero_left (p a : Int) : mul p 0 a = 0 := by simp [mul]
theorem Un.mul {p a b : Int} {wd : Bool} (h : Md p wd) (ha : Un p a) (hb : Un p b) : Un p (mul p a b) := by
 have hp := h.bounds
 refine ⟨mul_el (by omega), fun hz => ?_⟩
 have e := ring_assoc p a b (inv p b)
 rw [mul_inv h b hb.1 hb.2, mul_one_el ha.1, hz, mul_zero_left] at e
 exact ha.2 e.symm
theorem inv_un {p a : Int} {wd : Bool} (h : Md p wd) (ha : Un p a) : Un p (inv p a) := by
 have hp := h.bounds
 refine ⟨pow_el (by omega), fun hz => ?_⟩
 have e := mul_inv h a ha.1 ha.2
 rw [hz, ring_comm, mul_zero_left] at e
 omega
theorem inv_eq {p a x : Int} {wd : Bool} (h : Md p wd) (ha : Un p a) (hx : El p x) (hm : mul p a x = 1) : x = inv p a := by
 have hp := h.bounds
 exact IsInv.eq h ha.pos ha.1.2 ⟨hx, by have : (a * x) % p = 1 := hm; rw [this]; exact (Int.emod_eq_of_lt (by decide) (by omega)).symm⟩
theorem set_getD (ys : List Int) (k j : Nat) (v : Int) (hk : k < ys.length) : (ys.set k v).getD j 0 = if j = k then v else ys.getD j 0 := by
 simp only [List.getD_eq_getElem?_getD, List.getElem?_set]
 by_cases h : j = k
 · subst h; simp [hk]
 · have : ¬ k = j := fun e => h e.symm
   simp [h, this]
end Go.Proofs.YtjhididlcdepdaaGreat.Fld
namespace Go.Proofs.YtjhididlcdepdaaGreat
open Go.RowKit Fld
theorem add64 (x y : Int) (hx : 0 <= x) (hy : 0 <= y) (w : World) : (callFunc 95 #[.int .u64 x, .int .u64 y, .int .u64 0]).run Tryz.prog w =
 .ok (.value (.tuple #[.int .u64 (low64 (x + y)), .int .u64 (high64 (x + y))])) w := by
 rw [run_callFunc_extern Tryz.func95 (by kernel_rfl) (by kernel_rfl) (by kernel_rfl) (e := add64Entry) (by kernel_rfl), run_add64 x y 0 hx hy (by decide) (by decide)]
 simp only [Result.andThen, low64, high64, Int.add_zero]
theorem sub64 (x y : Int) (hx : 0 <= x) (hy : 0 <= y) (hy' : y < 18446744073709551616) (w : World) : (callFunc 194 #[.int .u64 x, .int .u64 y, .int .u64 0]).run Tryz.prog w =
 .ok (.value (.tuple #[.int .u64 (low64 (x - y)), .int .u64 (if x < y then 1 else 0)])) w := by
 obtain ⟨x, rfl⟩ := Int.eq_ofNat_of_zero_le hx
 obtain ⟨y, rfl⟩ := Int.eq_ofNat_of_zero_le hy
 have e1 : (((x + 18446744073709551616 - y - 0) % 18446744073709551616 : Nat) : Int) = low64 ((x : Int) - y) := by unfold low64; omega
 have e2 : ((if x < y + 0 then 1 else 0 : Nat) : Int) = if (x : Int) < y then 1 else 0 := by split <;> split <;> omega
 rw [<- e1, <- e2, run_callFunc_extern Tryz.func194 (by kernel_rfl) (by kernel_rfl) (by kernel_rfl) (e := sub64Entry) (by kernel_rfl)]
 refine (congrArg (fun r => Result.andThen r _) (run_sub64 x y 0 (by decide) w)).trans ?_
 rfl
theorem sub64_lt (x y : Int) (hx : 0 <= x) (hy' : y < 18446744073709551616) (h : x < y) (w : World) : (callFunc 194 #[.int .u64 x, .int .u64 y, .int .u64 0]).run Tryz.prog w =
 .ok (.value (.tuple #[.int .u64 (low64 (x - y)), .int .u64 1])) w := by
 rw [sub64 x y hx (by omega) hy' w, if_pos h]
theorem sub64_ge (x y : Int) (hy : 0 <= y) (hx' : x < 18446744073709551616) (h : y <= x) (w : World) : (callFunc 194 #[.int .u64 x, .int .u64 y, .int .u64 0]).run Tryz.prog w =
 .ok (.value (.tuple #[.int .u64 (x - y), .int .u64 0])) w := by
 have e : low64 (x - y) = x - y := by unfold low64; omega
 rw [sub64 x y (by omega) hy (by omega) w, if_neg (by omega), e]
theorem ret_u64 {a b : Int} (h : a = b) : Ending.returned (.int .u64 a) = .returned (.int .u64 b) := by rw [h]
theorem add_any (p a b : Int) (wd : Bool) (w : World) (hp : p <= 18446744073709551615) (ha : 0 <= a) (hb : 0 <= b) (ha' : a <= 18446744073709551615) (hb' : b <= 18446744073709551615) (hs : a + b < 2 * p) :
 Calls Tryz.prog 131 #[.agg #[.int .u64 p, .bool wd], .int .u64 a, .int .u64 b] w fun e w' =>
  e = .returned (.int .u64 (add p a b)) ∧ Below w.heap.size w w' := by
 by_cases h1 : a + b < p
 · have e1 : low64 (a + b) = a + b := by unfold low64; omega
   have e2 : high64 (a + b) = 0 := by unfold high64; omega
   have hadd := fun w => add64 a b ha hb w
   rw [e1, e2] at hadd
   have HF : Hid (add p a b = a + b) := by unfold add; exact Int.emod_eq_of_lt (by omega) h1
   clear e1 e2
   go_enter Tryz.func131, Tryz.ntmps131
   go_wp2_with (simp only [hadd])
   go_ret
   exact ⟨ret_u64 HF.out.symm, (Below.refl _ _).alloc (Nat.le_refl _) _⟩
 have HF : Hid (add p a b = a + b - p) := by unfold add; exact emod_sub_self _ _ (by omega) hs
 have hadd := fun w => add64 a b ha hb w
 by_cases h2 : a + b <= 18446744073709551615
 · have e1 : low64 (a + b) = a + b := by unfold low64; omega
   have e2 : high64 (a + b) = 0 := by unfold high64; omega
   rw [e1, e2] at hadd
   clear e1 e2
   go_enter Tryz.func131, Tryz.ntmps131
   go_wp2_with (simp only [hadd])
   go_ret
   exact ⟨ret_u64 HF.out.symm, (Below.refl _ _).alloc (Nat.le_refl _) _⟩
 · have HL : Hid (low64 (a + b) = a + b - 18446744073709551616) := by show low64 (a + b) = _; unfold low64; omega
   have e2 : high64 (a + b) = 1 := by unfold high64; omega
   rw [e2] at hadd
   clear e2
   generalize low64 (a + b) = lo at *
   go_enter Tryz.func131, Tryz.ntmps131
   go_wp2_with (simp only [hadd])
   go_ret
   refine ⟨ret_u64 ?_, (Below.refl _ _).alloc (Nat.le_refl _) _⟩
   rw [HF.out, HL.out, IntKind.wrap_u64]; omega
theorem sub_raw (p a b : Int) (wd : Bool) (w : World) (hp : p <= 18446744073709551615) (ha : 0 <= a) (hb : 0 <= b) (ha' : a <= 18446744073709551615) (hb' : b < p) :
 Calls Tryz.prog 185 #[.agg #[.int .u64 p, .bool wd], .int .u64 a, .int .u64 b] w fun e w' =>
  e = .returned (.int .u64 (subR p a b)) ∧ Below w.heap.size w w' := by
 by_cases h1 : a < b
 · have hsub := fun w => sub64_lt a b ha (by omega) h1 w
   have HL : Hid (low64 (a - b) = a - b + 18446744073709551616) := by show low64 (a - b) = _; unfold low64; omega
   have HF : Hid (subR p a b = a - b + p) := by unfold subR; exact if_pos h1
   generalize low64 (a - b) = lo at *
   go_enter Tryz.func185, Tryz.ntmps185
   go_wp2_with (simp only [hsub])
   go_ret
   refine ⟨ret_u64 ?_, (Below.refl _ _).alloc (Nat.le_refl _) _⟩
   rw [HF.out, HL.out, IntKind.wrap_u64]; omega
 · have hsub := fun w => sub64_ge a b hb (by omega) (by omega) w
   have HF : Hid (subR p a b = a - b) := by unfold subR; exact if_neg h1
   go_enter Tryz.func185, Tryz.ntmps185
   go_wp2_with (simp only [hsub])
   go_ret
   exact ⟨ret_u64 HF.out.symm, (Below.refl _ _).alloc (Nat.le_refl _) _⟩
theorem sub_any (p a b : Int) (wd : Bool) (w : World) (hp : p <= 18446744073709551615) (ha : El p a) (hb : El p b) :
 Calls Tryz.prog 185 #[.agg #[.int .u64 p, .bool wd], .int .u64 a, .int .u64 b] w fun e w' =>
  e = .returned (.int .u64 (sub p a b)) ∧ Below w.heap.size w w' := by
 obtain ⟨a1, a2⟩ := ha; obtain ⟨b1, b2⟩ := hb
 rw [<- subR_sub p a b a1 a2 b1 b2]
 exact sub_raw p a b wd w hp a1 b1 (by omega) b2
def mulRen : Shelf.Ren := ⟨fun _ => 94, fun n => if n = 46 then 148 else 64, fun x => x⟩
theorem mulLays : Lays.n264 Tryz.prog mulRen where
 mixed := by kernel_rfl
 f264 := by kernel_rfl
 t46 := by kernel_rfl
 a46 := fun _ => by kernel_rfl
 z46 := fun _ => by kernel_rfl
 v46 := fun _ => by kernel_rfl
 t53 := by kernel_rfl
 a53 := fun _ => by kernel_rfl
 z53 := fun _ => by kernel_rfl
 v53 := fun _ => by kernel_rfl
theorem mul64_nat (x y : Nat) (hx : x < 18446744073709551616) (hy : y < 18446744073709551616) (w : World) :
 Calls Tryz.prog 94 #[.int .u64 x, .int .u64 y] w fun e w' => e = .returned (.tuple #[.int .u64 ((x * y / 18446744073709551616 : Nat) : Int), .int .u64 ((x * y % 18446744073709551616 : Nat) : Int)]) ∧ w' = w :=
 Any.bits_Mul64 mulLays x y hx hy w
theorem mul64_any (x y : Int) (w : World) (hx : 0 <= x) (hx' : x < 18446744073709551616) (hy : 0 <= y) (hy' : y < 18446744073709551616) :
 Calls Tryz.prog 94 #[.int .u64 x, .int .u64 y] w fun e w' => e = .returned (.tuple #[.int .u64 (high64 (x * y)), .int .u64 (low64 (x * y))]) ∧ w' = w := by
 obtain ⟨x, rfl⟩ := Int.eq_ofNat_of_zero_le hx
 obtain ⟨y, rfl⟩ := Int.eq_ofNat_of_zero_le hy
 refine (mul64_nat x y (by omega) (by omega) w).mono ?_
 rintro e w' ⟨rfl, rfl⟩
 refine ⟨?_, rfl⟩
 have e1 : ((x * y / 18446744073709551616 : Nat) : Int) = high64 ((x : Int) * y) := by unfold high64; rw [<- Int.natCast_mul]; omega
 have e2 : ((x * y % 18446744073709551616 : Nat) : Int) = low64 ((x : Int) * y) := by unfold low64; rw [<- Int.natCast_mul]; omega
 rw [e1, e2]
theorem mask_int (a : Int) (h0 : 0 <= a) (h1 : a <= 18446744073709551615) : bits .and .u64 a 4294967295 = a % 4294967296 := by
 obtain ⟨a, rfl⟩ := Int.eq_ofNat_of_zero_le h0
 rw [Mul64.maskN a (by omega)]; omega
def Boxed (w0 : World) (p : Int) (wd : Bool) (w : World) : Prop :=
 w.cell? ⟨w0.heap.size, 0, none⟩ = some (.int .u64 p) ∧ w.cell? ⟨w0.heap.size, 1, none⟩ = some (.bool wd) ∧ w0.heap.size < w.heap.size ∧ Below w0.heap.size w0 w
theorem Boxed.below {w0 w w1 : World} {p : Int} {wd : Bool} (h : Boxed w0 p wd w) (hb : Below w.heap.size w w1) : Boxed w0 p wd w1 :=
 ⟨by rw [hb.cell (p := ⟨w0.heap.size, 0, none⟩) h.2.2.1]; exact h.1, by rw [hb.cell (p := ⟨w0.heap.size, 1, none⟩) h.2.2.1]; exact h.2.1, Nat.lt_of_lt_of_le h.2.2.1 hb.size, h.2.2.2.trans (hb.mono (Nat.le_of_lt h.2.2.1))⟩
theorem Boxed.start (w : World) (p : Int) (wd : Bool) (T : TypeId) : Boxed w p wd (w.alloc (.cells #[.int .u64 p, .bool wd] T)).drew :=
 ⟨by simp [go_sem], by simp [go_sem], by simp, ((Below.refl _ _).alloc (Nat.le_refl _) _).drew⟩
theorem downSmall_any (x : Int) (wd : Bool) (w : World) (h0 : 0 <= x) (h1 : x <= 4053239664633446400) :
 Calls Tryz.prog 161 #[.agg #[.int .u64 2013265921, .bool wd], .int .u64 x] w fun e w' =>
  e = .returned (.int .u64 (x % 2013265921)) ∧ Below w.heap.size w w' := by
 obtain ⟨d1, d2, d3⟩ := down_small x h0 h1
 have HF : Hid (sub 2013265921 (x % 2013265920) (x / 2013265920) = x % 2013265921) := d3
 clear d3
 go_enter Tryz.func161, Tryz.ntmps161
 go_wp2_with (go_at_call 185; refine (sub_any 2013265921 (x % 2013265920) (x / 2013265920) wd _ (by decide) d1 d2).mono ?_; rintro e w' ⟨rfl, hb⟩)
 go_ret
 refine ⟨ret_u64 HF.out, ?_⟩
 exact ((Below.refl _ _).alloc (Nat.le_refl _) _).trans (hb.mono (by simp))
theorem downLarge_any (p h l : Int) (wd : Bool) (w : World) (hp : p = 18446744069414584321) (h0 : 0 <= h) (h1 : h <= 18446744073709551615) (l0 : 0 <= l) (l1 : l <= 18446744073709551615) :
 Calls Tryz.prog 160 #[.agg #[.int .u64 p, .bool wd], .int .u64 h, .int .u64 l] w fun e w' =>
  e = .returned (.int .u64 ((h * 18446744073709551616 + l) % p)) ∧ Below w.heap.size w w' := by
 obtain ⟨d1, d2, d3, d4⟩ := down_large h l h0 h1 l0 l1
 obtain ⟨m1, m2, m3, m4⟩ := mask32 h h0 h1
 have hp1 : p <= 18446744073709551615 := by omega
 have hp2 : h / 4294967296 < p := by omega
 rw [<- hp] at d1 d2 d3 d4
 clear hp
 have HF := hide d4
 clear d4
 have hm := mask_int h h0 h1
 have ew : IntKind.u64.wrap (h % 4294967296 * 4294967295) = h % 4294967296 * 4294967295 := by rw [IntKind.wrap_u64]; omega
 rw [<- ew] at m3 m4 d3 HF
 clear ew
 go_enter Tryz.func160, Tryz.ntmps160
 go_wp2
 go_region_held3 (fun w' => w'.cell? ⟨w.heap.size, 0, none⟩ = some (.int .u64 p) ∧ w'.cell? ⟨w.heap.size, 1, none⟩ = some (.bool wd) ∧ w.heap.size < w'.heap.size ∧ Below w.heap.size w w') (first | exact Boxed.start _ _ _ _ | exact hS2 | exact hS) (first
  | (go_at_call 185; refine (sub_raw p l (h / 4294967296) wd _ hp1 l0 m1 l1 hp2).mono ?_; rintro e w' ⟨rfl, hb⟩; have hS := Boxed.below (Boxed.start w p wd 177) hb)
  | (go_at_call 131; refine (add_any p _ _ wd _ hp1 d1 m3 d2 m4 d3).mono ?_; rintro e w2 ⟨rfl, hb2⟩; have hS2 := Boxed.below hS hb2))
 go_wp2
 go_ret
 exact ⟨ret_u64 HF.out, hS2.2.2.2⟩
theorem mul_small (p a b : Int) (w : World) (hp : p = 2013265921) (ha : El p a) (hb : El p b) :
 Calls Tryz.prog 130 #[.agg #[.int .u64 p, .bool false], .int .u64 a, .int .u64 b] w fun e w' =>
  e = .returned (.int .u64 (mul p a b)) ∧ Below w.heap.size w w' := by
 obtain ⟨a1, a2⟩ := ha; obtain ⟨b1, b2⟩ := hb
 obtain ⟨m1, m2⟩ := mul_le (k := 2013265920) a1 b1 (by omega) (by omega)
 have e2 : low64 (a * b) = a * b := by unfold low64; omega
 have hx := fun W => downSmall_any (a * b) false W m1 m2
 have HM := fun W => mul64_any a b W a1 (by omega) b1 (by omega)
 simp only [e2] at HM
 unfold mul
 rw [<- hp] at hx
 clear hp e2
 go_enter Tryz.func130, Tryz.ntmps130
 go_wp2_with (first
  | (go_at_call 94; refine (HM _).mono ?_; rintro e w' ⟨rfl, rfl⟩)
  | (go_at_call 161; refine (hx _).mono ?_; rintro e w' ⟨rfl, hb⟩))
 go_ret
 exact ⟨rfl, ((Below.refl _ _).alloc (Nat.le_refl _) _).trans (hb.mono (by simp))⟩
theorem mul_large (p a b : Int) (w : World) (hp : p = 18446744069414584321) (ha : El p a) (hb : El p b) :
 Calls Tryz.prog 130 #[.agg #[.int .u64 p, .bool true], .int .u64 a, .int .u64 b] w fun e w' =>
  e = .returned (.int .u64 (mul p a b)) ∧ Below w.heap.size w w' := by
 obtain ⟨a1, a2⟩ := ha; obtain ⟨b1, b2⟩ := hb
 obtain ⟨m1, m2⟩ := mul_le (k := 18446744073709551615) a1 b1 (by omega) (by omega)
 have e1 := high_low (a * b)
 have k1 : 0 <= low64 (a * b) ∧ low64 (a * b) <= 18446744073709551615 ∧ 0 <= high64 (a * b) ∧ high64 (a * b) <= 18446744073709551615 := by
  unfold low64 high64; omega
 have hx := fun W => downLarge_any p (high64 (a * b)) (low64 (a * b)) true W hp k1.2.2.1 k1.2.2.2 k1.1 k1.2.1
 have HM := fun W => mul64_any a b W a1 (by omega) b1 (by omega)
 rw [e1] at hx
 unfold mul
 generalize high64 (a * b) = hh at *
 generalize low64 (a * b) = ll at *
 clear hp e1 k1
 go_enter Tryz.func130, Tryz.ntmps130
 go_wp2_with (first
  | (go_at_call 94; refine (HM _).mono ?_; rintro e w' ⟨rfl, rfl⟩)
  | (go_at_call 160; refine (hx _).mono ?_; rintro e w' ⟨rfl, hb⟩))
 go_ret
 exact ⟨rfl, ((Below.refl _ _).alloc (Nat.le_refl _) _).trans (hb.mono (by simp))⟩
theorem mul_any (p a b : Int) (wd : Bool) (w : World) (hm : Md p wd) (ha : El p a) (hb : El p b) :
 Calls Tryz.prog 130 #[.agg #[.int .u64 p, .bool wd], .int .u64 a, .int .u64 b] w fun e w' =>
  e = .returned (.int .u64 (mul p a b)) ∧ Below w.heap.size w w' := by
 rcases hm with ⟨h1, rfl⟩ | ⟨h1, rfl⟩
 · exact mul_small p a b w h1 ha hb
 · exact mul_large p a b w h1 ha hb
theorem Boxed.first (w : World) (p : Int) (wd : Bool) (T : TypeId) : Boxed w p wd (w.alloc (.cells #[.int .u64 p, .bool wd] T)) :=
 ⟨by simp [go_sem], by simp [go_sem], by simp, (Below.refl _ _).alloc (Nat.le_refl _) _⟩
theorem one_el {p : Int} {wd : Bool} (h : Md p wd) : El p 1 := ⟨by decide, by have := h.bounds; omega⟩
theorem inverse_any (p a : Int) (wd : Bool) (w : World) (hm : Md p wd) (h0 : 0 < a) (h1 : a < p) :
 Calls Tryz.prog 196 #[.agg #[.int .u64 p, .bool wd], .int .u64 a] w fun e w' =>
  e = .returned (.int .u64 (inv p a)) ∧ Below w.heap.size w w' := by
 have hpb := hm.bounds
 have hp1 : p <= 18446744073709551615 := by omega
 have hE0 := Eu.start hm h0 h1
 go_enter Tryz.func196, Tryz.ntmps196
 go_wp2
 go_loopw [5, 6, 7, 8, 9] (fun vr vs vu vv vm wr => ∃ (r s u v : Int) (mi : Bool), vr = .int .u64 r ∧ vs = .int .u64 s ∧ vu = .int .u64 u ∧ vv = .int .u64 v ∧ vm = .bool mi ∧ Eu p a r s u v mi ∧ r <= p ∧ Boxed w p wd wr) (fun _ vs _ _ _ _ => (intOf vs).toNat)
 case atStart => exact ⟨p, a, 0, 1, false, rfl, rfl, rfl, rfl, rfl, hE0, Int.le_refl p, Boxed.first w p wd _⟩
 case round =>
  obtain ⟨r, s, u, v, mi, rfl, rfl, rfl, rfl, rfl, hE, hrp, hB⟩ := hrel
  have hc0 := hB.1
  have hc1 := hB.2.1
  have hs1 := hE.s1
  have hrs := hE.rs
  by_cases hgt : 1 < s
  · obtain ⟨hE2, hlt, hq0, hqs⟩ := hE.step hgt
    have hs2 := hE2.s1
    have hu0 := hE.u0
    have hv0 := hE2.v0
    have hqv := Int.mul_nonneg hq0 hE.v0
    have hqs0 := Int.mul_nonneg hq0 (Int.le_trans (by decide) hs1)
    have hvp : u + r / s * v <= p := by
     rcases hE2.le with h | h
     · exact h.2.1
     · omega
    go_wp2
    go_roundw
    case rel => exact ⟨_, _, _, _, _, rfl, rfl, rfl, rfl, rfl, hE2, by omega, hB⟩
    case measure => show (r - r / s * s).toNat < s.toNat; omega
  · have hD := (hE.done hgt (by omega)).eq hm h0 h1
    have hv0 := hE.v0
    have hvp : v <= p := by
     rcases hE.le with h | h
     · exact h.2.1
     · omega
    cases mi
    · have HD := hide (show v = inv p a by simpa using hD)
      clear hD
      go_wp2
      go_ret
      exact ⟨ret_u64 HD.out, hB.2.2.2⟩
    · have HD := hide (show p - v = inv p a by simpa using hD)
      clear hD
      go_wp2
      go_ret
      exact ⟨ret_u64 HD.out, hB.2.2.2⟩
def Fi (f p : Int) (wd : Bool) : Prop := (f = 1 ∧ p = 2013265921 ∧ wd = false) ∨ (f = 2 ∧ p = 18446744069414584321 ∧ wd = true)
theorem Fi.md {f p : Int} {wd : Bool} (h : Fi f p wd) : Md p wd := by
 rcases h with ⟨_, h, k⟩ | ⟨_, h, k⟩
 · exact .inl ⟨h, k⟩
 · exact .inr ⟨h, k⟩
def Row (w : World) (v : Value) (xs : List Int) : Prop :=
 ∃ ao cap, v = .slice ao xs.length cap ∧ xs.length <= 17592186043904 ∧ (∀ x ∈ xs, 0 <= x ∧ x <= 18446744073709551615) ∧
  (xs ≠ [] -> ∃ b off, ao = some ⟨b, off, none⟩ ∧ b < w.heap.size ∧ ∀ i, i < xs.length -> w.cell? ⟨b, off + i, none⟩ = some (.int .u64 (xs.getD i 0)))
theorem Row.below {w w' : World} {v : Value} {xs : List Int} (h : Row w v xs) (hb : Below w.heap.size w w') : Row w' v xs := by
 obtain ⟨ao, cap, rfl, h1, h2, h3⟩ := h
 refine ⟨ao, cap, rfl, h1, h2, fun hne => ?_⟩
 obtain ⟨b, off, rfl, hlt, hc⟩ := h3 hne
 exact ⟨b, off, rfl, Nat.lt_of_lt_of_le hlt hb.size, fun i hi => by rw [hb.cell (p := ⟨b, off + i, none⟩) hlt]; exact hc i hi⟩
theorem getD_at {xs : List Int} {i : Nat} (h : i < xs.length) : xs.getD i 0 = xs[i] := by
 simp [List.getD_eq_getElem?_getD, h]
def allIn (p : Int) (xs : List Int) : Bool := xs.all fun x => decide (x < p)
theorem allIn_true {p : Int} {xs : List Int} (h : ∀ i, i < xs.length -> xs.getD i 0 < p) : allIn p xs = true := by
 unfold allIn; rw [List.all_eq_true]
 intro x hx
 obtain ⟨i, hi, rfl⟩ := List.getElem_of_mem hx
 have := h i hi
 rw [getD_at hi] at this
 simpa using this
theorem allIn_false {p : Int} {xs : List Int} (i : Nat) (hi : i < xs.length) (h : ¬ xs.getD i 0 < p) : allIn p xs = false := by
 unfold allIn
 rw [List.all_eq_false]
 rw [getD_at hi] at h
 exact ⟨xs[i], List.getElem_mem hi, by simpa using h⟩
theorem all_snoc {p x : Int} {xs : List Int} {k : Nat} (h : ∀ i, i < k -> xs.getD i 0 < p) (hx : xs.getD k 0 = x) (hlt : x < p) : ∀ i, i < k + 1 -> xs.getD i 0 < p := by
 intro i hi
 by_cases he : i = k
 · rw [he, hx]; exact hlt
 · exact h i (by omega)
theorem modulusOf_yes (f p : Int) (wd : Bool) (w : World) (h : Fi f p wd) :
 Calls Tryz.prog 158 #[.int .u8 f] w fun e w' => e = .returned (.tuple #[.agg #[.int .u64 p, .bool wd], .bool true]) ∧ Below w.heap.size w w' := by
 rcases h with ⟨rfl, rfl, rfl⟩ | ⟨rfl, rfl, rfl⟩
 · go_enter Tryz.func158, Tryz.ntmps158
   go_wp2
   exact bodyPost_ret (v := .tuple #[.agg #[.int .u64 2013265921, .bool false], .bool true]) (by simp [results, Tryz.results158, go_sem]) rfl ⟨rfl, (Below.refl _ _).alloc (Nat.le_refl _) _⟩
 · go_enter Tryz.func158, Tryz.ntmps158
   go_wp2
   exact bodyPost_ret (v := .tuple #[.agg #[.int .u64 18446744069414584321, .bool true], .bool true]) (by simp [results, Tryz.results158, go_sem]) rfl ⟨rfl, (Below.refl _ _).alloc (Nat.le_refl _) _⟩
theorem modulusOf_no (f : Int) (w : World) (h1 : f ≠ 1) (h2 : f ≠ 2) :
 Calls Tryz.prog 158 #[.int .u8 f] w fun e w' => e = .returned (.tuple #[.agg #[.int .u64 0, .bool false], .bool false]) ∧ Below w.heap.size w w' := by
 have e1 : (f == 1) = false := beq_eq_false_iff_ne.2 h1
 have e2 : (f == 2) = false := beq_eq_false_iff_ne.2 h2
 clear h1 h2
 go_enter Tryz.func158, Tryz.ntmps158
 go_wp2
 exact bodyPost_ret (v := .tuple #[.agg #[.int .u64 0, .bool false], .bool false]) (by simp [results, Tryz.results158, go_sem]) rfl ⟨rfl, (Below.refl _ _).alloc (Nat.le_refl _) _⟩
theorem has_any (p : Int) (wd : Bool) (v : Value) (xs : List Int) (w : World) (hp : p <= 18446744073709551615) (hr : Row w v xs) :
 Calls Tryz.prog 159 #[.agg #[.int .u64 p, .bool wd], v] w fun e w' => e = .returned (.bool (allIn p xs)) ∧ Below w.heap.size w w' := by
 obtain ⟨ao, cap, rfl, hlen, hw, hc⟩ := hr
 go_enter Tryz.func159, Tryz.ntmps159
 go_wp2
 go_loop [9] (fun vi => ∃ k : Nat, k <= xs.length ∧ vi = .int .i64 k ∧ ∀ i, i < k -> xs.getD i 0 < p) (fun vi => xs.length - (intOf vi).toNat)
 case atStart => exact ⟨0, Nat.zero_le _, rfl, fun i hi => by omega⟩
 case round =>
  obtain ⟨k, hk, rfl, hall⟩ := hrel
  by_cases hlt : k < xs.length
  · obtain ⟨b, off, rfl, hbl, hcell⟩ := hc (by intro h; rw [h] at hlt; simp at hlt)
    have hck : (w.alloc (.cells #[.int .u64 p, .bool wd] 177)).cell? ⟨b, off + k, none⟩ = some (.int .u64 (xs.getD k 0)) := by
     rw [World.cell?_alloc_lt (h := hbl)]; exact hcell k hlt
    have HA := hide hall
    clear hall hcell hc
    by_cases hin : xs.getD k 0 < p
    · generalize hx : xs.getD k 0 = x at *
      have HX := hide hx
      clear hx
      go_wp2
      go_round
      case rel => exact ⟨k + 1, by omega, by go_num, all_snoc HA.out HX.out hin⟩
      case measure => simp [intOf]; omega
    · have HF := hide (allIn_false k hlt hin)
      generalize xs.getD k 0 = x at *
      go_wp2
      go_ret
      rw [HF.out]
      exact ⟨rfl, (Below.refl _ _).alloc (Nat.le_refl _) _⟩
  · have HF := hide (allIn_true (p := p) (xs := xs) (fun i hi => hall i (by omega)))
    clear hall hc
    go_wp2
    go_ret
    rw [HF.out]
    exact ⟨rfl, (Below.refl _ _).alloc (Nat.le_refl _) _⟩
def Two (k : Nat) (a b : Value) (w : World) : Prop :=
 w.cell? ⟨k, 0, none⟩ = some a ∧ w.cell? ⟨k, 1, none⟩ = some b ∧ w.frozen? ⟨k, 0, none⟩ = false ∧ w.frozen? ⟨k, 1, none⟩ = false ∧ k < w.heap.size
theorem Two.below {k : Nat} {a b : Value} {w w' : World} (h : Two k a b w) (hb : Below w.heap.size w w') : Two k a b w' := by
 obtain ⟨h1, h2, h3, h4, h5⟩ := h
 exact ⟨by rw [hb.cell (p := ⟨k, 0, none⟩) h5]; exact h1, by rw [hb.cell (p := ⟨k, 1, none⟩) h5]; exact h2, by rw [hb.frozen (p := ⟨k, 0, none⟩) h5]; exact h3, by rw [hb.frozen (p := ⟨k, 1, none⟩) h5]; exact h4, Nat.lt_of_lt_of_le h5 hb.size⟩
theorem Two.alloc {k : Nat} {a b : Value} {w : World} (h : Two k a b w) (o : Obj) : Two k a b (w.alloc o) := h.below ((Below.refl _ _).alloc (Nat.le_refl _) o)
theorem Two.first (w : World) (a b : Value) (T : TypeId) : Two w.heap.size a b (w.alloc (.cells #[a, b] T)) :=
 ⟨by simp [go_sem], by simp [go_sem], by simp [go_sem], by simp [go_sem], by simp⟩
theorem below_one {w w1 : World} {o : Obj} (hb : Below (w.alloc o).heap.size (w.alloc o) w1) : Below w.heap.size w w1 :=
 ((Below.refl _ _).alloc (Nat.le_refl _) o).trans (hb.mono (by simp))
theorem check_nof (f : Int) (v : Value) (w : World) (h1 : f ≠ 1) (h2 : f ≠ 2) :
 Calls Tryz.prog 129 #[.int .u8 f, v] w fun e w' => e = .returned (.tuple #[.agg #[.int .u64 0, .bool false], .bool false]) ∧ Below w.heap.size w w' := by
 have hx := fun W => modulusOf_no f W h1 h2
 clear h1 h2
 go_enter Tryz.func129, Tryz.ntmps129
 go_wp2_with (go_at_call 158; refine (hx _).mono ?_; rintro e w1 ⟨rfl, hb⟩; have hT := (Two.first w (.int .u64 0) (.bool false) 177).below hb; have hTo := fun o => hT.alloc o; simp only [Two] at hTo; obtain ⟨g1, g2, g3, g4, g5⟩ := hT)
 refine bodyPost_ret (v := .tuple #[.agg #[.int .u64 0, .bool false], .bool false]) ?_ rfl ⟨rfl, ?_⟩
 · simp [results, Tryz.results129, go_sem, g1, g2, g5]
 · exact (((below_one hb).setCell (Nat.le_refl _) _).setCell (Nat.le_refl _) _).alloc (by simp; omega) _
theorem check_yes (f p : Int) (wd : Bool) (v : Value) (xs : List Int) (w : World) (hfi : Fi f p wd) (hr : Row w v xs) (hin : allIn p xs = true) :
 Calls Tryz.prog 129 #[.int .u8 f, v] w fun e w' => e = .returned (.tuple #[.agg #[.int .u64 p, .bool wd], .bool true]) ∧ Below w.heap.size w w' := by
 have hx := fun W => modulusOf_yes f p wd W hfi
 have hp : p <= 18446744073709551615 := by have := hfi.md.bounds; omega
 have hy := fun W h => has_any p wd v xs W hp h
 rw [hin] at hy
 have HY := hide hy
 have HR := hide hr
 clear hfi hin hy hr
 go_enter Tryz.func129, Tryz.ntmps129
 go_wp2_with (first
  | (go_at_call 158; refine (hx _).mono ?_; rintro e w1 ⟨rfl, hb⟩; have hT := (Two.first w (.int .u64 0) (.bool false) 177).below hb; obtain ⟨g1, g2, g3, g4, g5⟩ := id hT)
  | (go_at_call 159; refine (HY.out _ (HR.out.below ((below_one hb).alloc (Nat.le_of_lt g5) _))).mono ?_; rintro e w2 ⟨rfl, hb2⟩; have hT2 := (Two.first w1 (.int .u64 p) (.bool wd) 177).below hb2; obtain ⟨k1, k2, k3, k4, k5⟩ := hT2; have hT3 := (hT.alloc _).below hb2; obtain ⟨j1, j2, j3, j4, j5⟩ := hT3))
 refine bodyPost_ret (v := .tuple #[.agg #[.int .u64 p, .bool wd], .bool true]) ?_ rfl ⟨rfl, ?_⟩
 · simp [results, Tryz.results129, go_sem, j1, j2]
 · exact ((((below_one hb).alloc (Nat.le_of_lt g5) _).trans (hb2.mono (by simp; omega))).setCell (Nat.le_refl _) _).setCell (Nat.le_refl _) _
theorem check_out (f p : Int) (wd : Bool) (v : Value) (xs : List Int) (w : World) (hfi : Fi f p wd) (hr : Row w v xs) (hin : allIn p xs = false) :
 Calls Tryz.prog 129 #[.int .u8 f, v] w fun e w' => e = .returned (.tuple #[.agg #[.int .u64 0, .bool false], .bool false]) ∧ Below w.heap.size w w' := by
 have hx := fun W => modulusOf_yes f p wd W hfi
 have hp : p <= 18446744073709551615 := by have := hfi.md.bounds; omega
 have hy := fun W h => has_any p wd v xs W hp h
 rw [hin] at hy
 have HY := hide hy
 have HR := hide hr
 clear hfi hin hy hr
 go_enter Tryz.func129, Tryz.ntmps129
 go_wp2_with (first
  | (go_at_call 158; refine (hx _).mono ?_; rintro e w1 ⟨rfl, hb⟩; have hT := (Two.first w (.int .u64 0) (.bool false) 177).below hb; obtain ⟨g1, g2, g3, g4, g5⟩ := id hT)
  | (go_at_call 159; refine (HY.out _ (HR.out.below ((below_one hb).alloc (Nat.le_of_lt g5) _))).mono ?_; rintro e w2 ⟨rfl, hb2⟩; have hT3 := (hT.alloc _).below hb2; obtain ⟨j1, j2, j3, j4, j5⟩ := hT3))
 refine bodyPost_ret (v := .tuple #[.agg #[.int .u64 0, .bool false], .bool false]) ?_ rfl ⟨rfl, ?_⟩
 · simp [results, Tryz.results129, go_sem, j1, j2]
 · exact ((((below_one hb).alloc (Nat.le_of_lt g5) _).trans (hb2.mono (by simp; omega))).setCell (Nat.le_refl _) _).setCell (Nat.le_refl _) _
def Bad (f : Int) (xs : List Int) : Prop := (f ≠ 1 ∧ f ≠ 2) ∨ ∃ p wd, Fi f p wd ∧ allIn p xs = false
theorem check_no (f : Int) (v : Value) (xs : List Int) (w : World) (h : Bad f xs) (hr : Row w v xs) :
 Calls Tryz.prog 129 #[.int .u8 f, v] w fun e w' => e = .returned (.tuple #[.agg #[.int .u64 0, .bool false], .bool false]) ∧ Below w.heap.size w w' := by
 rcases h with ⟨h1, h2⟩ | ⟨p, wd, hf, hi⟩
 · exact check_nof f v w h1 h2
 · exact check_out f p wd v xs w hf hr hi
theorem row2 (w : World) (a b : Int) (ha : 0 <= a ∧ a <= 18446744073709551615) (hb : 0 <= b ∧ b <= 18446744073709551615) (T : TypeId) :
 Row (w.alloc (.cells #[.int .u64 a, .int .u64 b] T)) (.slice (some ⟨w.heap.size, 0, none⟩) 2 2) [a, b] :=
 ⟨_, _, rfl, by simp, by simp [ha, hb], fun _ => ⟨_, _, rfl, by simp, fun i hi => by
  have : i = 0 ∨ i = 1 := by simp at hi; omega
  rcases this with rfl | rfl <;> simp [go_sem]⟩⟩
theorem row1 (w : World) (a : Int) (ha : 0 <= a ∧ a <= 18446744073709551615) (T : TypeId) :
 Row (w.alloc (.cells #[.int .u64 a] T)) (.slice (some ⟨w.heap.size, 0, none⟩) 1 1) [a] :=
 ⟨_, _, rfl, by simp, by simp [ha], fun _ => ⟨_, _, rfl, by simp, fun i hi => by
  have : i = 0 := by simp at hi; omega
  subst this; simp [go_sem]⟩⟩
theorem row0 (w : World) : Row w (.slice none 0 0) [] := ⟨_, _, rfl, by simp, by simp, fun h => absurd rfl h⟩
theorem elWord {p a : Int} (h : El p a) (hp : p <= 18446744073709551615) : 0 <= a ∧ a <= 18446744073709551615 := ⟨h.1, by have := h.2; omega⟩
theorem allIn2 {p a b : Int} (ha : El p a) (hb : El p b) : allIn p [a, b] = true := by simp [allIn, ha.2, hb.2]
theorem Fi.top {f p : Int} {wd : Bool} (h : Fi f p wd) : p <= 18446744073709551615 := by have := h.md.bounds; omega
theorem Fi.pos {f p : Int} {wd : Bool} (h : Fi f p wd) : 0 < p := by have := h.md.bounds; omega
theorem Prime_yes (f p : Int) (wd : Bool) (w : World) (h : Fi f p wd) :
 Calls Tryz.prog 189 #[.int .u8 f] w fun e w' => e = .returned (.tuple #[.int .u64 p, .int .i64 0]) ∧ Below w.heap.size w w' := by
 have hx := fun W => modulusOf_yes f p wd W h
 clear h
 go_enter Tryz.func189, Tryz.ntmps189
 go_wp2_with (go_at_call 158; refine (hx _).mono ?_; rintro e w1 ⟨rfl, hb⟩)
 go_ret2
 exact ⟨rfl, hb.alloc hb.size _⟩
theorem In_yes (f p : Int) (wd : Bool) (v : Value) (xs : List Int) (w : World) (h : Fi f p wd) (hr : Row w v xs) (hi : allIn p xs = true) :
 Calls Tryz.prog 128 #[.int .u8 f, v] w fun e w' => e = .returned (.bool true) ∧ Below w.heap.size w w' := by
 have hx := hide (check_yes f p wd v xs w h hr hi)
 clear h hr hi
 go_enter Tryz.func128, Tryz.ntmps128
 go_wp2_with (go_at_call 129; refine hx.out.mono ?_; rintro e w1 ⟨rfl, hb⟩)
 go_ret
 exact ⟨rfl, hb.alloc hb.size _⟩
theorem In_no (f : Int) (v : Value) (xs : List Int) (w : World) (h : Bad f xs) (hr : Row w v xs) :
 Calls Tryz.prog 128 #[.int .u8 f, v] w fun e w' => e = .returned (.bool false) ∧ Below w.heap.size w w' := by
 have hx := hide (check_no f v xs w h hr)
 clear h hr
 go_enter Tryz.func128, Tryz.ntmps128
 go_wp2_with (go_at_call 129; refine hx.out.mono ?_; rintro e w1 ⟨rfl, hb⟩)
 go_ret
 exact ⟨rfl, hb.alloc hb.size _⟩
theorem Add_yes (f p a b : Int) (wd : Bool) (w : World) (h : Fi f p wd) (ha : El p a) (hb : El p b) :
 Calls Tryz.prog 103 #[.int .u8 f, .int .u64 a, .int .u64 b] w fun e w' => e = .returned (.tuple #[.int .u64 (add p a b), .int .i64 0]) ∧ Below w.heap.size w w' := by
 have hx := fun W v hr => check_yes f p wd v [a, b] W h hr (allIn2 ha hb)
 have hy := fun W => add_any p a b wd W h.top ha.1 hb.1 (elWord ha h.top).2 (elWord hb h.top).2 (by have := ha.2; have := hb.2; omega)
 have hrow := fun T => row2 w a b (elWord ha h.top) (elWord hb h.top) T
 clear h ha hb
 go_enter Tryz.func103, Tryz.ntmps103
 go_wp2_with (first
  | (go_at_call 129; refine (hx _ _ (hrow _)).mono ?_; rintro e w1 ⟨rfl, hb⟩)
  | (go_at_call 131; refine (hy _).mono ?_; rintro e w2 ⟨rfl, hb2⟩))
 go_ret2
 have hz := hb.size
 exact ⟨rfl, ((below_one hb).alloc (by simp at hz; omega) _).trans (hb2.mono (by simp at hz ⊢; omega))⟩
theorem Sub_yes (f p a b : Int) (wd : Bool) (w : World) (h : Fi f p wd) (ha : El p a) (hb : El p b) :
 Calls Tryz.prog 176 #[.int .u8 f, .int .u64 a, .int .u64 b] w fun e w' => e = .returned (.tuple #[.int .u64 (sub p a b), .int .i64 0]) ∧ Below w.heap.size w w' := by
 have hx := fun W v hr => check_yes f p wd v [a, b] W h hr (allIn2 ha hb)
 have hy := fun W => sub_any p a b wd W h.top ha hb
 have hrow := fun T => row2 w a b (elWord ha h.top) (elWord hb h.top) T
 clear h ha hb
 go_enter Tryz.func176, Tryz.ntmps176
 go_wp2_with (first
  | (go_at_call 129; refine (hx _ _ (hrow _)).mono ?_; rintro e w1 ⟨rfl, hb⟩)
  | (go_at_call 185; refine (hy _).mono ?_; rintro e w2 ⟨rfl, hb2⟩))
 go_ret2
 have hz := hb.size
 exact ⟨rfl, ((below_one hb).alloc (by simp at hz; omega) _).trans (hb2.mono (by simp at hz ⊢; omega))⟩
theorem Mul_yes (f p a b : Int) (wd : Bool) (w : World) (h : Fi f p wd) (ha : El p a) (hb : El p b) :
 Calls Tryz.prog 102 #[.int .u8 f, .int .u64 a, .int .u64 b] w fun e w' => e = .returned (.tuple #[.int .u64 (mul p a b), .int .i64 0]) ∧ Below w.heap.size w w' := by
 have hx := fun W v hr => check_yes f p wd v [a, b] W h hr (allIn2 ha hb)
 have hy := fun W => mul_any p a b wd W h.md ha hb
 have hrow := fun T => row2 w a b (elWord ha h.top) (elWord hb h.top) T
 clear h ha hb
 go_enter Tryz.func102, Tryz.ntmps102
 go_wp2_with (first
  | (go_at_call 129; refine (hx _ _ (hrow _)).mono ?_; rintro e w1 ⟨rfl, hb⟩)
  | (go_at_call 130; refine (hy _).mono ?_; rintro e w2 ⟨rfl, hb2⟩))
 go_ret2
 have hz := hb.size
 exact ⟨rfl, ((below_one hb).alloc (by simp at hz; omega) _).trans (hb2.mono (by simp at hz ⊢; omega))⟩
theorem rSum_any (p a b : Int) (w : World) (hp : p <= 18446744073709551615) (ha : El p a) (hb : El p b) :
 Calls Tryz.prog 69 #[.int .u64 p, .int .u64 a, .int .u64 b] w fun e w' => e = .returned (.int .u64 (add p a b)) ∧ w' = w := by
 obtain ⟨a1, a2⟩ := ha; obtain ⟨b1, b2⟩ := hb
 by_cases h : p - b <= a
 · have HF := hide (show a - (p - b) = add p a b by unfold add; rw [emod_sub_self _ _ (by omega) (by omega)]; omega)
   go_enter Tryz.func69, Tryz.ntmps69
   go_wp2
   go_ret
   exact ⟨ret_u64 HF.out, rfl⟩
 · have HF := hide (show a + b = add p a b by unfold add; rw [Int.emod_eq_of_lt (by omega) (by omega)])
   go_enter Tryz.func69, Tryz.ntmps69
   go_wp2
   go_ret
   exact ⟨ret_u64 HF.out, rfl⟩
theorem rLess_any (p a b : Int) (w : World) (hp : p <= 18446744073709551615) (ha : El p a) (hb : El p b) :
 Calls Tryz.prog 97 #[.int .u64 p, .int .u64 a, .int .u64 b] w fun e w' => e = .returned (.int .u64 (sub p a b)) ∧ w' = w := by
 obtain ⟨a1, a2⟩ := ha; obtain ⟨b1, b2⟩ := hb
 by_cases h : b <= a
 · have HF := hide (show a - b = sub p a b by unfold sub; rw [Int.emod_eq_of_lt (by omega) (by omega)])
   go_enter Tryz.func97, Tryz.ntmps97
   go_wp2
   go_ret
   exact ⟨ret_u64 HF.out, rfl⟩
 · have HF := hide (show p - (b - a) = sub p a b by unfold sub; rw [emod_add_self _ _ (by omega) (by omega)]; omega)
   go_enter Tryz.func97, Tryz.ntmps97
   go_wp2
   go_ret
   exact ⟨ret_u64 HF.out, rfl⟩
theorem rTimes_any (p a b : Int) (w : World) (hp : p <= 18446744073709551615) (ha : El p a) (hb0 : 0 <= b) (hb1 : b <= 18446744073709551615) :
 Calls Tryz.prog 71 #[.int .u64 p, .int .u64 a, .int .u64 b] w fun e w' => e = .returned (.int .u64 (mul p a b)) ∧ w' = w := by
 have hp0 : 0 < p := by have := ha.1; have := ha.2; omega
 have h0 : El p 0 := ⟨by decide, hp0⟩
 go_enter Tryz.func71, Tryz.ntmps71
 go_wp2
 go_loop [7, 8] (fun vs vi => ∃ (k : Nat) (s : Int), k <= 64 ∧ vi = .int .i64 ((k : Int) - 1) ∧ vs = .int .u64 s ∧ El p s ∧ s = mul p a (b / 2 ^ k)) (fun _ vi => (intOf vi + 1).toNat)
 case atStart => exact ⟨64, 0, by omega, rfl, rfl, h0, by rw [shift_all b hb0 hb1, mul_zero_right]⟩
 case round =>
  obtain ⟨k, s, hk, rfl, rfl, hs, hv⟩ := hrel
  by_cases hpos : 0 < k
  · obtain ⟨k, rfl⟩ : ∃ j, k = j + 1 := ⟨k - 1, by omega⟩
    have ek : (((k + 1 : Nat) : Int) - 1) = (k : Int) := by omega
    rw [ek]
    clear ek
    rw [half_pow] at hv
    obtain ⟨q0, q1⟩ := word_shift b k hb0 hb1
    have hand := and_one_u64 (b / 2 ^ k) q0 q1
    have hss := add_el (a := s) (b := s) hp0
    have hsa := add_el (a := add p s s) (b := a) hp0
    by_cases ho : b / 2 ^ k % 2 = 1
    · have ht : (b / 2 ^ k % 2 == 1) = true := beq_iff_eq.2 ho
      have HV := hide (times_odd p a (b / 2 ^ k) ho)
      rw [<- hv] at HV
      clear ho hv
      go_wp2_with (go_at_call 69; refine (rSum_any p _ _ _ hp (by assumption) (by assumption)).mono ?_; rintro e w1 ⟨rfl, rfl⟩)
      go_round
      case rel => exact ⟨k, _, by omega, rfl, rfl, hsa, HV.out⟩
      case measure => simp [intOf]
    · have ht : (b / 2 ^ k % 2 == 1) = false := beq_eq_false_iff_ne.2 ho
      have HV := hide (times_even p a (b / 2 ^ k) (by omega))
      rw [<- hv] at HV
      clear ho hv
      go_wp2_with (go_at_call 69; refine (rSum_any p _ _ _ hp (by assumption) (by assumption)).mono ?_; rintro e w1 ⟨rfl, rfl⟩)
      go_round
      case rel => exact ⟨k, _, by omega, rfl, rfl, hss, HV.out⟩
      case measure => simp [intOf]
  · have hk0 : k = 0 := by omega
    subst hk0
    have HV := hide hv
    clear hv
    go_wp2
    go_ret
    refine ⟨ret_u64 ?_, rfl⟩
    rw [HV.out]; simp
theorem rPower_any (p a n : Int) (w : World) (hp : p <= 18446744073709551615) (hp2 : 2 <= p) (ha : El p a) (hb0 : 0 <= n) (hb1 : n <= 18446744073709551615) :
 Calls Tryz.prog 157 #[.int .u64 p, .int .u64 a, .int .u64 n] w fun e w' => e = .returned (.int .u64 (pow p a n)) ∧ w' = w := by
 have hp0 : 0 < p := by omega
 have h1 : El p (1 % p) := ⟨Int.emod_nonneg _ (by omega), Int.emod_lt_of_pos _ hp0⟩
 go_enter Tryz.func157, Tryz.ntmps157
 go_wp2
 go_loop [7, 8] (fun vs vi => ∃ (k : Nat) (s : Int), k <= 64 ∧ vi = .int .i64 ((k : Int) - 1) ∧ vs = .int .u64 s ∧ El p s ∧ s = pow p a (n / 2 ^ k)) (fun _ vi => (intOf vi + 1).toNat)
 case atStart => exact ⟨64, 1 % p, by omega, rfl, rfl, h1, by rw [shift_all n hb0 hb1, pow_zero_right]⟩
 case round =>
  obtain ⟨k, s, hk, rfl, rfl, hs, hv⟩ := hrel
  by_cases hpos : 0 < k
  · obtain ⟨k, rfl⟩ : ∃ j, k = j + 1 := ⟨k - 1, by omega⟩
    have ek : (((k + 1 : Nat) : Int) - 1) = (k : Int) := by omega
    rw [ek]
    clear ek
    rw [half_pow] at hv
    obtain ⟨q0, q1⟩ := word_shift n k hb0 hb1
    have hand := and_one_u64 (n / 2 ^ k) q0 q1
    have hss := mul_el (a := s) (b := s) hp0
    have hsa := mul_el (a := mul p s s) (b := a) hp0
    have hs4 : s <= 18446744073709551615 := by have := hs.2; omega
    have ha4 : a <= 18446744073709551615 := by have := ha.2; omega
    by_cases ho : n / 2 ^ k % 2 = 1
    · have ht : (n / 2 ^ k % 2 == 1) = true := beq_iff_eq.2 ho
      have HV := hide (power_odd p a (n / 2 ^ k) q0 ho)
      rw [<- hv] at HV
      clear ho hv
      go_wp2_with (go_at_call 71; refine (rTimes_any p _ _ _ hp (by assumption) (by first | exact hs.1 | exact ha.1 | exact hss.1) (by first | exact hs4 | exact ha4 | exact hss4)).mono ?_; rintro e w1 ⟨rfl, rfl⟩)
      go_round
      case rel => exact ⟨k, _, by omega, rfl, rfl, hsa, HV.out⟩
      case measure => simp [intOf]
    · have ht : (n / 2 ^ k % 2 == 1) = false := beq_eq_false_iff_ne.2 ho
      have HV := hide (power_even p a (n / 2 ^ k) q0 (by omega))
      rw [<- hv] at HV
      clear ho hv
      go_wp2_with (go_at_call 71; refine (rTimes_any p _ _ _ hp (by assumption) (by first | exact hs.1 | exact ha.1 | exact hss.1) (by first | exact hs4 | exact ha4 | exact hss4)).mono ?_; rintro e w1 ⟨rfl, rfl⟩)
      go_round
      case rel => exact ⟨k, _, by omega, rfl, rfl, hss, HV.out⟩
      case measure => simp [intOf]
  · have hk0 : k = 0 := by omega
    subst hk0
    have HV := hide hv
    clear hv
    go_wp2
    go_ret
    refine ⟨ret_u64 ?_, rfl⟩
    rw [HV.out]; simp
theorem rTurned_any (p a : Int) (w : World) (hp : p <= 18446744073709551615) (hp2 : 2 <= p) (ha : El p a) :
 Calls Tryz.prog 126 #[.int .u64 p, .int .u64 a] w fun e w' => e = .returned (.int .u64 (inv p a)) ∧ w' = w := by
 have hx := rPower_any p a (p - 2) w hp hp2 ha (by omega) (by omega)
 unfold inv
 have HX := hide hx
 clear hx ha
 go_enter Tryz.func126, Tryz.ntmps126
 go_wp2_with (go_at_call 157; refine HX.out.mono ?_; rintro e w1 ⟨rfl, rfl⟩)
 go_ret
 exact ⟨rfl, rfl⟩
theorem rP_yes (f p : Int) (wd : Bool) (w : World) (h : Fi f p wd) :
 Calls Tryz.prog 70 #[.int .u8 f] w fun e w' => e = .returned (.int .u64 p) ∧ w' = w := by
 rcases h with ⟨rfl, rfl, rfl⟩ | ⟨rfl, rfl, rfl⟩
 · go_enter Tryz.func70, Tryz.ntmps70
   go_wp2
   go_ret
   exact ⟨rfl, rfl⟩
 · go_enter Tryz.func70, Tryz.ntmps70
   go_wp2
   go_ret
   exact ⟨rfl, rfl⟩
theorem rP_no (f : Int) (w : World) (h1 : f ≠ 1) (h2 : f ≠ 2) :
 Calls Tryz.prog 70 #[.int .u8 f] w fun e w' => e = .returned (.int .u64 0) ∧ w' = w := by
 have e1 : (f == 1) = false := beq_eq_false_iff_ne.2 h1
 have e2 : (f == 2) = false := beq_eq_false_iff_ne.2 h2
 clear h1 h2
 go_enter Tryz.func70, Tryz.ntmps70
 go_wp2
 go_ret
 exact ⟨rfl, rfl⟩
theorem rIn_of (f p : Int) (v : Value) (xs : List Int) (w : World) (hp0 : 0 <= p) (hp1 : p <= 18446744073709551615) (hr : Row w v xs)
 (hP : ∀ W, Calls Tryz.prog 70 #[.int .u8 f] W fun e w' => e = .returned (.int .u64 p) ∧ w' = W) :
 Calls Tryz.prog 40 #[.int .u8 f, v] w fun e w' => e = .returned (.bool (allIn p xs && (p != 0))) ∧ w' = w := by
 obtain ⟨ao, cap, rfl, hlen, hw, hc⟩ := hr
 have HP := hide hP
 clear hP
 go_enter Tryz.func40, Tryz.ntmps40
 go_wp2_with (go_at_call 70; refine (HP.out _).mono ?_; rintro e w1 ⟨rfl, rfl⟩)
 rename_i w1
 go_loop [6] (fun vi => ∃ k : Nat, k <= xs.length ∧ vi = .int .i64 k ∧ ∀ i, i < k -> xs.getD i 0 < p) (fun vi => xs.length - (intOf vi).toNat)
 case atStart => exact ⟨0, Nat.zero_le _, rfl, fun i hi => by omega⟩
 case round =>
  obtain ⟨k, hk, rfl, hall⟩ := hrel
  by_cases hlt : k < xs.length
  · obtain ⟨b, off, rfl, hbl, hcell⟩ := hc (by intro h; rw [h] at hlt; simp at hlt)
    have hck := hcell k hlt
    have HA := hide hall
    clear hall hcell hc
    by_cases hin : xs.getD k 0 < p
    · generalize hx : xs.getD k 0 = x at *
      have HX := hide hx
      clear hx
      go_wp2
      go_round
      case rel => exact ⟨k + 1, by omega, by go_num, all_snoc HA.out HX.out hin⟩
      case measure => simp [intOf]; omega
    · have HF := hide (allIn_false k hlt hin)
      generalize xs.getD k 0 = x at *
      go_wp2
      go_ret
      rw [HF.out]
      exact ⟨rfl, rfl⟩
  · have HF := hide (allIn_true (p := p) (xs := xs) (fun i hi => hall i (by omega)))
    clear hall hc
    go_wp2
    go_ret
    rw [HF.out]
    exact ⟨rfl, rfl⟩
theorem rIn_yes (f p : Int) (wd : Bool) (v : Value) (xs : List Int) (w : World) (h : Fi f p wd) (hr : Row w v xs) (hi : allIn p xs = true) :
 Calls Tryz.prog 40 #[.int .u8 f, v] w fun e w' => e = .returned (.bool true) ∧ w' = w := by
 have hz := h.pos
 refine (rIn_of f p v xs w (by omega) h.top hr (fun W => rP_yes f p wd W h)).mono ?_
 rintro e w' ⟨rfl, rfl⟩
 have : (p != 0) = true := by simp; omega
 rw [hi, this]; exact ⟨rfl, rfl⟩
theorem rIn_no (f : Int) (v : Value) (xs : List Int) (w : World) (h : Bad f xs) (hr : Row w v xs) :
 Calls Tryz.prog 40 #[.int .u8 f, v] w fun e w' => e = .returned (.bool false) ∧ w' = w := by
 rcases h with ⟨h1, h2⟩ | ⟨p, wd, hf, hi⟩
 · refine (rIn_of f 0 v xs w (by decide) (by decide) hr (fun W => rP_no f W h1 h2)).mono ?_
   rintro e w' ⟨rfl, rfl⟩
   exact ⟨by simp, rfl⟩
 · have hz := hf.pos
   refine (rIn_of f p v xs w (by omega) hf.top hr (fun W => rP_yes f p wd W hf)).mono ?_
   rintro e w' ⟨rfl, rfl⟩
   rw [hi]; exact ⟨rfl, rfl⟩
theorem inv_el {p a : Int} (hp : 0 < p) : El p (inv p a) := pow_el hp
theorem Div_yes (f p a b : Int) (wd : Bool) (w : World) (h : Fi f p wd) (ha : El p a) (hb : El p b) (hb0 : 0 < b) :
 Calls Tryz.prog 188 #[.int .u8 f, .int .u64 a, .int .u64 b] w fun e w' => e = .returned (.tuple #[.int .u64 (mul p a (inv p b)), .int .i64 0]) ∧ Below w.heap.size w w' := by
 have hx := fun W v hr => check_yes f p wd v [a, b] W h hr (allIn2 ha hb)
 have hy := fun W => inverse_any p b wd W h.md hb0 hb.2
 have hm := fun W => mul_any p a (inv p b) wd W h.md ha (inv_el h.pos)
 have hrow := fun T => row2 w a b (elWord ha h.top) (elWord hb h.top) T
 have hne : (b == 0) = false := beq_eq_false_iff_ne.2 (by omega)
 clear h ha hb hb0
 go_enter Tryz.func188, Tryz.ntmps188
 go_wp2_with (go_at_call 129; refine (hx _ _ (hrow _)).mono ?_; rintro e w1 ⟨rfl, hb⟩)
 go_region_held3 (fun w' => w'.cell? ⟨w1.heap.size, 0, none⟩ = some (.int .u64 p) ∧ w'.cell? ⟨w1.heap.size, 1, none⟩ = some (.bool wd) ∧ w1.heap.size < w'.heap.size ∧ Below w1.heap.size w1 w') (first | exact Boxed.start _ _ _ _ | exact hS2 | exact hS) (first
  | (go_at_call 196; refine (hy _).mono ?_; rintro e w2 ⟨rfl, hb2⟩; have hS := Boxed.below (Boxed.start w1 p wd 177) hb2)
  | (go_at_call 130; refine (hm _).mono ?_; rintro e w3 ⟨rfl, hb3⟩; have hS2 := Boxed.below hS hb3))
 go_wp2
 go_ret2
 have hz := hb.size
 exact ⟨rfl, (below_one hb).trans (hS2.2.2.2.mono (by simp at hz; omega))⟩
theorem Inv_of (f a r e : Int) (w : World) (h : Calls Tryz.prog 188 #[.int .u8 f, .int .u64 1, .int .u64 a] w fun x w' => x = .returned (.tuple #[.int .u64 r, .int .i64 e]) ∧ Below w.heap.size w w') :
 Calls Tryz.prog 175 #[.int .u8 f, .int .u64 a] w fun x w' => x = .returned (.tuple #[.int .u64 r, .int .i64 e]) ∧ Below w.heap.size w w' := by
 have H := hide h
 clear h
 go_enter Tryz.func175, Tryz.ntmps175
 go_wp2_with (go_at_call 188; refine H.out.mono ?_; rintro x w1 ⟨rfl, hb⟩)
 go_ret2
 exact ⟨rfl, hb⟩
theorem Fi_or (f : Int) : (∃ p wd, Fi f p wd) ∨ (f ≠ 1 ∧ f ≠ 2) := by
 by_cases h1 : f = 1
 · exact .inl ⟨_, _, .inl ⟨h1, rfl, rfl⟩⟩
 by_cases h2 : f = 2
 · exact .inl ⟨_, _, .inr ⟨h2, rfl, rfl⟩⟩
 exact .inr ⟨h1, h2⟩
theorem u64_info : (Tryz.prog.info? 64).map (fun i => (i.zero, i.size, i.bytes)) = some (some (.int .u64 0), 1, 8) := by kernel_rfl
def vals (xs : List Int) : List Value := xs.map (Value.int .u64)
theorem vals_length (xs : List Int) : (vals xs).length = xs.length := by simp [vals]
theorem vals_snoc (xs : List Int) (x : Int) : vals xs ++ [.int .u64 x] = vals (xs ++ [x]) := by simp [vals]
theorem own_base {w : World} {base e size n : Nat} {v : Value} {xs : List Value} (h : w.ownsRow base e size v n xs) : ∀ k, v.ownBlock = some k -> base <= k := by
 intro k hk
 rcases h.2 with ⟨rfl, _⟩ | ⟨g, cap, cur, rfl, hb, _⟩
 · cases hk
 · cases hk; exact hb
theorem row_of_own {w : World} {base : Nat} {v : Value} {n : Nat} {xs : List Int} (h : w.ownsRow base 64 1 v n (vals xs)) (hn : n = xs.length) (hl : xs.length <= 17592186043904)
 (hw : ∀ x ∈ xs, 0 <= x ∧ x <= 18446744073709551615) : Row w v xs := by
 subst hn
 rcases h.2 with ⟨rfl, h0⟩ | ⟨g, cap, cur, rfl, hb, hh, h1, h2, h3, h4⟩
 · exact ⟨none, 0, by rw [h0], hl, hw, fun hne => absurd (List.length_eq_zero_iff.1 h0) hne⟩
 · refine ⟨_, cap, rfl, hl, hw, fun hne => ⟨g, 0, rfl, ?_, fun i hi => ?_⟩⟩
   · apply Nat.lt_of_not_le; intro hc; rw [Array.getElem?_eq_none hc] at hh; cases hh
   · rw [cell_of_row w g (0 + i) cur 64 (0, 0) hh, Nat.zero_add]
     have e1 : cur[i]? = cur.toList[i]? := by simp
     have e2 : cur.toList[i]? = (vals xs)[i]? := by rw [<- h4, List.getElem?_take_of_lt (by omega)]
     rw [e1, e2]; simp [vals, List.getD_eq_getElem?_getD, hi]
theorem own_below {w w' : World} {base e size n : Nat} {v : Value} {xs : List Value} (h : w.ownsRow base e size v n xs) (hb : Below w.heap.size w w') : w'.ownsRow base e size v n xs := by
 refine ⟨h.1, ?_⟩
 rcases h.2 with h1 | ⟨g, cap, cur, h1, h2, h3, h4⟩
 · exact .inl h1
 · refine .inr ⟨g, cap, cur, h1, h2, ?_, h4⟩
   have hlt : g < w.heap.size := by
    apply Nat.lt_of_not_le; intro hc; rw [Array.getElem?_eq_none hc] at h3; cases h3
   rw [hb.block g hlt]; exact h3
theorem vals_set (ys : List Int) (k : Nat) (x : Int) : (vals ys).set k (.int .u64 x) = vals (ys.set k x) := by simp [vals, List.map_set]
theorem vals_at (ys : List Int) (k : Nat) (h : k < ys.length) : (vals ys)[k]? = some (.int .u64 (ys.getD k 0)) := by simp [vals, h, List.getD_eq_getElem?_getD]
theorem below_grown_none {W w1 : World} (h : W.grownBy w1 none) : Below W.heap.size W w1 := (Below.refl _ W).grown h (Nat.le_refl _) (fun k hk => by cases hk)
theorem take_inv_snoc (xs : List Int) (g : Int -> Int) (k : Nat) (h : k < xs.length) : (xs.take k).map g ++ [g (xs.getD k 0)] = (xs.take (k + 1)).map g := by
 rw [List.take_succ_eq_append_getElem h, List.map_append, getD_at h]; rfl
theorem push_step {w wr w1 : World} {v v1 : Value} {k : Nat} {ys zs : List Int} {y : Int} {T : TypeId} (hB : Below w.heap.size w wr) (hown : wr.ownsRow w.heap.size T 1 v k (vals ys))
 (h1 : w1.ownsRow w.heap.size T 1 v1 (k + 1) (vals ys ++ [.int .u64 y])) (hg : (wr.alloc (.cells #[.int .u64 y] T)).grownBy w1 v.ownBlock) (hs : ys ++ [y] = zs) :
 w1.ownsRow w.heap.size T 1 v1 (k + 1) (vals zs) ∧ Below w.heap.size w w1 := by
 refine ⟨?_, ?_⟩
 · rw [<- hs, <- vals_snoc]; exact h1
 · exact (hB.alloc hB.size _).grown hg (by have := hB.size; simp; omega) (own_base hown)
theorem vals_one (xs : List Int) : ∀ u ∈ vals xs, u.oneCell' = true := by
 intro u hu
 obtain ⟨x, _, rfl⟩ := List.mem_map.1 hu
 rfl
theorem own_empty (w : World) (T : TypeId) : (w.alloc (.cells #[] T)).ownsRow w.heap.size T 1 (.slice (some ⟨w.heap.size, 0, none⟩) 0 0) 0 (vals []) :=
 ⟨by simp [vals], .inr ⟨_, 0, #[], rfl, Nat.le_refl _, heap_alloc_new w _, Nat.le_refl _, by unfold maxLen; omega, by simp, by simp [vals]⟩⟩
theorem grown_trans {a b c : World} {r : Option Nat} (h : a.grownBy b r) (k : b.grownBy c r) : a.grownBy c r :=
 ⟨k.os.trans h.os, k.tape.trans h.tape, k.output.trans h.output, Nat.le_trans h.size k.size, fun j hj hne => (k.block j (Nat.lt_of_lt_of_le hj h.size) hne).trans (h.block j hj hne)⟩
theorem grown_refl (a : World) (r : Option Nat) : a.grownBy a r := ⟨rfl, rfl, rfl, Nat.le_refl _, fun _ _ _ => rfl⟩
theorem grown_far {a b c : World} {r : Option Nat} {g : Nat} (h : a.grownBy b r) (k : b.grownBy c (some g)) (hg : r = some g ∨ a.heap.size <= g) : a.grownBy c r := by
 refine ⟨k.os.trans h.os, k.tape.trans h.tape, k.output.trans h.output, Nat.le_trans h.size k.size, fun j hj hne => ?_⟩
 refine (k.block j (Nat.lt_of_lt_of_le hj h.size) ?_).trans (h.block j hj hne)
 rcases hg with rfl | hg
 · exact hne
 · intro e; cases e; omega
theorem Copy_any (v : Value) (xs : List Int) (w : World) (hr : Row w v xs) :
 Calls Tryz.prog 20 #[v] w fun e w' => ∃ v', e = .returned v' ∧ w'.ownsRow w.heap.size 64 1 v' xs.length (vals xs) ∧ Below w.heap.size w w' := by
 obtain ⟨ao, cap, rfl, hlen, hw, hc⟩ := hr
 obtain ⟨i0, hi0, hz0, hz1, hz2⟩ := info_parts u64_info
 have hown := own_empty w 64
 have hB := (Below.refl w.heap.size w).alloc (Nat.le_refl _) (.cells #[] 64)
 cases ao with
 | none =>
  have hx : xs = [] := by
   apply Classical.byContradiction; intro hne
   obtain ⟨b, off, h, _⟩ := hc hne; cases h
  subst hx
  clear hc
  go_enter Tryz.func20, Tryz.ntmps20
  go_wp2
  go_ret
  exact ⟨_, rfl, hown, hB⟩
 | some ad =>
  have hnews : ∀ j u, (vals xs)[j]? = some u -> (w.alloc (.cells #[] 64)).cell? (ad.add j) = some u := by
   intro j u hj
   have hjl : j < xs.length := by
    apply Nat.lt_of_not_le; intro hcn; rw [List.getElem?_eq_none (by rw [vals_length]; exact hcn)] at hj; cases hj
   obtain ⟨b, off, h, hbl, hcell⟩ := hc (by intro h; rw [h] at hjl; simp at hjl)
   cases h
   have hadd : (⟨b, off, none⟩ : Addr).add j = ⟨b, off + j, none⟩ := by unfold Addr.add; split <;> simp_all
   rw [vals_at xs j hjl] at hj
   rw [hadd, World.cell?_alloc_lt (h := hbl), hcell j hjl]; exact hj
  have HN := hide hnews
  clear hnews hc
  go_enter Tryz.func20, Tryz.ntmps20
  go_wp2_with (at_builtin; refine wpList_append_own _ rfl _ _ _ rfl w.heap.size 64 i0 _ 1 8 Tryz.underlying36 hi0 hz0 hz1 hz2 rfl (by omega) _ 0 (vals []) rfl hown ad xs.length cap (vals xs) rfl (by rw [vals_length]; omega) HN.out (vals_one xs) (by unfold maxLen; omega) (by omega) (by simp) ?_; intro v' w1 hown1 hgrow _)
  go_ret
  exact ⟨_, rfl, by simpa [vals] using hown1, hB.grown hgrow (by simp) (fun k hk => by cases hk; exact Nat.le_refl _)⟩
theorem spoil_step {w wr : World} {base g n cap k : Nat} {ys : List Int} {r : Option Nat} {x : Int} {T : TypeId} (hO : wr.ownsRow base T 1 (.slice (some ⟨g, 0, none⟩) n cap) n (vals ys)) (hG : w.grownBy wr r) (hr : r = some g ∨ w.heap.size <= g) :
 (wr.setCell ⟨g, k, none⟩ (.int .u64 x)).ownsRow base T 1 (.slice (some ⟨g, 0, none⟩) n cap) n (vals (ys.set k x)) ∧ w.grownBy (wr.setCell ⟨g, k, none⟩ (.int .u64 x)) r := by
 have := hO.stored k (.int .u64 x)
 rw [vals_set] at this
 exact ⟨this.1, grown_far hG this.2 hr⟩
theorem own_cell {wr : World} {base g n cap k : Nat} {ys : List Int} {T : TypeId} (hO : wr.ownsRow base T 1 (.slice (some ⟨g, 0, none⟩) n cap) n (vals ys)) (hl : ys.length = n) (hk : k < n) : wr.cell? ⟨g, k, none⟩ = some (.int .u64 (ys.getD k 0)) := by
 rw [hO.cellAt k (by omega), vals_at ys k (by omega)]
theorem own_len {wr : World} {base n : Nat} {ys : List Int} {T : TypeId} {v : Value} (hO : wr.ownsRow base T 1 v n (vals ys)) : ys.length = n := by
 have := hO.1; rw [vals_length] at this; omega
end Go.Proofs.YtjhididlcdepdaaGreat
namespace Go.Proofs.YtjhididlcdepdaaGreat.Fld
def sq (p t : Int) (P : List Int) : List Int := tr (mk (P.length - 1) (fun i => hn p t P (i + 1)))
theorem cv_fac (p t : Int) (g : Nat -> Int) (k : Nat) : cv (co (fac p t)) g (k + 1) = sub p 0 t * g (k + 1) + g k := by
 show sub p 0 t * g (k + 1) + cv (fun i => co (fac p t) (i + 1)) g k = _
 have : cv (fun i => co (fac p t) (i + 1)) g k = 1 * g k := by
  rw [<- cv_single 1 g k]
  exact cv_congr k (fun i _ => by cases i <;> rfl) (fun i _ => rfl)
 rw [this, Int.one_mul]
theorem hn_out {p t : Int} {P : List Int} {i : Nat} (h : P.length <= i) : hn p t P i = 0 := by
 unfold hn
 rw [show P.length - i = 0 by omega]; exact Int.zero_emod p
theorem hn_eq {p t : Int} (P : List Int) (i : Nat) : (sub p 0 t * hn p t P (i + 1) + hn p t P i) % p = co P i % p := by
 by_cases h : i < P.length
 · rw [<- hn_step h]
   unfold sub add mul
   have e1 : ((0 - t) % p * hn p t P (i + 1) + (hn p t P (i + 1) * t % p + co P i) % p) % p = ((0 - t) * hn p t P (i + 1) + (hn p t P (i + 1) * t + co P i)) % p := by
    simp [Int.add_emod, Int.mul_emod]
   rw [e1]
   congr 1
   rw [Int.sub_mul, Int.zero_mul, Int.mul_comm t]; omega
 · rw [hn_out (by omega), hn_out (by omega), co_out P i (by omega), Int.mul_zero, Int.add_zero]
theorem fac_out {p t : Int} (hp : 0 < p) {P : List Int} (h0 : vl p t P = 0) : Tm p (sq p t P) ∧ pl p P = qm (pl p (fac p t)) (pl p (sq p t P)) := by
 have he : Els p (mk (P.length - 1) (fun i => hn p t P (i + 1))) := Els.mk _ (fun i _ => hn_el hp t P (i + 1))
 refine ⟨Tm.tr hp he, ?_⟩
 unfold sq
 rw [pl_tr]
 have hc : ∀ i, co (mk (P.length - 1) (fun i => hn p t P (i + 1))) i = hn p t P (i + 1) := fun i => by
  rw [co_mk]
  split
  · rfl
  · rw [hn_out (by omega)]
 show pu p (co P) = pu p (cv (co (fac p t)) (co (mk (P.length - 1) (fun i => hn p t P (i + 1)))))
 refine pu_eq (fun i => ?_)
 cases i with
 | zero =>
  show _ = (sub p 0 t * co (mk (P.length - 1) (fun i => hn p t P (i + 1))) 0) % p
  rw [hc, <- hn_eq P 0, hn_zero, h0, Int.add_zero]
 | succ i => rw [cv_fac, hc, hc, <- hn_eq P (i + 1)]
theorem ne_mod {p a b : Int} (ha : El p a) (hb : El p b) (h : a ≠ b) : (a - b) % p ≠ 0 := by
 intro h0
 have h1 := ha.1; have h2 := ha.2; have h3 := hb.1; have h4 := hb.2
 by_cases hge : 0 <= a - b
 · rw [Int.emod_eq_of_lt hge (by omega)] at h0; omega
 · have h6 : (a - b + p) % p = 0 := by rw [Int.add_emod_right]; exact h0
   rw [Int.emod_eq_of_lt (by omega) (by omega)] at h6; omega
theorem roots_zero {p : Int} {wd : Bool} (hm : Md p wd) : ∀ (xs P : List Int), Els p xs -> xs.Nodup -> Tm p P -> P.length <= xs.length -> (∀ x ∈ xs, vl p x P = 0) -> P = [] := by
 have hp : 0 < p := by have := hm.bounds; omega
 intro xs
 induction xs with
 | nil => intro P _ _ _ hl _; exact List.length_eq_zero_iff.1 (by simpa using hl)
 | cons x xs ih =>
  intro P hx hn hP hl h0
  apply Classical.byContradiction
  intro hne
  have hq := fac_out (t := x) hp (h0 x List.mem_cons_self)
  have hlen := prod_len hm hP (fac_tm hm) hq.1 hq.2 hne
  have hf : (fac p x).length = 2 := rfl
  have hxs := List.nodup_cons.1 hn
  refine hlen.2.1 (ih _ (fun y hy => hx y (List.mem_cons_of_mem _ hy)) hxs.2 hq.1 (by simp at hl; omega) (fun y hy => ?_))
  have e := vl_mul (p := p) (t := y) (zs := P) (xs := fac p x) (ys := sq p x P) hq.2
  rw [h0 y (List.mem_cons_of_mem _ hy), vl_fac, Int.mul_comm] at e
  have hyx : y ≠ x := fun e => hxs.1 (by rw [<- e]; exact hy)
  have := no_div hm _ _ (by rw [Int.emod_emod_of_dvd _ (Int.dvd_refl p)]; exact ne_mod (hx y (List.mem_cons_of_mem _ hy)) (hx x List.mem_cons_self) hyx) e.symm
  rwa [(vl_el hp y _).mod] at this
def Thr (p : Int) (xs ys T : List Int) : Prop := Tm p T ∧ T.length <= xs.length ∧ ∀ i, i < xs.length -> vl p (co xs i) T = co ys i
theorem nodup_inj {xs : List Int} (hn : xs.Nodup) {i j : Nat} (hi : i < xs.length) (hj : j < xs.length) (h : xs[i] = xs[j]) : i = j := by
 have hp := List.pairwise_iff_getElem.1 hn
 rcases Nat.lt_trichotomy i j with h1 | h1 | h1
 · exact absurd h (hp i j hi hj h1)
 · exact h1
 · exact absurd h.symm (hp j i hj hi h1)
theorem mem_erase {xs : List Int} {i j : Nat} (hi : i < xs.length) (hj : j < xs.length) (h : j ≠ i) : xs[j] ∈ xs.eraseIdx i := List.mem_eraseIdx_iff_getElem?.2 ⟨j, h, List.getElem?_eq_getElem hj⟩
theorem not_mem_erase {xs : List Int} {i : Nat} (hi : i < xs.length) (hn : xs.Nodup) : xs[i] ∉ xs.eraseIdx i := by
 intro h
 obtain ⟨j, hj, he⟩ := List.mem_eraseIdx_iff_getElem?.1 h
 have hj2 : j < xs.length := by
  apply Nat.lt_of_not_le; intro hc; rw [List.getElem?_eq_none hc] at he; cases he
 rw [List.getElem?_eq_getElem hj2] at he
 injection he with he
 exact hj (nodup_inj hn hj2 hi he)
theorem els_erase {p : Int} {xs : List Int} (h : Els p xs) (i : Nat) : Els p (xs.eraseIdx i) := fun x hx => h x (List.mem_of_mem_eraseIdx hx)
def dp (p x : Int) (zs : List Int) : Int := vl p x (zl p zs)
def wt (p : Int) (xs : List Int) (i : Nat) : Int := inv p (dp p (co xs i) (xs.eraseIdx i))
def bs (p : Int) (xs : List Int) (x : Int) (i : Nat) : Int := mul p (wt p xs i) (dp p x (xs.eraseIdx i))
theorem dp_el {p : Int} (hp : 0 < p) (x : Int) (zs : List Int) : El p (dp p x zs) := vl_el hp _ _
theorem dp_nil {p : Int} {wd : Bool} (hm : Md p wd) (x : Int) : dp p x [] = 1 := by
 have hb := hm.bounds
 show (1 + x * 0) % p = 1
 rw [Int.mul_zero]; exact Int.emod_eq_of_lt (by decide) (by omega)
theorem dp_snoc {p : Int} {wd : Bool} (hm : Md p wd) (x : Int) (zs : List Int) (z : Int) : dp p x (zs ++ [z]) = mul p (dp p x zs) (sub p x z) := by
 have e := vl_mul (p := p) (t := x) (zs := zl p (zs ++ [z])) (xs := zl p zs) (ys := fac p z) (by rw [(zl_facts hm _).2.1, (zl_facts hm _).2.1, zr_snoc])
 rw [vl_fac] at e
 exact e
theorem dp_cons {p : Int} {wd : Bool} (hm : Md p wd) (x : Int) (zs : List Int) (z : Int) : dp p x (z :: zs) = mul p (sub p x z) (dp p x zs) := by
 have e := vl_mul (p := p) (t := x) (zs := zl p (z :: zs)) (xs := fac p z) (ys := zl p zs) (by show pl p (prd p (fac p z) (zl p zs)) = _; rw [pl_mul])
 rw [vl_fac] at e
 exact e
theorem dp_un {p : Int} {wd : Bool} (hm : Md p wd) {xs : List Int} (hx : Els p xs) (hn : xs.Nodup) {i : Nat} (hi : i < xs.length) : Un p (dp p (co xs i) (xs.eraseIdx i)) := by
 have hp : 0 < p := by have := hm.bounds; omega
 refine ⟨dp_el hp _ _, fun h => ?_⟩
 have he : El p (co xs i) := hx.co hp i
 have := (zl_root hm he (els_erase hx i)).1 h
 rw [co_at hi] at this
 exact not_mem_erase hi hn this
theorem bs_el {p : Int} (hp : 0 < p) (xs : List Int) (x : Int) (i : Nat) : El p (bs p xs x i) := mul_el hp
theorem bs_here {p : Int} {wd : Bool} (hm : Md p wd) {xs : List Int} (hx : Els p xs) (hn : xs.Nodup) {i : Nat} (hi : i < xs.length) : bs p xs (co xs i) i = 1 := by
 unfold bs wt
 rw [ring_comm]
 have := dp_un hm hx hn hi
 exact mul_inv hm _ this.1 this.2
theorem bs_far {p : Int} {wd : Bool} (hm : Md p wd) {xs : List Int} (hx : Els p xs) {i j : Nat} (hi : i < xs.length) (hj : j < xs.length) (h : j ≠ i) : bs p xs (co xs j) i = 0 := by
 have hp : 0 < p := by have := hm.bounds; omega
 unfold bs
 have : dp p (co xs j) (xs.eraseIdx i) = 0 := (zl_root hm (hx.co hp j) (els_erase hx i)).2 (by rw [co_at hj]; exact mem_erase hi hj h)
 rw [this]; exact mul_zero_right p _
def sc (p c : Int) (xs : List Int) : List Int := tr (sm p c [] xs)
theorem sc_facts {p : Int} (hp : 0 < p) (c : Int) (xs : List Int) : Tm p (sc p c xs) ∧ pl p (sc p c xs) = qm (pl p [c]) (pl p xs) ∧ (sc p c xs).length <= xs.length := by
 have h := is_scale hp c xs
 refine ⟨h.tm.1, h.tm.2, Nat.le_trans (tr_len _) ?_⟩
 rw [sm_len]; simp
theorem vl_one (p t c : Int) : vl p t [c] = c % p := by
 show (c + t * 0) % p = c % p
 rw [Int.mul_zero, Int.add_zero]
theorem vl_sc {p : Int} (hp : 0 < p) (t c : Int) (xs : List Int) : vl p t (sc p c xs) = mul p c (vl p t xs) := by
 rw [vl_mul (sc_facts hp c xs).2.1, vl_one]
 exact mul_emod_left c _ p
def tp (p : Int) (xs ys : List Int) : Nat -> List Int
 | 0 => []
 | k + 1 => tr (sm p 1 (tp p xs ys k) (sc p (mul p (wt p xs k) (co ys k)) (zl p (xs.eraseIdx k))))
def ds (p : Int) (f g : Nat -> Int) : Nat -> Int
 | 0 => 0
 | k + 1 => add p (ds p f g k) (mul p (f k) (g k))
theorem ds_el {p : Int} (hp : 0 < p) (f g : Nat -> Int) (k : Nat) : El p (ds p f g k) := by
 cases k with
 | zero => exact ⟨Int.le_refl 0, hp⟩
 | succ k => exact add_el hp
theorem ds_congr {p : Int} {f g f' g' : Nat -> Int} (k : Nat) (hf : ∀ i, i < k -> f i = f' i) (hg : ∀ i, i < k -> g i = g' i) : ds p f g k = ds p f' g' k := by
 induction k with
 | zero => rfl
 | succ k ih => show add p _ _ = add p _ _; rw [ih (fun i hi => hf i (by omega)) (fun i hi => hg i (by omega)), hf k (by omega), hg k (by omega)]
theorem tp_tm {p : Int} (hp : 0 < p) (xs ys : List Int) (k : Nat) : Tm p (tp p xs ys k) := by
 cases k with
 | zero => exact Tm.nil p
 | succ k => exact (is_add hp _ _).tm.1
theorem tp_len {p : Int} {wd : Bool} (hm : Md p wd) (xs ys : List Int) (k : Nat) (hk : k <= xs.length) : (tp p xs ys k).length <= xs.length := by
 have hp : 0 < p := by have := hm.bounds; omega
 induction k with
 | zero => exact Nat.zero_le _
 | succ k ih =>
  refine Nat.le_trans (tr_len _) ?_
  rw [sm_len]
  have h1 := (sc_facts hp (mul p (wt p xs k) (co ys k)) (zl p (xs.eraseIdx k))).2.2
  rw [(zl_facts hm _).2.2, List.length_eraseIdx, if_pos (by omega)] at h1
  have := ih (by omega)
  omega
theorem vl_tp {p : Int} {wd : Bool} (hm : Md p wd) (t : Int) (xs ys : List Int) (k : Nat) : vl p t (tp p xs ys k) = ds p (bs p xs t) (co ys) k := by
 have hp : 0 < p := by have := hm.bounds; omega
 induction k with
 | zero => exact Int.zero_emod p
 | succ k ih =>
  have h := vl_add (p := p) (t := t) (zs := tp p xs ys (k + 1)) (xs := tp p xs ys k) (ys := sc p (mul p (wt p xs k) (co ys k)) (zl p (xs.eraseIdx k))) (by show pl p (tr (sm p 1 (tp p xs ys k) (sc p (mul p (wt p xs k) (co ys k)) (zl p (xs.eraseIdx k))))) = _; rw [pl_tr, pl_add])
  rw [h, ih, vl_sc hp]
  show add p _ _ = add p _ _
  congr 1
  show mul p (mul p (wt p xs k) (co ys k)) (dp p t (xs.eraseIdx k)) = mul p (mul p (wt p xs k) (dp p t (xs.eraseIdx k))) (co ys k)
  rw [ring_assoc, ring_comm p (co ys k), <- ring_assoc]
theorem ds_zero {p : Int} (f g : Nat -> Int) (k : Nat) (h : ∀ i, i < k -> f i = 0) : ds p f g k = 0 := by
 induction k with
 | zero => rfl
 | succ k ih =>
  show add p _ _ = 0
  rw [ih (fun i hi => h i (by omega)), h k (by omega), mul_zero_left]; exact Int.zero_emod p
theorem ds_one {p : Int} (hp : 0 < p) (f g : Nat -> Int) (n j : Nat) (hj : j < n) (h1 : f j = 1) (h0 : ∀ i, i < n -> i ≠ j -> f i = 0) (hg : El p (g j)) : ds p f g n = g j := by
 induction n with
 | zero => omega
 | succ n ih =>
  show add p _ _ = _
  by_cases e : j = n
  · subst e
    rw [ds_zero f g j (fun i hi => h0 i (by omega) (by omega)), h1]
    unfold add mul
    rw [Int.one_mul, Int.zero_add, Int.emod_emod_of_dvd _ (Int.dvd_refl p)]; exact hg.mod
  · rw [ih (by omega) (fun i hi hne => h0 i (by omega) hne), h0 n (by omega) (by omega), mul_zero_left]
    unfold add
    rw [Int.add_zero]; exact hg.mod
theorem tp_thr {p : Int} {wd : Bool} (hm : Md p wd) {xs ys : List Int} (hx : Els p xs) (hy : Els p ys) (hn : xs.Nodup) : Thr p xs ys (tp p xs ys xs.length) := by
 have hp : 0 < p := by have := hm.bounds; omega
 refine ⟨tp_tm hp xs ys _, tp_len hm xs ys _ (Nat.le_refl _), fun i hi => ?_⟩
 rw [vl_tp hm]
 exact ds_one hp _ _ _ i hi (bs_here hm hx hn hi) (fun j hj hne => bs_far hm hx hj hi (fun e => hne e.symm)) (hy.co hp i)
theorem zr_take_out (p : Int) (xs : List Int) (i : Nat) (hi : i < xs.length) : zr p xs = qm (pl p (fac p xs[i])) (zr p (xs.eraseIdx i)) := by
 induction xs generalizing i with
 | nil => simp at hi
 | cons x xs ih =>
  cases i with
  | zero => rfl
  | succ i =>
   have h := ih i (by simp at hi; omega)
   show qm (pl p (fac p x)) (zr p xs) = qm (pl p (fac p (xs[i]'(by simp at hi; omega)))) (qm (pl p (fac p x)) (zr p (xs.eraseIdx i)))
   rw [h, qm_left]
theorem slp_fac {p x : Int} {wd : Bool} (hm : Md p wd) : slp p (fac p x) = [1] := by
 have hb := hm.bounds
 have : slp p (fac p x) = tr [1 % p] := by
  show tr (mk 1 (fun i => (((i : Int) + 1) * co (fac p x) (i + 1)) % p)) = _
  rfl
 rw [this, Int.emod_eq_of_lt (by decide) (by omega)]; rfl
theorem slp_place {p : Int} {wd : Bool} (hm : Md p wd) {xs : List Int} {i : Nat} (hi : i < xs.length) : vl p (co xs i) (slp p (zl p xs)) = dp p (co xs i) (xs.eraseIdx i) := by
 have hp : 0 < p := by have := hm.bounds; omega
 have h := slp_mul hp (zs := zl p xs) (xs := fac p xs[i]) (ys := zl p (xs.eraseIdx i)) (by rw [(zl_facts hm _).2.1, (zl_facts hm _).2.1]; exact zr_take_out p xs i hi)
 rw [slp_fac hm, pl_one_mul] at h
 have e := vl_add (p := p) (t := co xs i) (zs := slp p (zl p xs)) (xs := zl p (xs.eraseIdx i)) (ys := prd p (fac p xs[i]) (slp p (zl p (xs.eraseIdx i)))) (by rw [h, pl_mul])
 have e2 := vl_mul (p := p) (t := co xs i) (zs := prd p (fac p xs[i]) (slp p (zl p (xs.eraseIdx i)))) (pl_mul p _ _)
 rw [vl_fac, co_at hi, Int.sub_self, Int.zero_emod, Int.zero_mul, Int.zero_emod] at e2
 rw [co_at hi] at e ⊢
 rw [e, e2, Int.add_zero]
 exact (dp_el hp _ _).mod
end Go.Proofs.YtjhididlcdepdaaGreat.Fld
namespace Go.Proofs.YtjhididlcdepdaaGreat.Fld
def pd (p : Int) : List Int -> Int
 | [] => 1
 | x :: l => mul p x (pd p l)
theorem pd_el {p : Int} {wd : Bool} (hm : Md p wd) (l : List Int) : El p (pd p l) := by
 have hb := hm.bounds
 cases l with
 | nil => exact ⟨by show (0 : Int) <= 1; decide, by show (1 : Int) < p; omega⟩
 | cons x l => exact mul_el (by omega)
theorem one_mul_el {p a : Int} (ha : El p a) : mul p 1 a = a := by rw [ring_comm]; exact mul_one_el ha
theorem pd_append {p : Int} {wd : Bool} (hm : Md p wd) (l m : List Int) : pd p (l ++ m) = mul p (pd p l) (pd p m) := by
 induction l with
 | nil => exact (one_mul_el (pd_el hm m)).symm
 | cons x l ih => show mul p x (pd p (l ++ m)) = mul p (mul p x (pd p l)) (pd p m); rw [ih, ring_assoc]
theorem pd_one {p x : Int} (hx : El p x) : pd p [x] = x := mul_one_el hx
theorem pd_snoc {p x : Int} {wd : Bool} (hm : Md p wd) (l : List Int) (hx : El p x) : pd p (l ++ [x]) = mul p (pd p l) x := by rw [pd_append hm, pd_one hx]
def ot (p : Int) (l : List Int) (i : Nat) : Int := mul p (pd p (l.take i)) (pd p (l.drop (i + 1)))
theorem ot_el {p : Int} (hp : 0 < p) (l : List Int) (i : Nat) : El p (ot p l i) := mul_el hp
theorem ot_erase {p : Int} {wd : Bool} (hm : Md p wd) (l : List Int) (i : Nat) : ot p l i = pd p (l.eraseIdx i) := by
 rw [List.eraseIdx_eq_take_drop_succ, pd_append hm]; rfl
theorem pd_ahead {p : Int} {wd : Bool} (hm : Md p wd) {l : List Int} (hl : Els p l) {i : Nat} (hi : i < l.length) : pd p (l.take (i + 1)) = mul p (pd p (l.take i)) (co l i) := by
 have he : El p (co l i) := hl.co (by have := hm.bounds; omega) i
 rw [List.take_succ_eq_append_getElem hi, pd_snoc hm _ (by rw [<- co_at hi]; exact he), co_at hi]
theorem pd_behind {p : Int} {wd : Bool} (hm : Md p wd) {l : List Int} {i : Nat} (hi : i < l.length) : pd p (l.drop i) = mul p (pd p (l.drop (i + 1))) (co l i) := by
 rw [List.drop_eq_getElem_cons hi, co_at hi, ring_comm]; rfl
theorem ot_whole {p : Int} {wd : Bool} (hm : Md p wd) {l : List Int} (hl : Els p l) {i : Nat} (hi : i < l.length) : mul p (co l i) (ot p l i) = pd p l := by
 have e : pd p l = mul p (pd p (l.take i)) (pd p (l.drop i)) := by rw [<- pd_append hm, List.take_append_drop]
 rw [e, pd_behind hm hi]
 unfold ot
 rw [<- ring_assoc, ring_comm p (co l i), ring_assoc, ring_comm p (co l i)]
theorem pd_un {p : Int} {wd : Bool} (hm : Md p wd) (l : List Int) (h : ∀ x ∈ l, Un p x) : Un p (pd p l) := by
 have hb := hm.bounds
 induction l with
 | nil => exact ⟨pd_el hm [], by show (1 : Int) ≠ 0; decide⟩
 | cons x l ih => exact Un.mul hm (h x List.mem_cons_self) (ih (fun y hy => h y (List.mem_cons_of_mem _ hy)))
theorem ot_inv {p : Int} {wd : Bool} (hm : Md p wd) {l : List Int} (h : ∀ x ∈ l, Un p x) {i : Nat} (hi : i < l.length) : mul p (inv p (pd p l)) (ot p l i) = inv p (co l i) := by
 have hb := hm.bounds
 have hu : Un p (co l i) := by rw [co_at hi]; exact h _ (List.getElem_mem hi)
 have hw := pd_un hm l h
 refine inv_eq hm hu (mul_el (by omega)) ?_
 rw [ring_comm p (inv p (pd p l)), <- ring_assoc, ot_whole hm (fun x hx => (h x hx).1) hi]
 exact mul_inv hm _ hw.1 hw.2
theorem dp_pd {p x : Int} {wd : Bool} (hm : Md p wd) (zs : List Int) : dp p x zs = pd p (zs.map (fun z => sub p x z)) := by
 induction zs with
 | nil => exact dp_nil hm x
 | cons z zs ih => rw [dp_cons hm, ih]; rfl
theorem map_erase (g : Int -> Int) (xs : List Int) (i : Nat) : (xs.map g).eraseIdx i = (xs.eraseIdx i).map g := by
 rw [List.eraseIdx_eq_take_drop_succ, List.eraseIdx_eq_take_drop_succ, List.map_append, List.map_take, List.map_drop]
theorem ot_diff {p x : Int} {wd : Bool} (hm : Md p wd) (xs : List Int) (i : Nat) : ot p (xs.map (fun z => sub p x z)) i = dp p x (xs.eraseIdx i) := by
 rw [ot_erase hm, map_erase, dp_pd hm]
def wts (p : Int) (xs : List Int) : List Int := mk xs.length (wt p xs)
def bsl (p : Int) (xs : List Int) (x : Int) : List Int := mk xs.length (bs p xs x)
theorem wts_len (p : Int) (xs : List Int) : (wts p xs).length = xs.length := mk_len _ _
theorem bsl_len (p : Int) (xs : List Int) (x : Int) : (bsl p xs x).length = xs.length := mk_len _ _
theorem wt_el {p : Int} (hp : 0 < p) (xs : List Int) (i : Nat) : El p (wt p xs i) := pow_el hp
theorem wts_els {p : Int} (hp : 0 < p) (xs : List Int) : Els p (wts p xs) := Els.mk _ (fun i _ => wt_el hp xs i)
theorem wts_at {p : Int} {xs : List Int} {i : Nat} (hi : i < xs.length) : co (wts p xs) i = wt p xs i := by unfold wts; rw [co_mk, if_pos hi]
theorem bsl_at {p : Int} {xs : List Int} {x : Int} {i : Nat} (hi : i < xs.length) : co (bsl p xs x) i = bs p xs x i := by unfold bsl; rw [co_mk, if_pos hi]
def bt (xs : List Int) (i k : Nat) : List Int := (xs.take k).eraseIdx i
theorem bt_zero (xs : List Int) (i : Nat) : bt xs i 0 = [] := by unfold bt; rw [List.take_zero]; rfl
theorem bt_self {xs : List Int} {i : Nat} (hi : i < xs.length) : bt xs i (i + 1) = bt xs i i := by
 unfold bt
 have h1 : (xs.take i).length = i := by rw [List.length_take]; omega
 rw [List.take_succ_eq_append_getElem hi, List.eraseIdx_append_of_length_le (by omega), h1, Nat.sub_self, List.eraseIdx_of_length_le (l := xs.take i) (by omega)]
 simp
theorem bt_step {xs : List Int} {i k : Nat} (hk : k < xs.length) (h : k ≠ i) : bt xs i (k + 1) = bt xs i k ++ [co xs k] := by
 unfold bt
 have h1 : (xs.take k).length = k := by rw [List.length_take]; omega
 rw [List.take_succ_eq_append_getElem hk, co_at hk]
 by_cases hlt : i < k
 · rw [List.eraseIdx_append_of_lt_length (by omega)]
 · rw [List.eraseIdx_append_of_length_le (by omega), List.eraseIdx_of_length_le (l := xs.take k) (by omega), List.eraseIdx_of_length_le (by simp; omega)]
theorem bt_all (xs : List Int) (i : Nat) : bt xs i xs.length = xs.eraseIdx i := by unfold bt; rw [List.take_length]
end Go.Proofs.YtjhididlcdepdaaGreat.Fld
namespace Go.Proofs.YtjhididlcdepdaaGreat.Rnk
def sm (f : Nat -> Int) : Nat -> Int
 | 0 => 0
 | n + 1 => sm f n + f n
end Go.Proofs.YtjhididlcdepdaaGreat.Rnk
namespace Go.Proofs.YtjhididlcdepdaaGreat.Rnk
open Go.Proofs.YtjhididlcdepdaaGreat.Fld
def mx (l : List (List Int)) (k m : Nat) : Int := co (l.getD k []) m
theorem getD_set {α : Type} (l : List α) (d v : α) {a : Nat} (ha : a < l.length) (k : Nat) : (l.set a v).getD k d = if k = a then v else l.getD k d := by
 rw [List.getD_eq_getElem?_getD, List.getD_eq_getElem?_getD, List.getElem?_set]
 by_cases e : k = a
 · subst e; rw [if_pos rfl, if_pos rfl, if_pos ha]; rfl
 · rw [if_neg (fun h => e h.symm), if_neg e]
end Go.Proofs.YtjhididlcdepdaaGreat.Rnk
namespace Go.Proofs.YtjhididlcdepdaaGreat.Fld
def offp (p : Int) (P xs ys : List Int) : List Nat := (List.range xs.length).filter (fun i => decide (vl p (co xs i) P ≠ co ys i))
def onp (p : Int) (P xs ys : List Int) : List Nat := (List.range xs.length).filter (fun i => !decide (vl p (co xs i) P ≠ co ys i))
theorem offp_mem {p : Int} {P xs ys : List Int} {i : Nat} : i ∈ offp p P xs ys ↔ i < xs.length ∧ vl p (co xs i) P ≠ co ys i := by
 unfold offp; rw [List.mem_filter, List.mem_range, decide_eq_true_iff]
theorem onp_mem {p : Int} {P xs ys : List Int} {i : Nat} : i ∈ onp p P xs ys ↔ i < xs.length ∧ vl p (co xs i) P = co ys i := by
 unfold onp; rw [List.mem_filter, List.mem_range]; simp
theorem on_off (p : Int) (P xs ys : List Int) : (offp p P xs ys).length + (onp p P xs ys).length = xs.length := by
 have e : ∀ (q : Nat -> Bool) (l : List Nat), (l.filter q).length + (l.filter (fun i => !q i)).length = l.length := fun q l => by
  induction l with
  | nil => rfl
  | cons a l ih => by_cases h : q a = true <;> simp [h] <;> omega
 have := e (fun i => decide (vl p (co xs i) P ≠ co ys i)) (List.range xs.length)
 rw [List.length_range] at this
 exact this
theorem mk_co (xs : List Int) : (List.range xs.length).map (co xs) = xs := ext_co (by simp) (fun i hi => by
 have := co_mk xs.length (co xs) i
 rw [if_pos (by simpa using hi)] at this
 exact this)
theorem sub_places (xs : List Int) (q : Nat -> Bool) : (((List.range xs.length).filter q).map (co xs)).Sublist xs := by
 have h := (List.filter_sublist (l := List.range xs.length) (p := q)).map (co xs)
 rwa [mk_co] at h
def Dec (p : Int) (D w : Nat) (xs ys P : List Int) : Prop := Tm p P ∧ P.length <= D ∧ (offp p P xs ys).length <= w
theorem key {p : Int} {wd : Bool} (hm : Md p wd) {xs ys P Q L : List Int} (hx : Els p xs) (hn : xs.Nodup) {w : Nat} (hw : (offp p P xs ys).length <= w) (h1 : Q.length + w <= xs.length) (h2 : P = [] ∨ L = [] ∨ P.length + L.length + w <= xs.length + 1) (h : ∀ i, i < xs.length -> vl p (co xs i) Q = (co ys i * vl p (co xs i) L) % p) : pl p Q = qm (pl p P) (pl p L) := by
 have hp : 0 < p := by have := hm.bounds; omega
 have hD := is_sub hp Q (prd p P L)
 have hs : pl p Q = qa (pl p (tr (sm p (sub p 0 1) Q (prd p P L)))) (pl p (prd p P L)) := by
  rw [hD.tm.2]
  exact pu_eq (fun i => by show co Q i % p = (co Q i - co (prd p P L) i + co (prd p P L) i) % p; congr 1; omega)
 have hpl : (prd p P L).length + w <= xs.length := by
  by_cases e1 : P = []
  · have : (prd p P L).length = 0 := by rw [e1]; unfold prd; simp
    omega
  · by_cases e2 : L = []
    · have : (prd p P L).length = 0 := by rw [e2]; unfold prd; simp
      omega
    · rw [prd_len p P L e1 e2]
      have := List.length_pos_iff.2 e1
      rcases h2 with c | c | c
      · exact absurd c e1
      · exact absurd c e2
      · omega
 have hzs := sub_places xs (fun i => !decide (vl p (co xs i) P ≠ co ys i))
 have hlen : xs.length <= ((onp p P xs ys).map (co xs)).length + w := by
  rw [List.length_map]; have := on_off p P xs ys; omega
 have h0 := roots_zero hm ((onp p P xs ys).map (co xs)) _ (fun x hx' => hx x (hzs.subset hx')) (hzs.nodup hn) hD.tm.1 (by
  refine Nat.le_trans (tr_len _) ?_
  rw [sm_len]; omega) (fun x hx' => by
  obtain ⟨i, hi, rfl⟩ := List.mem_map.1 hx'
  obtain ⟨h3, h4⟩ := onp_mem.1 hi
  have e := vl_add (p := p) (t := co xs i) hs
  rw [vl_mul (p := p) (t := co xs i) (pl_mul p P L), h4, h i h3] at e
  have hv := vl_el hp (co xs i) (tr (sm p (sub p 0 1) Q (prd p P L)))
  have hy : El p ((co ys i * vl p (co xs i) L) % p) := emod_el hp _
  generalize vl p (co xs i) (tr (sm p (sub p 0 1) Q (prd p P L))) = d at *
  generalize (co ys i * vl p (co xs i) L) % p = y at *
  have g1 := hv.1; have g2 := hv.2; have g3 := hy.1; have g4 := hy.2
  by_cases hlt : d + y < p
  · rw [Int.emod_eq_of_lt (by omega) hlt] at e; omega
  · rw [emod_sub_self _ _ (by omega) (by omega)] at e; omega)
 rw [h0, pl_nil_add, pl_mul] at hs
 exact hs
theorem key_dv {p : Int} {wd : Bool} (hm : Md p wd) {xs ys P Q L : List Int} (hx : Els p xs) (hn : xs.Nodup) (hP : Tm p P) (hL : tr L ≠ []) {w : Nat} (hw : (offp p P xs ys).length <= w) (h1 : Q.length + w <= xs.length) (h2 : P = [] ∨ L = [] ∨ P.length + L.length + w <= xs.length + 1) (h : ∀ i, i < xs.length -> vl p (co xs i) Q = (co ys i * vl p (co xs i) L) % p) : Dv p Q L P [] :=
 Dv.of hP (Tm.nil p) (by rw [List.length_nil]; exact List.length_pos_iff.2 hL) (by rw [pl_add_nil]; exact (key hm hx hn hw h1 h2 h).symm)
def lct (p : Int) (w : Nat) (P xs ys : List Int) : List Int := zl p ((offp p P xs ys).map (co xs) ++ List.replicate (w - (offp p P xs ys).length) 0)
theorem lct_facts {p : Int} {wd : Bool} (hm : Md p wd) {xs ys P : List Int} (hx : Els p xs) {w : Nat} (hw : (offp p P xs ys).length <= w) : Tm p (lct p w P xs ys) ∧ (lct p w P xs ys).length = w + 1 ∧ co (lct p w P xs ys) w = 1 ∧ ∀ i, i < xs.length -> vl p (co xs i) (prd p P (lct p w P xs ys)) = (co ys i * vl p (co xs i) (lct p w P xs ys)) % p := by
 have hp : 0 < p := by have := hm.bounds; omega
 have hl : ((offp p P xs ys).map (co xs) ++ List.replicate (w - (offp p P xs ys).length) 0).length = w := by rw [List.length_append, List.length_map, List.length_replicate]; omega
 have h1 := zl_facts hm ((offp p P xs ys).map (co xs) ++ List.replicate (w - (offp p P xs ys).length) 0)
 have h2 := zl_top hm ((offp p P xs ys).map (co xs) ++ List.replicate (w - (offp p P xs ys).length) 0)
 rw [hl] at h1 h2
 refine ⟨h1.1, h1.2.2, h2, fun i hi => ?_⟩
 rw [vl_mul (p := p) (t := co xs i) (pl_mul p P _)]
 by_cases e : vl p (co xs i) P = co ys i
 · rw [e]
 · have he : Els p ((offp p P xs ys).map (co xs) ++ List.replicate (w - (offp p P xs ys).length) 0) := fun z hz => by
    rcases List.mem_append.1 hz with c | c
    · obtain ⟨j, _, rfl⟩ := List.mem_map.1 c
      exact hx.co hp j
    · rw [(List.mem_replicate.1 c).2]; exact ⟨Int.le_refl _, hp⟩
   have : vl p (co xs i) (lct p w P xs ys) = 0 := (zl_root hm (hx.co hp i) he).2 (List.mem_append_left _ (List.mem_map.2 ⟨i, offp_mem.2 ⟨hi, e⟩, rfl⟩))
   rw [this, Int.mul_zero, Int.mul_zero]
theorem tr_ne {p : Int} {L : List Int} (h : Tm p L) (h0 : L ≠ []) : tr L ≠ [] := by rw [h.2]; exact h0
theorem Dec.only {p : Int} {wd : Bool} (hm : Md p wd) {D w : Nat} {xs ys P R : List Int} (hx : Els p xs) (hn : xs.Nodup) (hl : D + 2 * w <= xs.length) (hP : Dec p D w xs ys P) (hR : Dec p D w xs ys R) : P = R := by
 obtain ⟨f1, f2, f3, f4⟩ := lct_facts hm (ys := ys) (P := R) hx hR.2.2
 have hne : lct p w R xs ys ≠ [] := fun e => by rw [e] at f2; cases f2
 have hq : (prd p R (lct p w R xs ys)).length + w <= xs.length := by
  by_cases e : R = []
  · have : (prd p R (lct p w R xs ys)).length = 0 := by rw [e]; unfold prd; simp
    omega
  · rw [prd_len p _ _ e hne, f2]; have := hR.2.1; have := List.length_pos_iff.2 e; omega
 have a := key_dv hm hx hn hP.1 (tr_ne f1 hne) hP.2.2 hq (.inr (.inr (by rw [f2]; have := hP.2.1; omega))) f4
 have b := key_dv hm hx hn hR.1 (tr_ne f1 hne) hR.2.2 hq (.inr (.inr (by rw [f2]; have := hR.2.1; omega))) f4
 exact (Dv.only hm f1.1 a b).1
theorem Dec.row {p : Int} {wd : Bool} (hm : Md p wd) {D w stop : Nat} {xs ys P T : List Int} {A B : R3} (hx : Els p xs) (hn : xs.Nodup) (h1 : D + w <= stop) (h2 : stop + w <= xs.length) (hT : Thr p xs ys T) (hP : Dec p D w xs ys P) (hF : Fnd p stop (zl p xs) T A B) : B.v ≠ [] ∧ Dv p B.x B.v P [] := by
 have hp : 0 < p := by have := hm.bounds; omega
 obtain ⟨z1, z2, z3⟩ := zl_facts hm xs
 have zt : tr (zl p xs) = zl p xs := z1.2
 have hc := hF.case hm z1.1 hT.1.1
 rw [zt, z3] at hc
 rcases hc with ⟨c, _⟩ | ⟨hi, c1, c2, c3⟩
 · omega
 have hmade := (hF.made hm z1.1 hT.1.1)
 have hv : B.v ≠ [] := fun e => by
  have hu : B.u ≠ [] := hmade.2.2.1.resolve_right (fun h => h e)
  have hb := hmade.1
  rw [e, pl_nil_left, pl_add_nil] at hb
  have hz : zl p xs ≠ [] := fun e' => by rw [e'] at z3; cases z3
  have hpr := (is_prd hm hi.su.1 z1.1 hi.su.2 z1.2).tm
  have : B.x = prd p B.u (zl p xs) := hi.sx.only hp hpr.1 (hb.trans (pl_mul p _ _).symm)
  rw [this, prd_len p _ _ hu hz, z3] at c3
  have := List.length_pos_iff.2 hu
  omega
 refine ⟨hv, ?_⟩
 have hvl := (hF.vlen hm z1.1 hT.1.1 (by rw [zt]; intro e; rw [e] at z3; cases z3)).resolve_right hv
 rw [zt, z3] at hvl
 refine key_dv hm hx hn hP.1 (tr_ne hi.sv hv) hP.2.2 (by omega) (.inr (.inr (by have := hP.2.1; omega))) (fun i hi' => ?_)
 have e1 := vl_add (p := p) (t := co xs i) (zs := B.x) (xs := prd p B.u (zl p xs)) (ys := prd p B.v T) (by rw [pl_mul, pl_mul]; exact hmade.1)
 rw [vl_mul (p := p) (t := co xs i) (pl_mul p B.u (zl p xs)), vl_mul (p := p) (t := co xs i) (pl_mul p B.v T), (zl_root hm (hx.co hp i) hx).2 (by rw [co_at hi']; exact List.getElem_mem hi'), hT.2.2 i hi'] at e1
 rw [e1, Int.mul_zero, Int.zero_emod, Int.zero_add, Int.emod_emod_of_dvd _ (Int.dvd_refl p), Int.mul_comm]
end Go.Proofs.YtjhididlcdepdaaGreat.Fld
namespace Go.Proofs.YtjhididlcdepdaaGreat.Shr
open Go.Proofs.YtjhididlcdepdaaGreat.Fld
def col (bl : List (List Int)) (t : Nat) : List Int := bl.map (fun b => co b t)
theorem col_len (bl : List (List Int)) (t : Nat) : (col bl t).length = bl.length := List.length_map ..
theorem col_at {bl : List (List Int)} {t k : Nat} (hk : k < bl.length) : co (col bl t) k = co bl[k] t := by
 rw [co_at (by rw [col_len]; exact hk)]; unfold col; rw [List.getElem_map]
theorem col_els {p : Int} (hp : 0 < p) {bl : List (List Int)} (h : ∀ b ∈ bl, Els p b) (t : Nat) : Els p (col bl t) := fun y hy => by
 obtain ⟨b, hb, rfl⟩ := List.mem_map.1 hy
 exact (h b hb).co hp t
theorem col_app (a b : List (List Int)) (t : Nat) : col (a ++ b) t = col a t ++ col b t := List.map_append ..
def py (p : Int) (xs : List Int) (bl : List (List Int)) (t : Nat) : List Int := tp p xs (col bl t) xs.length
theorem py_thr {p : Int} {wd : Bool} (hm : Md p wd) {xs : List Int} (hx : Els p xs) (hn : xs.Nodup) {bl : List (List Int)} (hb : ∀ b ∈ bl, Els p b) (t : Nat) : Thr p xs (col bl t) (py p xs bl t) := tp_thr hm hx (col_els (by have := hm.bounds; omega) hb t) hn
def pys (p : Int) (xs : List Int) (w : Nat) (bl : List (List Int)) : List (List Int) := (List.range w).map (py p xs bl)
def shr (p : Int) (xs : List Int) (w : Nat) (bl : List (List Int)) (x : Int) : List Int := mk w (fun t => vl p x (py p xs bl t))
theorem shr_pys (p : Int) (xs : List Int) (w : Nat) (bl : List (List Int)) (x : Int) : (pys p xs w bl).map (vl p x) = shr p xs w bl x := by unfold pys shr mk; rw [List.map_map]; rfl
theorem shr_len (p : Int) (xs : List Int) (w : Nat) (bl : List (List Int)) (x : Int) : (shr p xs w bl x).length = w := mk_len _ _
theorem shr_at {p : Int} {xs : List Int} {w : Nat} {bl : List (List Int)} {x : Int} {t : Nat} (ht : t < w) : co (shr p xs w bl x) t = vl p x (py p xs bl t) := by unfold shr; rw [co_mk, if_pos ht]
theorem shr_els {p : Int} (hp : 0 < p) (xs : List Int) (w : Nat) (bl : List (List Int)) (x : Int) : Els p (shr p xs w bl x) := Els.mk _ (fun _ _ => vl_el hp _ _)
end Go.Proofs.YtjhididlcdepdaaGreat.Shr
namespace Go.Proofs.YtjhididlcdepdaaGreat.Rnk
open Go.Proofs.YtjhididlcdepdaaGreat.Fld
def aq (n : Nat) (X : Nat -> Int) : List Int := mk n X
def al (n w : Nat) (X : Nat -> Int) : List Int := mk w (fun k => X (n + k)) ++ [1]
end Go.Proofs.YtjhididlcdepdaaGreat.Rnk
namespace Go.Proofs.YtjhididlcdepdaaGreat.Fld
def Crs (p : Int) (X Y : R3) : Prop := qm (pl p X.u) (pl p Y.v) = qa (qm (pl p Y.u) (pl p X.v)) (pl p [1]) ∨ qm (pl p Y.u) (pl p X.v) = qa (qm (pl p X.u) (pl p Y.v)) (pl p [1])
theorem crs_eq {p : Int} {zu zv yu yv q : Pl p} {xu xv : Pl p} (eu : qa zu (qm q yu) = xu) (ev : qa zv (qm q yv) = xv) : qm xu yv = qa (qm zu yv) (qm q (qm yu yv)) ∧ qm yu xv = qa (qm yu zv) (qm q (qm yu yv)) := by
 rw [<- eu, <- ev]
 constructor
 · rw [qa_qm, qm_assoc]
 · rw [qm_qa, qm_left]
theorem Crs.next {p : Int} {X Y Z : R3} (h : Crs p X Y) (k : Nx p X Y Z) : Crs p Y Z := by
 obtain ⟨q, hd, ku, kv, eu, ev⟩ := k
 obtain ⟨h1, h2⟩ := crs_eq eu ev
 rcases h with h | h
 · right
   rw [h1, h2, qa_assoc, qa_comm (qm (pl p q) _), <- qa_assoc] at h
   exact qa_cancel h
 · left
   rw [h1, h2, qa_assoc, qa_comm (qm (pl p q) _), <- qa_assoc] at h
   exact qa_cancel h
theorem Ds.crs {p : Int} {stop : Nat} : ∀ (n : Nat) {X Y A B : R3}, Crs p X Y -> Ds p stop n X Y A B -> stop < X.x.length -> Crs p A B := by
 intro n
 induction n with
 | zero => intro X Y A B _ h; exact absurd h id
 | succ n ih =>
  intro X Y A B hi h hs
  rcases h with ⟨h1, rfl, rfl⟩ | ⟨h1, h2, rfl, rfl⟩ | ⟨h1, h2, Z, hz, h3⟩
  · omega
  · exact hi
  · exact ih (hi.next hz) h3 h2
theorem Fnd.crs {p : Int} {stop : Nat} {a b : List Int} {A B : R3} (h : Fnd p stop a b A B) (hs : stop < (tr a).length) : Crs p A B := by
 obtain ⟨n, h⟩ := h
 refine Ds.crs n (.inl ?_) h hs
 show qm (pl p [1]) (pl p [1]) = qa (qm (pl p []) (pl p [])) (pl p [1])
 rw [pl_one_mul, pl_nil_left, pl_nil_add]
theorem take_off {p : Int} {x b k l : Pl p} (h : qa x (qm b k) = qm b l) : x = qm (qa l (qm (pl p (neg1 p)) k)) b := by
 have e := neg_cancel (qm b k)
 have e2 : qa (qa x (qm b k)) (qm (pl p (neg1 p)) (qm b k)) = x := by rw [qa_assoc, e, pl_add_nil]
 rw [h] at e2
 rw [<- e2, qa_qm, qm_comm l b, qm_comm (qm (pl p (neg1 p)) k) b, qm_left b]
theorem Crs.dd {p : Int} {A B : R3} (h : Crs p A B) {W H : List Int} (e : qm (pl p B.u) (pl p W) = qm (pl p B.v) (pl p H)) : Dd p B.v W := by
 rcases h with h | h
 · have e1 : qm (pl p W) (qm (pl p A.u) (pl p B.v)) = qa (pl p W) (qm (pl p B.v) (qm (pl p H) (pl p A.v))) := by
    rw [h, qm_qa, pl_mul_one, qa_comm, <- qm_assoc (pl p W), qm_comm (pl p W), e, qm_assoc]
   rw [<- qm_assoc, qm_comm (qm (pl p W) (pl p A.u)), qm_comm (pl p W) (pl p A.u)] at e1
   have e2 := take_off (p := p) (x := pl p W) (b := pl p B.v) (k := qm (pl p H) (pl p A.v)) (l := qm (pl p A.u) (pl p W)) e1.symm
   exact ⟨sm p 1 (prd p A.u W) (prd p (neg1 p) (prd p H A.v)), by rw [pl_add, pl_mul, pl_mul, pl_mul]; exact e2⟩
 · have e1 : qm (pl p W) (qm (pl p B.u) (pl p A.v)) = qa (pl p W) (qm (pl p B.v) (qm (pl p A.u) (pl p W))) := by
    rw [h, qm_qa, pl_mul_one, qa_comm, qm_left (pl p W), qm_comm (pl p W), qm_left (pl p A.u)]
   rw [<- qm_assoc, qm_comm (pl p W), e, qm_assoc] at e1
   have e2 := take_off (p := p) (x := pl p W) (b := pl p B.v) (k := qm (pl p A.u) (pl p W)) (l := qm (pl p H) (pl p A.v)) e1.symm
   exact ⟨sm p 1 (prd p H A.v) (prd p (neg1 p) (prd p A.u W)), by rw [pl_add, pl_mul, pl_mul, pl_mul]; exact e2⟩
theorem fac_away {p : Int} {wd : Bool} (hm : Md p wd) {z a b : List Int} (hz : Tm p z) (hne : z ≠ []) (h : qm (pl p z) (pl p a) = qm (pl p z) (pl p b)) : pl p a = pl p b := by
 have hp : 0 < p := by have := hm.bounds; omega
 have hd := nz_tm hp (sm p 1 a (prd p (neg1 p) b))
 rw [pl_add, pl_mul] at hd
 have h0 : pl p (prd p z (nz p (sm p 1 a (prd p (neg1 p) b)))) = pl p [] := by
  rw [pl_mul, hd.2, qm_qa, qm_left, h, neg_cancel]
 have hpr := (is_prd hm hz.1 hd.1.1 hz.2 hd.1.2).tm
 have h1 := hpr.1.only hp (Tm.nil p) h0
 have h2 : nz p (sm p 1 a (prd p (neg1 p) b)) = [] := Classical.byContradiction fun e => by
  have := prd_len p z _ hne e
  rw [h1] at this
  have := List.length_pos_iff.2 hne
  have := List.length_pos_iff.2 e
  simp at *
  omega
 have h3 := hd.2
 rw [h2] at h3
 have h4 : qa (qa (pl p a) (qm (pl p (neg1 p)) (pl p b))) (pl p b) = pl p a := by rw [qa_assoc, qa_comm (qm (pl p (neg1 p)) _), neg_cancel, pl_add_nil]
 rw [<- h3, pl_nil_add] at h4
 exact h4.symm
theorem roots_zr {p : Int} {wd : Bool} (hm : Md p wd) : ∀ (xs P : List Int), Els p xs -> xs.Nodup -> (∀ x ∈ xs, vl p x P = 0) -> ∃ H : List Int, pl p P = qm (zr p xs) (pl p H) := by
 have hp : 0 < p := by have := hm.bounds; omega
 intro xs
 induction xs with
 | nil => intro P _ _ _; exact ⟨P, (pl_one_mul _).symm⟩
 | cons x xs ih =>
  intro P hx hn h0
  have hq := fac_out (t := x) hp (h0 x List.mem_cons_self)
  have hxs := List.nodup_cons.1 hn
  obtain ⟨H, hH⟩ := ih (sq p x P) (fun y hy => hx y (List.mem_cons_of_mem _ hy)) hxs.2 (fun y hy => by
   have e := vl_mul (p := p) (t := y) (zs := P) (xs := fac p x) (ys := sq p x P) hq.2
   rw [h0 y (List.mem_cons_of_mem _ hy), vl_fac, Int.mul_comm] at e
   have hyx : y ≠ x := fun e => hxs.1 (by rw [<- e]; exact hy)
   have := no_div hm _ _ (by rw [Int.emod_emod_of_dvd _ (Int.dvd_refl p)]; exact ne_mod (hx y (List.mem_cons_of_mem _ hy)) (hx x List.mem_cons_self) hyx) e.symm
   rwa [(vl_el hp y _).mod] at this)
  exact ⟨H, by show _ = qm (qm (pl p (fac p x)) (zr p xs)) (pl p H); rw [hq.2, hH, qm_assoc]⟩
theorem row_at {p : Int} {wd : Bool} (hm : Md p wd) {stop : Nat} {xs ys T : List Int} {A B : R3} (hx : Els p xs) (hT : Thr p xs ys T) (hF : Fnd p stop (zl p xs) T A B) {i : Nat} (hi : i < xs.length) : vl p (co xs i) B.x = (co ys i * vl p (co xs i) B.v) % p := by
 have hp : 0 < p := by have := hm.bounds; omega
 have hmade := hF.made hm (zl_facts hm xs).1.1 hT.1.1
 have e1 := vl_add (p := p) (t := co xs i) (zs := B.x) (xs := prd p B.u (zl p xs)) (ys := prd p B.v T) (by rw [pl_mul, pl_mul]; exact hmade.1)
 rw [vl_mul (p := p) (t := co xs i) (pl_mul p B.u (zl p xs)), vl_mul (p := p) (t := co xs i) (pl_mul p B.v T), (zl_root hm (hx.co hp i) hx).2 (by rw [co_at hi]; exact List.getElem_mem hi), hT.2.2 i hi] at e1
 rw [e1, Int.mul_zero, Int.zero_emod, Int.zero_add, Int.emod_emod_of_dvd _ (Int.dvd_refl p), Int.mul_comm]
theorem row_ne {p : Int} {wd : Bool} (hm : Md p wd) {stop : Nat} {xs ys T : List Int} {A B : R3} (hx : Els p xs) (h2 : stop <= xs.length) (hT : Thr p xs ys T) (hF : Fnd p stop (zl p xs) T A B) : B.v ≠ [] ∧ Tm p B.x ∧ Tm p B.v ∧ B.x.length <= stop ∧ B.v.length + stop <= xs.length + 1 ∧ Crs p A B := by
 have hp : 0 < p := by have := hm.bounds; omega
 obtain ⟨z1, z2, z3⟩ := zl_facts hm xs
 have zt : tr (zl p xs) = zl p xs := z1.2
 have hc := hF.case hm z1.1 hT.1.1
 rw [zt, z3] at hc
 have hcr := hF.crs (by rw [zt, z3]; omega)
 rcases hc with ⟨c, _⟩ | ⟨hi, c1, c2, c3⟩
 · omega
 have hmade := (hF.made hm z1.1 hT.1.1)
 have hv : B.v ≠ [] := fun e => by
  have hu : B.u ≠ [] := hmade.2.2.1.resolve_right (fun h => h e)
  have hb := hmade.1
  rw [e, pl_nil_left, pl_add_nil] at hb
  have hz : zl p xs ≠ [] := fun e' => by rw [e'] at z3; cases z3
  have hpr := (is_prd hm hi.su.1 z1.1 hi.su.2 z1.2).tm
  have : B.x = prd p B.u (zl p xs) := hi.sx.only hp hpr.1 (hb.trans (pl_mul p _ _).symm)
  rw [this, prd_len p _ _ hu hz, z3] at c3
  have := List.length_pos_iff.2 hu
  omega
 have hvl := (hF.vlen hm z1.1 hT.1.1 (by rw [zt]; intro e; rw [e] at z3; cases z3)).resolve_right hv
 rw [zt, z3] at hvl
 exact ⟨hv, hi.sx, hi.sv, c3, hvl, hcr⟩
theorem Dec.tells {p : Int} {wd : Bool} (hm : Md p wd) {D w stop : Nat} {xs ys P T : List Int} {A B : R3} (hx : Els p xs) (hn : xs.Nodup) (h1 : D + w <= stop) (h2 : stop + w <= xs.length) (hT : Thr p xs ys T) (hP : Dec p D w xs ys P) (hF : Fnd p stop (zl p xs) T A B) :
 Dv p B.x B.v P [] ∧ B.v.length <= w + 1 ∧ ∀ i, i < xs.length -> (vl p (co xs i) B.v = 0 ↔ vl p (co xs i) P ≠ co ys i) := by
 have hp : 0 < p := by have := hm.bounds; omega
 obtain ⟨hv, hdv⟩ := hP.row hm hx hn h1 h2 hT hF
 obtain ⟨_, tx, tv, l1, l2, hcr⟩ := row_ne hm hx (by omega) hT hF
 obtain ⟨z1, z2, z3⟩ := zl_facts hm xs
 have hzne : zl p xs ≠ [] := fun e' => by rw [e'] at z3; cases z3
 have hpr := hdv.rg.2.2.2
 rw [pl_add_nil] at hpr
 have hmade := (hF.made hm z1.1 hT.1.1).1
 have hsub := sub_places xs (fun i => decide (vl p (co xs i) P ≠ co ys i))
 obtain ⟨o1, o2, o3⟩ := zl_facts hm ((offp p P xs ys).map (co xs))
 have hoE : Els p ((offp p P xs ys).map (co xs)) := fun x hx' => hx x (hsub.subset hx')
 obtain ⟨H, hH⟩ := roots_zr hm xs (prd p (zl p ((offp p P xs ys).map (co xs))) (sm p 1 P (prd p (neg1 p) T))) hx hn (fun x hx' => by
  obtain ⟨i, hi, rfl⟩ := List.mem_iff_getElem.1 hx'
  rw [<- co_at hi, vl_mul (p := p) (t := co xs i) (pl_mul p _ _)]
  by_cases e : vl p (co xs i) P = co ys i
  · rw [vl_add (p := p) (t := co xs i) (pl_add p _ _), vl_mul (p := p) (t := co xs i) (pl_mul p (neg1 p) T), e, hT.2.2 i hi]
    have hn1 : vl p (co xs i) (neg1 p) = p - 1 := by
     rw [show neg1 p = [p - 1] from rfl, vl_one]; exact Int.emod_eq_of_lt (by have := hm.bounds; omega) (by omega)
    rw [hn1]
    have : (co ys i + (p - 1) * co ys i % p) % p = 0 := by
     rw [Int.add_emod, Int.emod_emod_of_dvd _ (Int.dvd_refl p), <- Int.add_emod, Int.sub_mul, Int.one_mul, show co ys i + (p * co ys i - co ys i) = p * co ys i by omega, Int.mul_emod_right]
    rw [this, Int.mul_zero, Int.zero_emod]
  · rw [(zl_root hm (hx.co hp i) hoE).2 (List.mem_map.2 ⟨i, offp_mem.2 ⟨hi, e⟩, rfl⟩), Int.zero_mul, Int.zero_emod])
 rw [pl_mul, pl_add, pl_mul, <- z2] at hH
 have key1 : qm (pl p B.u) (pl p (zl p ((offp p P xs ys).map (co xs)))) = qm (pl p B.v) (pl p H) := by
  have e0 : qa (qm (pl p B.v) (qa (pl p P) (qm (pl p (neg1 p)) (pl p T)))) (pl p []) = qm (pl p B.u) (pl p (zl p xs)) := by
   rw [pl_add_nil, qm_qa, qm_comm (pl p B.v) (pl p P), hpr, hmade, qa_assoc, qm_left (pl p B.v), neg_cancel, pl_add_nil]
  rw [pl_add_nil] at e0
  rw [<- pl_mul, <- pl_mul]
  refine fac_away hm z1 hzne ?_
  rw [pl_mul, pl_mul, <- qm_assoc, qm_comm (pl p (zl p xs)) (pl p B.u), <- e0, qm_left (pl p (zl p xs)), <- hH, qm_assoc, qm_comm (qa (pl p P) _)]
 have hdd := hcr.dd key1
 have hone : zl p ((offp p P xs ys).map (co xs)) ≠ [] := fun e => by rw [e] at o3; cases o3
 have hlen := Dd.len hm tv o1 hdd hone
 rw [o3, List.length_map] at hlen
 refine ⟨hdv, by have := hP.2.2; omega, fun i hi => ⟨fun h0 e => ?_, fun e => ?_⟩⟩
 · obtain ⟨k, hk⟩ := hdd
   have h3 := vl_mul (p := p) (t := co xs i) hk
   rw [h0, Int.mul_zero, Int.zero_emod] at h3
   obtain ⟨j, hj, hji⟩ := List.mem_map.1 ((zl_root hm (hx.co hp i) hoE).1 h3)
   obtain ⟨hj1, hj2⟩ := offp_mem.1 hj
   have : j = i := nodup_inj hn hj1 hi (by rw [<- co_at hj1, <- co_at hi]; exact hji)
   rw [this] at hj2
   exact hj2 e
 · have h3 := row_at hm hx hT hF hi
   have h4 := vl_mul (p := p) (t := co xs i) hpr.symm
   rw [h3] at h4
   apply Classical.byContradiction
   intro h0
   have h5 : ((vl p (co xs i) P - co ys i) * vl p (co xs i) B.v) % p = 0 := by rw [Int.sub_mul, Int.sub_emod, <- h4, Int.sub_self, Int.zero_emod]
   have h6 := no_div hm _ _ (by rw [(vl_el hp _ _).mod]; exact h0) h5
   have h7 := vl_el hp (co xs i) P
   have h8 : El p (co ys i) := by rw [<- hT.2.2 i hi]; exact vl_el hp _ _
   exact ne_mod h7 h8 e h6
theorem Dec.of_row {p : Int} {wd : Bool} (hm : Md p wd) {D w stop : Nat} {xs ys P T : List Int} {A B : R3} (hx : Els p xs) (hn : xs.Nodup) (h2 : stop <= xs.length) (hT : Thr p xs ys T) (hF : Fnd p stop (zl p xs) T A B) (hdv : Dv p B.x B.v P []) (l1 : P.length <= D) (l2 : B.v.length <= w + 1) : Dec p D w xs ys P := by
 have hp : 0 < p := by have := hm.bounds; omega
 obtain ⟨hv, tx, tv, _, _, _⟩ := row_ne hm hx h2 hT hF
 have hpr := hdv.rg.2.2.2
 rw [pl_add_nil] at hpr
 refine ⟨hdv.rg.1, l1, ?_⟩
 apply Classical.byContradiction
 intro hc
 have hsub := sub_places xs (fun i => decide (vl p (co xs i) P ≠ co ys i))
 refine hv (roots_zero hm ((offp p P xs ys).map (co xs)) _ (fun x hx' => hx x (hsub.subset hx')) (hsub.nodup hn) tv (by rw [List.length_map]; omega) (fun x hx' => ?_))
 obtain ⟨i, hi, rfl⟩ := List.mem_map.1 hx'
 obtain ⟨hi1, e⟩ := offp_mem.1 hi
 have h3 := row_at hm hx hT hF hi1
 have h4 := vl_mul (p := p) (t := co xs i) hpr.symm
 rw [h3] at h4
 apply Classical.byContradiction
 intro h0
 have h5 : ((vl p (co xs i) P - co ys i) * vl p (co xs i) B.v) % p = 0 := by rw [Int.sub_mul, Int.sub_emod, <- h4, Int.sub_self, Int.zero_emod]
 have h6 := no_div hm _ _ (by rw [(vl_el hp _ _).mod]; exact h0) h5
 have h7 := vl_el hp (co xs i) P
 have h8 : El p (co ys i) := by rw [<- hT.2.2 i hi1]; exact vl_el hp _ _
 exact ne_mod h7 h8 e h6
end Go.Proofs.YtjhididlcdepdaaGreat.Fld
