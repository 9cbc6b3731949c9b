import Derived.Test.YtipobchbnjgenaaGreatBunP
import Derived.Test.YtipobchbnjgenaaGreatBBas
import Derived.Shelf.Spec.BitsCarry
import Derived.Shelf.Bits.Mul64
import Derived.Deep.RegionHeld3
import Derived.Deep.AppendLies
import Derived.BigQuiet
import Derived.Laws.AppendOwnNone
set_option linter.unusedVariables false
set_option linter.unusedSimpArgs false
set_option maxRecDepth 100000
set_option maxHeartbeats 4000000
namespace Go.Proofs.YtipobchbnjgenaaGreat
open Go.RowKit Fld
theorem add64 (x y : Int) (hx : 0 <= x) (hy : 0 <= y) (w : World) : (callFunc 231 #[.int .u64 x, .int .u64 y, .int .u64 0]).run Tryz.prog w =
 .ok (.value (.tuple #[.int .u64 (low64 (x + y)), .int .u64 (high64 (x + y))])) w := by
 rw [run_callFunc_extern Tryz.func231 (by kernel_rfl) (by kernel_rfl) (by kernel_rfl) (e := add64Entry) (by kernel_rfl), run_add64 x y 0 hx hy (by decide) (by decide)]
 simp only [Result.andThen, low64, high64, Int.add_zero]
theorem sub64 (x y : Int) (hx : 0 <= x) (hy : 0 <= y) (hy' : y < 18446744073709551616) (w : World) : (callFunc 227 #[.int .u64 x, .int .u64 y, .int .u64 0]).run Tryz.prog w =
 .ok (.value (.tuple #[.int .u64 (low64 (x - y)), .int .u64 (if x < y then 1 else 0)])) w := by
 obtain ⟨x, rfl⟩ := Int.eq_ofNat_of_zero_le hx
 obtain ⟨y, rfl⟩ := Int.eq_ofNat_of_zero_le hy
 have e1 : (((x + 18446744073709551616 - y - 0) % 18446744073709551616 : Nat) : Int) = low64 ((x : Int) - y) := by unfold low64; omega
 have e2 : ((if x < y + 0 then 1 else 0 : Nat) : Int) = if (x : Int) < y then 1 else 0 := by split <;> split <;> omega
 rw [<- e1, <- e2, run_callFunc_extern Tryz.func227 (by kernel_rfl) (by kernel_rfl) (by kernel_rfl) (e := sub64Entry) (by kernel_rfl)]
 refine (congrArg (fun r => Result.andThen r _) (run_sub64 x y 0 (by decide) w)).trans ?_
 rfl
theorem sub64_lt (x y : Int) (hx : 0 <= x) (hy' : y < 18446744073709551616) (h : x < y) (w : World) : (callFunc 227 #[.int .u64 x, .int .u64 y, .int .u64 0]).run Tryz.prog w =
 .ok (.value (.tuple #[.int .u64 (low64 (x - y)), .int .u64 1])) w := by
 rw [sub64 x y hx (by omega) hy' w, if_pos h]
theorem sub64_ge (x y : Int) (hy : 0 <= y) (hx' : x < 18446744073709551616) (h : y <= x) (w : World) : (callFunc 227 #[.int .u64 x, .int .u64 y, .int .u64 0]).run Tryz.prog w =
 .ok (.value (.tuple #[.int .u64 (x - y), .int .u64 0])) w := by
 have e : low64 (x - y) = x - y := by unfold low64; omega
 rw [sub64 x y (by omega) hy (by omega) w, if_neg (by omega), e]
theorem ret_u64 {a b : Int} (h : a = b) : Ending.returned (.int .u64 a) = .returned (.int .u64 b) := by rw [h]
theorem add_any (p a b : Int) (wd : Bool) (w : World) (hp : p <= 18446744073709551615) (ha : 0 <= a) (hb : 0 <= b) (ha' : a <= 18446744073709551615) (hb' : b <= 18446744073709551615) (hs : a + b < 2 * p) :
 Calls Tryz.prog 226 #[.agg #[.int .u64 p, .bool wd], .int .u64 a, .int .u64 b] w fun e w' =>
  e = .returned (.int .u64 (add p a b)) ∧ Below w.heap.size w w' := by
 by_cases h1 : a + b < p
 · have e1 : low64 (a + b) = a + b := by unfold low64; omega
   have e2 : high64 (a + b) = 0 := by unfold high64; omega
   have hadd := fun w => add64 a b ha hb w
   rw [e1, e2] at hadd
   have HF : Hid (add p a b = a + b) := by unfold add; exact Int.emod_eq_of_lt (by omega) h1
   clear e1 e2
   go_enter Tryz.func226, Tryz.ntmps226
   go_wp2_with (simp only [hadd])
   go_ret
   exact ⟨ret_u64 HF.out.symm, (Below.refl _ _).alloc (Nat.le_refl _) _⟩
 have HF : Hid (add p a b = a + b - p) := by unfold add; exact emod_sub_self _ _ (by omega) hs
 have hadd := fun w => add64 a b ha hb w
 by_cases h2 : a + b <= 18446744073709551615
 · have e1 : low64 (a + b) = a + b := by unfold low64; omega
   have e2 : high64 (a + b) = 0 := by unfold high64; omega
   rw [e1, e2] at hadd
   clear e1 e2
   go_enter Tryz.func226, Tryz.ntmps226
   go_wp2_with (simp only [hadd])
   go_ret
   exact ⟨ret_u64 HF.out.symm, (Below.refl _ _).alloc (Nat.le_refl _) _⟩
 · have HL : Hid (low64 (a + b) = a + b - 18446744073709551616) := by show low64 (a + b) = _; unfold low64; omega
   have e2 : high64 (a + b) = 1 := by unfold high64; omega
   rw [e2] at hadd
   clear e2
   generalize low64 (a + b) = lo at *
   go_enter Tryz.func226, Tryz.ntmps226
   go_wp2_with (simp only [hadd])
   go_ret
   refine ⟨ret_u64 ?_, (Below.refl _ _).alloc (Nat.le_refl _) _⟩
   rw [HF.out, HL.out, IntKind.wrap_u64]; omega
theorem sub_raw (p a b : Int) (wd : Bool) (w : World) (hp : p <= 18446744073709551615) (ha : 0 <= a) (hb : 0 <= b) (ha' : a <= 18446744073709551615) (hb' : b < p) :
 Calls Tryz.prog 224 #[.agg #[.int .u64 p, .bool wd], .int .u64 a, .int .u64 b] w fun e w' =>
  e = .returned (.int .u64 (subR p a b)) ∧ Below w.heap.size w w' := by
 by_cases h1 : a < b
 · have hsub := fun w => sub64_lt a b ha (by omega) h1 w
   have HL : Hid (low64 (a - b) = a - b + 18446744073709551616) := by show low64 (a - b) = _; unfold low64; omega
   have HF : Hid (subR p a b = a - b + p) := by unfold subR; exact if_pos h1
   generalize low64 (a - b) = lo at *
   go_enter Tryz.func224, Tryz.ntmps224
   go_wp2_with (simp only [hsub])
   go_ret
   refine ⟨ret_u64 ?_, (Below.refl _ _).alloc (Nat.le_refl _) _⟩
   rw [HF.out, HL.out, IntKind.wrap_u64]; omega
 · have hsub := fun w => sub64_ge a b hb (by omega) (by omega) w
   have HF : Hid (subR p a b = a - b) := by unfold subR; exact if_neg h1
   go_enter Tryz.func224, Tryz.ntmps224
   go_wp2_with (simp only [hsub])
   go_ret
   exact ⟨ret_u64 HF.out.symm, (Below.refl _ _).alloc (Nat.le_refl _) _⟩
theorem sub_any (p a b : Int) (wd : Bool) (w : World) (hp : p <= 18446744073709551615) (ha : El p a) (hb : El p b) :
 Calls Tryz.prog 224 #[.agg #[.int .u64 p, .bool wd], .int .u64 a, .int .u64 b] w fun e w' =>
  e = .returned (.int .u64 (sub p a b)) ∧ Below w.heap.size w w' := by
 obtain ⟨a1, a2⟩ := ha; obtain ⟨b1, b2⟩ := hb
 rw [<- subR_sub p a b a1 a2 b1 b2]
 exact sub_raw p a b wd w hp a1 b1 (by omega) b2
def mulRen : Shelf.Ren := ⟨fun _ => 228, fun n => if n = 46 then 157 else 83, fun x => x⟩
theorem mulLays : Lays.n264 Tryz.prog mulRen where
 mixed := by kernel_rfl
 f264 := by kernel_rfl
 t46 := by kernel_rfl
 a46 := fun _ => by kernel_rfl
 z46 := fun _ => by kernel_rfl
 v46 := fun _ => by kernel_rfl
 t53 := by kernel_rfl
 a53 := fun _ => by kernel_rfl
 z53 := fun _ => by kernel_rfl
 v53 := fun _ => by kernel_rfl
theorem mul64_nat (x y : Nat) (hx : x < 18446744073709551616) (hy : y < 18446744073709551616) (w : World) :
 Calls Tryz.prog 228 #[.int .u64 x, .int .u64 y] w fun e w' => e = .returned (.tuple #[.int .u64 ((x * y / 18446744073709551616 : Nat) : Int), .int .u64 ((x * y % 18446744073709551616 : Nat) : Int)]) ∧ w' = w :=
 Any.bits_Mul64 mulLays x y hx hy w
theorem mul64_any (x y : Int) (w : World) (hx : 0 <= x) (hx' : x < 18446744073709551616) (hy : 0 <= y) (hy' : y < 18446744073709551616) :
 Calls Tryz.prog 228 #[.int .u64 x, .int .u64 y] w fun e w' => e = .returned (.tuple #[.int .u64 (high64 (x * y)), .int .u64 (low64 (x * y))]) ∧ w' = w := by
 obtain ⟨x, rfl⟩ := Int.eq_ofNat_of_zero_le hx
 obtain ⟨y, rfl⟩ := Int.eq_ofNat_of_zero_le hy
 refine (mul64_nat x y (by omega) (by omega) w).mono ?_
 rintro e w' ⟨rfl, rfl⟩
 refine ⟨?_, rfl⟩
 have e1 : ((x * y / 18446744073709551616 : Nat) : Int) = high64 ((x : Int) * y) := by unfold high64; rw [<- Int.natCast_mul]; omega
 have e2 : ((x * y % 18446744073709551616 : Nat) : Int) = low64 ((x : Int) * y) := by unfold low64; rw [<- Int.natCast_mul]; omega
 rw [e1, e2]
theorem mask_int (a : Int) (h0 : 0 <= a) (h1 : a <= 18446744073709551615) : bits .and .u64 a 4294967295 = a % 4294967296 := by
 obtain ⟨a, rfl⟩ := Int.eq_ofNat_of_zero_le h0
 rw [Mul64.maskN a (by omega)]; omega
def Boxed (w0 : World) (p : Int) (wd : Bool) (w : World) : Prop :=
 w.cell? ⟨w0.heap.size, 0, none⟩ = some (.int .u64 p) ∧ w.cell? ⟨w0.heap.size, 1, none⟩ = some (.bool wd) ∧ w0.heap.size < w.heap.size ∧ Below w0.heap.size w0 w
theorem Boxed.below {w0 w w1 : World} {p : Int} {wd : Bool} (h : Boxed w0 p wd w) (hb : Below w.heap.size w w1) : Boxed w0 p wd w1 :=
 ⟨by rw [hb.cell (p := ⟨w0.heap.size, 0, none⟩) h.2.2.1]; exact h.1, by rw [hb.cell (p := ⟨w0.heap.size, 1, none⟩) h.2.2.1]; exact h.2.1, Nat.lt_of_lt_of_le h.2.2.1 hb.size, h.2.2.2.trans (hb.mono (Nat.le_of_lt h.2.2.1))⟩
theorem Boxed.start (w : World) (p : Int) (wd : Bool) (T : TypeId) : Boxed w p wd (w.alloc (.cells #[.int .u64 p, .bool wd] T)).drew :=
 ⟨by simp [go_sem], by simp [go_sem], by simp, ((Below.refl _ _).alloc (Nat.le_refl _) _).drew⟩
theorem downSmall_any (x : Int) (wd : Bool) (w : World) (h0 : 0 <= x) (h1 : x <= 4053239664633446400) :
 Calls Tryz.prog 230 #[.agg #[.int .u64 2013265921, .bool wd], .int .u64 x] w fun e w' =>
  e = .returned (.int .u64 (x % 2013265921)) ∧ Below w.heap.size w w' := by
 obtain ⟨d1, d2, d3⟩ := down_small x h0 h1
 have HF : Hid (sub 2013265921 (x % 2013265920) (x / 2013265920) = x % 2013265921) := d3
 clear d3
 go_enter Tryz.func230, Tryz.ntmps230
 go_wp2_with (go_at_call 224; refine (sub_any 2013265921 (x % 2013265920) (x / 2013265920) wd _ (by decide) d1 d2).mono ?_; rintro e w' ⟨rfl, hb⟩)
 go_ret
 refine ⟨ret_u64 HF.out, ?_⟩
 exact ((Below.refl _ _).alloc (Nat.le_refl _) _).trans (hb.mono (by simp))
theorem downLarge_any (p h l : Int) (wd : Bool) (w : World) (hp : p = 18446744069414584321) (h0 : 0 <= h) (h1 : h <= 18446744073709551615) (l0 : 0 <= l) (l1 : l <= 18446744073709551615) :
 Calls Tryz.prog 229 #[.agg #[.int .u64 p, .bool wd], .int .u64 h, .int .u64 l] w fun e w' =>
  e = .returned (.int .u64 ((h * 18446744073709551616 + l) % p)) ∧ Below w.heap.size w w' := by
 obtain ⟨d1, d2, d3, d4⟩ := down_large h l h0 h1 l0 l1
 obtain ⟨m1, m2, m3, m4⟩ := mask32 h h0 h1
 have hp1 : p <= 18446744073709551615 := by omega
 have hp2 : h / 4294967296 < p := by omega
 rw [<- hp] at d1 d2 d3 d4
 clear hp
 have HF := hide d4
 clear d4
 have hm := mask_int h h0 h1
 have ew : IntKind.u64.wrap (h % 4294967296 * 4294967295) = h % 4294967296 * 4294967295 := by rw [IntKind.wrap_u64]; omega
 rw [<- ew] at m3 m4 d3 HF
 clear ew
 go_enter Tryz.func229, Tryz.ntmps229
 go_wp2
 go_region_held3 (fun w' => w'.cell? ⟨w.heap.size, 0, none⟩ = some (.int .u64 p) ∧ w'.cell? ⟨w.heap.size, 1, none⟩ = some (.bool wd) ∧ w.heap.size < w'.heap.size ∧ Below w.heap.size w w') (first | exact Boxed.start _ _ _ _ | exact hS2 | exact hS) (first
  | (go_at_call 224; refine (sub_raw p l (h / 4294967296) wd _ hp1 l0 m1 l1 hp2).mono ?_; rintro e w' ⟨rfl, hb⟩; have hS := Boxed.below (Boxed.start w p wd 257) hb)
  | (go_at_call 226; refine (add_any p _ _ wd _ hp1 d1 m3 d2 m4 d3).mono ?_; rintro e w2 ⟨rfl, hb2⟩; have hS2 := Boxed.below hS hb2))
 go_wp2
 go_ret
 exact ⟨ret_u64 HF.out, hS2.2.2.2⟩
theorem mul_small (p a b : Int) (w : World) (hp : p = 2013265921) (ha : El p a) (hb : El p b) :
 Calls Tryz.prog 225 #[.agg #[.int .u64 p, .bool false], .int .u64 a, .int .u64 b] w fun e w' =>
  e = .returned (.int .u64 (mul p a b)) ∧ Below w.heap.size w w' := by
 obtain ⟨a1, a2⟩ := ha; obtain ⟨b1, b2⟩ := hb
 obtain ⟨m1, m2⟩ := mul_le (k := 2013265920) a1 b1 (by omega) (by omega)
 have e2 : low64 (a * b) = a * b := by unfold low64; omega
 have hx := fun W => downSmall_any (a * b) false W m1 m2
 have HM := fun W => mul64_any a b W a1 (by omega) b1 (by omega)
 simp only [e2] at HM
 unfold mul
 rw [<- hp] at hx
 clear hp e2
 go_enter Tryz.func225, Tryz.ntmps225
 go_wp2_with (first
  | (go_at_call 228; refine (HM _).mono ?_; rintro e w' ⟨rfl, rfl⟩)
  | (go_at_call 230; refine (hx _).mono ?_; rintro e w' ⟨rfl, hb⟩))
 go_ret
 exact ⟨rfl, ((Below.refl _ _).alloc (Nat.le_refl _) _).trans (hb.mono (by simp))⟩
theorem mul_large (p a b : Int) (w : World) (hp : p = 18446744069414584321) (ha : El p a) (hb : El p b) :
 Calls Tryz.prog 225 #[.agg #[.int .u64 p, .bool true], .int .u64 a, .int .u64 b] w fun e w' =>
  e = .returned (.int .u64 (mul p a b)) ∧ Below w.heap.size w w' := by
 obtain ⟨a1, a2⟩ := ha; obtain ⟨b1, b2⟩ := hb
 obtain ⟨m1, m2⟩ := mul_le (k := 18446744073709551615) a1 b1 (by omega) (by omega)
 have e1 := high_low (a * b)
 have k1 : 0 <= low64 (a * b) ∧ low64 (a * b) <= 18446744073709551615 ∧ 0 <= high64 (a * b) ∧ high64 (a * b) <= 18446744073709551615 := by
  unfold low64 high64; omega
 have hx := fun W => downLarge_any p (high64 (a * b)) (low64 (a * b)) true W hp k1.2.2.1 k1.2.2.2 k1.1 k1.2.1
 have HM := fun W => mul64_any a b W a1 (by omega) b1 (by omega)
 rw [e1] at hx
 unfold mul
 generalize high64 (a * b) = hh at *
 generalize low64 (a * b) = ll at *
 clear hp e1 k1
 go_enter Tryz.func225, Tryz.ntmps225
 go_wp2_with (first
  | (go_at_call 228; refine (HM _).mono ?_; rintro e w' ⟨rfl, rfl⟩)
  | (go_at_call 229; refine (hx _).mono ?_; rintro e w' ⟨rfl, hb⟩))
 go_ret
 exact ⟨rfl, ((Below.refl _ _).alloc (Nat.le_refl _) _).trans (hb.mono (by simp))⟩
theorem mul_any (p a b : Int) (wd : Bool) (w : World) (hm : Md p wd) (ha : El p a) (hb : El p b) :
 Calls Tryz.prog 225 #[.agg #[.int .u64 p, .bool wd], .int .u64 a, .int .u64 b] w fun e w' =>
  e = .returned (.int .u64 (mul p a b)) ∧ Below w.heap.size w w' := by
 rcases hm with ⟨h1, rfl⟩ | ⟨h1, rfl⟩
 · exact mul_small p a b w h1 ha hb
 · exact mul_large p a b w h1 ha hb
def Fi (f p : Int) (wd : Bool) : Prop := (f = 1 ∧ p = 2013265921 ∧ wd = false) ∨ (f = 2 ∧ p = 18446744069414584321 ∧ wd = true)
theorem Fi.md {f p : Int} {wd : Bool} (h : Fi f p wd) : Md p wd := by
 rcases h with ⟨_, h, k⟩ | ⟨_, h, k⟩
 · exact .inl ⟨h, k⟩
 · exact .inr ⟨h, k⟩
def Row (w : World) (v : Value) (xs : List Int) : Prop :=
 ∃ ao cap, v = .slice ao xs.length cap ∧ xs.length <= 17592186043904 ∧ (∀ x ∈ xs, 0 <= x ∧ x <= 18446744073709551615) ∧
  (xs ≠ [] -> ∃ b off, ao = some ⟨b, off, none⟩ ∧ b < w.heap.size ∧ ∀ i, i < xs.length -> w.cell? ⟨b, off + i, none⟩ = some (.int .u64 (xs.getD i 0)))
theorem Row.below {w w' : World} {v : Value} {xs : List Int} (h : Row w v xs) (hb : Below w.heap.size w w') : Row w' v xs := by
 obtain ⟨ao, cap, rfl, h1, h2, h3⟩ := h
 refine ⟨ao, cap, rfl, h1, h2, fun hne => ?_⟩
 obtain ⟨b, off, rfl, hlt, hc⟩ := h3 hne
 exact ⟨b, off, rfl, Nat.lt_of_lt_of_le hlt hb.size, fun i hi => by rw [hb.cell (p := ⟨b, off + i, none⟩) hlt]; exact hc i hi⟩
theorem getD_at {xs : List Int} {i : Nat} (h : i < xs.length) : xs.getD i 0 = xs[i] := by
 simp [List.getD_eq_getElem?_getD, h]
def allIn (p : Int) (xs : List Int) : Bool := xs.all fun x => decide (x < p)
theorem allIn_true {p : Int} {xs : List Int} (h : ∀ i, i < xs.length -> xs.getD i 0 < p) : allIn p xs = true := by
 unfold allIn; rw [List.all_eq_true]
 intro x hx
 obtain ⟨i, hi, rfl⟩ := List.getElem_of_mem hx
 have := h i hi
 rw [getD_at hi] at this
 simpa using this
theorem allIn_false {p : Int} {xs : List Int} (i : Nat) (hi : i < xs.length) (h : ¬ xs.getD i 0 < p) : allIn p xs = false := by
 unfold allIn
 rw [List.all_eq_false]
 rw [getD_at hi] at h
 exact ⟨xs[i], List.getElem_mem hi, by simpa using h⟩
theorem all_snoc {p x : Int} {xs : List Int} {k : Nat} (h : ∀ i, i < k -> xs.getD i 0 < p) (hx : xs.getD k 0 = x) (hlt : x < p) : ∀ i, i < k + 1 -> xs.getD i 0 < p := by
 intro i hi
 by_cases he : i = k
 · rw [he, hx]; exact hlt
 · exact h i (by omega)
theorem modulusOf_yes (f p : Int) (wd : Bool) (w : World) (h : Fi f p wd) :
 Calls Tryz.prog 197 #[.int .u8 f] w fun e w' => e = .returned (.tuple #[.agg #[.int .u64 p, .bool wd], .bool true]) ∧ Below w.heap.size w w' := by
 rcases h with ⟨rfl, rfl, rfl⟩ | ⟨rfl, rfl, rfl⟩
 · go_enter Tryz.func197, Tryz.ntmps197
   go_wp2
   exact bodyPost_ret (v := .tuple #[.agg #[.int .u64 2013265921, .bool false], .bool true]) (by simp [results, Tryz.results197, go_sem]) rfl ⟨rfl, (Below.refl _ _).alloc (Nat.le_refl _) _⟩
 · go_enter Tryz.func197, Tryz.ntmps197
   go_wp2
   exact bodyPost_ret (v := .tuple #[.agg #[.int .u64 18446744069414584321, .bool true], .bool true]) (by simp [results, Tryz.results197, go_sem]) rfl ⟨rfl, (Below.refl _ _).alloc (Nat.le_refl _) _⟩
theorem modulusOf_no (f : Int) (w : World) (h1 : f ≠ 1) (h2 : f ≠ 2) :
 Calls Tryz.prog 197 #[.int .u8 f] w fun e w' => e = .returned (.tuple #[.agg #[.int .u64 0, .bool false], .bool false]) ∧ Below w.heap.size w w' := by
 have e1 : (f == 1) = false := beq_eq_false_iff_ne.2 h1
 have e2 : (f == 2) = false := beq_eq_false_iff_ne.2 h2
 clear h1 h2
 go_enter Tryz.func197, Tryz.ntmps197
 go_wp2
 exact bodyPost_ret (v := .tuple #[.agg #[.int .u64 0, .bool false], .bool false]) (by simp [results, Tryz.results197, go_sem]) rfl ⟨rfl, (Below.refl _ _).alloc (Nat.le_refl _) _⟩
theorem has_any (p : Int) (wd : Bool) (v : Value) (xs : List Int) (w : World) (hp : p <= 18446744073709551615) (hr : Row w v xs) :
 Calls Tryz.prog 198 #[.agg #[.int .u64 p, .bool wd], v] w fun e w' => e = .returned (.bool (allIn p xs)) ∧ Below w.heap.size w w' := by
 obtain ⟨ao, cap, rfl, hlen, hw, hc⟩ := hr
 go_enter Tryz.func198, Tryz.ntmps198
 go_wp2
 go_loop [9] (fun vi => ∃ k : Nat, k <= xs.length ∧ vi = .int .i64 k ∧ ∀ i, i < k -> xs.getD i 0 < p) (fun vi => xs.length - (intOf vi).toNat)
 case atStart => exact ⟨0, Nat.zero_le _, rfl, fun i hi => by omega⟩
 case round =>
  obtain ⟨k, hk, rfl, hall⟩ := hrel
  by_cases hlt : k < xs.length
  · obtain ⟨b, off, rfl, hbl, hcell⟩ := hc (by intro h; rw [h] at hlt; simp at hlt)
    have hck : (w.alloc (.cells #[.int .u64 p, .bool wd] 257)).cell? ⟨b, off + k, none⟩ = some (.int .u64 (xs.getD k 0)) := by
     rw [World.cell?_alloc_lt (h := hbl)]; exact hcell k hlt
    have HA := hide hall
    clear hall hcell hc
    by_cases hin : xs.getD k 0 < p
    · generalize hx : xs.getD k 0 = x at *
      have HX := hide hx
      clear hx
      go_wp2
      go_round
      case rel => exact ⟨k + 1, by omega, by go_num, all_snoc HA.out HX.out hin⟩
      case measure => simp [intOf]; omega
    · have HF := hide (allIn_false k hlt hin)
      generalize xs.getD k 0 = x at *
      go_wp2
      go_ret
      rw [HF.out]
      exact ⟨rfl, (Below.refl _ _).alloc (Nat.le_refl _) _⟩
  · have HF := hide (allIn_true (p := p) (xs := xs) (fun i hi => hall i (by omega)))
    clear hall hc
    go_wp2
    go_ret
    rw [HF.out]
    exact ⟨rfl, (Below.refl _ _).alloc (Nat.le_refl _) _⟩
end Go.Proofs.YtipobchbnjgenaaGreat
namespace Go.Proofs.YtipobchbnjgenaaGreat.Fld
def Un (p a : Int) : Prop := El p a ∧ a ≠ 0
def pr (p : Int) (xs : List Int) (k : Nat) : Int := (xs.take k).foldl (fun s x => mul p s x) 1
theorem set_getD (ys : List Int) (k j : Nat) (v : Int) (hk : k < ys.length) : (ys.set k v).getD j 0 = if j = k then v else ys.getD j 0 := by
 simp only [List.getD_eq_getElem?_getD, List.getElem?_set]
 by_cases h : j = k
 · subst h; simp [hk]
 · have : ¬ k = j := fun e => h e.symm
   simp [h, this]
end Go.Proofs.YtipobchbnjgenaaGreat.Fld
namespace Go.Proofs.YtipobchbnjgenaaGreat
open Go.RowKit Fld
def Two (k : Nat) (a b : Value) (w : World) : Prop :=
 w.cell? ⟨k, 0, none⟩ = some a ∧ w.cell? ⟨k, 1, none⟩ = some b ∧ w.frozen? ⟨k, 0, none⟩ = false ∧ w.frozen? ⟨k, 1, none⟩ = false ∧ k < w.heap.size
theorem Two.below {k : Nat} {a b : Value} {w w' : World} (h : Two k a b w) (hb : Below w.heap.size w w') : Two k a b w' := by
 obtain ⟨h1, h2, h3, h4, h5⟩ := h
 exact ⟨by rw [hb.cell (p := ⟨k, 0, none⟩) h5]; exact h1, by rw [hb.cell (p := ⟨k, 1, none⟩) h5]; exact h2, by rw [hb.frozen (p := ⟨k, 0, none⟩) h5]; exact h3, by rw [hb.frozen (p := ⟨k, 1, none⟩) h5]; exact h4, Nat.lt_of_lt_of_le h5 hb.size⟩
theorem Two.alloc {k : Nat} {a b : Value} {w : World} (h : Two k a b w) (o : Obj) : Two k a b (w.alloc o) := h.below ((Below.refl _ _).alloc (Nat.le_refl _) o)
theorem Two.first (w : World) (a b : Value) (T : TypeId) : Two w.heap.size a b (w.alloc (.cells #[a, b] T)) :=
 ⟨by simp [go_sem], by simp [go_sem], by simp [go_sem], by simp [go_sem], by simp⟩
theorem below_one {w w1 : World} {o : Obj} (hb : Below (w.alloc o).heap.size (w.alloc o) w1) : Below w.heap.size w w1 :=
 ((Below.refl _ _).alloc (Nat.le_refl _) o).trans (hb.mono (by simp))
theorem check_nof (f : Int) (v : Value) (w : World) (h1 : f ≠ 1) (h2 : f ≠ 2) :
 Calls Tryz.prog 192 #[.int .u8 f, v] w fun e w' => e = .returned (.tuple #[.agg #[.int .u64 0, .bool false], .bool false]) ∧ Below w.heap.size w w' := by
 have hx := fun W => modulusOf_no f W h1 h2
 clear h1 h2
 go_enter Tryz.func192, Tryz.ntmps192
 go_wp2_with (go_at_call 197; refine (hx _).mono ?_; rintro e w1 ⟨rfl, hb⟩; have hT := (Two.first w (.int .u64 0) (.bool false) 257).below hb; have hTo := fun o => hT.alloc o; simp only [Two] at hTo; obtain ⟨g1, g2, g3, g4, g5⟩ := hT)
 refine bodyPost_ret (v := .tuple #[.agg #[.int .u64 0, .bool false], .bool false]) ?_ rfl ⟨rfl, ?_⟩
 · simp [results, Tryz.results192, go_sem, g1, g2, g5]
 · exact (((below_one hb).setCell (Nat.le_refl _) _).setCell (Nat.le_refl _) _).alloc (by simp; omega) _
theorem check_yes (f p : Int) (wd : Bool) (v : Value) (xs : List Int) (w : World) (hfi : Fi f p wd) (hr : Row w v xs) (hin : allIn p xs = true) :
 Calls Tryz.prog 192 #[.int .u8 f, v] w fun e w' => e = .returned (.tuple #[.agg #[.int .u64 p, .bool wd], .bool true]) ∧ Below w.heap.size w w' := by
 have hx := fun W => modulusOf_yes f p wd W hfi
 have hp : p <= 18446744073709551615 := by have := hfi.md.bounds; omega
 have hy := fun W h => has_any p wd v xs W hp h
 rw [hin] at hy
 have HY := hide hy
 have HR := hide hr
 clear hfi hin hy hr
 go_enter Tryz.func192, Tryz.ntmps192
 go_wp2_with (first
  | (go_at_call 197; refine (hx _).mono ?_; rintro e w1 ⟨rfl, hb⟩; have hT := (Two.first w (.int .u64 0) (.bool false) 257).below hb; obtain ⟨g1, g2, g3, g4, g5⟩ := id hT)
  | (go_at_call 198; refine (HY.out _ (HR.out.below ((below_one hb).alloc (Nat.le_of_lt g5) _))).mono ?_; rintro e w2 ⟨rfl, hb2⟩; have hT2 := (Two.first w1 (.int .u64 p) (.bool wd) 257).below hb2; obtain ⟨k1, k2, k3, k4, k5⟩ := hT2; have hT3 := (hT.alloc _).below hb2; obtain ⟨j1, j2, j3, j4, j5⟩ := hT3))
 refine bodyPost_ret (v := .tuple #[.agg #[.int .u64 p, .bool wd], .bool true]) ?_ rfl ⟨rfl, ?_⟩
 · simp [results, Tryz.results192, go_sem, j1, j2]
 · exact ((((below_one hb).alloc (Nat.le_of_lt g5) _).trans (hb2.mono (by simp; omega))).setCell (Nat.le_refl _) _).setCell (Nat.le_refl _) _
theorem check_out (f p : Int) (wd : Bool) (v : Value) (xs : List Int) (w : World) (hfi : Fi f p wd) (hr : Row w v xs) (hin : allIn p xs = false) :
 Calls Tryz.prog 192 #[.int .u8 f, v] w fun e w' => e = .returned (.tuple #[.agg #[.int .u64 0, .bool false], .bool false]) ∧ Below w.heap.size w w' := by
 have hx := fun W => modulusOf_yes f p wd W hfi
 have hp : p <= 18446744073709551615 := by have := hfi.md.bounds; omega
 have hy := fun W h => has_any p wd v xs W hp h
 rw [hin] at hy
 have HY := hide hy
 have HR := hide hr
 clear hfi hin hy hr
 go_enter Tryz.func192, Tryz.ntmps192
 go_wp2_with (first
  | (go_at_call 197; refine (hx _).mono ?_; rintro e w1 ⟨rfl, hb⟩; have hT := (Two.first w (.int .u64 0) (.bool false) 257).below hb; obtain ⟨g1, g2, g3, g4, g5⟩ := id hT)
  | (go_at_call 198; refine (HY.out _ (HR.out.below ((below_one hb).alloc (Nat.le_of_lt g5) _))).mono ?_; rintro e w2 ⟨rfl, hb2⟩; have hT3 := (hT.alloc _).below hb2; obtain ⟨j1, j2, j3, j4, j5⟩ := hT3))
 refine bodyPost_ret (v := .tuple #[.agg #[.int .u64 0, .bool false], .bool false]) ?_ rfl ⟨rfl, ?_⟩
 · simp [results, Tryz.results192, go_sem, j1, j2]
 · exact ((((below_one hb).alloc (Nat.le_of_lt g5) _).trans (hb2.mono (by simp; omega))).setCell (Nat.le_refl _) _).setCell (Nat.le_refl _) _
def Bad (f : Int) (xs : List Int) : Prop := (f ≠ 1 ∧ f ≠ 2) ∨ ∃ p wd, Fi f p wd ∧ allIn p xs = false
theorem check_no (f : Int) (v : Value) (xs : List Int) (w : World) (h : Bad f xs) (hr : Row w v xs) :
 Calls Tryz.prog 192 #[.int .u8 f, v] w fun e w' => e = .returned (.tuple #[.agg #[.int .u64 0, .bool false], .bool false]) ∧ Below w.heap.size w w' := by
 rcases h with ⟨h1, h2⟩ | ⟨p, wd, hf, hi⟩
 · exact check_nof f v w h1 h2
 · exact check_out f p wd v xs w hf hr hi
theorem row2 (w : World) (a b : Int) (ha : 0 <= a ∧ a <= 18446744073709551615) (hb : 0 <= b ∧ b <= 18446744073709551615) (T : TypeId) :
 Row (w.alloc (.cells #[.int .u64 a, .int .u64 b] T)) (.slice (some ⟨w.heap.size, 0, none⟩) 2 2) [a, b] :=
 ⟨_, _, rfl, by simp, by simp [ha, hb], fun _ => ⟨_, _, rfl, by simp, fun i hi => by
  have : i = 0 ∨ i = 1 := by simp at hi; omega
  rcases this with rfl | rfl <;> simp [go_sem]⟩⟩
theorem row0 (w : World) : Row w (.slice none 0 0) [] := ⟨_, _, rfl, by simp, by simp, fun h => absurd rfl h⟩
theorem elWord {p a : Int} (h : El p a) (hp : p <= 18446744073709551615) : 0 <= a ∧ a <= 18446744073709551615 := ⟨h.1, by have := h.2; omega⟩
theorem allIn2 {p a b : Int} (ha : El p a) (hb : El p b) : allIn p [a, b] = true := by simp [allIn, ha.2, hb.2]
theorem Fi.top {f p : Int} {wd : Bool} (h : Fi f p wd) : p <= 18446744073709551615 := by have := h.md.bounds; omega
theorem Fi.pos {f p : Int} {wd : Bool} (h : Fi f p wd) : 0 < p := by have := h.md.bounds; omega
theorem Prime_yes (f p : Int) (wd : Bool) (w : World) (h : Fi f p wd) :
 Calls Tryz.prog 220 #[.int .u8 f] w fun e w' => e = .returned (.tuple #[.int .u64 p, .int .i64 0]) ∧ Below w.heap.size w w' := by
 have hx := fun W => modulusOf_yes f p wd W h
 clear h
 go_enter Tryz.func220, Tryz.ntmps220
 go_wp2_with (go_at_call 197; refine (hx _).mono ?_; rintro e w1 ⟨rfl, hb⟩)
 go_ret2
 exact ⟨rfl, hb.alloc hb.size _⟩
theorem In_yes (f p : Int) (wd : Bool) (v : Value) (xs : List Int) (w : World) (h : Fi f p wd) (hr : Row w v xs) (hi : allIn p xs = true) :
 Calls Tryz.prog 176 #[.int .u8 f, v] w fun e w' => e = .returned (.bool true) ∧ Below w.heap.size w w' := by
 have hx := hide (check_yes f p wd v xs w h hr hi)
 clear h hr hi
 go_enter Tryz.func176, Tryz.ntmps176
 go_wp2_with (go_at_call 192; refine hx.out.mono ?_; rintro e w1 ⟨rfl, hb⟩)
 go_ret
 exact ⟨rfl, hb.alloc hb.size _⟩
theorem In_no (f : Int) (v : Value) (xs : List Int) (w : World) (h : Bad f xs) (hr : Row w v xs) :
 Calls Tryz.prog 176 #[.int .u8 f, v] w fun e w' => e = .returned (.bool false) ∧ Below w.heap.size w w' := by
 have hx := hide (check_no f v xs w h hr)
 clear h hr
 go_enter Tryz.func176, Tryz.ntmps176
 go_wp2_with (go_at_call 192; refine hx.out.mono ?_; rintro e w1 ⟨rfl, hb⟩)
 go_ret
 exact ⟨rfl, hb.alloc hb.size _⟩
theorem Add_yes (f p a b : Int) (wd : Bool) (w : World) (h : Fi f p wd) (ha : El p a) (hb : El p b) :
 Calls Tryz.prog 223 #[.int .u8 f, .int .u64 a, .int .u64 b] w fun e w' => e = .returned (.tuple #[.int .u64 (add p a b), .int .i64 0]) ∧ Below w.heap.size w w' := by
 have hx := fun W v hr => check_yes f p wd v [a, b] W h hr (allIn2 ha hb)
 have hy := fun W => add_any p a b wd W h.top ha.1 hb.1 (elWord ha h.top).2 (elWord hb h.top).2 (by have := ha.2; have := hb.2; omega)
 have hrow := fun T => row2 w a b (elWord ha h.top) (elWord hb h.top) T
 clear h ha hb
 go_enter Tryz.func223, Tryz.ntmps223
 go_wp2_with (first
  | (go_at_call 192; refine (hx _ _ (hrow _)).mono ?_; rintro e w1 ⟨rfl, hb⟩)
  | (go_at_call 226; refine (hy _).mono ?_; rintro e w2 ⟨rfl, hb2⟩))
 go_ret2
 have hz := hb.size
 exact ⟨rfl, ((below_one hb).alloc (by simp at hz; omega) _).trans (hb2.mono (by simp at hz ⊢; omega))⟩
theorem Sub_yes (f p a b : Int) (wd : Bool) (w : World) (h : Fi f p wd) (ha : El p a) (hb : El p b) :
 Calls Tryz.prog 221 #[.int .u8 f, .int .u64 a, .int .u64 b] w fun e w' => e = .returned (.tuple #[.int .u64 (sub p a b), .int .i64 0]) ∧ Below w.heap.size w w' := by
 have hx := fun W v hr => check_yes f p wd v [a, b] W h hr (allIn2 ha hb)
 have hy := fun W => sub_any p a b wd W h.top ha hb
 have hrow := fun T => row2 w a b (elWord ha h.top) (elWord hb h.top) T
 clear h ha hb
 go_enter Tryz.func221, Tryz.ntmps221
 go_wp2_with (first
  | (go_at_call 192; refine (hx _ _ (hrow _)).mono ?_; rintro e w1 ⟨rfl, hb⟩)
  | (go_at_call 224; refine (hy _).mono ?_; rintro e w2 ⟨rfl, hb2⟩))
 go_ret2
 have hz := hb.size
 exact ⟨rfl, ((below_one hb).alloc (by simp at hz; omega) _).trans (hb2.mono (by simp at hz ⊢; omega))⟩
theorem Mul_yes (f p a b : Int) (wd : Bool) (w : World) (h : Fi f p wd) (ha : El p a) (hb : El p b) :
 Calls Tryz.prog 222 #[.int .u8 f, .int .u64 a, .int .u64 b] w fun e w' => e = .returned (.tuple #[.int .u64 (mul p a b), .int .i64 0]) ∧ Below w.heap.size w w' := by
 have hx := fun W v hr => check_yes f p wd v [a, b] W h hr (allIn2 ha hb)
 have hy := fun W => mul_any p a b wd W h.md ha hb
 have hrow := fun T => row2 w a b (elWord ha h.top) (elWord hb h.top) T
 clear h ha hb
 go_enter Tryz.func222, Tryz.ntmps222
 go_wp2_with (first
  | (go_at_call 192; refine (hx _ _ (hrow _)).mono ?_; rintro e w1 ⟨rfl, hb⟩)
  | (go_at_call 225; refine (hy _).mono ?_; rintro e w2 ⟨rfl, hb2⟩))
 go_ret2
 have hz := hb.size
 exact ⟨rfl, ((below_one hb).alloc (by simp at hz; omega) _).trans (hb2.mono (by simp at hz ⊢; omega))⟩
theorem rSum_any (p a b : Int) (w : World) (hp : p <= 18446744073709551615) (ha : El p a) (hb : El p b) :
 Calls Tryz.prog 116 #[.int .u64 p, .int .u64 a, .int .u64 b] w fun e w' => e = .returned (.int .u64 (add p a b)) ∧ w' = w := by
 obtain ⟨a1, a2⟩ := ha; obtain ⟨b1, b2⟩ := hb
 by_cases h : p - b <= a
 · have HF := hide (show a - (p - b) = add p a b by unfold add; rw [emod_sub_self _ _ (by omega) (by omega)]; omega)
   go_enter Tryz.func116, Tryz.ntmps116
   go_wp2
   go_ret
   exact ⟨ret_u64 HF.out, rfl⟩
 · have HF := hide (show a + b = add p a b by unfold add; rw [Int.emod_eq_of_lt (by omega) (by omega)])
   go_enter Tryz.func116, Tryz.ntmps116
   go_wp2
   go_ret
   exact ⟨ret_u64 HF.out, rfl⟩
theorem rLess_any (p a b : Int) (w : World) (hp : p <= 18446744073709551615) (ha : El p a) (hb : El p b) :
 Calls Tryz.prog 117 #[.int .u64 p, .int .u64 a, .int .u64 b] w fun e w' => e = .returned (.int .u64 (sub p a b)) ∧ w' = w := by
 obtain ⟨a1, a2⟩ := ha; obtain ⟨b1, b2⟩ := hb
 by_cases h : b <= a
 · have HF := hide (show a - b = sub p a b by unfold sub; rw [Int.emod_eq_of_lt (by omega) (by omega)])
   go_enter Tryz.func117, Tryz.ntmps117
   go_wp2
   go_ret
   exact ⟨ret_u64 HF.out, rfl⟩
 · have HF := hide (show p - (b - a) = sub p a b by unfold sub; rw [emod_add_self _ _ (by omega) (by omega)]; omega)
   go_enter Tryz.func117, Tryz.ntmps117
   go_wp2
   go_ret
   exact ⟨ret_u64 HF.out, rfl⟩
theorem rTimes_any (p a b : Int) (w : World) (hp : p <= 18446744073709551615) (ha : El p a) (hb0 : 0 <= b) (hb1 : b <= 18446744073709551615) :
 Calls Tryz.prog 118 #[.int .u64 p, .int .u64 a, .int .u64 b] w fun e w' => e = .returned (.int .u64 (mul p a b)) ∧ w' = w := by
 have hp0 : 0 < p := by have := ha.1; have := ha.2; omega
 have h0 : El p 0 := ⟨by decide, hp0⟩
 go_enter Tryz.func118, Tryz.ntmps118
 go_wp2
 go_loop [7, 8] (fun vs vi => ∃ (k : Nat) (s : Int), k <= 64 ∧ vi = .int .i64 ((k : Int) - 1) ∧ vs = .int .u64 s ∧ El p s ∧ s = mul p a (b / 2 ^ k)) (fun _ vi => (intOf vi + 1).toNat)
 case atStart => exact ⟨64, 0, by omega, rfl, rfl, h0, by rw [shift_all b hb0 hb1, mul_zero_right]⟩
 case round =>
  obtain ⟨k, s, hk, rfl, rfl, hs, hv⟩ := hrel
  by_cases hpos : 0 < k
  · obtain ⟨k, rfl⟩ : ∃ j, k = j + 1 := ⟨k - 1, by omega⟩
    have ek : (((k + 1 : Nat) : Int) - 1) = (k : Int) := by omega
    rw [ek]
    clear ek
    rw [half_pow] at hv
    obtain ⟨q0, q1⟩ := word_shift b k hb0 hb1
    have hand := and_one_u64 (b / 2 ^ k) q0 q1
    have hss := add_el (a := s) (b := s) hp0
    have hsa := add_el (a := add p s s) (b := a) hp0
    by_cases ho : b / 2 ^ k % 2 = 1
    · have ht : (b / 2 ^ k % 2 == 1) = true := beq_iff_eq.2 ho
      have HV := hide (times_odd p a (b / 2 ^ k) ho)
      rw [<- hv] at HV
      clear ho hv
      go_wp2_with (go_at_call 116; refine (rSum_any p _ _ _ hp (by assumption) (by assumption)).mono ?_; rintro e w1 ⟨rfl, rfl⟩)
      go_round
      case rel => exact ⟨k, _, by omega, rfl, rfl, hsa, HV.out⟩
      case measure => simp [intOf]
    · have ht : (b / 2 ^ k % 2 == 1) = false := beq_eq_false_iff_ne.2 ho
      have HV := hide (times_even p a (b / 2 ^ k) (by omega))
      rw [<- hv] at HV
      clear ho hv
      go_wp2_with (go_at_call 116; refine (rSum_any p _ _ _ hp (by assumption) (by assumption)).mono ?_; rintro e w1 ⟨rfl, rfl⟩)
      go_round
      case rel => exact ⟨k, _, by omega, rfl, rfl, hss, HV.out⟩
      case measure => simp [intOf]
  · have hk0 : k = 0 := by omega
    subst hk0
    have HV := hide hv
    clear hv
    go_wp2
    go_ret
    refine ⟨ret_u64 ?_, rfl⟩
    rw [HV.out]; simp
theorem rP_yes (f p : Int) (wd : Bool) (w : World) (h : Fi f p wd) :
 Calls Tryz.prog 66 #[.int .u8 f] w fun e w' => e = .returned (.int .u64 p) ∧ w' = w := by
 rcases h with ⟨rfl, rfl, rfl⟩ | ⟨rfl, rfl, rfl⟩
 · go_enter Tryz.func66, Tryz.ntmps66
   go_wp2
   go_ret
   exact ⟨rfl, rfl⟩
 · go_enter Tryz.func66, Tryz.ntmps66
   go_wp2
   go_ret
   exact ⟨rfl, rfl⟩
theorem rP_no (f : Int) (w : World) (h1 : f ≠ 1) (h2 : f ≠ 2) :
 Calls Tryz.prog 66 #[.int .u8 f] w fun e w' => e = .returned (.int .u64 0) ∧ w' = w := by
 have e1 : (f == 1) = false := beq_eq_false_iff_ne.2 h1
 have e2 : (f == 2) = false := beq_eq_false_iff_ne.2 h2
 clear h1 h2
 go_enter Tryz.func66, Tryz.ntmps66
 go_wp2
 go_ret
 exact ⟨rfl, rfl⟩
theorem rIn_of (f p : Int) (v : Value) (xs : List Int) (w : World) (hp0 : 0 <= p) (hp1 : p <= 18446744073709551615) (hr : Row w v xs)
 (hP : ∀ W, Calls Tryz.prog 66 #[.int .u8 f] W fun e w' => e = .returned (.int .u64 p) ∧ w' = W) :
 Calls Tryz.prog 33 #[.int .u8 f, v] w fun e w' => e = .returned (.bool (allIn p xs && (p != 0))) ∧ w' = w := by
 obtain ⟨ao, cap, rfl, hlen, hw, hc⟩ := hr
 have HP := hide hP
 clear hP
 go_enter Tryz.func33, Tryz.ntmps33
 go_wp2_with (go_at_call 66; refine (HP.out _).mono ?_; rintro e w1 ⟨rfl, rfl⟩)
 rename_i w1
 go_loop [6] (fun vi => ∃ k : Nat, k <= xs.length ∧ vi = .int .i64 k ∧ ∀ i, i < k -> xs.getD i 0 < p) (fun vi => xs.length - (intOf vi).toNat)
 case atStart => exact ⟨0, Nat.zero_le _, rfl, fun i hi => by omega⟩
 case round =>
  obtain ⟨k, hk, rfl, hall⟩ := hrel
  by_cases hlt : k < xs.length
  · obtain ⟨b, off, rfl, hbl, hcell⟩ := hc (by intro h; rw [h] at hlt; simp at hlt)
    have hck := hcell k hlt
    have HA := hide hall
    clear hall hcell hc
    by_cases hin : xs.getD k 0 < p
    · generalize hx : xs.getD k 0 = x at *
      have HX := hide hx
      clear hx
      go_wp2
      go_round
      case rel => exact ⟨k + 1, by omega, by go_num, all_snoc HA.out HX.out hin⟩
      case measure => simp [intOf]; omega
    · have HF := hide (allIn_false k hlt hin)
      generalize xs.getD k 0 = x at *
      go_wp2
      go_ret
      rw [HF.out]
      exact ⟨rfl, rfl⟩
  · have HF := hide (allIn_true (p := p) (xs := xs) (fun i hi => hall i (by omega)))
    clear hall hc
    go_wp2
    go_ret
    rw [HF.out]
    exact ⟨rfl, rfl⟩
theorem rIn_yes (f p : Int) (wd : Bool) (v : Value) (xs : List Int) (w : World) (h : Fi f p wd) (hr : Row w v xs) (hi : allIn p xs = true) :
 Calls Tryz.prog 33 #[.int .u8 f, v] w fun e w' => e = .returned (.bool true) ∧ w' = w := by
 have hz := h.pos
 refine (rIn_of f p v xs w (by omega) h.top hr (fun W => rP_yes f p wd W h)).mono ?_
 rintro e w' ⟨rfl, rfl⟩
 have : (p != 0) = true := by simp; omega
 rw [hi, this]; exact ⟨rfl, rfl⟩
theorem rIn_no (f : Int) (v : Value) (xs : List Int) (w : World) (h : Bad f xs) (hr : Row w v xs) :
 Calls Tryz.prog 33 #[.int .u8 f, v] w fun e w' => e = .returned (.bool false) ∧ w' = w := by
 rcases h with ⟨h1, h2⟩ | ⟨p, wd, hf, hi⟩
 · refine (rIn_of f 0 v xs w (by decide) (by decide) hr (fun W => rP_no f W h1 h2)).mono ?_
   rintro e w' ⟨rfl, rfl⟩
   exact ⟨by simp, rfl⟩
 · have hz := hf.pos
   refine (rIn_of f p v xs w (by omega) hf.top hr (fun W => rP_yes f p wd W hf)).mono ?_
   rintro e w' ⟨rfl, rfl⟩
   rw [hi]; exact ⟨rfl, rfl⟩
theorem Fi_or (f : Int) : (∃ p wd, Fi f p wd) ∨ (f ≠ 1 ∧ f ≠ 2) := by
 by_cases h1 : f = 1
 · exact .inl ⟨_, _, .inl ⟨h1, rfl, rfl⟩⟩
 by_cases h2 : f = 2
 · exact .inl ⟨_, _, .inr ⟨h2, rfl, rfl⟩⟩
 exact .inr ⟨h1, h2⟩
theorem u64_info : (Tryz.prog.info? 83).map (fun i => (i.zero, i.size, i.bytes)) = some (some (.int .u64 0), 1, 8) := by kernel_rfl
def vals (xs : List Int) : List Value := xs.map (Value.int .u64)
theorem vals_length (xs : List Int) : (vals xs).length = xs.length := by simp [vals]
theorem vals_snoc (xs : List Int) (x : Int) : vals xs ++ [.int .u64 x] = vals (xs ++ [x]) := by simp [vals]
theorem own_base {w : World} {base e size n : Nat} {v : Value} {xs : List Value} (h : w.ownsRow base e size v n xs) : ∀ k, v.ownBlock = some k -> base <= k := by
 intro k hk
 rcases h.2 with ⟨rfl, _⟩ | ⟨g, cap, cur, rfl, hb, _⟩
 · cases hk
 · cases hk; exact hb
theorem row_of_own {w : World} {base : Nat} {v : Value} {n : Nat} {xs : List Int} (h : w.ownsRow base 83 1 v n (vals xs)) (hn : n = xs.length) (hl : xs.length <= 17592186043904)
 (hw : ∀ x ∈ xs, 0 <= x ∧ x <= 18446744073709551615) : Row w v xs := by
 subst hn
 rcases h.2 with ⟨rfl, h0⟩ | ⟨g, cap, cur, rfl, hb, hh, h1, h2, h3, h4⟩
 · exact ⟨none, 0, by rw [h0], hl, hw, fun hne => absurd (List.length_eq_zero_iff.1 h0) hne⟩
 · refine ⟨_, cap, rfl, hl, hw, fun hne => ⟨g, 0, rfl, ?_, fun i hi => ?_⟩⟩
   · apply Nat.lt_of_not_le; intro hc; rw [Array.getElem?_eq_none hc] at hh; cases hh
   · rw [cell_of_row w g (0 + i) cur 83 (0, 0) hh, Nat.zero_add]
     have e1 : cur[i]? = cur.toList[i]? := by simp
     have e2 : cur.toList[i]? = (vals xs)[i]? := by rw [<- h4, List.getElem?_take_of_lt (by omega)]
     rw [e1, e2]; simp [vals, List.getD_eq_getElem?_getD, hi]
theorem own_below {w w' : World} {base e size n : Nat} {v : Value} {xs : List Value} (h : w.ownsRow base e size v n xs) (hb : Below w.heap.size w w') : w'.ownsRow base e size v n xs := by
 refine ⟨h.1, ?_⟩
 rcases h.2 with h1 | ⟨g, cap, cur, h1, h2, h3, h4⟩
 · exact .inl h1
 · refine .inr ⟨g, cap, cur, h1, h2, ?_, h4⟩
   have hlt : g < w.heap.size := by
    apply Nat.lt_of_not_le; intro hc; rw [Array.getElem?_eq_none hc] at h3; cases h3
   rw [hb.block g hlt]; exact h3
theorem vals_set (ys : List Int) (k : Nat) (x : Int) : (vals ys).set k (.int .u64 x) = vals (ys.set k x) := by simp [vals, List.map_set]
theorem vals_at (ys : List Int) (k : Nat) (h : k < ys.length) : (vals ys)[k]? = some (.int .u64 (ys.getD k 0)) := by simp [vals, h, List.getD_eq_getElem?_getD]
theorem below_grown_none {W w1 : World} (h : W.grownBy w1 none) : Below W.heap.size W w1 := (Below.refl _ W).grown h (Nat.le_refl _) (fun k hk => by cases hk)
theorem take_inv_snoc (xs : List Int) (g : Int -> Int) (k : Nat) (h : k < xs.length) : (xs.take k).map g ++ [g (xs.getD k 0)] = (xs.take (k + 1)).map g := by
 rw [List.take_succ_eq_append_getElem h, List.map_append, getD_at h]; rfl
theorem push_step {w wr w1 : World} {v v1 : Value} {k : Nat} {ys zs : List Int} {y : Int} {T : TypeId} (hB : Below w.heap.size w wr) (hown : wr.ownsRow w.heap.size T 1 v k (vals ys))
 (h1 : w1.ownsRow w.heap.size T 1 v1 (k + 1) (vals ys ++ [.int .u64 y])) (hg : (wr.alloc (.cells #[.int .u64 y] T)).grownBy w1 v.ownBlock) (hs : ys ++ [y] = zs) :
 w1.ownsRow w.heap.size T 1 v1 (k + 1) (vals zs) ∧ Below w.heap.size w w1 := by
 refine ⟨?_, ?_⟩
 · rw [<- hs, <- vals_snoc]; exact h1
 · exact (hB.alloc hB.size _).grown hg (by have := hB.size; simp; omega) (own_base hown)
theorem vals_one (xs : List Int) : ∀ u ∈ vals xs, u.oneCell' = true := by
 intro u hu
 obtain ⟨x, _, rfl⟩ := List.mem_map.1 hu
 rfl
theorem own_empty (w : World) (T : TypeId) : (w.alloc (.cells #[] T)).ownsRow w.heap.size T 1 (.slice (some ⟨w.heap.size, 0, none⟩) 0 0) 0 (vals []) :=
 ⟨by simp [vals], .inr ⟨_, 0, #[], rfl, Nat.le_refl _, heap_alloc_new w _, Nat.le_refl _, by unfold maxLen; omega, by simp, by simp [vals]⟩⟩
theorem grown_trans {a b c : World} {r : Option Nat} (h : a.grownBy b r) (k : b.grownBy c r) : a.grownBy c r :=
 ⟨k.os.trans h.os, k.tape.trans h.tape, k.output.trans h.output, Nat.le_trans h.size k.size, fun j hj hne => (k.block j (Nat.lt_of_lt_of_le hj h.size) hne).trans (h.block j hj hne)⟩
theorem grown_refl (a : World) (r : Option Nat) : a.grownBy a r := ⟨rfl, rfl, rfl, Nat.le_refl _, fun _ _ _ => rfl⟩
theorem grown_alloc {a b : World} {r : Option Nat} (h : a.grownBy b r) (o : Obj) : a.grownBy (b.alloc o) r :=
 ⟨h.os, h.tape, h.output, Nat.le_trans h.size (by simp), fun j hj hne => (Below.heap_alloc b o j (Nat.lt_of_lt_of_le hj h.size)).trans (h.block j hj hne)⟩
theorem grown_far {a b c : World} {r : Option Nat} {g : Nat} (h : a.grownBy b r) (k : b.grownBy c (some g)) (hg : r = some g ∨ a.heap.size <= g) : a.grownBy c r := by
 refine ⟨k.os.trans h.os, k.tape.trans h.tape, k.output.trans h.output, Nat.le_trans h.size k.size, fun j hj hne => ?_⟩
 refine (k.block j (Nat.lt_of_lt_of_le hj h.size) ?_).trans (h.block j hj hne)
 rcases hg with rfl | hg
 · exact hne
 · intro e; cases e; omega
theorem Copy_any (v : Value) (xs : List Int) (w : World) (hr : Row w v xs) :
 Calls Tryz.prog 54 #[v] w fun e w' => ∃ v', e = .returned v' ∧ w'.ownsRow w.heap.size 83 1 v' xs.length (vals xs) ∧ Below w.heap.size w w' := by
 obtain ⟨ao, cap, rfl, hlen, hw, hc⟩ := hr
 obtain ⟨i0, hi0, hz0, hz1, hz2⟩ := info_parts u64_info
 have hown := own_empty w 83
 have hB := (Below.refl w.heap.size w).alloc (Nat.le_refl _) (.cells #[] 83)
 cases ao with
 | none =>
  have hx : xs = [] := by
   apply Classical.byContradiction; intro hne
   obtain ⟨b, off, h, _⟩ := hc hne; cases h
  subst hx
  clear hc
  go_enter Tryz.func54, Tryz.ntmps54
  go_wp2
  go_ret
  exact ⟨_, rfl, hown, hB⟩
 | some ad =>
  have hnews : ∀ j u, (vals xs)[j]? = some u -> (w.alloc (.cells #[] 83)).cell? (ad.add j) = some u := by
   intro j u hj
   have hjl : j < xs.length := by
    apply Nat.lt_of_not_le; intro hcn; rw [List.getElem?_eq_none (by rw [vals_length]; exact hcn)] at hj; cases hj
   obtain ⟨b, off, h, hbl, hcell⟩ := hc (by intro h; rw [h] at hjl; simp at hjl)
   cases h
   have hadd : (⟨b, off, none⟩ : Addr).add j = ⟨b, off + j, none⟩ := by unfold Addr.add; split <;> simp_all
   rw [vals_at xs j hjl] at hj
   rw [hadd, World.cell?_alloc_lt (h := hbl), hcell j hjl]; exact hj
  have HN := hide hnews
  clear hnews hc
  go_enter Tryz.func54, Tryz.ntmps54
  go_wp2_with (at_builtin; refine wpList_append_own _ rfl _ _ _ rfl w.heap.size 83 i0 _ 1 8 Tryz.underlying54 hi0 hz0 hz1 hz2 rfl (by omega) _ 0 (vals []) rfl hown ad xs.length cap (vals xs) rfl (by rw [vals_length]; omega) HN.out (vals_one xs) (by unfold maxLen; omega) (by omega) (by simp) ?_; intro v' w1 hown1 hgrow _)
  go_ret
  exact ⟨_, rfl, by simpa [vals] using hown1, hB.grown hgrow (by simp) (fun k hk => by cases hk; exact Nat.le_refl _)⟩
theorem spoil_step {w wr : World} {base g n cap k : Nat} {ys : List Int} {r : Option Nat} {x : Int} {T : TypeId} (hO : wr.ownsRow base T 1 (.slice (some ⟨g, 0, none⟩) n cap) n (vals ys)) (hG : w.grownBy wr r) (hr : r = some g ∨ w.heap.size <= g) :
 (wr.setCell ⟨g, k, none⟩ (.int .u64 x)).ownsRow base T 1 (.slice (some ⟨g, 0, none⟩) n cap) n (vals (ys.set k x)) ∧ w.grownBy (wr.setCell ⟨g, k, none⟩ (.int .u64 x)) r := by
 have := hO.stored k (.int .u64 x)
 rw [vals_set] at this
 exact ⟨this.1, grown_far hG this.2 hr⟩
theorem own_cell {wr : World} {base g n cap k : Nat} {ys : List Int} {T : TypeId} (hO : wr.ownsRow base T 1 (.slice (some ⟨g, 0, none⟩) n cap) n (vals ys)) (hl : ys.length = n) (hk : k < n) : wr.cell? ⟨g, k, none⟩ = some (.int .u64 (ys.getD k 0)) := by
 rw [hO.cellAt k (by omega), vals_at ys k (by omega)]
theorem own_len {wr : World} {base n : Nat} {ys : List Int} {T : TypeId} {v : Value} (hO : wr.ownsRow base T 1 v n (vals ys)) : ys.length = n := by
 have := hO.1; rw [vals_length] at this; omega
theorem Spoil_mark (v : Value) (n base : Nat) (xs : List Int) (m : Int) (w : World) (m0 : 0 <= m) (m1 : m <= 300) (hO : w.ownsRow base 83 1 v n (vals xs)) (hn : n <= 17592186043904) (hb : base <= w.heap.size) :
 Calls Tryz.prog 38 #[v, .int .u64 m] w fun e w' => e = .returned (.tuple #[]) ∧ w.grownBy w' v.ownBlock := by
 obtain ⟨i0, hi0, hz0, hz1, hz2⟩ := info_parts u64_info
 have hbk := own_base hO
 have hv : v = .slice none 0 0 ∧ n = 0 ∨ ∃ g cap, v = .slice (some ⟨g, 0, none⟩) n cap := by
  rcases hO.2 with h | ⟨g, cap, _, h, _⟩
  · exact .inl h
  · exact .inr ⟨g, cap, h⟩
 rcases hv with ⟨rfl, rfl⟩ | ⟨g, cap, rfl⟩
 · go_enter Tryz.func38, Tryz.ntmps38
   go_wp2
   go_loopw [4] (fun vi wr => ∃ (k : Nat) (ys : List Int), k <= 0 ∧ vi = .int .i64 k ∧ wr.ownsRow base 83 1 (.slice none 0 0) 0 (vals ys) ∧ w.grownBy wr (none)) (fun vi _ => 0 - (intOf vi).toNat)
   case atStart => exact ⟨0, xs, Nat.zero_le _, rfl, hO, grown_refl _ _⟩
   case round =>
    clear hO
    obtain ⟨k, ys, hk, rfl, hO, hG⟩ := hrel
    have hyl := own_len hO
    by_cases hlt : k < 0
    · omega
    · have hGs := hG.size
      go_wp2_with (at_builtin; refine wpList_append_lies _ rfl _ _ _ rfl base 83 i0 _ 1 8 Tryz.underlying54 hi0 hz0 hz1 hz2 rfl (by omega) (.slice none 0 0) 0 (vals ys) rfl (hO.alloc _) ⟨wr.heap.size, 0, none⟩ 3 3 [.int .u64 m, .int .u64 m, .int .u64 m] rfl rfl (World.news_of_block (cs := #[.int .u64 m, .int .u64 m, .int .u64 m]) (t := 83) (fr := (0, 0)) (heap_alloc_new wr _)) (by simp [Value.oneCell']) (by omega) (by unfold maxLen; omega) (by omega) (by simp; omega) (wr.heap.size + 1) (by simp) ?_; intro gg cap2 w2 hO2 hgrow hat hltg)
      have hO2 : w2.ownsRow base 83 1 (.slice (some ⟨gg, 0, none⟩) (3) cap2) (3) (vals (ys ++ [m, m, m])) := by simpa [vals] using hO2
      have hG2 : w.grownBy w2 (none) := grown_trans (grown_alloc hG _) hgrow
      have hrow : (none : Option Nat) = some gg ∨ w.heap.size <= gg := by
       rcases hat with h | h
       · exact .inl h
       · right; omega
      clear hO hG hgrow hat hltg hyl
      go_loopw [5] (fun vi wr => ∃ (k : Nat) (zs : List Int), k <= 3 ∧ vi = .int .i64 k ∧ wr.ownsRow base 83 1 (.slice (some ⟨gg, 0, none⟩) (3) cap2) (3) (vals zs) ∧ w.grownBy wr (none)) (fun vi _ => 3 - (intOf vi).toNat)
      case atStart => exact ⟨0, _, Nat.zero_le _, rfl, hO2, hG2⟩
      case round =>
       clear hO2 hG2
       obtain ⟨j, zs, hj, rfl, hO, hG⟩ := hrel
       have hzl := own_len hO
       by_cases hlt2 : j < 3
       · have hck := own_cell hO hzl hlt2
         have hfr := hO.frozenAt j
         generalize zs.getD j 0 = y at *
         go_wp2
         go_roundw
         case rel => exact ⟨j + 1, _, by omega, by go_num, (spoil_step hO hG hrow).1, (spoil_step hO hG hrow).2⟩
         case measure => simp [intOf]; omega
       · go_wp2
         go_end0
         exact ⟨rfl, hG⟩
 · go_enter Tryz.func38, Tryz.ntmps38
   go_wp2
   go_loopw [4] (fun vi wr => ∃ (k : Nat) (ys : List Int), k <= n ∧ vi = .int .i64 k ∧ wr.ownsRow base 83 1 (.slice (some ⟨g, 0, none⟩) n cap) n (vals ys) ∧ w.grownBy wr (some g)) (fun vi _ => n - (intOf vi).toNat)
   case atStart => exact ⟨0, xs, Nat.zero_le _, rfl, hO, grown_refl _ _⟩
   case round =>
    clear hO
    obtain ⟨k, ys, hk, rfl, hO, hG⟩ := hrel
    have hyl := own_len hO
    by_cases hlt : k < n
    · have hck := own_cell hO hyl hlt
      have hfr := hO.frozenAt k
      generalize ys.getD k 0 = y at *
      go_wp2
      go_roundw
      case rel => exact ⟨k + 1, _, by omega, by go_num, (spoil_step hO hG (.inl rfl)).1, (spoil_step hO hG (.inl rfl)).2⟩
      case measure => simp [intOf]; omega
    · have hGs := hG.size
      go_wp2_with (at_builtin; refine wpList_append_lies _ rfl _ _ _ rfl base 83 i0 _ 1 8 Tryz.underlying54 hi0 hz0 hz1 hz2 rfl (by omega) (.slice (some ⟨g, 0, none⟩) n cap) n (vals ys) rfl (hO.alloc _) ⟨wr.heap.size, 0, none⟩ 3 3 [.int .u64 m, .int .u64 m, .int .u64 m] rfl rfl (World.news_of_block (cs := #[.int .u64 m, .int .u64 m, .int .u64 m]) (t := 83) (fr := (0, 0)) (heap_alloc_new wr _)) (by simp [Value.oneCell']) (by omega) (by unfold maxLen; omega) (by omega) (by simp; omega) (wr.heap.size + 1) (by simp) ?_; intro gg cap2 w2 hO2 hgrow hat hltg)
      have hO2 : w2.ownsRow base 83 1 (.slice (some ⟨gg, 0, none⟩) (n + 3) cap2) (n + 3) (vals (ys ++ [m, m, m])) := by simpa [vals] using hO2
      have hG2 : w.grownBy w2 (some g) := grown_trans (grown_alloc hG _) hgrow
      have hrow : (some g : Option Nat) = some gg ∨ w.heap.size <= gg := by
       rcases hat with h | h
       · exact .inl h
       · right; omega
      clear hO hG hgrow hat hltg hyl
      go_loopw [5] (fun vi wr => ∃ (k : Nat) (zs : List Int), k <= n + 3 ∧ vi = .int .i64 k ∧ wr.ownsRow base 83 1 (.slice (some ⟨gg, 0, none⟩) (n + 3) cap2) (n + 3) (vals zs) ∧ w.grownBy wr (some g)) (fun vi _ => n + 3 - (intOf vi).toNat)
      case atStart => exact ⟨0, _, Nat.zero_le _, rfl, hO2, hG2⟩
      case round =>
       clear hO2 hG2
       obtain ⟨j, zs, hj, rfl, hO, hG⟩ := hrel
       have hzl := own_len hO
       by_cases hlt2 : j < n + 3
       · have hck := own_cell hO hzl hlt2
         have hfr := hO.frozenAt j
         generalize zs.getD j 0 = y at *
         go_wp2
         go_roundw
         case rel => exact ⟨j + 1, _, by omega, by go_num, (spoil_step hO hG hrow).1, (spoil_step hO hG hrow).2⟩
         case measure => simp [intOf]; omega
       · go_wp2
         go_end0
         exact ⟨rfl, hG⟩
theorem Spoil_any (v : Value) (n base : Nat) (xs : List Int) (w : World) (hO : w.ownsRow base 83 1 v n (vals xs)) (hn : n <= 17592186043904) (hb : base <= w.heap.size) :
 Calls Tryz.prog 38 #[v, .int .u64 7] w fun e w' => e = .returned (.tuple #[]) ∧ w.grownBy w' v.ownBlock := Spoil_mark v n base xs 7 w (by decide) (by decide) hO hn hb
end Go.Proofs.YtipobchbnjgenaaGreat
namespace Go.Proofs.YtipobchbnjgenaaGreat.Fld
def sq (p t : Int) (P : List Int) : List Int := tr (mk (P.length - 1) (fun i => hn p t P (i + 1)))
def dp (p x : Int) (zs : List Int) : Int := vl p x (zl p zs)
def wt (p : Int) (xs : List Int) (i : Nat) : Int := inv p (dp p (co xs i) (xs.eraseIdx i))
def bs (p : Int) (xs : List Int) (x : Int) (i : Nat) : Int := mul p (wt p xs i) (dp p x (xs.eraseIdx i))
def sc (p c : Int) (xs : List Int) : List Int := tr (sm p c [] xs)
def ds (p : Int) (f g : Nat -> Int) : Nat -> Int
 | 0 => 0
 | k + 1 => add p (ds p f g k) (mul p (f k) (g k))
end Go.Proofs.YtipobchbnjgenaaGreat.Fld
namespace Go.Proofs.YtipobchbnjgenaaGreat.Shr
open Go.Proofs.YtipobchbnjgenaaGreat.Fld
end Go.Proofs.YtipobchbnjgenaaGreat.Shr
namespace Go.Proofs.YtipobchbnjgenaaGreat.Fld
def pd (p : Int) : List Int -> Int
 | [] => 1
 | x :: l => mul p x (pd p l)
def ot (p : Int) (l : List Int) (i : Nat) : Int := mul p (pd p (l.take i)) (pd p (l.drop (i + 1)))
end Go.Proofs.YtipobchbnjgenaaGreat.Fld
namespace Go.Proofs.YtipobchbnjgenaaGreat
open Go.RowKit Fld
end Go.Proofs.YtipobchbnjgenaaGreat
