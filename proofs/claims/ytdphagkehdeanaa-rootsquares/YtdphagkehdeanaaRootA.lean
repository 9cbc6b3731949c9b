/-
  Roots: which field has which log and base; the logs of elements.
-/
import Derived.Test.YtdphagkehdeanaaAnch
import Derived.WalkMore
namespace Go.Proofs.Ytdphagkehdeanaa
open Go.RowKit Fld
set_option linter.unusedVariables false

/-- Which field has which log, and of which base its roots are powers. -/
def Lb (f p : Int) (wd : Bool) (L : Nat) (g : Int) : Prop :=
  (f = 1 ∧ p = 2013265921 ∧ wd = false ∧ L = 27 ∧ g = 31) ∨ (f = 2 ∧ p = 18446744069414584321 ∧ wd = true ∧ L = 32 ∧ g = 7)
theorem Lb.fi {f p : Int} {wd : Bool} {L : Nat} {g : Int} (h : Lb f p wd L g) : Fi f p wd := by
  rcases h with ⟨a, b, c, _, _⟩ | ⟨a, b, c, _, _⟩
  · exact .inl ⟨a, b, c⟩
  · exact .inr ⟨a, b, c⟩
theorem Lb.le {f p : Int} {wd : Bool} {L : Nat} {g : Int} (h : Lb f p wd L g) : 27 ≤ L ∧ L ≤ 32 := by
  rcases h with ⟨_, _, _, h, _⟩ | ⟨_, _, _, h, _⟩ <;> omega
theorem Lb.base {f p : Int} {wd : Bool} {L : Nat} {g : Int} (h : Lb f p wd L g) : El p g := by
  rcases h with ⟨_, h, _, _, k⟩ | ⟨_, h, _, _, k⟩ <;> exact ⟨by omega, by omega⟩
theorem Lb_or (f : Int) : (∃ p wd L g, Lb f p wd L g) ∨ (f ≠ 1 ∧ f ≠ 2) := by
  by_cases h1 : f = 1
  · exact .inl ⟨_, _, _, _, .inl ⟨h1, rfl, rfl, rfl, rfl⟩⟩
  by_cases h2 : f = 2
  · exact .inl ⟨_, _, _, _, .inr ⟨h2, rfl, rfl, rfl, rfl⟩⟩
  exact .inr ⟨h1, h2⟩

/-- a squared k times. -/
def sq (p a : Int) : Nat → Int
  | 0 => a
  | k + 1 => mul p (sq p a k) (sq p a k)
theorem sq_el {p a : Int} (hp : 0 < p) (ha : El p a) (k : Nat) : El p (sq p a k) := by
  cases k with
  | zero => exact ha
  | succ k => exact mul_el hp

/-- A struct of an int and a word, boxed right behind w0. -/
def Box2 (w0 : World) (a b : Int) (w : World) : Prop :=
  w.cell? ⟨w0.heap.size, 0, none⟩ = some (.int .i64 a) ∧ w.cell? ⟨w0.heap.size, 1, none⟩ = some (.int .u64 b) ∧ w0.heap.size < w.heap.size ∧ Below w0.heap.size w0 w
theorem Box2.below {w0 w w1 : World} {a b : Int} (h : Box2 w0 a b w) (hb : Below w.heap.size w w1) : Box2 w0 a b w1 :=
  ⟨(hb.cell (p := ⟨w0.heap.size, 0, none⟩) h.2.2.1).trans h.1, (hb.cell (p := ⟨w0.heap.size, 1, none⟩) h.2.2.1).trans h.2.1, Nat.lt_of_lt_of_le h.2.2.1 hb.size, h.2.2.2.trans (hb.mono h.2.2.2.size)⟩
theorem Box2.first (w : World) (a b : Int) (T : TypeId) : Box2 w a b (w.alloc (.cells #[.int .i64 a, .int .u64 b] T)) :=
  ⟨by simp [go_sem], by simp [go_sem], by simp, (Below.refl _ _).alloc (Nat.le_refl _) _⟩

set_option maxHeartbeats 200000 in
theorem unityOf_yes (f p : Int) (wd : Bool) (L : Nat) (g : Int) (w : World) (h : Lb f p wd L g) :
    Calls Try.prog 22 #[.int .u8 f] w fun e w' => e = .returned (.tuple #[.agg #[.int .i64 L, .int .u64 g], .bool true]) ∧ Below w.heap.size w w' := by
  rcases h with ⟨rfl, rfl, rfl, rfl, rfl⟩ | ⟨rfl, rfl, rfl, rfl, rfl⟩
  · go_enter Try.func22, Try.ntmps22
    go_wp2
    exact bodyPost_ret (v := .tuple #[.agg #[.int .i64 27, .int .u64 31], .bool true]) (by simp [results, Try.results22, go_sem]) rfl ⟨rfl, (Below.refl _ _).alloc (Nat.le_refl _) _⟩
  · go_enter Try.func22, Try.ntmps22
    go_wp2
    exact bodyPost_ret (v := .tuple #[.agg #[.int .i64 32, .int .u64 7], .bool true]) (by simp [results, Try.results22, go_sem]) rfl ⟨rfl, (Below.refl _ _).alloc (Nat.le_refl _) _⟩

set_option maxHeartbeats 200000 in
theorem unityOf_no (f : Int) (w : World) (h1 : f ≠ 1) (h2 : f ≠ 2) :
    Calls Try.prog 22 #[.int .u8 f] w fun e w' => e = .returned (.tuple #[.agg #[.int .i64 0, .int .u64 0], .bool false]) ∧ Below w.heap.size w w' := by
  have e1 : (f == 1) = false := beq_eq_false_iff_ne.2 h1
  have e2 : (f == 2) = false := beq_eq_false_iff_ne.2 h2
  clear h1 h2
  go_enter Try.func22, Try.ntmps22
  go_wp2
  exact bodyPost_ret (v := .tuple #[.agg #[.int .i64 0, .int .u64 0], .bool false]) (by simp [results, Try.results22, go_sem]) rfl ⟨rfl, (Below.refl _ _).alloc (Nat.le_refl _) _⟩

set_option maxHeartbeats 200000 in
theorem Two_yes (f p : Int) (wd : Bool) (L : Nat) (g : Int) (w : World) (h : Lb f p wd L g) :
    Calls Try.prog 7 #[.int .u8 f] w fun e w' => e = .returned (.tuple #[.int .i64 L, .int .i64 0]) ∧ Below w.heap.size w w' := by
  have hx := hide (fun W => unityOf_yes f p wd L g W h)
  clear h
  go_enter Try.func7, Try.ntmps7
  go_wp2_with (go_at_call 22; refine (hx.out _).mono ?_; rintro e w1 ⟨rfl, hb⟩)
  go_ret2
  exact ⟨rfl, hb.alloc hb.size _⟩

set_option maxHeartbeats 200000 in
theorem Two_no (f : Int) (w : World) (h1 : f ≠ 1) (h2 : f ≠ 2) :
    Calls Try.prog 7 #[.int .u8 f] w fun e w' => e = .returned (.tuple #[.int .i64 0, .int .i64 2]) ∧ Below w.heap.size w w' := by
  have hx := hide (fun W => unityOf_no f W h1 h2)
  clear h1 h2
  go_enter Try.func7, Try.ntmps7
  go_wp2_with (go_at_call 22; refine (hx.out _).mono ?_; rintro e w1 ⟨rfl, hb⟩)
  go_ret2
  exact ⟨rfl, hb.alloc hb.size _⟩

set_option maxHeartbeats 200000 in
theorem logOf_yes (f p : Int) (wd : Bool) (L : Nat) (g a : Int) (K : Nat) (w : World) (h : Fi f p wd) (hL : L ≤ 32) (ha : El p a) (hK : K ≤ L) (h1 : sq p a K = 1) (hn : ∀ i, i < K → sq p a i ≠ 1) :
    Calls Try.prog 26 #[.agg #[.int .i64 L, .int .u64 g], .int .u8 f, .int .u64 a] w fun e w' => e = .returned (.tuple #[.int .i64 K, .bool true]) ∧ Below w.heap.size w w' := by
  have HE := hide (fun k => sq_el h.pos ha k)
  have HM := hide (fun W x (hx : El p x) => Mul_yes f p x x wd W h hx hx)
  have HN := hide hn
  have H1 := hide h1
  clear h hn h1
  go_enter Try.func26, Try.ntmps26
  go_wp2
  go_step3
  go_wp2
  go_step3
  go_wp2
  go_loopw [2, 8] (fun va vk wr => ∃ k : Nat, k ≤ K ∧ va = .int .u64 (sq p a k) ∧ vk = .int .i64 k ∧ Box2 w L g wr) (fun _ vk _ => K - (intOf vk).toNat)
  case atStart => exact ⟨0, Nat.zero_le _, rfl, rfl, Box2.first w L g _⟩
  case round =>
    obtain ⟨k, hk, rfl, rfl, hB⟩ := hrel
    have hc0 := hB.1
    by_cases hlt : k < K
    · have ht : (sq p a k == 1) = false := beq_eq_false_iff_ne.2 (HN.out k hlt)
      have hne : ((k : Int) == (L : Int)) = false := beq_eq_false_iff_ne.2 (by omega)
      have HS := hide (show mul p (sq p a k) (sq p a k) = sq p a (k + 1) from rfl)
      have hm := hide (fun W => HM.out W _ (HE.out k))
      generalize sq p a k = x at *
      go_wp2_with (go_at_call 28; refine (hm.out _).mono ?_; rintro e w1 ⟨rfl, hb⟩; have hB := hB.below hb)
      go_roundw
      case rel => exact ⟨k + 1, by omega, by rw [HS.out], by go_num, hB⟩
      case measure => simp [intOf]; omega
    · obtain rfl : k = K := by omega
      have ht : (sq p a k == 1) = true := beq_iff_eq.2 H1.out
      generalize sq p a k = x at *
      go_wp2
      rw [Exit.noGoto_ret]
      go_ret2
      exact ⟨rfl, hB.2.2.2⟩

set_option maxHeartbeats 200000 in
theorem logOf_no (f p : Int) (wd : Bool) (L : Nat) (g a : Int) (w : World) (h : Fi f p wd) (hL : L ≤ 32) (ha : El p a) (hn : ∀ i, i ≤ L → sq p a i ≠ 1) :
    Calls Try.prog 26 #[.agg #[.int .i64 L, .int .u64 g], .int .u8 f, .int .u64 a] w fun e w' => e = .returned (.tuple #[.int .i64 0, .bool false]) ∧ Below w.heap.size w w' := by
  have HE := hide (fun k => sq_el h.pos ha k)
  have HM := hide (fun W x (hx : El p x) => Mul_yes f p x x wd W h hx hx)
  have HN := hide hn
  clear h hn
  go_enter Try.func26, Try.ntmps26
  go_wp2
  go_step3
  go_wp2
  go_step3
  go_wp2
  go_loopw [2, 8] (fun va vk wr => ∃ k : Nat, k ≤ L ∧ va = .int .u64 (sq p a k) ∧ vk = .int .i64 k ∧ Box2 w L g wr) (fun _ vk _ => L - (intOf vk).toNat)
  case atStart => exact ⟨0, Nat.zero_le _, rfl, rfl, Box2.first w L g _⟩
  case round =>
    obtain ⟨k, hk, rfl, rfl, hB⟩ := hrel
    have hc0 := hB.1
    have ht : (sq p a k == 1) = false := beq_eq_false_iff_ne.2 (HN.out k hk)
    by_cases hlt : k < L
    · have hne : ((k : Int) == (L : Int)) = false := beq_eq_false_iff_ne.2 (by omega)
      have HS := hide (show mul p (sq p a k) (sq p a k) = sq p a (k + 1) from rfl)
      have hm := hide (fun W => HM.out W _ (HE.out k))
      generalize sq p a k = x at *
      go_wp2_with (go_at_call 28; refine (hm.out _).mono ?_; rintro e w1 ⟨rfl, hb⟩; have hB := hB.below hb)
      go_roundw
      case rel => exact ⟨k + 1, by omega, by rw [HS.out], by go_num, hB⟩
      case measure => simp [intOf]; omega
    · obtain rfl : k = L := by omega
      generalize sq p a k = x at *
      go_wp2
      rw [Exit.noGoto_ret]
      go_ret2
      exact ⟨rfl, hB.2.2.2⟩

end Go.Proofs.Ytdphagkehdeanaa
