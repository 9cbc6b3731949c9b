/-
  Roots: Root, or its error; the document's Two, Root and Log; what the document fixes.
-/
import Derived.Test.YtdphagkehdeanaaRootC
import Derived.Test.YtdphagkehdeanaaRefB
namespace Go.Proofs.Ytdphagkehdeanaa
open Go.RowKit Fld
set_option linter.unusedVariables false

/-- The field's root of the log k. -/
def rv (p g : Int) (k : Nat) : Int := pow p g ((p - 1) / 2 ^ k)
theorem rv_el {p g : Int} {k : Nat} (hp : 0 < p) : El p (rv p g k) := pow_el hp

theorem sq_pow (p g : Int) (m : Int) (hm : 0 ≤ m) (n : Nat) : sq p (pow p g m) n = pow p g (m * 2 ^ n) := by
  induction n with
  | zero => rw [Int.pow_zero, Int.mul_one]; rfl
  | succ n ih =>
    have h0 : 0 ≤ m * 2 ^ n := Int.mul_nonneg hm (Int.le_of_lt (Int.pow_pos (by decide)))
    show mul p (sq p (pow p g m) n) (sq p (pow p g m) n) = _
    rw [ih, pow_add_law p g _ _ h0 h0, Int.pow_succ]
    congr 1
    rw [← Int.mul_assoc]; omega

theorem Lb.dvd {f p : Int} {wd : Bool} {L : Nat} {g : Int} (h : Lb f p wd L g) : (p - 1) / 2 ^ L * 2 ^ L = p - 1 := by
  rcases h with ⟨_, rfl, _, rfl, _⟩ | ⟨_, rfl, _, rfl, _⟩ <;> decide

theorem rv_sq {f p : Int} {wd : Bool} {L : Nat} {g : Int} (h : Lb f p wd L g) (k : Nat) (hk : k ≤ L) : sq p (rv p g L) (L - k) = rv p g k := by
  have h0 : 0 ≤ (p - 1) / 2 ^ L := (shift_word (p := p) (L := L) (by have := h.fi.pos; omega) h.fi.top).1
  unfold rv
  rw [sq_pow p g _ h0]
  congr 1
  have hd := h.dvd
  generalize (p - 1) / 2 ^ L = m at *
  rw [← hd]
  have e : (2 : Int) ^ L = 2 ^ (L - k) * 2 ^ k := by rw [← Int.pow_add]; congr 1; omega
  rw [e, ← Int.mul_assoc, Int.mul_ediv_cancel _ (Int.ne_of_gt (Int.pow_pos (by decide)))]

theorem rt_at {f p : Int} {wd : Bool} {L : Nat} {g : Int} (h : Lb f p wd L g) (k : Nat) (hk : k ≤ L) : (vals ((List.range 33).map (rt p (rv p g L) L 0))).toArray[k]? = some (.int .u64 (rv p g k)) := by
  have h33 : k < 33 := by have := h.le; omega
  have e : rt p (rv p g L) L 0 k = rv p g k := by unfold rt; rw [if_pos ⟨Nat.zero_le _, hk⟩]; exact rv_sq h k hk
  simp [vals, h33, e]

theorem Root_nof (f l : Int) (w : World) (h1 : f ≠ 1) (h2 : f ≠ 2) :
    Calls Try.prog 9 #[.int .u8 f, .int .i64 l] w fun e w' => e = .returned (.tuple #[.int .u64 0, .int .i64 2]) ∧ Below w.heap.size w w' := by
  have hx := hide (fun W => unityOf_no f W h1 h2)
  clear h1 h2
  go_enter Try.func9, Try.ntmps9
  go_wp2_with (go_at_call 22; refine (hx.out _).mono ?_; rintro e w1 ⟨rfl, hb⟩)
  go_ret2
  exact ⟨rfl, hb.alloc hb.size _⟩

theorem Root_out (f p : Int) (wd : Bool) (L : Nat) (g l : Int) (w : World) (h : Lb f p wd L g) (hl : l < 0 ∨ (L : Int) < l) :
    Calls Try.prog 9 #[.int .u8 f, .int .i64 l] w fun e w' => e = .returned (.tuple #[.int .u64 0, .int .i64 2]) ∧ Below w.heap.size w w' := by
  have hx := hide (fun W => unityOf_yes f p wd L g W h)
  clear h
  by_cases h1 : l < 0
  · clear hl
    go_enter Try.func9, Try.ntmps9
    go_wp2_with (go_at_call 22; refine (hx.out _).mono ?_; rintro e w1 ⟨rfl, hb⟩)
    go_ret2
    exact ⟨rfl, hb.alloc hb.size _⟩
  · have h2 : (L : Int) < l := by omega
    clear hl
    go_enter Try.func9, Try.ntmps9
    go_wp2_with (go_at_call 22; refine (hx.out _).mono ?_; rintro e w1 ⟨rfl, hb⟩)
    go_ret2
    exact ⟨rfl, hb.alloc hb.size _⟩

theorem index_arr (cs : Array Value) (k : Nat) (v : Value) (hk : k < 33) (hc : cs[k]? = some v) (W : World) : (Instr.index 59 (.agg cs) (.int .i64 (k : Int))).run Try.prog W = .ok v W := by
  have h0 : (0 : Int) ≤ (k : Int) := Int.natCast_nonneg _
  simp [Instr.index, part, isAgg, go_sem, run_underlying Try.underlying59, hc]
  intro h; omega

set_option maxHeartbeats 400000 in
theorem Root_yes (f p : Int) (wd : Bool) (L : Nat) (g : Int) (k : Nat) (w : World) (h : Lb f p wd L g) (hk : k ≤ L) :
    Calls Try.prog 9 #[.int .u8 f, .int .i64 k] w fun e w' => e = .returned (.tuple #[.int .u64 (rv p g k), .int .i64 0]) ∧ Below w.heap.size w w' := by
  have hx := hide (fun W => unityOf_yes f p wd L g W h)
  have hy := hide (fun W => rootsOf_yes f p wd L g (rv p g L) W h rfl)
  have ha := rt_at h k hk
  have hs : (vals ((List.range 33).map (rt p (rv p g L) L 0))).toArray.size = 33 := by simp [vals]
  have hL := h.le
  have k0 : (0 : Int) ≤ (k : Int) := Int.natCast_nonneg _
  have k1 : (k : Int) < 33 := by omega
  have hidx := index_arr _ k _ (by omega) ha
  clear h
  generalize (vals ((List.range 33).map (rt p (rv p g L) L 0))).toArray = cs at *
  generalize rv p g k = x at *
  go_enter Try.func9, Try.ntmps9
  go_wp2_with (first
    | (go_at_call 22; refine (hx.out _).mono ?_; rintro e w1 ⟨rfl, hb⟩)
    | (go_at_call 23; refine (hy.out _).mono ?_; rintro e w2 ⟨rfl, hb2⟩))
  go_ret2
  have := hb.size
  exact ⟨rfl, (hb.alloc hb.size _).trans (hb2.mono (by simp; omega))⟩

end Go.Proofs.Ytdphagkehdeanaa
