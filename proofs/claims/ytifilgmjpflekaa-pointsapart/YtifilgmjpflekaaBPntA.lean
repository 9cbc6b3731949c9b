/-
  Layer 13: points as lists; the iterator over so many of them; a list put together by it.
-/
import Derived.Test.YtifilgmjpflekaaBIntF
import Derived.Test.YtifilgmjpflekaaBPlpA
namespace Go.Proofs.Ytifilgmjpflekaa
open Go.RowKit Go.Shelf Fld
set_option linter.unusedVariables false
set_option linter.unusedSimpArgs false
attribute [local go_sem] Oper.semAt_some

/-- So many points from one on. -/
def pts (a : Int) (n : Nat) : List Int := (List.range n).map (fun (i : Nat) => a + (i : Int))
theorem pts_len (a : Int) (n : Nat) : (pts a n).length = n := by simp [pts]
theorem pts_succ (a : Int) (n : Nat) : pts a (n + 1) = pts a n ++ [a + n] := by simp [pts, List.range_succ]
theorem pts_add (a : Int) (m n : Nat) : pts a (m + n) = pts a m ++ pts (a + m) n := by
  induction n with
  | zero => simp [pts]
  | succ n ih => rw [← Nat.add_assoc, pts_succ, ih, pts_succ, List.append_assoc]; simp; omega
theorem pts_at (a : Int) {n i : Nat} (h : i < n) : (pts a n).getD i 0 = a + i := by
  simp [pts, List.getD_eq_getElem?_getD, h]
theorem pts_mem {a x : Int} {n : Nat} : x ∈ pts a n ↔ a ≤ x ∧ x < a + n := by
  simp only [pts, List.mem_map, List.mem_range]
  constructor
  · rintro ⟨i, hi, rfl⟩; omega
  · rintro ⟨h1, h2⟩; exact ⟨(x - a).toNat, by omega, by omega⟩
theorem pts_nodup (a : Int) (n : Nat) : (pts a n).Nodup := by
  unfold pts List.Nodup
  refine List.pairwise_map.2 ((List.nodup_range (n := n)).imp (fun {i j} hne h => hne ?_))
  omega

/-- What a round must keep: the box of the first point. -/
def KpR (bf : Nat) (W W' : World) : Prop := W'.heap[bf]? = W.heap[bf]?
theorem KpR.trans {bf : Nat} {A B C : World} (h : KpR bf A B) (k : KpR bf B C) : KpR bf A C := Eq.trans k h
theorem KpR.turn {bf : Nat} {w : World} (hB : bf < w.heap.size) (W : World) (l : Nat) (o o' : Obj) (hl : w.heap.size ≤ l) (h : W.heap[l]? = some o) (h1 : o.isCells = false) (h2 : o.isWalk = false) : KpR bf W (W.putObj l o') :=
  World.putObj_heap_other (by omega)

/-- What comes at the k-th round. -/
def rnv (a : Int) (k : Nat) : Array Value := #[.int .u64 (a + k)]

set_option maxRecDepth 100000 in
set_option maxHeartbeats 1000000 in
theorem rn1_in (F : Fence) (n : Nat) (hf : F.fn 50) (hro : F.round = none) (hn : 1 ≤ n) (l bn bf : Nat) (a : Int) (N : Nat) (ha : 0 ≤ a) (haN : a + N ≤ 1000) (J Jx : List Nat → World → Prop)
    (hY : ∀ pre x W, J pre W → pre.length < N → YieldAt F (n - 1) Try.prog l (rnv a x) W fun e W' =>
      (e = .returned (.bool true) ∧ J (pre ++ [x]) W' ∧ KpR bf W W') ∨ (e = .returned (.bool false) ∧ Jx (pre ++ [x]) W'))
    (W : World) (hbn : W.cell? ⟨bn, 0, none⟩ = some (.int .i64 N)) (hbf : W.cell? ⟨bf, 0, none⟩ = some (.int .i64 a)) (h0 : J [] W) :
    CallsIn F n Try.prog 50 #[.func (.yield l) #[] #[], .pointer (some ⟨bn, 0, none⟩), .pointer (some ⟨bf, 0, none⟩)] W fun e W' => (∃ v, e = .returned v) ∧
      ((∃ ys, ys = List.range N ∧ J ys W') ∨ (∃ pre, True ∧ Jx pre W')) := by
  refine callsIn_of_wp Try.func50 rfl hf ?_ hro
  simp only [Try.ntmps50, List.size_toArray, List.length_cons, List.length_nil, Nat.reduceAdd, Nat.reduceSub, Array.replicate_succ, Array.replicate_zero, List.push_toArray, List.append_toArray, List.nil_append, List.cons_append]
  have HY := hide hY
  clear hY
  gi_wp2
  gi_loopw [6] (fun vi wr => ∃ k : Nat, k ≤ N ∧ vi = .int .i64 (k : Int) ∧ J (List.range k) wr ∧ KpR bf W wr) (fun vi _ => N - (intOf vi).toNat)
  case atStart => exact ⟨0, Nat.zero_le _, by simp, h0, rfl⟩
  case round =>
    obtain ⟨k, hk, rfl, hJs, hnx⟩ := hrel
    have hbf2 := (cell_of_heap (k := 0) hnx).trans hbf
    by_cases hlt : k < N
    · obtain ⟨fn, tmps, assign, body, hy, hR⟩ := HY.out (List.range k) k wr hJs (by rw [List.length_range]; exact hlt)
      unfold rnv at hy
      have hge : (0 : Int) ≤ (k : Int) := by omega
      have hltI : (k : Int) < (N : Int) := by omega
      gi_wp2
      refine hR.mono ?_
      rintro e W3 (⟨rfl, hJ3, hk3⟩ | ⟨rfl, hJx3⟩)
      · rw [← List.range_succ] at hJ3
        have hnx3 := hnx.trans hk3
        gi_wp2
        go_roundw
        case rel => exact ⟨k + 1, by omega, by go_num, hJ3, hnx3⟩
        case measure => simp [intOf]; omega
      · gi_wp2
        refine bodyPost_ret (results_none rfl _ _ _) rfl ?_
        exact ⟨⟨_, rfl⟩, .inr ⟨_, trivial, hJx3⟩⟩
    · obtain rfl : k = N := by omega
      gi_wp2
      go_end0
      exact ⟨⟨_, rfl⟩, .inl ⟨_, rfl, hJs⟩⟩

theorem rn_stops (F : Fence) (n : Nat) (hf : F.fn 50) (hro : F.round = none) (hn : 1 ≤ n) (bn bf : Nat) (a : Int) (N : Nat) (ha : 0 ≤ a) (haN : a + N ≤ 1000) (w : World)
    (hbn : w.cell? ⟨bn, 0, none⟩ = some (.int .i64 N)) (hbf : w.cell? ⟨bf, 0, none⟩ = some (.int .i64 a)) :
    SeqStopsK F n Try.prog 50 #[.pointer (some ⟨bn, 0, none⟩), .pointer (some ⟨bf, 0, none⟩)] (rnv a) (KpR bf) (fun ys => ys = List.range N) (fun _ => True) N w := fun l J Jx W hW _ _ hY h0 =>
  rn1_in F n hf hro hn l bn bf a N ha haN J Jx hY W ((hW.cell (cell_lt hbn)).trans hbn) ((hW.cell (cell_lt hbf)).trans hbf) h0

set_option maxHeartbeats 200000 in
/-- run: an iterator over two boxes. -/
theorem gRun (a n : Int) (w : World) : Calls Try.prog 42 #[.int .i64 a, .int .i64 n] w fun e w' => ∃ bn bf, e = .returned (.func (.func 50) #[] #[.pointer (some ⟨bn, 0, none⟩), .pointer (some ⟨bf, 0, none⟩)]) ∧ w'.heap[bn]? = some (.cells #[.int .i64 n] 3 (0, 0)) ∧ w'.heap[bf]? = some (.cells #[.int .i64 a] 3 (0, 0)) ∧ Below w.heap.size w w' := by
  have e1 : (w.alloc (.cells #[.int .i64 a] 3)).heap.size = w.heap.size + 1 := by simp
  have c1 := heap_alloc_last w (.cells #[.int .i64 a] 3)
  have c2 := heap_alloc_last (w.alloc (.cells #[.int .i64 a] 3)) (.cells #[.int .i64 n] 3)
  have c1 := ((alloc_below (w.alloc (.cells #[.int .i64 a] 3)) (.cells #[.int .i64 n] 3)).block _ (by omega)).trans c1
  rw [e1] at c2
  have hB := Below.next (alloc_below w (.cells #[.int .i64 a] 3)) (alloc_below (w.alloc (.cells #[.int .i64 a] 3)) (.cells #[.int .i64 n] 3))
  go_enter Try.func42, Try.ntmps42
  go_wp2
  go_ret
  exact ⟨_, _, rfl, c2, c1, hB⟩

end Go.Proofs.Ytifilgmjpflekaa
