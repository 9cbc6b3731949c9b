/-
  Roots: Powers, the program's and the document's.
-/
import Derived.Test.YtdphagkehdeanaaRootB
import Derived.Test.YtdphagkehdeanaaInvs
import Derived.Test.YtdphagkehdeanaaRefB
import Derived.Test.YtdphagkehdeanaaElems
import Derived.OwnWalk
import Derived.Laws.OwnMore
import Derived.Deep.AppendLies
namespace Go.Proofs.Ytdphagkehdeanaa
open Go.RowKit Fld
set_option linter.unusedVariables false

/-- a to the power i, one factor at a time. -/
def pw (p a : Int) : Nat → Int
  | 0 => 1
  | i + 1 => mul p (pw p a i) a
def pws (p a : Int) (n : Nat) : List Int := (List.range n).map (pw p a)
theorem pws_len (p a : Int) (n : Nat) : (pws p a n).length = n := by simp [pws]
theorem pws_snoc (p a : Int) (n : Nat) : pws p a n ++ [pw p a n] = pws p a (n + 1) := by simp [pws, List.range_succ]
theorem pws_at (p a : Int) (n i : Nat) (h : i < n) : (pws p a n).getD i 0 = pw p a i := by simp [pws, List.getD_eq_getElem?_getD, h]
theorem pw_el {p a : Int} {wd : Bool} (hm : Md p wd) (i : Nat) : El p (pw p a i) := by
  cases i with
  | zero => exact one_el hm
  | succ i => exact mul_el (by have := hm.bounds; omega)
theorem pws_words {p a : Int} {wd : Bool} (hm : Md p wd) (n : Nat) : ∀ x ∈ pws p a n, 0 ≤ x ∧ x ≤ 18446744073709551615 := by
  intro x hx
  unfold pws at hx
  obtain ⟨i, _, rfl⟩ := List.mem_map.1 hx
  exact elWord (pw_el hm i) (by have := hm.bounds; omega)

/-- A list at the block g, made by the call. -/
def OwnG (w : World) (g n : Nat) (ys : List Int) : Prop := w.ownsRow g 22 1 (.slice (some ⟨g, 0, none⟩) n n) n (vals ys)
theorem OwnG.cell {wr : World} {g n : Nat} {ys : List Int} (h : OwnG wr g n ys) (hl : ys.length = n) (k : Nat) (hk : k < n) : wr.cell? ⟨g, k, none⟩ = some (.int .u64 (ys.getD k 0)) := by
  rw [h.cellAt k (by omega), vals_at ys k (by omega)]
theorem OwnG.free {wr : World} {g n : Nat} {ys : List Int} (h : OwnG wr g n ys) (k : Nat) : wr.frozen? ⟨g, k, none⟩ = false := h.frozenAt k
theorem OwnG.set {wr : World} {g n : Nat} {ys : List Int} (h : OwnG wr g n ys) (k : Nat) (x : Int) : OwnG (wr.setCell ⟨g, k, none⟩ (.int .u64 x)) g n (ys.set k x) := by
  have := (h.stored k (.int .u64 x)).1
  rw [vals_set] at this; exact this
theorem OwnG.made {W w1 : World} {n : Nat} (h : w1.ownsRow W.heap.size 22 1 (.slice (some ⟨W.heap.size, 0, none⟩) n n) n (madeCells (Value.int .u64 0).cells (n * 1)).toList) : OwnG w1 W.heap.size n (List.replicate n 0) := by
  have e : (madeCells (Value.int .u64 0).cells (n * 1)).toList = vals (List.replicate n 0) := by
    show (madeCells #[.int .u64 0] (n * 1)).toList = _
    rw [toList_madeCells_one, Nat.mul_one]; simp [vals]
  rw [e] at h; exact h

theorem upto_pw {p a P : Int} {ys : List Int} {k : Nat} (h : ∀ j, j < k → ys.getD j 0 = pw p a j) (hk : k < ys.length) (hP : pw p a k = P) : ∀ j, j < k + 1 → (ys.set k P).getD j 0 = pw p a j := by
  intro j hj
  rw [set_getD ys k j P hk]
  by_cases he : j = k
  · rw [if_pos he, he, hP]
  · rw [if_neg he]; exact h j (by omega)

set_option maxHeartbeats 200000 in
theorem Powers_no (f a n : Int) (w : World) (ha : 0 ≤ a ∧ a ≤ 18446744073709551615) (h : Bad f [a]) :
    Calls Try.prog 14 #[.int .u8 f, .int .u64 a, .int .i64 n] w fun e w' => e = .returned (.tuple #[.slice none 0 0, .int .i64 2]) ∧ Below w.heap.size w w' := by
  have hi := hide (fun W v hr => In_no f v [a] W h hr)
  have hrow := hide (fun T => row1 w a ha T)
  clear h ha
  go_enter Try.func14, Try.ntmps14
  go_wp2_with (go_at_call 25; refine (hi.out _ _ (hrow.out _)).mono ?_; rintro e w1 ⟨rfl, hb⟩)
  go_ret2
  exact ⟨rfl, below_one hb⟩

set_option maxHeartbeats 200000 in
theorem Powers_out (f p : Int) (wd : Bool) (a n e0 : Int) (w : World) (h : Fi f p wd) (ha : El p a) (hn : (n < 0 ∧ e0 = 2) ∨ (4096 < n ∧ e0 = 4)) :
    Calls Try.prog 14 #[.int .u8 f, .int .u64 a, .int .i64 n] w fun e w' => e = .returned (.tuple #[.slice none 0 0, .int .i64 e0]) ∧ Below w.heap.size w w' := by
  have hi := hide (fun W v hr => In_yes f p wd v [a] W h hr (allIn1 ha))
  have hrow := hide (fun T => row1 w a (elWord ha h.top) T)
  clear h ha
  rcases hn with ⟨hn, rfl⟩ | ⟨hn, rfl⟩
  · go_enter Try.func14, Try.ntmps14
    go_wp2_with (go_at_call 25; refine (hi.out _ _ (hrow.out _)).mono ?_; rintro e w1 ⟨rfl, hb⟩)
    go_ret2
    exact ⟨rfl, below_one hb⟩
  · go_enter Try.func14, Try.ntmps14
    go_wp2_with (go_at_call 25; refine (hi.out _ _ (hrow.out _)).mono ?_; rintro e w1 ⟨rfl, hb⟩)
    go_ret2
    exact ⟨rfl, below_one hb⟩

set_option maxRecDepth 100000 in
set_option maxHeartbeats 400000 in
theorem Powers_yes (f p : Int) (wd : Bool) (a : Int) (n : Nat) (w : World) (h : Fi f p wd) (ha : El p a) (hn : n ≤ 4096) :
    Calls Try.prog 14 #[.int .u8 f, .int .u64 a, .int .i64 n] w fun e w' => ∃ v', e = .returned (.tuple #[v', .int .i64 0]) ∧ Row w' v' (pws p a n) ∧ Below w.heap.size w w' := by
  obtain ⟨i0, hi0, hz0, hz1, hz2⟩ := info_parts u64_info
  have hi := hide (fun W v hr => In_yes f p wd v [a] W h hr (allIn1 ha))
  have hrow := hide (fun T => row1 w a (elWord ha h.top) T)
  have HM := hide (fun W x (hx : El p x) => Mul_yes f p x a wd W h hx ha)
  have HE := hide (fun i => pw_el (a := a) h.md i)
  have HW := hide (pws_words (a := a) h.md n)
  clear h ha
  go_enter Try.func14, Try.ntmps14
  go_wp2_with (first
    | (go_at_call 25; refine (hi.out _ _ (hrow.out _)).mono ?_; rintro e w1 ⟨rfl, hb⟩)
    | (at_make; refine wpList_make_full _ rfl _ _ 39 rfl w1.heap.size 22 i0 (.int .u64 0) 1 Try.underlying39 hi0 hz0 hz1 .i64 .i64 _ _ n rfl rfl (by omega) (by omega) (by rw [hz2]; omega) (by unfold maxLen; omega) (Nat.le_refl _) ?_; intro w2 hown hgrow))
  have hO := OwnG.made hown
  have hB := Below.next (below_one hb) (below_grown_none hgrow)
  have hg0 := (below_one hb).size
  clear hown hgrow hb
  go_loopw [9, 26] (fun vp vi wr => ∃ (k : Nat) (ys : List Int), k ≤ n ∧ vi = .int .i64 k ∧ vp = .int .u64 (pw p a k) ∧ ys.length = n ∧ OwnG wr w1.heap.size n ys ∧ Hid (∀ j, j < k → ys.getD j 0 = pw p a j) ∧ Below w.heap.size w wr) (fun _ vi _ => n - (intOf vi).toNat)
  case atStart => exact ⟨0, _, Nat.zero_le _, rfl, rfl, by simp, hO, fun j hj => by omega, hB⟩
  case round =>
    clear hO hB
    obtain ⟨k, ys, hk, rfl, rfl, hyl, hO, HY, hB⟩ := hrel
    by_cases hlt : k < n
    · have ho := hO.cell hyl k hlt
      have hfr := hO.free k
      have HS := hide (show mul p (pw p a k) a = pw p a (k + 1) from rfl)
      have HT := hide (upto_pw (P := pw p a k) HY.out (by omega) rfl)
      have hm := hide (fun W => HM.out W _ (HE.out k))
      generalize pw p a k = P at *
      generalize ys.getD k 0 = y at *
      go_wp2_with (go_at_call 28; refine (hm.out _).mono ?_; rintro e w3 ⟨rfl, hb⟩)
      have R1 := own_below (hO.set k P) hb
      have R2 := Below.next (hB.setCell (p := ⟨w1.heap.size, k, none⟩) hg0 (.int .u64 P)) hb
      go_roundw
      case rel => exact ⟨k + 1, _, by omega, by go_num, by rw [HS.out], by simpa using hyl, R1, HT, R2⟩
      case measure => simp [intOf]; omega
    · obtain rfl : k = n := by omega
      have HV : Hid (ys = pws p a k) := ext_getD ys (pws p a k) (by rw [pws_len, hyl]) (fun j hj => by rw [HY.out j (by omega), pws_at p a k j (by omega)])
      generalize pw p a k = P at *
      go_wp2
      go_ret2
      refine ⟨_, rfl, ?_, hB⟩
      have := hO
      unfold OwnG at this
      rw [HV.out] at this
      exact row_of_own this (pws_len p a k).symm (by rw [pws_len]; omega) HW.out

set_option maxHeartbeats 200000 in
theorem rPowers_no (f a n : Int) (w : World) (ha : 0 ≤ a ∧ a ≤ 18446744073709551615) (h : Bad f [a]) :
    Calls Try.prog 15 #[.int .u8 f, .int .u64 a, .int .i64 n] w fun e w' => e = .returned (.tuple #[.slice none 0 0, .int .i64 2]) ∧ Below w.heap.size w w' := by
  have hi := hide (fun W v hr => rIn_no f v [a] W h hr)
  have hrow := hide (fun T => row1 w a ha T)
  clear h ha
  go_enter Try.func15, Try.ntmps15
  go_wp2_with (go_at_call 27; refine (hi.out _ _ (hrow.out _)).mono ?_; rintro e w1 ⟨rfl, hw⟩; rw [hw]; clear hw)
  go_ret2
  exact ⟨rfl, (Below.refl _ _).alloc (Nat.le_refl _) _⟩

set_option maxHeartbeats 200000 in
theorem rPowers_out (f p : Int) (wd : Bool) (a n e0 : Int) (w : World) (h : Fi f p wd) (ha : El p a) (hn : (n < 0 ∧ e0 = 2) ∨ (4096 < n ∧ e0 = 4)) :
    Calls Try.prog 15 #[.int .u8 f, .int .u64 a, .int .i64 n] w fun e w' => e = .returned (.tuple #[.slice none 0 0, .int .i64 e0]) ∧ Below w.heap.size w w' := by
  have hi := hide (fun W v hr => rIn_yes f p wd v [a] W h hr (allIn1 ha))
  have hrow := hide (fun T => row1 w a (elWord ha h.top) T)
  clear h ha
  rcases hn with ⟨hn, rfl⟩ | ⟨hn, rfl⟩
  · go_enter Try.func15, Try.ntmps15
    go_wp2_with (go_at_call 27; refine (hi.out _ _ (hrow.out _)).mono ?_; rintro e w1 ⟨rfl, hw⟩; rw [hw]; clear hw)
    go_ret2
    exact ⟨rfl, (Below.refl _ _).alloc (Nat.le_refl _) _⟩
  · go_enter Try.func15, Try.ntmps15
    go_wp2_with (go_at_call 27; refine (hi.out _ _ (hrow.out _)).mono ?_; rintro e w1 ⟨rfl, hw⟩; rw [hw]; clear hw)
    go_ret2
    exact ⟨rfl, (Below.refl _ _).alloc (Nat.le_refl _) _⟩

theorem pws_step {w wr w1 : World} {v v1 : Value} {k : Nat} {p a y : Int} {T : TypeId} (hB : Below w.heap.size w wr) (hown : wr.ownsRow w.heap.size T 1 v k (vals (pws p a k)))
    (h1 : w1.ownsRow w.heap.size T 1 v1 (k + 1) (vals (pws p a k) ++ [.int .u64 y])) (hg : (wr.alloc (.cells #[.int .u64 y] T)).grownBy w1 v.ownBlock) (hy : pw p a k = y) :
    w1.ownsRow w.heap.size T 1 v1 (k + 1) (vals (pws p a (k + 1))) ∧ Below w.heap.size w w1 := by
  refine ⟨?_, ?_⟩
  · rw [← pws_snoc, hy, ← vals_snoc]; exact h1
  · exact (hB.alloc hB.size _).grown hg (by have := hB.size; simp; omega) (own_base hown)

set_option maxRecDepth 100000 in
set_option maxHeartbeats 400000 in
theorem rPowers_yes (f p : Int) (wd : Bool) (a : Int) (n : Nat) (w : World) (h : Fi f p wd) (ha : El p a) (hn : n ≤ 4096) :
    Calls Try.prog 15 #[.int .u8 f, .int .u64 a, .int .i64 n] w fun e w' => ∃ v', e = .returned (.tuple #[v', .int .i64 0]) ∧ Row w' v' (pws p a n) ∧ Below w.heap.size w w' := by
  obtain ⟨i0, hi0, hz0, hz1, hz2⟩ := info_parts u64_info
  have hi := hide (fun W v hr => rIn_yes f p wd v [a] W h hr (allIn1 ha))
  have hrow := hide (fun T => row1 w a (elWord ha h.top) T)
  have hP := hide (fun W => rP_yes f p wd W h)
  have HM := hide (fun W x (hx : El p x) => rTimes_any p x a W h.top hx ha.1 (elWord ha h.top).2)
  have HE := hide (fun i => pw_el (a := a) h.md i)
  have HW := hide (pws_words (a := a) h.md n)
  clear h ha
  go_enter Try.func15, Try.ntmps15
  go_wp2_with (go_at_call 27; refine (hi.out _ _ (hrow.out _)).mono ?_; rintro e w1 ⟨rfl, hw⟩; rw [hw]; clear hw)
  go_loopw [8, 9, 10] (fun vo vp vi wr => ∃ k : Nat, k ≤ n ∧ vi = .int .i64 k ∧ vp = .int .u64 (pw p a k) ∧ wr.ownsRow w.heap.size 22 1 vo k (vals (pws p a k)) ∧ Below w.heap.size w wr) (fun _ _ vi _ => n - (intOf vi).toNat)
  case atStart => exact ⟨0, Nat.zero_le _, rfl, rfl, World.ownsRow_nil _ _ _ _, (Below.refl _ _).alloc (Nat.le_refl _) _⟩
  case round =>
    obtain ⟨k, hk, rfl, rfl, hown, hB⟩ := hrel
    by_cases hlt : k < n
    · obtain ⟨P, HPw⟩ : ∃ P, Hid (pw p a k = P) := ⟨_, rfl⟩
      have HS : Hid (mul p P a = pw p a (k + 1)) := by show _ = _; rw [← HPw.out]; rfl
      have hm := hide (fun W => HM.out W _ (HE.out k))
      rw [HPw.out] at hm ⊢
      have hbs := hB.size
      have hown2 := hown
      generalize hq : pws p a k = q at hown2
      have HQ := hide hq
      clear hq
      go_wp2_with (first
        | (at_builtin; refine wpList_append_lies _ rfl _ _ _ rfl w.heap.size 22 i0 _ 1 8 Try.underlying39 hi0 hz0 hz1 hz2 rfl (by omega) u8 k _ rfl (hown2.alloc _) ⟨wr.heap.size, 0, none⟩ 1 1 [.int .u64 P] rfl rfl (World.news_of_block (cs := #[.int .u64 P]) (t := 22) (fr := (0, 0)) (heap_alloc_new wr _)) (by simp [Value.oneCell']) (by omega) (by unfold maxLen; omega) (by omega) (by simp; omega) (wr.heap.size + 1) (by simp) ?_; intro gg cap2 w3 hown3 hgrow hat hltg)
        | (go_at_call 19; refine (hP.out _).mono ?_; rintro e w1 ⟨rfl, hw⟩; rw [hw]; clear hw)
        | (go_at_call 20; refine (hm.out _).mono ?_; rintro e w1 ⟨rfl, hw⟩; rw [hw]; clear hw))
      rw [← HQ.out] at hown3
      have R := hide (pws_step hB hown hown3 hgrow HPw.out)
      clear hown3 hgrow hat hltg hown hown2
      go_roundw
      case rel => exact ⟨k + 1, by omega, by go_num, by rw [HS.out], R.out.1, R.out.2⟩
      case measure => simp [intOf]; omega
    · obtain rfl : k = n := by omega
      generalize pw p a k = P at *
      go_wp2
      go_ret2
      exact ⟨_, rfl, row_of_own hown (pws_len p a k).symm (by rw [pws_len]; omega) HW.out, hB⟩

end Go.Proofs.Ytdphagkehdeanaa
