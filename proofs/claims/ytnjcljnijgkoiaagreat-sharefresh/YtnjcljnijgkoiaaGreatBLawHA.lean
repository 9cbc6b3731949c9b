/-
  The statements of layer 14: what the document fixes.
-/
import Derived.Test.YtnjcljnijgkoiaaGreatBunHC
import Derived.Test.YtnjcljnijgkoiaaGreatBLawQA
namespace Go.Proofs.YtnjcljnijgkoiaaGreat
open Go.RowKit Fld Pln Shr
set_option linter.unusedVariables false
set_option linter.unusedSimpArgs false

theorem Rows_h (v1 v2 : Value) (xss : List (List Int)) (w : World) (h1 : Rws w v1 xss) (h2 : Rws w v2 xss) : Calls Tryz.prog 13 #[v1, v2] w fun e w' => e = .returned (.bool true) ∧ Below w.heap.size w w' :=
  (Rows_quiet v1 v2 xss w h1 h2).mono fun e w' ⟨he, m, hw⟩ => ⟨he, by rw [hw]; exact drewN_below w m⟩
/-- Lists written out. -/
theorem rw_lit {W : World} {n : Nat} (hn : W.heap.size = n) (x : Int) (hx : 0 ≤ x ∧ x ≤ 18446744073709551615) (T : TypeId) : Rw (W.alloc (.cells #[.int .u64 x] T)) (.slice (some ⟨n, 0, none⟩) 1 1) [x] := by
  subst hn
  exact ⟨⟨_, _, rfl, by simp, by simp [hx], fun _ => ⟨_, _, rfl, by simp, fun i hi => by
    have : i = 0 := by simp at hi; omega
    subst this; simp [go_sem]⟩⟩, _, _, _, rfl, Nat.le_refl _⟩
theorem rws_lit1 {W : World} {n : Nat} (hn : W.heap.size = n) {u : Value} {xs : List Int} (h : Rw W u xs) (T : TypeId) : Rws (W.alloc (.cells #[u] T)) (.slice (some ⟨n, 0, none⟩) 1 1) [xs] := by
  subst hn
  refine ⟨_, _, rfl, by simp, by simp, fun _ => ⟨_, _, rfl, by simp, fun i hi => ?_⟩⟩
  have : i = 0 := by simp at hi; omega
  subst this
  exact ⟨u, by simp [go_sem], h.below (alloc_below _ _)⟩
theorem rws_lit2 {W : World} {n : Nat} (hn : W.heap.size = n) {u1 u2 : Value} {xs ys : List Int} (h1 : Rw W u1 xs) (h2 : Rw W u2 ys) (T : TypeId) : Rws (W.alloc (.cells #[u1, u2] T)) (.slice (some ⟨n, 0, none⟩) 2 2) [xs, ys] := by
  subst hn
  refine ⟨_, _, rfl, by simp, by simp, fun _ => ⟨_, _, rfl, by simp, fun i hi => ?_⟩⟩
  have : i = 0 ∨ i = 1 := by simp at hi; omega
  rcases this with rfl | rfl
  · exact ⟨u1, by simp [go_sem], h1.below (alloc_below _ _)⟩
  · exact ⟨u2, by simp [go_sem], h2.below (alloc_below _ _)⟩
theorem rws_lit4 {W : World} {n : Nat} (hn : W.heap.size = n) {u1 u2 u3 u4 : Value} {xs ys zs ts : List Int} (h1 : Rw W u1 xs) (h2 : Rw W u2 ys) (h3 : Rw W u3 zs) (h4 : Rw W u4 ts) (T : TypeId) : Rws (W.alloc (.cells #[u1, u2, u3, u4] T)) (.slice (some ⟨n, 0, none⟩) 4 4) [xs, ys, zs, ts] := by
  subst hn
  refine ⟨_, _, rfl, by simp, by simp, fun _ => ⟨_, _, rfl, by simp, fun i hi => ?_⟩⟩
  have : i = 0 ∨ i = 1 ∨ i = 2 ∨ i = 3 := by simp at hi; omega
  rcases this with rfl | rfl | rfl | rfl
  · exact ⟨u1, by simp [go_sem], h1.below (alloc_below _ _)⟩
  · exact ⟨u2, by simp [go_sem], h2.below (alloc_below _ _)⟩
  · exact ⟨u3, by simp [go_sem], h3.below (alloc_below _ _)⟩
  · exact ⟨u4, by simp [go_sem], h4.below (alloc_below _ _)⟩
theorem size_alloc {W : World} {n : Nat} (h : W.heap.size = n) (o : Obj) : (W.alloc o).heap.size = n + 1 := by subst h; simp
/-- What is shared in the document's example. -/
theorem lit_data (w : World) (o : Obj) (T S : TypeId) : Rws ((((((w.alloc o).alloc (.cells #[.int .u64 5] T)).alloc (.cells #[.int .u64 7] T)).alloc (.cells #[.slice (some ⟨w.heap.size + 1, 0, none⟩) 1 1, .slice (some ⟨w.heap.size + 1 + 1, 0, none⟩) 1 1] S)).alloc (.cells #[.int .u64 9] T)).alloc (.cells #[.slice (some ⟨w.heap.size + 1 + 1 + 1 + 1, 0, none⟩) 1 1] S)) (.slice (some ⟨w.heap.size + 1 + 1 + 1, 0, none⟩) 2 2) [[5], [7]] ∧
    Rws ((((((w.alloc o).alloc (.cells #[.int .u64 5] T)).alloc (.cells #[.int .u64 7] T)).alloc (.cells #[.slice (some ⟨w.heap.size + 1, 0, none⟩) 1 1, .slice (some ⟨w.heap.size + 1 + 1, 0, none⟩) 1 1] S)).alloc (.cells #[.int .u64 9] T)).alloc (.cells #[.slice (some ⟨w.heap.size + 1 + 1 + 1 + 1, 0, none⟩) 1 1] S)) (.slice (some ⟨w.heap.size + 1 + 1 + 1 + 1 + 1, 0, none⟩) 1 1) [[9]] ∧
    Below w.heap.size w ((((((w.alloc o).alloc (.cells #[.int .u64 5] T)).alloc (.cells #[.int .u64 7] T)).alloc (.cells #[.slice (some ⟨w.heap.size + 1, 0, none⟩) 1 1, .slice (some ⟨w.heap.size + 1 + 1, 0, none⟩) 1 1] S)).alloc (.cells #[.int .u64 9] T)).alloc (.cells #[.slice (some ⟨w.heap.size + 1 + 1 + 1 + 1, 0, none⟩) 1 1] S)) := by
  have s1 := size_alloc (W := w) rfl o
  have s2 := size_alloc s1 (.cells #[.int .u64 5] T)
  have s3 := size_alloc s2 (.cells #[.int .u64 7] T)
  have s4 := size_alloc s3 (.cells #[.slice (some ⟨w.heap.size + 1, 0, none⟩) 1 1, .slice (some ⟨w.heap.size + 1 + 1, 0, none⟩) 1 1] S)
  have s5 := size_alloc s4 (.cells #[.int .u64 9] T)
  have r1 := rw_lit s1 5 (by decide) T
  have r2 := rw_lit s2 7 (by decide) T
  have r3 := rws_lit2 s3 (r1.below (alloc_below _ _)) r2 S
  have r4 := rw_lit s4 9 (by decide) T
  have r5 := rws_lit1 s5 r4 S
  exact ⟨(r3.below (alloc_below _ _)).below (alloc_below _ _), r5, Below.next (Below.next (Below.next (Below.next (Below.next (alloc_below _ _) (alloc_below _ _)) (alloc_below _ _)) (alloc_below _ _)) (alloc_below _ _)) (alloc_below _ _)⟩
theorem lit_shares (w : World) (T S : TypeId) : Rws (((((w.alloc (.cells #[.int .u64 11] T)).alloc (.cells #[.int .u64 13] T)).alloc (.cells #[.int .u64 15] T)).alloc (.cells #[.int .u64 17] T)).alloc (.cells #[.slice (some ⟨w.heap.size, 0, none⟩) 1 1, .slice (some ⟨w.heap.size + 1, 0, none⟩) 1 1, .slice (some ⟨w.heap.size + 1 + 1, 0, none⟩) 1 1, .slice (some ⟨w.heap.size + 1 + 1 + 1, 0, none⟩) 1 1] S)) (.slice (some ⟨w.heap.size + 1 + 1 + 1 + 1, 0, none⟩) 4 4) [[11], [13], [15], [17]] ∧
    Below w.heap.size w (((((w.alloc (.cells #[.int .u64 11] T)).alloc (.cells #[.int .u64 13] T)).alloc (.cells #[.int .u64 15] T)).alloc (.cells #[.int .u64 17] T)).alloc (.cells #[.slice (some ⟨w.heap.size, 0, none⟩) 1 1, .slice (some ⟨w.heap.size + 1, 0, none⟩) 1 1, .slice (some ⟨w.heap.size + 1 + 1, 0, none⟩) 1 1, .slice (some ⟨w.heap.size + 1 + 1 + 1, 0, none⟩) 1 1] S)) := by
  have s1 := size_alloc (W := w) rfl (.cells #[.int .u64 11] T)
  have s2 := size_alloc s1 (.cells #[.int .u64 13] T)
  have s3 := size_alloc s2 (.cells #[.int .u64 15] T)
  have s4 := size_alloc s3 (.cells #[.int .u64 17] T)
  have r1 := rw_lit (W := w) rfl 11 (by decide) T
  have r2 := rw_lit s1 13 (by decide) T
  have r3 := rw_lit s2 15 (by decide) T
  have r4 := rw_lit s3 17 (by decide) T
  exact ⟨rws_lit4 s4 (((r1.below (alloc_below _ _)).below (alloc_below _ _)).below (alloc_below _ _)) ((r2.below (alloc_below _ _)).below (alloc_below _ _)) (r3.below (alloc_below _ _)) r4 S, Below.next (Below.next (Below.next (Below.next (alloc_below _ _) (alloc_below _ _)) (alloc_below _ _)) (alloc_below _ _)) (alloc_below _ _)⟩
theorem four_bk : bkE fourP [[5], [7]] [[9]] [] = 0 := by decide +kernel
theorem four_py : py 2013265921 [0, 1, 2] [[5], [7], [9]] 0 = [5, 2] := by
  have hm := fi_one.md
  refine Thr.only hm (xs := [0, 1, 2]) (ys := col [[5], [7], [9]] 0) (by unfold Els El; decide) (by decide) (py_thr hm (by unfold Els El; decide) (by decide) (by unfold Els El; decide) 0) ⟨⟨by unfold Els El; decide, by decide +kernel⟩, by decide, fun i hi => ?_⟩
  have : i = 0 ∨ i = 1 ∨ i = 2 := by simp at hi; omega
  rcases this with rfl | rfl | rfl <;> decide +kernel
theorem four_all : allL fourP [[5], [7]] [[9]] = [[11], [13], [15], [17]] := by
  unfold allL
  rw [if_pos four_bk, four_ok.2.2.2.2.1, four_ok.2.2.2.2.2]
  have e : ∀ x, shr (pOf fourP.f) [0, 1, 2] fourP.w.toNat ([[5], [7]] ++ [[9]]) x = [vl 2013265921 x [5, 2]] := fun x => by
    show mk 1 (fun t => vl 2013265921 x (py 2013265921 [0, 1, 2] [[5], [7], [9]] t)) = _
    show [vl 2013265921 x (py 2013265921 [0, 1, 2] [[5], [7], [9]] 0)] = _
    rw [four_py]
  simp only [List.map]
  rw [e, e, e, e]
  decide +kernel

set_option maxRecDepth 100000 in
set_option maxHeartbeats 400000 in
theorem anch14 : Ans 15 #[] (.bool true) := by
  intro w
  have HA := hide (fun W v1 v2 h1 h2 => gAll fourP v1 v2 [[5], [7]] [[9]] W four_ok.1 h1 h2)
  unfold GivesM at HA
  rw [four_bk, four_all, plan_eq] at HA
  have HD := hide (fun o T S => lit_data w o T S)
  have HL := hide (fun W T S => lit_shares W T S)
  unfold fourP at HA
  dsimp only at HA
  go_enter Tryz.func15, Tryz.ntmps15
  go_wp2_with (first
    | (go_at_call 9; refine (HA.out _ _ _ (HD.out _ _ _).1 (HD.out _ _ _).2.1).mono ?_; rintro e w1 ⟨v1, us1, rfl, hM1, hb1⟩; have hB1 := Below.next (HD.out _ _ _).2.2 hb1; have r1 := hide (hM1.rws (getD_wd (by unfold Wd; decide)) (by simp)); obtain ⟨a1, k1, rfl⟩ := own_form hM1.row; clear hM1)
    | (go_at_call 13; refine (Rows_h _ _ _ _ (r1.out.below (HL.out _ _ _).2) (HL.out _ _ _).1).mono ?_; rintro e w2 ⟨rfl, hb2⟩; have hB2 := Below.next (Below.next hB1 (HL.out _ _ _).2) hb2))
  go_ret
  exact ⟨rfl, hB2⟩

/-- A plan and what is shared, boxed one behind the other. -/
theorem sec_box (w : World) (p : Pn) (v1 v2 : Value) (T : TypeId) : ∃ W1, (w.alloc (.cells #[.int .u8 p.f, .int .i64 p.n, .int .i64 p.k, .int .i64 p.t, .int .i64 p.s, .int .i64 p.e, .int .i64 p.d, .int .i64 p.w] 24)).alloc (.cells #[v1, v2] T) = W1 ∧ Below w.heap.size w W1 ∧ ∀ W, Below W1.heap.size W1 W → (W.cell? ⟨w.heap.size, 0, none⟩ = some (.int .u8 p.f) ∧ W.cell? ⟨w.heap.size, 1, none⟩ = some (.int .i64 p.n) ∧ W.cell? ⟨w.heap.size, 2, none⟩ = some (.int .i64 p.k) ∧ W.cell? ⟨w.heap.size, 3, none⟩ = some (.int .i64 p.t) ∧ W.cell? ⟨w.heap.size, 4, none⟩ = some (.int .i64 p.s) ∧ W.cell? ⟨w.heap.size, 5, none⟩ = some (.int .i64 p.e) ∧ W.cell? ⟨w.heap.size, 6, none⟩ = some (.int .i64 p.d) ∧ W.cell? ⟨w.heap.size, 7, none⟩ = some (.int .i64 p.w)) ∧ W.cell? ⟨w.heap.size + 1, 0, none⟩ = some v1 ∧ W.cell? ⟨w.heap.size + 1, 1, none⟩ = some v2 := by
  obtain ⟨pb, hA⟩ := pb_box (w := w) p
  refine ⟨_, rfl, Below.next hA (alloc_below _ _), fun W hb => ⟨((pb.below (alloc_below _ _)).below hb).cells, ?_, ?_⟩⟩
  · exact (hb.cell (p := ⟨w.heap.size + 1, 0, none⟩) (by simp)).trans (by simp [go_sem])
  · exact (hb.cell (p := ⟨w.heap.size + 1, 1, none⟩) (by simp)).trans (by simp [go_sem])

end Go.Proofs.YtnjcljnijgkoiaaGreat
