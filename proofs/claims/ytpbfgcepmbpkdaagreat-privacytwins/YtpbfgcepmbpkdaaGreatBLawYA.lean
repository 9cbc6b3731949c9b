/-
  The statements of layer 15: what the document fixes; a plan and a case, boxed. (mkya.py)
-/
import Derived.Test.YtpbfgcepmbpkdaaGreatBunYO
import Derived.Test.YtpbfgcepmbpkdaaGreatBunYH
namespace Go.Proofs.YtpbfgcepmbpkdaaGreat
open Go.RowKit Fld Pln Shr
set_option linter.unusedVariables false
set_option linter.unusedSimpArgs false

theorem lm_lit {W : World} {n : Nat} (hn : W.heap.size = n) (x : Int) (T : TypeId) : Lm iw 1 (W.alloc (.cells #[.int .i64 x] T)) (.slice (some ⟨n, 0, none⟩) 1 1) [x] := by
  subst hn
  refine ⟨_, _, rfl, ⟨by simp, by simp, fun h => by cases h⟩, fun _ => ⟨_, _, rfl, by simp, fun i y hy j u hu => ?_⟩⟩
  have hi : i = 0 := by have := (List.getElem?_eq_some_iff.1 hy).1; simp at this; omega
  have hj : j = 0 := by have := (List.getElem?_eq_some_iff.1 hu).1; rw [iw_len] at this; omega
  subst hi hj
  simp at hy
  subst hy
  simpa [iw, go_sem] using hu
theorem lit_case (w : World) (o : Obj) (I T S : TypeId) : Lm iw 1 ((((((((((w.alloc o).alloc (.cells #[.int .i64 0] I)).alloc (.cells #[.int .u64 5] T)).alloc (.cells #[.int .u64 7] T)).alloc (.cells #[.slice (some ⟨w.heap.size + 1 + 1, 0, none⟩) 1 1, .slice (some ⟨w.heap.size + 1 + 1 + 1, 0, none⟩) 1 1] S)).alloc (.cells #[.int .u64 9] T)).alloc (.cells #[.slice (some ⟨w.heap.size + 1 + 1 + 1 + 1 + 1, 0, none⟩) 1 1] S)).alloc (.cells #[.int .u64 0] T)).alloc (.cells #[.int .u64 0] T)).alloc (.cells #[.slice (some ⟨w.heap.size + 1 + 1 + 1 + 1 + 1 + 1 + 1, 0, none⟩) 1 1, .slice (some ⟨w.heap.size + 1 + 1 + 1 + 1 + 1 + 1 + 1 + 1, 0, none⟩) 1 1] S)) (.slice (some ⟨w.heap.size + 1, 0, none⟩) 1 1) [0] ∧
    Rws ((((((((((w.alloc o).alloc (.cells #[.int .i64 0] I)).alloc (.cells #[.int .u64 5] T)).alloc (.cells #[.int .u64 7] T)).alloc (.cells #[.slice (some ⟨w.heap.size + 1 + 1, 0, none⟩) 1 1, .slice (some ⟨w.heap.size + 1 + 1 + 1, 0, none⟩) 1 1] S)).alloc (.cells #[.int .u64 9] T)).alloc (.cells #[.slice (some ⟨w.heap.size + 1 + 1 + 1 + 1 + 1, 0, none⟩) 1 1] S)).alloc (.cells #[.int .u64 0] T)).alloc (.cells #[.int .u64 0] T)).alloc (.cells #[.slice (some ⟨w.heap.size + 1 + 1 + 1 + 1 + 1 + 1 + 1, 0, none⟩) 1 1, .slice (some ⟨w.heap.size + 1 + 1 + 1 + 1 + 1 + 1 + 1 + 1, 0, none⟩) 1 1] S)) (.slice (some ⟨w.heap.size + 1 + 1 + 1 + 1, 0, none⟩) 2 2) [[5], [7]] ∧
    Rws ((((((((((w.alloc o).alloc (.cells #[.int .i64 0] I)).alloc (.cells #[.int .u64 5] T)).alloc (.cells #[.int .u64 7] T)).alloc (.cells #[.slice (some ⟨w.heap.size + 1 + 1, 0, none⟩) 1 1, .slice (some ⟨w.heap.size + 1 + 1 + 1, 0, none⟩) 1 1] S)).alloc (.cells #[.int .u64 9] T)).alloc (.cells #[.slice (some ⟨w.heap.size + 1 + 1 + 1 + 1 + 1, 0, none⟩) 1 1] S)).alloc (.cells #[.int .u64 0] T)).alloc (.cells #[.int .u64 0] T)).alloc (.cells #[.slice (some ⟨w.heap.size + 1 + 1 + 1 + 1 + 1 + 1 + 1, 0, none⟩) 1 1, .slice (some ⟨w.heap.size + 1 + 1 + 1 + 1 + 1 + 1 + 1 + 1, 0, none⟩) 1 1] S)) (.slice (some ⟨w.heap.size + 1 + 1 + 1 + 1 + 1 + 1, 0, none⟩) 1 1) [[9]] ∧
    Rws ((((((((((w.alloc o).alloc (.cells #[.int .i64 0] I)).alloc (.cells #[.int .u64 5] T)).alloc (.cells #[.int .u64 7] T)).alloc (.cells #[.slice (some ⟨w.heap.size + 1 + 1, 0, none⟩) 1 1, .slice (some ⟨w.heap.size + 1 + 1 + 1, 0, none⟩) 1 1] S)).alloc (.cells #[.int .u64 9] T)).alloc (.cells #[.slice (some ⟨w.heap.size + 1 + 1 + 1 + 1 + 1, 0, none⟩) 1 1] S)).alloc (.cells #[.int .u64 0] T)).alloc (.cells #[.int .u64 0] T)).alloc (.cells #[.slice (some ⟨w.heap.size + 1 + 1 + 1 + 1 + 1 + 1 + 1, 0, none⟩) 1 1, .slice (some ⟨w.heap.size + 1 + 1 + 1 + 1 + 1 + 1 + 1 + 1, 0, none⟩) 1 1] S)) (.slice (some ⟨w.heap.size + 1 + 1 + 1 + 1 + 1 + 1 + 1 + 1 + 1, 0, none⟩) 2 2) [[0], [0]] ∧
    Below w.heap.size w ((((((((((w.alloc o).alloc (.cells #[.int .i64 0] I)).alloc (.cells #[.int .u64 5] T)).alloc (.cells #[.int .u64 7] T)).alloc (.cells #[.slice (some ⟨w.heap.size + 1 + 1, 0, none⟩) 1 1, .slice (some ⟨w.heap.size + 1 + 1 + 1, 0, none⟩) 1 1] S)).alloc (.cells #[.int .u64 9] T)).alloc (.cells #[.slice (some ⟨w.heap.size + 1 + 1 + 1 + 1 + 1, 0, none⟩) 1 1] S)).alloc (.cells #[.int .u64 0] T)).alloc (.cells #[.int .u64 0] T)).alloc (.cells #[.slice (some ⟨w.heap.size + 1 + 1 + 1 + 1 + 1 + 1 + 1, 0, none⟩) 1 1, .slice (some ⟨w.heap.size + 1 + 1 + 1 + 1 + 1 + 1 + 1 + 1, 0, none⟩) 1 1] S)) := by
  have s1 := size_alloc (W := w) rfl (o)
  have s2 := size_alloc s1 (.cells #[.int .i64 0] I)
  have s3 := size_alloc s2 (.cells #[.int .u64 5] T)
  have s4 := size_alloc s3 (.cells #[.int .u64 7] T)
  have s5 := size_alloc s4 (.cells #[.slice (some ⟨w.heap.size + 1 + 1, 0, none⟩) 1 1, .slice (some ⟨w.heap.size + 1 + 1 + 1, 0, none⟩) 1 1] S)
  have s6 := size_alloc s5 (.cells #[.int .u64 9] T)
  have s7 := size_alloc s6 (.cells #[.slice (some ⟨w.heap.size + 1 + 1 + 1 + 1 + 1, 0, none⟩) 1 1] S)
  have s8 := size_alloc s7 (.cells #[.int .u64 0] T)
  have s9 := size_alloc s8 (.cells #[.int .u64 0] T)
  have r1 := lm_lit s1 0 I
  have r2 := rw_lit s2 5 (by decide) T
  have r3 := rw_lit s3 7 (by decide) T
  have r4 := rws_lit2 s4 (r2.below (alloc_below _ _)) r3 S
  have r5 := rw_lit s5 9 (by decide) T
  have r6 := rws_lit1 s6 r5 S
  have r7 := rw_lit s7 0 (by decide) T
  have r8 := rw_lit s8 0 (by decide) T
  have r9 := rws_lit2 s9 (r7.below (alloc_below _ _)) r8 S
  exact ⟨((((((((r1.below (alloc_below _ _)).below (alloc_below _ _)).below (alloc_below _ _)).below (alloc_below _ _)).below (alloc_below _ _)).below (alloc_below _ _)).below (alloc_below _ _)).below (alloc_below _ _)), (((((r4.below (alloc_below _ _)).below (alloc_below _ _)).below (alloc_below _ _)).below (alloc_below _ _)).below (alloc_below _ _)), (((r6.below (alloc_below _ _)).below (alloc_below _ _)).below (alloc_below _ _)), r9, Below.next (Below.next (Below.next (Below.next (Below.next (Below.next (Below.next (Below.next (Below.next (alloc_below _ _) (alloc_below _ _)) (alloc_below _ _)) (alloc_below _ _)) (alloc_below _ _)) (alloc_below _ _)) (alloc_below _ _)) (alloc_below _ _)) (alloc_below _ _)) (alloc_below _ _)⟩
theorem four_tw : twE fourP [0] [[5], [7]] [[9]] [[0], [0]] = 0 := by decide +kernel
theorem four_fx : fxL fourP [0] = [3] ∧ pts 0 fourP.k.toNat = [0, 1] ∧ pts fourP.k fourP.t.toNat = [2] := by decide +kernel
theorem four_twp : twp 2013265921 [0, 1] [2] [3] [[5], [7]] [[9]] [[0], [0]] 0 = [0, 1677721599, 335544322] := by
  have hm := fi_one.md
  have e : twp 2013265921 [0, 1] [2] [3] [[5], [7]] [[9]] [[0], [0]] 0 = tp 2013265921 [0, 1, 3] [0, 0, 11] [(0 : Int), 1, 3].length := by
    show tp 2013265921 [0, 1, 3] ([0, 0] ++ [vl 2013265921 3 (py 2013265921 [0, 1, 2] [[5], [7], [9]] 0)]) _ = _
    rw [four_py]
    have : vl 2013265921 3 [5, 2] = 11 := by decide +kernel
    rw [this]; rfl
  rw [e]
  refine Thr.only hm (xs := [0, 1, 3]) (ys := [0, 0, 11]) (by unfold Els El; decide) (by decide) (tp_thr hm (by unfold Els El; decide) (by unfold Els El; decide) (by decide)) ⟨⟨by unfold Els El; decide, by decide +kernel⟩, by decide, fun i hi => ?_⟩
  have : i = 0 ∨ i = 1 ∨ i = 2 := by simp at hi; omega
  rcases this with rfl | rfl | rfl <;> decide +kernel
theorem four_twl : twL fourP [0] [[5], [7]] [[9]] [[0], [0]] = [[671088644]] := by
  unfold twL
  rw [if_pos four_tw, four_fx.1, four_fx.2.1, four_fx.2.2, show pOf fourP.f = 2013265921 from rfl]
  show [[vl 2013265921 2 (twp 2013265921 [0, 1] [2] [3] [[5], [7]] [[9]] [[0], [0]] 0)]] = _
  rw [four_twp]
  decide +kernel
theorem lit_one (w : World) (T S : TypeId) : Rws ((w.alloc (.cells #[.int .u64 671088644] T)).alloc (.cells #[.slice (some ⟨w.heap.size, 0, none⟩) 1 1] S)) (.slice (some ⟨w.heap.size + 1, 0, none⟩) 1 1) [[671088644]] ∧ Below w.heap.size w ((w.alloc (.cells #[.int .u64 671088644] T)).alloc (.cells #[.slice (some ⟨w.heap.size, 0, none⟩) 1 1] S)) :=
  ⟨rws_lit1 (size_alloc (W := w) rfl _) (rw_lit (W := w) rfl 671088644 (by decide) T) S, Below.next (alloc_below _ _) (alloc_below _ _)⟩

set_option maxRecDepth 100000 in
set_option maxHeartbeats 400000 in
theorem anch15 : Ans 11 #[] (.bool true) := by
  intro w
  have HA := hide (fun W vw v1 v2 v3 h0 h1 h2 h3 => gTwin fourP vw v1 v2 v3 [0] [[5], [7]] [[9]] [[0], [0]] W four_ok.1 h0 h1 h2 h3)
  unfold GivesM at HA
  rw [four_tw, four_twl, plan_eq] at HA
  have HD := hide (fun o I T S => lit_case w o I T S)
  have HL := hide (fun W T S => lit_one W T S)
  unfold fourP at HA
  dsimp only at HA
  go_enter Tryz.func11, Tryz.ntmps11
  go_wp2_with (first
    | (go_at_call 8; refine (HA.out _ _ _ _ _ (HD.out _ _ _ _).1 (HD.out _ _ _ _).2.1 (HD.out _ _ _ _).2.2.1 (HD.out _ _ _ _).2.2.2.1).mono ?_; rintro e w1 ⟨v1, us1, rfl, hM1, hb1⟩; have hB1 := Below.next (HD.out _ _ _ _).2.2.2.2 hb1; have r1 := hide (hM1.rws (getD_wd (by unfold Wd; decide)) (by simp)); obtain ⟨a1, k1, rfl⟩ := own_form hM1.row; clear hM1)
    | (go_at_call 10; refine (Rows_h _ _ _ _ (r1.out.below (HL.out _ _ _).2) (HL.out _ _ _).1).mono ?_; rintro e w2 ⟨rfl, hb2⟩; have hB2 := Below.next (Below.next hB1 (HL.out _ _ _).2) hb2))
  go_ret
  exact ⟨rfl, hB2⟩

/-- A plan and a case, boxed one behind the other. -/
theorem case_box (w : World) (p : Pn) (v1 v2 v3 : Value) (T : TypeId) : ∃ W1, (w.alloc (.cells #[.int .u8 p.f, .int .i64 p.n, .int .i64 p.k, .int .i64 p.t, .int .i64 p.s, .int .i64 p.e, .int .i64 p.d, .int .i64 p.w] 24)).alloc (.cells #[v1, v2, v3] T) = W1 ∧ Below w.heap.size w W1 ∧ ∀ W, Below W1.heap.size W1 W → (W.cell? ⟨w.heap.size, 0, none⟩ = some (.int .u8 p.f) ∧ W.cell? ⟨w.heap.size, 1, none⟩ = some (.int .i64 p.n) ∧ W.cell? ⟨w.heap.size, 2, none⟩ = some (.int .i64 p.k) ∧ W.cell? ⟨w.heap.size, 3, none⟩ = some (.int .i64 p.t) ∧ W.cell? ⟨w.heap.size, 4, none⟩ = some (.int .i64 p.s) ∧ W.cell? ⟨w.heap.size, 5, none⟩ = some (.int .i64 p.e) ∧ W.cell? ⟨w.heap.size, 6, none⟩ = some (.int .i64 p.d) ∧ W.cell? ⟨w.heap.size, 7, none⟩ = some (.int .i64 p.w)) ∧ W.cell? ⟨w.heap.size + 1, 0, none⟩ = some v1 ∧ W.cell? ⟨w.heap.size + 1, 1, none⟩ = some v2 ∧ W.cell? ⟨w.heap.size + 1, 2, none⟩ = some v3 := by
  obtain ⟨pb, hA⟩ := pb_box (w := w) p
  refine ⟨_, rfl, Below.next hA (alloc_below _ _), fun W hb => ⟨((pb.below (alloc_below _ _)).below hb).cells, ?_, ?_, ?_⟩⟩
  · exact (hb.cell (p := ⟨w.heap.size + 1, 0, none⟩) (by simp)).trans (by simp [go_sem])
  · exact (hb.cell (p := ⟨w.heap.size + 1, 1, none⟩) (by simp)).trans (by simp [go_sem])
  · exact (hb.cell (p := ⟨w.heap.size + 1, 2, none⟩) (by simp)).trans (by simp [go_sem])

end Go.Proofs.YtpbfgcepmbpkdaaGreat
