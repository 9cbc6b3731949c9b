import Derived.Test.YtcglbbglapomgaaBNdtA
set_option linter.unusedVariables false
set_option linter.unusedSimpArgs false
set_option maxRecDepth 100000
set_option maxHeartbeats 4000000
namespace Go.Proofs.Ytcglbbglapomgaa
open Go.RowKit Fld
theorem nd_new {w : World} {g base : Nat} {n : Int} (hg : w.heap[g]? = some (.cells #[.int .i64 n, .slice none 0 0, .int .i64 0, .int .i64 0, .int .i64 0] 29 (0, 0))) (hb : base <= g) : Nd w base g (.slice none 0 0) (nt0 n) [] :=
 ⟨hg, ⟨World.ownsRow_nil _ _ _ _, fun e he => by cases he⟩, rfl, hb⟩
def ndv (n : Int) : Value := .agg #[.int .i64 n, .slice none 0 0, .int .i64 0, .int .i64 0, .int .i64 0]
theorem load_nd {w : World} {b : Nat} {x0 x1 x2 x3 x4 : Value} (h : w.heap[b]? = some (.cells #[x0, x1, x2, x3, x4] 29 (0, 0))) : (loadVar 29 ⟨b, 0, none⟩).run Try.prog w = .ok (.agg #[x0, x1, x2, x3, x4]) w := by
 have c0 : w.cell? ⟨b, 0, none⟩ = some x0 := by simp [World.cell?, h]
 have c1 : w.cell? ⟨b, 1, none⟩ = some x1 := by simp [World.cell?, h]
 have c2 : w.cell? ⟨b, 2, none⟩ = some x2 := by simp [World.cell?, h]
 have c3 : w.cell? ⟨b, 3, none⟩ = some x3 := by simp [World.cell?, h]
 have c4 : w.cell? ⟨b, 4, none⟩ = some x4 := by simp [World.cell?, h]
 simp [go_sem, c0, c1, c2, c3, c4]
theorem blk_set5 {W : World} {g : Nat} {x y z u v a b c d e : Value} {T : TypeId} (h : W.heap[g]? = some (.cells #[x, y, z, u, v] T (0, 0))) : (((((W.setCell ⟨g, 0, none⟩ a).setCell ⟨g, 1, none⟩ b).setCell ⟨g, 2, none⟩ c).setCell ⟨g, 3, none⟩ d).setCell ⟨g, 4, none⟩ e).heap[g]? = some (.cells #[a, b, c, d, e] T (0, 0)) := set_blk (set_blk (set_blk (set_blk (set_blk h 0 a) 1 b) 2 c) 3 d) 4 e
theorem below_set5 {W w : World} {B g : Nat} {a b c d e : Value} (h : Below B w W) (hg : B <= g) : Below B w (((((W.setCell ⟨g, 0, none⟩ a).setCell ⟨g, 1, none⟩ b).setCell ⟨g, 2, none⟩ c).setCell ⟨g, 3, none⟩ d).setCell ⟨g, 4, none⟩ e) :=
 ((((h.setCell (p := ⟨g, 0, none⟩) hg _).setCell (p := ⟨g, 1, none⟩) hg _).setCell (p := ⟨g, 2, none⟩) hg _).setCell (p := ⟨g, 3, none⟩) hg _).setCell (p := ⟨g, 4, none⟩) hg _
theorem dNew21 (n : Int) (w : World) : Calls Try.prog 9 #[.int .i64 n] w fun e w' => e = .returned (.tuple #[ndv (if ntE n = 0 then n else 0), .int .i64 (ntE n)]) ∧ Below w.heap.size w w' := by
 obtain ⟨w0, hw0⟩ : ∃ w0, w.alloc (.cells #[.int .i64 0, .slice none 0 0, .int .i64 0, .int .i64 0, .int .i64 0] 29) = w0 := ⟨_, rfl⟩
 have hb : Below w.heap.size w w0 := by rw [<- hw0]; exact alloc_below _ _
 have hx : w0.heap[w.heap.size]? = some (.cells #[.int .i64 0, .slice none 0 0, .int .i64 0, .int .i64 0, .int .i64 0] 29 (0, 0)) := by rw [<- hw0]; exact heap_alloc_new w _
 have y0 : w0.cell? ⟨w.heap.size, 0, none⟩ = some (.int .i64 0) := (Lib.cell_of_heap hx 0).trans rfl
 have y1 : w0.cell? ⟨w.heap.size, 1, none⟩ = some (.slice none 0 0) := (Lib.cell_of_heap hx 1).trans rfl
 have y2 : w0.cell? ⟨w.heap.size, 2, none⟩ = some (.int .i64 0) := (Lib.cell_of_heap hx 2).trans rfl
 have y3 : w0.cell? ⟨w.heap.size, 3, none⟩ = some (.int .i64 0) := (Lib.cell_of_heap hx 3).trans rfl
 have y4 : w0.cell? ⟨w.heap.size, 4, none⟩ = some (.int .i64 0) := (Lib.cell_of_heap hx 4).trans rfl
 have yf : ∀ k, w0.frozen? ⟨w.heap.size, k, none⟩ = false := fun k => Lib.frozen_of_heap hx k
 have HX := hide hx
 have HB := hide hb
 clear hx hb
 unfold ndv
 by_cases h1 : n < 1
 · have e : ntE n = 2 := by unfold ntE; rw [if_neg (by omega)]
   rw [e, if_neg (by decide)]
   clear e
   go_enter Try.func9, Try.ntmps9
   go_wp2
   exact bodyPost_ret (res_ct (a := 2) (b := 3) rfl rfl rfl (load_nd (blk_set5 HX.out))) rfl ⟨rfl, below_set5 HB.out (Nat.le_refl _)⟩
 · by_cases h2 : 65 < n
   · have e : ntE n = 2 := by unfold ntE; rw [if_neg (by omega)]
     rw [e, if_neg (by decide)]
     clear e
     go_enter Try.func9, Try.ntmps9
     go_wp2
     exact bodyPost_ret (res_ct (a := 2) (b := 3) rfl rfl rfl (load_nd (blk_set5 HX.out))) rfl ⟨rfl, below_set5 HB.out (Nat.le_refl _)⟩
   · have e : ntE n = 0 := by unfold ntE; rw [if_pos (by omega)]
     rw [e, if_pos rfl]
     clear e
     go_enter Try.func9, Try.ntmps9
     go_wp2
     exact bodyPost_ret (res_ct (a := 2) (b := 3) rfl rfl rfl (load_nd (blk_set5 HX.out))) rfl ⟨rfl, below_set5 HB.out (Nat.le_refl _)⟩
theorem dOne21 (p q : Pk) (u v : Value) (w : World) (h1 : Rb w u p.b) (h2 : Rb w v q.b) :
 Calls Try.prog 21 #[.agg #[.int .i64 p.f, .int .i64 p.t, u], .agg #[.int .i64 q.f, .int .i64 q.t, v]] w fun e w' => e = .returned (.bool (pkS p q)) ∧ Below w.heap.size w w' := by
 obtain ⟨w1, hw1⟩ : ∃ w1, (w.alloc (.cells #[.int .i64 p.f, .int .i64 p.t, u] 40)).alloc (.cells #[.int .i64 q.f, .int .i64 q.t, v] 40) = w1 := ⟨_, rfl⟩
 have hb : Below w.heap.size w w1 := by rw [<- hw1]; exact Below.next (alloc_below _ _) (alloc_below _ _)
 have HS := hide (rSame8 u v p.b q.b w1 (h1.below hb) (h2.below hb))
 have HB := hide hb
 obtain ⟨a1, k1, rfl, _⟩ := h1.spell
 obtain ⟨a2, k2, rfl, _⟩ := h2.spell
 have c0 : w1.cell? ⟨w.heap.size, 0, none⟩ = some (.int .i64 p.f) := by rw [<- hw1]; simp [go_sem]
 have c1 : w1.cell? ⟨w.heap.size, 1, none⟩ = some (.int .i64 p.t) := by rw [<- hw1]; simp [go_sem]
 have c2 : w1.cell? ⟨w.heap.size, 2, none⟩ = some (.slice a1 p.b.length k1) := by rw [<- hw1]; simp [go_sem]
 have d0 : w1.cell? ⟨w.heap.size + 1, 0, none⟩ = some (.int .i64 q.f) := by rw [<- hw1]; simp [go_sem]
 have d1 : w1.cell? ⟨w.heap.size + 1, 1, none⟩ = some (.int .i64 q.t) := by rw [<- hw1]; simp [go_sem]
 have d2 : w1.cell? ⟨w.heap.size + 1, 2, none⟩ = some (.slice a2 q.b.length k2) := by rw [<- hw1]; simp [go_sem]
 clear h1 h2 hb
 by_cases hf : p.f = q.f
 · have hf' : (p.f == q.f) = true := beq_iff_eq.2 hf
   by_cases ht : p.t = q.t
   · have ht' : (p.t == q.t) = true := beq_iff_eq.2 ht
     have e : pkS p q = decide (p.b = q.b) := by
      unfold pkS
      by_cases hbb : p.b = q.b
      · rw [decide_eq_true hbb, decide_eq_true ⟨hf, ht, hbb⟩]
      · rw [decide_eq_false hbb, decide_eq_false (fun h => hbb h.2.2)]
     rw [e]
     clear hf ht e
     generalize decide (p.b = q.b) = res at *
     go_enter Try.func21, Try.ntmps21
     go_wp2_with (go_at_call 41; refine HS.out.mono ?_; rintro e w2 ⟨rfl, hw2⟩; rw [hw2]; clear hw2)
     go_ret
     exact ⟨rfl, HB.out⟩
   · have ht' : (p.t == q.t) = false := beq_eq_false_iff_ne.2 ht
     have e : pkS p q = false := by unfold pkS; rw [decide_eq_false (fun h => ht h.2.1)]
     rw [e]
     clear hf ht e
     go_enter Try.func21, Try.ntmps21
     go_wp2
     go_ret
     exact ⟨rfl, HB.out⟩
 · have hf' : (p.f == q.f) = false := beq_eq_false_iff_ne.2 hf
   have e : pkS p q = false := by unfold pkS; rw [decide_eq_false (fun h => hf h.1)]
   rw [e]
   clear hf e
   go_enter Try.func21, Try.ntmps21
   go_wp2
   go_ret
   exact ⟨rfl, HB.out⟩
end Go.Proofs.Ytcglbbglapomgaa
