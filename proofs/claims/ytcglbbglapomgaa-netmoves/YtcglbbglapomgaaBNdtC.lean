import Derived.Test.YtcglbbglapomgaaBNdtA
set_option linter.unusedVariables false
set_option linter.unusedSimpArgs false
set_option maxRecDepth 100000
set_option maxHeartbeats 4000000
namespace Go.Proofs.Ytcglbbglapomgaa
open Go.RowKit Fld
theorem dOne21 (p q : Pk) (u v : Value) (w : World) (h1 : Rb w u p.b) (h2 : Rb w v q.b) :
 Calls Try.prog 21 #[.agg #[.int .i64 p.f, .int .i64 p.t, u], .agg #[.int .i64 q.f, .int .i64 q.t, v]] w fun e w' => e = .returned (.bool (pkS p q)) ∧ Below w.heap.size w w' := by
 obtain ⟨w1, hw1⟩ : ∃ w1, (w.alloc (.cells #[.int .i64 p.f, .int .i64 p.t, u] 40)).alloc (.cells #[.int .i64 q.f, .int .i64 q.t, v] 40) = w1 := ⟨_, rfl⟩
 have hb : Below w.heap.size w w1 := by rw [<- hw1]; exact Below.next (alloc_below _ _) (alloc_below _ _)
 have HS := hide (rSame8 u v p.b q.b w1 (h1.below hb) (h2.below hb))
 have HB := hide hb
 obtain ⟨a1, k1, rfl, _⟩ := h1.spell
 obtain ⟨a2, k2, rfl, _⟩ := h2.spell
 have c0 : w1.cell? ⟨w.heap.size, 0, none⟩ = some (.int .i64 p.f) := by rw [<- hw1]; simp [go_sem]
 have c1 : w1.cell? ⟨w.heap.size, 1, none⟩ = some (.int .i64 p.t) := by rw [<- hw1]; simp [go_sem]
 have c2 : w1.cell? ⟨w.heap.size, 2, none⟩ = some (.slice a1 p.b.length k1) := by rw [<- hw1]; simp [go_sem]
 have d0 : w1.cell? ⟨w.heap.size + 1, 0, none⟩ = some (.int .i64 q.f) := by rw [<- hw1]; simp [go_sem]
 have d1 : w1.cell? ⟨w.heap.size + 1, 1, none⟩ = some (.int .i64 q.t) := by rw [<- hw1]; simp [go_sem]
 have d2 : w1.cell? ⟨w.heap.size + 1, 2, none⟩ = some (.slice a2 q.b.length k2) := by rw [<- hw1]; simp [go_sem]
 clear h1 h2 hb
 by_cases hf : p.f = q.f
 · have hf' : (p.f == q.f) = true := beq_iff_eq.2 hf
   by_cases ht : p.t = q.t
   · have ht' : (p.t == q.t) = true := beq_iff_eq.2 ht
     have e : pkS p q = decide (p.b = q.b) := by
      unfold pkS
      by_cases hbb : p.b = q.b
      · rw [decide_eq_true hbb, decide_eq_true ⟨hf, ht, hbb⟩]
      · rw [decide_eq_false hbb, decide_eq_false (fun h => hbb h.2.2)]
     rw [e]
     clear hf ht e
     generalize decide (p.b = q.b) = res at *
     go_enter Try.func21, Try.ntmps21
     go_wp2_with (go_at_call 41; refine HS.out.mono ?_; rintro e w2 ⟨rfl, hw2⟩; rw [hw2]; clear hw2)
     go_ret
     exact ⟨rfl, HB.out⟩
   · have ht' : (p.t == q.t) = false := beq_eq_false_iff_ne.2 ht
     have e : pkS p q = false := by unfold pkS; rw [decide_eq_false (fun h => ht h.2.1)]
     rw [e]
     clear hf ht e
     go_enter Try.func21, Try.ntmps21
     go_wp2
     go_ret
     exact ⟨rfl, HB.out⟩
 · have hf' : (p.f == q.f) = false := beq_eq_false_iff_ne.2 hf
   have e : pkS p q = false := by unfold pkS; rw [decide_eq_false (fun h => hf h.1)]
   rw [e]
   clear hf e
   go_enter Try.func21, Try.ntmps21
   go_wp2
   go_ret
   exact ⟨rfl, HB.out⟩
end Go.Proofs.Ytcglbbglapomgaa
