import Derived.Test.YtcglbbglapomgaaBNdtH
import Derived.Test.YtcglbbglapomgaaBNdtD
import Derived.Test.YtcglbbglapomgaaBOpenK
set_option linter.unusedVariables false
set_option linter.unusedSimpArgs false
set_option maxRecDepth 100000
set_option maxHeartbeats 4000000
namespace Go.Proofs.Ytcglbbglapomgaa
open Go.RowKit Fld
theorem Np.mvb {w w' : World} {base g : Nat} {v v' : Value} {N : Nt} (h : Np w base g v N) (m : Mv w w' g v v') (hb : base <= w.heap.size) : Below base w w' := m.below hb h.m.low (fun j hj => (h.m.own_lt j hj).1)
theorem Ny.mvb {w w' : World} {base g : Nat} {v v' : Value} {N : Nt} (h : Ny w base g v N) (m : Mv w w' g v v') (hb : base <= w.heap.size) : Below base w w' := by
 obtain ⟨es, h⟩ := h
 exact m.below hb h.low (fun j hj => (h.pks.lt j hj).1)
theorem rb_one (w : World) (x : Int) (h : 0 <= x ∧ x <= 255) : Rb (w.alloc (.cells #[.int .u8 x] 5)) (.slice (some ⟨w.heap.size, 0, none⟩) 1 1) [x] :=
 ⟨some ⟨w.heap.size, 0, none⟩, 1, rfl, ⟨by simp, by simp, fun h => by cases h⟩, fun y hy => by rw [List.mem_singleton.1 hy]; exact h, fun _ => ⟨w.heap.size, 0, rfl, by simp, fun i hi => by
  have : i = 0 := by simp at hi; omega
  subst this
  simp [go_sem]⟩⟩
theorem Yb.mv {w w' : World} {q cap base g : Nat} {bs : List Int} {v v' : Value} {N : Nt} (h : Yb w q cap bs) (hn : Np w base g v N) (m : Mv w w' g v v') : Yb w' q cap bs := by
 obtain ⟨cs, fz, ht⟩ := h.typ
 refine h.kept m.kq.size (m.block h.lt (fun e => ?_) (own_notO hn.m.row ht (by decide)))
 subst e
 have := hn.m.net.symm.trans ht
 simp at this
theorem Yb.mvd {w w' : World} {q cap base g : Nat} {bs : List Int} {v v' : Value} {N : Nt} (h : Yb w q cap bs) (hn : Ny w base g v N) (m : Mv w w' g v v') : Yb w' q cap bs := by
 obtain ⟨cs, fz, ht⟩ := h.typ
 obtain ⟨es, hn⟩ := hn
 refine h.kept m.kq.size (m.block h.lt (fun e => ?_) (own_notO hn.pks.row ht (by decide)))
 subst e
 have := hn.net.symm.trans ht
 simp at this
theorem Pv.mv {w w' : World} {lo base g : Nat} {x : Value} {p : Pk} {v v' : Value} {N : Nt} (h : Pv w lo x p) (hn : Np w base g v N) (m : Mv w w' g v v') : Pv w' lo x p := by
 rcases h with ⟨q, cap, h1, h2, h3⟩ | h
 · exact .inl ⟨q, cap, h1, h2, h3.mv hn m⟩
 · exact .inr h
theorem Pv.mvd {w w' : World} {lo base g : Nat} {x : Value} {p : Pk} {v v' : Value} {N : Nt} (h : Pv w lo x p) (hn : Ny w base g v N) (m : Mv w w' g v v') : Pv w' lo x p := by
 rcases h with ⟨q, cap, h1, h2, h3⟩ | h
 · exact .inl ⟨q, cap, h1, h2, h3.mvd hn m⟩
 · exact .inr h
theorem Pv.rb {w : World} {lo : Nat} {a b : Int} {u : Value} {p : Pk} (h : Pv w lo (.agg #[.int .i64 a, .int .i64 b, u]) p) : Rb w u p.b := by
 obtain ⟨u', e, hr⟩ := h.form
 injection e with e
 have e2 := congrArg Array.toList e
 simp at e2
 rw [e2.2.2]; exact hr
def an1 : Nt := sdN (nt0 3) 0 1 [5]
def an2 : Nt := sdN an1 0 2 [6]
def an3 : Nt := dvN an2 1
theorem an_vals21 : ntE 3 = 0 ∧ sdE (nt0 3) 0 1 [5] = 0 ∧ sdE an1 0 2 [6] = 0 ∧ plE an2 1 = 0 ∧ dvP an2 1 = ⟨0, 2, [6]⟩ ∧ plE an3 1 = 2 ∧ dvP an3 1 = pk0 ∧ (nt0 3).s = 0 ∧ an1.s = 1 ∧ an2.s = 2 ∧ an3.s = 2 := by
 refine ⟨by decide, by decide, by decide, by decide, by rfl, by decide, by rfl, rfl, rfl, rfl, rfl⟩
theorem anch21 : Ans 11 #[] (.bool true) := by
 intro w
 obtain ⟨q0, q1, q2, q3, q4, q5, q6, s0, s1, s2, s3⟩ := an_vals21
 have H0 := hide (gNew 3 q0 w)
 have H1 := hide (fun W g v (h : Np W w.heap.size g v (nt0 3)) (hb : w.heap.size <= W.heap.size) u (hu : Rb W u [5]) => gSend h hb (by rw [s0]; decide) 0 1 hu)
 rw [q1] at H1
 have H2 := hide (fun W g v (h : Np W w.heap.size g v an1) (hb : w.heap.size <= W.heap.size) u (hu : Rb W u [6]) => gSend h hb (by rw [s1]; decide) 0 2 hu)
 rw [q2] at H2
 have H3 := hide (fun W g v (h : Np W w.heap.size g v an2) => gDeliver h (by rw [s2]; decide) 1)
 rw [q3, q4] at H3
 have H4 := hide (fun W g v (h : Np W w.heap.size g v an3) => gDeliver h (by rw [s3]; decide) 1)
 rw [q5, q6] at H4
 have HO := hide (fun W u v (h1 : Rb W u [6]) (h2 : Rb W v [6]) => dOne21 ⟨0, 2, [6]⟩ ⟨0, 2, [6]⟩ u v W h1 h2)
 simp only [pkS_self] at HO
 have E1 : Hid (sdN (nt0 3) 0 1 [5] = an1) := rfl
 have E2 : Hid (sdN an1 0 2 [6] = an2) := rfl
 have E3 : Hid (dvN an2 1 = an3) := rfl
 clear q0 q1 q2 q3 q4 q5 q6 s0 s1 s2 s3
 go_enter Try.func11, Try.ntmps11
 go_wp2_with (first
  | (go_at_call 8; go_loud (refine H0.out.mono ?_; rintro e w1 ⟨rfl, hN1, hb1⟩; have hA1 := alloc_below w1 (.cells #[.int .u8 5] 5); have HB1 := hide (Below.next hb1 hA1); have HS1 := hide (H1.out _ _ _ (hN1.below hA1) HB1.out.size _ (rb_one w1 5 (by decide))); have HN1 := hide (hN1.below hA1)))
  | (go_at_call_of 14 (Value.int .i64 1); go_loud (refine HS1.out.mono ?_; rintro e w2 ⟨v2, rfl, hN2, hm2⟩; rw [E1.out] at hN2; have hA2 := alloc_below w2 (.cells #[.int .u8 6] 5); have HB2 := hide ((HB1.out.trans (HN1.out.mvb hm2 HB1.out.size)).trans (hA2.mono (Nat.le_trans HB1.out.size hm2.kq.size))); have HN2 := hide (hN2.below hA2); have HS2 := hide (H2.out _ _ _ HN2.out HB2.out.size _ (rb_one w2 6 (by decide)))))
  | (go_at_call 14; go_loud (refine HS2.out.mono ?_; rintro e w3 ⟨v3, rfl, hN3, hm3⟩; rw [E2.out] at hN3; have HB3 := hide (HB2.out.trans (HN2.out.mvb hm3 HB2.out.size)); have HN3 := hide hN3; have HD3 := hide (H3.out _ _ _ hN3))))
 go_upto_region 5 with (go_at_call 12; go_loud (refine HD3.out.mono ?_; rintro e w4 ⟨v4, x4, rfl, hx4, hN4, hm4⟩; rw [E3.out] at hN4; obtain ⟨u4, rfl, hr4⟩ := hx4.form; obtain ⟨a4, k4, hu4, _⟩ := hr4.spell; change u4 = .slice a4 1 k4 at hu4; subst hu4; have hA4 := alloc_below w4 (.cells #[.int .i64 0, .int .i64 2, .slice a4 1 k4] 40); have hC4 := heap_alloc_new w4 (.cells #[.int .i64 0, .int .i64 2, .slice a4 1 k4] 40); have HB4 := hide ((HB3.out.trans (HN3.out.mvb hm4 HB3.out.size)).trans (hA4.mono (Nat.le_trans HB3.out.size hm4.kq.size))); have HN4 := hide (hN4.below hA4); have HD4 := hide (H4.out _ _ _ HN4.out); have HR4 := hide (hx4.below hA4); have hS4 := hm4.kq.size))
 go_upto_region 6 with (go_at_call 12; go_loud (refine HD4.out.mono ?_; rintro e w5 ⟨v5, x5, rfl, hx5, hN5, hm5⟩; obtain ⟨u5, hx5e, hr5⟩ := hx5.form; change x5 = .agg #[.int .i64 0, .int .i64 0, u5] at hx5e; subst hx5e; obtain ⟨a5, k5, hu5, _⟩ := hr5.spell; change u5 = .slice a5 0 k5 at hu5; subst hu5))
 have HB5 := hide (HB4.out.trans (HN4.out.mvb hm5 HB4.out.size))
 have hP5 := HR4.out.mv HN4.out hm5
 have hlo := HB3.out.size
 have hgw : w.heap.size < w4.heap.size := by have := HN3.out.m.lt; omega
 have hC5 := (hm5.block (j := w4.heap.size) (by simp) (by omega) (fun e => by have := (hN4.m.own_lt _ e).2; omega)).trans hC4
 have hA5 := alloc_below w5 (.cells #[.int .i64 0, .int .i64 0, .slice a5 0 k5] 40)
 have hA6 := alloc_below (w5.alloc (.cells #[.int .i64 0, .int .i64 0, .slice a5 0 k5] 40)) (.cells #[.int .u8 6] 5)
 have hC6 := (hA5.block _ (Array.getElem?_eq_some_iff.1 hC5).1).trans hC5
 have x0 : (w5.alloc (.cells #[.int .i64 0, .int .i64 0, .slice a5 0 k5] 40)).cell? ⟨w4.heap.size, 0, none⟩ = some (.int .i64 0) := (Lib.cell_of_heap hC6 0).trans rfl
 have x1 : (w5.alloc (.cells #[.int .i64 0, .int .i64 0, .slice a5 0 k5] 40)).cell? ⟨w4.heap.size, 1, none⟩ = some (.int .i64 2) := (Lib.cell_of_heap hC6 1).trans rfl
 have x2 : (w5.alloc (.cells #[.int .i64 0, .int .i64 0, .slice a5 0 k5] 40)).cell? ⟨w4.heap.size, 2, none⟩ = some (.slice a4 1 k4) := (Lib.cell_of_heap hC6 2).trans rfl
 have hR6 := (hP5.rb.below hA5).below hA6
 have HOne := hide (HO.out _ _ _ hR6 (rb_one (w5.alloc (.cells #[.int .i64 0, .int .i64 0, .slice a5 0 k5] 40)) 6 (by decide)))
 have HB6 := hide ((HB5.out.trans (hA5.mono HB5.out.size)).trans (hA6.mono (Nat.le_trans HB5.out.size hA5.size)))
 clear hA5 hA6 hC4 hC5 hC6 hP5 hm5 hN5 hm4 hN4 hx4 hr4 hx5 hr5 hR6 H0 H1 H2 H3 H4
 generalize hW6 : w5.alloc (.cells #[.int .i64 0, .int .i64 0, .slice a5 0 k5] 40) = w6 at *
 go_wp2_with (go_at_call 21; go_loud (refine HOne.out.mono ?_; rintro e w7 ⟨rfl, hb7⟩))
 go_ret
 exact ⟨rfl, HB6.out.trans (hb7.mono HB6.out.size)⟩
end Go.Proofs.Ytcglbbglapomgaa
