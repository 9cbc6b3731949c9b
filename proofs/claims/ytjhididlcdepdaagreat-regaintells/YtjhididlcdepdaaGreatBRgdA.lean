import Derived.Test.YtjhididlcdepdaaGreatBRgnF
import Derived.Test.YtjhididlcdepdaaGreatBPlrA
import Derived.Test.YtjhididlcdepdaaGreatBTkA
import Derived.Test.YtjhididlcdepdaaGreatBunQ
import Derived.Test.YtjhididlcdepdaaGreatBunW
set_option linter.unusedVariables false
set_option linter.unusedSimpArgs false
set_option maxRecDepth 100000
set_option maxHeartbeats 4000000
namespace Go.Proofs.YtjhididlcdepdaaGreat
open Go.RowKit Fld Pln
theorem dMayReply (p : Pn) (n : Int) (i : Int) (v : Value) (vs : List Int) (w : World) (hp : Ok8p p) (h : Rw w v vs) : Calls Tryz.prog 11 #[plv p, .int .i64 n, .agg #[.int .i64 i, v]] w fun e w' => e = .returned (.bool (mrB p n ⟨i, vs⟩)) ∧ Below w.heap.size w w' := by
 have HM := hide (fun W => dMayP p hp W)
 have HI := hide (fun W (hb : Below w.heap.size w W) => rIn_any p.f v vs W (h.below hb).1)
 obtain ⟨pb, hA⟩ := pb_box (w := w) p
 obtain ⟨d0, d1, hD⟩ := rp_box (w.alloc (.cells #[.int .u8 p.f, .int .i64 p.n, .int .i64 p.k, .int .i64 p.t, .int .i64 p.s, .int .i64 p.e, .int .i64 p.d, .int .i64 p.w] 24)) i v
 have pb2 := pb.below hD
 have hA2 := Below.next hA hD
 obtain ⟨ao, cap, rfl, _⟩ := h.spell
 have hsz : (w.alloc (.cells #[.int .u8 p.f, .int .i64 p.n, .int .i64 p.k, .int .i64 p.t, .int .i64 p.s, .int .i64 p.e, .int .i64 p.d, .int .i64 p.w] 24)).heap.size = w.heap.size + 1 := by simp
 rw [hsz] at d0 d1
 clear h pb hD hA hsz
 unfold mrB asB isW
 dsimp only
 generalize mayP p = b0 at *
 generalize inF p.f vs = b3 at *
 generalize vs.length = m at *
 have HC : Hid (∀ W', Below ((w.alloc (.cells #[.int .u8 p.f, .int .i64 p.n, .int .i64 p.k, .int .i64 p.t, .int .i64 p.s, .int .i64 p.e, .int .i64 p.d, .int .i64 p.w] 24)).alloc (.cells #[.int .i64 i, .slice ao m cap] 38)).heap.size ((w.alloc (.cells #[.int .u8 p.f, .int .i64 p.n, .int .i64 p.k, .int .i64 p.t, .int .i64 p.s, .int .i64 p.e, .int .i64 p.d, .int .i64 p.w] 24)).alloc (.cells #[.int .i64 i, .slice ao m cap] 38)) W' → Pb W' w.heap.size p ∧ W'.cell? ⟨w.heap.size + 1, 0, none⟩ = some (.int .i64 i) ∧ W'.cell? ⟨w.heap.size + 1, 1, none⟩ = some (.slice ao m cap)) := fun W' hb => ⟨pb2.below hb, (hb.cell (p := ⟨w.heap.size + 1, 0, none⟩) (cell_in d0)).trans d0, (hb.cell (p := ⟨w.heap.size + 1, 1, none⟩) (cell_in d1)).trans d1⟩
 obtain ⟨c0, c1, c2, c3, c4, c5, c6, c7⟩ := pb2.cells
 clear pb2
 unfold plv plw at *
 have hcs : b0 = false ∨ (b0 = true ∧ ¬ 0 ≤ n) ∨ (b0 = true ∧ 0 ≤ n ∧ ¬ n ≤ 64) ∨ (b0 = true ∧ 0 ≤ n ∧ n ≤ 64 ∧ ¬ 0 ≤ i) ∨ (b0 = true ∧ 0 ≤ n ∧ n ≤ 64 ∧ 0 ≤ i ∧ ¬ i < p.n) ∨ (b0 = true ∧ 0 ≤ n ∧ n ≤ 64 ∧ 0 ≤ i ∧ i < p.n ∧ ¬ (m : Int) = n) ∨ (b0 = true ∧ 0 ≤ n ∧ n ≤ 64 ∧ 0 ≤ i ∧ i < p.n ∧ (m : Int) = n) := by
  cases b0
  · simp
  · simp; omega
 rcases hcs with rfl | ⟨rfl, n0⟩ | ⟨rfl, n0, n1⟩ | ⟨rfl, n0, n1, i0⟩ | ⟨rfl, n0, n1, i0, i1⟩ | ⟨rfl, n0, n1, i0, i1, e⟩ | ⟨rfl, n0, n1, i0, i1, e⟩
 all_goals
  go_enter Tryz.func11, Tryz.ntmps11
  go_upto_region 1 with fail
  generalize (w.alloc (.cells #[.int .u8 p.f, .int .i64 p.n, .int .i64 p.k, .int .i64 p.t, .int .i64 p.s, .int .i64 p.e, .int .i64 p.d, .int .i64 p.w] 24)).alloc (.cells #[.int .i64 i, .slice ao m cap] 38) = W0 at *
  go_wp2_with (first
   | (go_at_call 39; refine (HM.out _).mono ?_; rintro e w1 ⟨rfl, hb1⟩; obtain ⟨pb1, d10, d11⟩ := HC.out _ hb1; clear c0 c1 c2 c3 c4 c5 c6 c7 d0 d1; obtain ⟨c0, c1, c2, c3, c4, c5, c6, c7⟩ := pb1.cells)
   | (go_at_call 40; refine (HI.out _ (Below.next hA2 hb1)).mono ?_; rintro e w2 ⟨rfl, hw⟩; rw [hw]; clear hw))
  go_ret
 · exact ⟨by simp, Below.next hA2 hb1⟩
 · exact ⟨by simp; omega, Below.next hA2 hb1⟩
 · exact ⟨by simp; omega, Below.next hA2 hb1⟩
 · exact ⟨by simp; omega, Below.next hA2 hb1⟩
 · exact ⟨by simp; omega, Below.next hA2 hb1⟩
 · exact ⟨by simp [e], Below.next hA2 hb1⟩
 · exact ⟨by simp [n0, n1, i0, i1, e], Below.next hA2 hb1⟩
end Go.Proofs.YtjhididlcdepdaaGreat
