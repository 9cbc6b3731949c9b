import Derived.Test.YthialdipnhggnaaBunW
import Derived.Lib.AppendZeros
set_option linter.unusedVariables false
set_option linter.unusedSimpArgs false
set_option maxRecDepth 100000
set_option maxHeartbeats 4000000
namespace Go.Proofs.Ythialdipnhggnaa
open Go.RowKit Fld
theorem b8_info : (Try.prog.info? 5).map (fun i => (i.zero, i.size, i.bytes)) = some (some (.int .u8 0), 1, 1) := by kernel_rfl
theorem fits_big {need old : Nat} (h : old < need) (hb : need <= 225000000000000) : Builtin.nextslicecap need old * 1 <= 281474976710656 := by
 rw [Nat.mul_one]
 unfold Builtin.nextslicecap
 split
 · omega
 · split
   · omega
   · rw [growBy_four]
     repeat' split
     all_goals omega
theorem app_big {W : World} {lo n m c : Nat} {v : Value} {a : Option Addr} {xs ys : List Int} (h : W.ownsRow lo 5 1 v n (valb xs)) (hu : Rb W (.slice a m c) ys) (hl : n + m <= 225000000000000) (hb : lo <= W.heap.size) :
 ∃ v' W', (Builtin.append_ #[23, 23] 23 #[v, .slice a m c]).run Try.prog W = .ok v' W' ∧ W'.ownsRow lo 5 1 v' (n + m) (valb (xs ++ ys)) ∧ W.grownBy W' v.ownBlock := by
 obtain ⟨i0, hi0, hz0, hz1, hz2⟩ := info_parts b8_info
 have hml : ys.length = m := by obtain ⟨_, _, e, _⟩ := hu; cases e; rfl
 have hxl : (valb xs).length = n := by have := h.1; omega
 rw [valb_length] at hxl
 cases a with
 | none =>
  obtain ⟨e1, e2, e3⟩ := hu.none_
  subst e1 e2 e3
  refine ⟨v, W, ?_, by simpa using h, ⟨rfl, rfl, rfl, Nat.le_refl _, fun _ _ _ => rfl⟩⟩
  exact run_append_owned_none (P := Try.prog) (w := W) lo 23 23 5 i0 1 Try.underlying23 hi0 _ _ _ h
 | some ad =>
  have hn := hu.news
  have hvl : (valb ys).length = m * 1 := by rw [valb_length]; omega
  by_cases h47 : n + m <= 140737488355328
  · obtain ⟨v', W', hr, ho, hg, _⟩ := run_append_own (P := Try.prog) W lo 23 23 5 i0 (.int .u8 0) 1 1 Try.underlying23 hi0 hz0 hz1 hz2 rfl (by decide) v n (valb xs) h ad m c (valb ys) hvl hn (valb_one ys) (by unfold maxLen; omega) (by omega) hb
    exact ⟨v', W', hr, by rw [<- valb_app]; exact ho, hg⟩
  · have new : ∀ old (row : Option Nat), (W.drew.alloc (.cells ((valb xs).toArray ++ (valb ys).toArray ++ Builtin.zeroCells (Value.int .u8 0).cells (grownCap W (n + m) old 5 - (n + m))) 5)).ownsRow lo 5 1 (.slice (some ⟨W.heap.size, 0, none⟩) (n + m) (grownCap W (n + m) old 5)) (n + m) (valb (xs ++ ys)) ∧ W.grownBy (W.drew.alloc (.cells ((valb xs).toArray ++ (valb ys).toArray ++ Builtin.zeroCells (Value.int .u8 0).cells (grownCap W (n + m) old 5 - (n + m))) 5)) row := fun old row => by
     have hge := grownCap_ge W (n + m) old 5
     refine ⟨⟨by rw [valb_length, List.length_append]; omega, .inr ⟨W.heap.size, _, _, rfl, hb, heap_alloc_new W.drew _, hge, grownCap_le_maxLen W (n + m) old 5 (by unfold maxLen; omega), ?_, ?_⟩⟩, ⟨rfl, rfl, rfl, by simp, fun k hk _ => heap_alloc_old W.drew _ hk⟩⟩
     · rw [Array.size_append, Array.size_append, size_zeroCells, List.size_toArray, List.size_toArray, valb_length, valb_length]
       simp only [Value.cells, List.size_toArray, List.length_cons, List.length_nil]
       omega
     · have e : n + m = (valb (xs ++ ys)).length := by rw [valb_length, List.length_append]; omega
       rw [Nat.mul_one, Array.toList_append, Array.toList_append, List.toList_toArray, List.toList_toArray, valb_app]
       exact List.take_left' e.symm
    rcases h.2 with ⟨rfl, h0⟩ | ⟨g, cap, cur, rfl, hbg, hg, hnc, hcm, hcs, htk⟩
    · subst h0
      have hx : xs = [] := List.length_eq_zero_iff.1 hxl
      subst hx
      have hr := run_append_nil (P := Try.prog) W 23 23 5 i0 (.int .u8 0) Try.underlying23 hi0 hz0 ad m c (valb ys) (by rw [hz1]; exact hvl) hn (by omega) (by omega) (by rw [hz2]; omega)
      have := new 0 (Value.slice none 0 0).ownBlock
      rw [Nat.zero_add] at this ⊢
      refine ⟨_, _, hr, ?_, ?_⟩
      · simpa [valb] using this.1
      · simpa [valb] using this.2
    · by_cases hroom : n + m <= cap
      · have hr := run_append_room (P := Try.prog) W 23 23 5 i0 Try.underlying23 hi0 g n cap cur hg ad m c (valb ys) (by rw [hz1]; exact hvl) hn (valb_one ys) hroom (by rw [hz1, hcs, valb_length]; omega)
        refine ⟨_, _, hr, ⟨by rw [valb_length, List.length_append]; omega, .inr ⟨g, cap, _, rfl, hbg, setRow_heap W g cur _ 5 _ hg, hroom, hcm, ?_, ?_⟩⟩, ⟨rfl, rfl, rfl, by simp, fun k _ hk => setRow_other W g k _ (fun e => hk (by simp [Value.ownBlock, e]))⟩⟩
        · simp only [List.size_toArray, List.length_append, List.length_take, List.length_drop, Array.length_toList, hz1, valb_length]
          omega
        · have e : (n + m) * 1 = (valb xs ++ valb ys).length := by rw [List.length_append, valb_length, valb_length]; omega
          rw [hz1, htk, <- valb_app, e]
          exact List.take_left
      · have holds : ∀ j u, (valb xs)[j]? = some u -> W.cell? ((⟨g, 0, none⟩ : Addr).add j) = some u := h.cells (g := g) rfl
        have hr := run_append_grow (P := Try.prog) W 23 23 5 i0 (.int .u8 0) Try.underlying23 hi0 hz0 ⟨g, 0, none⟩ n cap (valb xs) (by rw [hz1, valb_length]; omega) holds ad m c (valb ys) (by rw [hz1]; exact hvl) hn (by omega) (by omega) (by rw [hz2]; exact fits_big (by omega) hl)
        have := new cap (Value.slice (some ⟨g, 0, none⟩) n cap).ownBlock
        exact ⟨_, _, hr, this.1, this.2⟩
theorem zeros_B (w : World) (k : Nat) (h0 : 0 < k) (hk : k <= 281000000000000) :
 ∃ cap w', (Builtin.append_ #[23, 3] 23 #[.slice none 0 0, .int .i64 (k : Int)]).run Try.prog w = .ok (.slice (some ⟨w.heap.size, 0, none⟩) k cap) w' ∧ w'.ownsRow w.heap.size 5 1 (.slice (some ⟨w.heap.size, 0, none⟩) 0 cap) 0 [] ∧ w.grownBy w' none := by
 obtain ⟨i0, hi0, hz0, hz1, hz2⟩ := info_parts b8_info
 have hr := Lib.run_append_nil_zeros (P := Try.prog) w 23 3 23 5 i0 (.int .u8 0) .i64 .i64 Try.underlying23 Try.underlying3 hi0 hz0 k h0 (by omega) (by omega) (by rw [hz2]; omega)
 have hge := grownCap_ge w k 0 5
 have hcm : grownCap w k 0 5 <= maxLen := grownCap_le_maxLen w k 0 5 (by unfold maxLen; omega)
 refine ⟨_, _, hr, ⟨rfl, .inr ⟨w.heap.size, _, _, rfl, Nat.le_refl _, heap_alloc_new w.drew _, Nat.zero_le _, hcm, ?_, rfl⟩⟩, ⟨rfl, rfl, rfl, by simp, fun j hj _ => heap_alloc_old w.drew _ hj⟩⟩
 simp only [Array.size_append, size_zeroCells]
 simp [Value.cells]
 omega
theorem Grow_B (k : Nat) (w : World) (h0 : 0 < k) (hk : k <= 281000000000000) :
 Calls Try.prog 57 #[.slice none 0 0, .int .i64 (k : Int)] w fun e w' => ∃ cap, e = .returned (.slice (some ⟨w.heap.size, 0, none⟩) 0 cap) ∧ w'.ownsRow w.heap.size 5 1 (.slice (some ⟨w.heap.size, 0, none⟩) 0 cap) 0 [] ∧ Below w.heap.size w w' := by
 obtain ⟨cap, w1, hr, hO, hg⟩ := zeros_B w k h0 hk
 have HO := hide hO
 have hB := below_grown_none hg
 clear hO hg
 go_enter Try.func57, Try.ntmps57
 go_wp2_with (at_builtin; refine Lib.wpList_append_run _ rfl _ _ _ _ rfl _ _ rfl rfl _ _ hr ?_)
 go_ret
 exact ⟨_, rfl, HO.out, hB⟩
end Go.Proofs.Ythialdipnhggnaa
