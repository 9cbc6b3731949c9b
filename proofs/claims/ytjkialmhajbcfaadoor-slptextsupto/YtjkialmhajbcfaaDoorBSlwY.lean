/-
  Layer 9: the library's Concat of two lists of steps.
-/
import Derived.Test.YtjkialmhajbcfaaDoorBSlwO
import Derived.Lib.AppendZeros
import Derived.LoopN
import Derived.Laws.OwnMore
namespace Go.Proofs.YtjkialmhajbcfaaDoor
open Go.RowKit Fld Slp
set_option linter.unusedVariables false
set_option linter.unusedSimpArgs false

theorem zerosO_nil (w : World) (k : Nat) (h0 : 0 < k) (hk : k ≤ 1000) :
    ∃ cap w', (Builtin.append_ #[22, 3] 22 #[.slice none 0 0, .int .i64 (k : Int)]).run Tryd.prog w = .ok (.slice (some ⟨w.heap.size, 0, none⟩) k cap) w' ∧ w'.ownsRow w.heap.size 47 4 (.slice (some ⟨w.heap.size, 0, none⟩) 0 cap) 0 [] ∧ w.grownBy w' none := by
  obtain ⟨i0, hi0, hz0, hz1, hz2⟩ := info_parts op_info
  have hr := Lib.run_append_nil_zeros (P := Tryd.prog) w 22 3 22 47 i0 (.agg #[.int .u8 0, .int .i64 0, .int .i64 0, .int .u64 0]) .i64 .i64 Tryd.underlying22 Tryd.underlying3 hi0 hz0 k h0 (by omega) (by omega) (by rw [hz2]; omega)
  have hge := grownCap_ge w k 0 47
  have hcm : grownCap w k 0 47 ≤ maxLen := grownCap_le_maxLen w k 0 47 (by unfold maxLen; omega)
  refine ⟨_, _, hr, ⟨rfl, .inr ⟨w.heap.size, _, _, rfl, Nat.le_refl _, heap_alloc_new w.drew _, Nat.zero_le _, hcm, ?_, rfl⟩⟩, ⟨rfl, rfl, rfl, by simp, fun j hj _ => heap_alloc_old w.drew _ hj⟩⟩
  simp only [Array.size_append, size_zeroCells]
  simp [Value.cells]
  omega

set_option maxRecDepth 100000 in
set_option maxHeartbeats 200000 in
theorem GrowO (k : Nat) (w : World) (hk : k ≤ 1000) :
    Calls Tryd.prog 54 #[.slice none 0 0, .int .i64 (k : Int)] w fun e w' => ∃ a c, e = .returned (.slice a 0 c) ∧ w'.ownsRow w.heap.size 47 4 (.slice a 0 c) 0 [] ∧ Below w.heap.size w w' := by
  by_cases h0 : 0 < k
  · obtain ⟨cap, w1, hr, hO, hg⟩ := zerosO_nil w k h0 hk
    have HO := hide hO
    have hB := below_grown_none hg
    clear hO hg
    go_enter Tryd.func54, Tryd.ntmps54
    go_wp2_with (at_builtin; refine Lib.wpList_append_run _ rfl _ _ _ _ rfl _ _ rfl rfl _ _ hr ?_)
    go_ret
    exact ⟨_, _, rfl, HO.out, hB⟩
  · obtain rfl : k = 0 := by omega
    go_enter Tryd.func54, Tryd.ntmps54
    go_wp2
    go_ret
    exact ⟨_, _, rfl, ⟨rfl, .inl ⟨rfl, rfl⟩⟩, Below.refl _ _⟩

/-- Steps appended to a list of the call's own. -/
theorem appO (W : World) (base : Nat) (u : Value) (A B : List O4) (vb : Value) (hO : W.ownsRow base 47 4 u A.length (A.flatMap opw)) (hB : Lm opw 4 W vb B) (hl : A.length + B.length ≤ 1000) (hb : base ≤ W.heap.size) :
    ∃ v' W', (Builtin.append_ #[22, 22] 22 #[u, vb]).run Tryd.prog W = .ok v' W' ∧ W'.ownsRow base 47 4 v' (A ++ B).length ((A ++ B).flatMap opw) ∧ Below base W W' ∧ W.grownBy W' u.ownBlock := by
  obtain ⟨i0, hi0, hz0, hz1, hz2⟩ := info_parts op_info
  have key : ∀ (ad : Addr) (c : Nat), (∀ j x, (B.flatMap opw)[j]? = some x → W.cell? (ad.add j) = some x) → ∃ v' W', (Builtin.append_ #[22, 22] 22 #[u, .slice (some ad) B.length c]).run Tryd.prog W = .ok v' W' ∧ W'.ownsRow base 47 4 v' (A ++ B).length ((A ++ B).flatMap opw) ∧ Below base W W' ∧ W.grownBy W' u.ownBlock := fun ad c hc => by
    obtain ⟨v', W', hr, ho, hg, _⟩ := run_append_own (P := Tryd.prog) (w := W) base 22 22 47 i0 (.agg #[.int .u8 0, .int .i64 0, .int .i64 0, .int .u64 0]) 4 32 Tryd.underlying22 hi0 hz0 hz1 hz2 rfl (by decide) u A.length (A.flatMap opw) hO ad B.length c (B.flatMap opw) (flat_len opw 4 opw_len B) hc (fun x hx => by
      obtain ⟨o, _, ho⟩ := List.mem_flatMap.1 hx
      simp [opw] at ho
      rcases ho with rfl | rfl | rfl | rfl <;> rfl) (by unfold maxLen; omega) (by omega) hb
    refine ⟨v', W', hr, ?_, (Below.refl base W).grown hg hb (fun k hk => own_base hO k hk), hg⟩
    rw [List.length_append, List.flatMap_append]; exact ho
  obtain ⟨ao, cap, rfl, h1, h2⟩ := hB
  cases ao with
  | some ad => exact key ad cap (Lm.news opw_len (by decide) ⟨some ad, cap, rfl, h1, h2⟩)
  | none =>
    have hB0 : B = [] := by
      cases B with
      | nil => rfl
      | cons o B => obtain ⟨b, off, e, _⟩ := h2 (by simp); cases e
    have hc0 := h1.2.2 rfl
    subst hB0 hc0
    refine ⟨u, W, run_append_owned_none (P := Tryd.prog) W base 22 22 47 i0 4 Tryd.underlying22 hi0 u A.length (A.flatMap opw) hO, by rw [List.append_nil]; exact hO, Below.refl _ _, ⟨rfl, rfl, rfl, Nat.le_refl _, fun _ _ _ => rfl⟩⟩

set_option maxRecDepth 100000 in
set_option maxHeartbeats 400000 in
theorem ConcatO (w : World) (b : Nat) (vq vp : Value) (Q P : List O4) (hq : Lm opw 4 w vq Q) (hp : Lm opw 4 w vp P) (c0 : w.cell? ⟨b, 0, none⟩ = some vq) (c1 : w.cell? ⟨b, 1, none⟩ = some vp) (hl : Q.length + P.length ≤ 1000) :
    Calls Tryd.prog 41 #[.slice (some ⟨b, 0, none⟩) 2 2] w fun e w' => ∃ v', e = .returned v' ∧ w'.ownsRow w.heap.size 47 4 v' (Q.length + P.length) ((Q ++ P).flatMap opw) ∧ Below w.heap.size w w' := by
  have hb := World.block_lt_of_cell? w _ c0
  have HQ := hide hq
  have HP := hide hp
  obtain ⟨ao, co, rfl, _⟩ := hq.spell
  obtain ⟨au, cu, rfl, _⟩ := hp.spell
  have HG : Hid (∀ W, Calls Tryd.prog 54 #[.slice none 0 0, .int .i64 ((Q.length : Int) + (P.length : Int))] W fun e w' => ∃ a c, e = .returned (.slice a 0 c) ∧ w'.ownsRow W.heap.size 47 4 (.slice a 0 c) 0 [] ∧ Below W.heap.size W w') := fun W => by
    have := GrowO (Q.length + P.length) W hl
    rw [Int.natCast_add] at this; exact this
  have W1 : Hid (∀ W, Below w.heap.size w W → W.cell? ⟨b, 0, none⟩ = some (.slice ao Q.length co)) := fun W h => (h.cell (p := ⟨b, 0, none⟩) hb).trans c0
  have W2 : Hid (∀ W, Below w.heap.size w W → W.cell? ⟨b, 1, none⟩ = some (.slice au P.length cu)) := fun W h => (h.cell (p := ⟨b, 1, none⟩) hb).trans c1
  have HA1 := hide (fun W v (hO : W.ownsRow w.heap.size 47 4 v 0 []) (h : Below w.heap.size w W) => appO W w.heap.size v [] Q _ hO (HQ.out.below h) (by simp; omega) h.size)
  have HA2 := hide (fun W v (hO : W.ownsRow w.heap.size 47 4 v Q.length (Q.flatMap opw)) (h : Below w.heap.size w W) => appO W w.heap.size v Q P _ hO (HP.out.below h) hl h.size)
  simp only [List.nil_append] at HA1
  clear hq hp
  have g1 : (0 : Int) ≤ (Q.length : Int) := by omega
  have g2 : (Q.length : Int) ≤ 1000 := by omega
  have g3 : (0 : Int) ≤ (P.length : Int) := by omega
  have g4 : (P.length : Int) ≤ 1000 := by omega
  go_enter Tryd.func41, Tryd.ntmps41
  go_wp2
  refine wp_loop_rounds 3 ?_
  rw [rounds_succ]
  go_wp2
  rw [rounds_succ]
  go_wp2
  rw [rounds_succ]
  go_wp2_with fail
  refine (HG.out _).mono ?_
  rintro e w1 ⟨ga, gc, rfl, hO, hB⟩
  have e1 := W1.out _ hB
  obtain ⟨v2, w2, hr2, hO2, hb2, _⟩ := HA1.out w1 _ hO hB
  have hB2 := hB.trans hb2
  have e2 := W2.out _ hB2
  obtain ⟨v3, w3, hr3, hO3, hb3, _⟩ := HA2.out w2 _ hO2 hB2
  have hB3 := hB2.trans hb3
  have HO3 := hide hO3
  clear hO hO2 hO3
  go_wp2_with fail
  refine wp_loop_rounds 3 ?_
  rw [rounds_succ]
  go_wp2_with (at_builtin; refine Lib.wpList_append_run _ rfl _ _ _ _ rfl _ _ rfl rfl _ _ hr2 ?_)
  rw [rounds_succ]
  go_wp2_with (at_builtin; refine Lib.wpList_append_run _ rfl _ _ _ _ rfl _ _ rfl rfl _ _ hr3 ?_)
  rw [rounds_succ]
  go_wp2
  go_ret
  exact ⟨_, rfl, by rw [← List.length_append]; exact HO3.out, hB3⟩

end Go.Proofs.YtjkialmhajbcfaaDoor
