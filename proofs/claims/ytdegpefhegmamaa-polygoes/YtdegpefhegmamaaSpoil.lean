/-
  The statements' own Copy and Spoil: a list of its own; marks written into every place of a list, and behind its end.
-/
import Derived.Test.YtdegpefhegmamaaRefD
import Derived.Laws.AppendOwnNone
namespace Go.Proofs.Ytdegpefhegmamaa
open Go.RowKit Fld
set_option linter.unusedVariables false

theorem vals_one (xs : List Int) : ∀ u ∈ vals xs, u.oneCell' = true := by
  intro u hu
  obtain ⟨x, _, rfl⟩ := List.mem_map.1 hu
  rfl
theorem own_empty (w : World) (T : TypeId) : (w.alloc (.cells #[] T)).ownsRow w.heap.size T 1 (.slice (some ⟨w.heap.size, 0, none⟩) 0 0) 0 (vals []) :=
  ⟨by simp [vals], .inr ⟨_, 0, #[], rfl, Nat.le_refl _, heap_alloc_new w _, Nat.le_refl _, by unfold maxLen; omega, by simp, by simp [vals]⟩⟩
theorem grown_trans {a b c : World} {r : Option Nat} (h : a.grownBy b r) (k : b.grownBy c r) : a.grownBy c r :=
  ⟨k.os.trans h.os, k.tape.trans h.tape, k.output.trans h.output, Nat.le_trans h.size k.size, fun j hj hne => (k.block j (Nat.lt_of_lt_of_le hj h.size) hne).trans (h.block j hj hne)⟩
theorem grown_refl (a : World) (r : Option Nat) : a.grownBy a r := ⟨rfl, rfl, rfl, Nat.le_refl _, fun _ _ _ => rfl⟩
theorem grown_alloc {a b : World} {r : Option Nat} (h : a.grownBy b r) (o : Obj) : a.grownBy (b.alloc o) r :=
  ⟨h.os, h.tape, h.output, Nat.le_trans h.size (by simp), fun j hj hne => (Below.heap_alloc b o j (Nat.lt_of_lt_of_le hj h.size)).trans (h.block j hj hne)⟩
/-- Writes to a row that lies behind all of a's blocks, or is the very row. -/
theorem grown_far {a b c : World} {r : Option Nat} {g : Nat} (h : a.grownBy b r) (k : b.grownBy c (some g)) (hg : r = some g ∨ a.heap.size ≤ g) : a.grownBy c r := by
  refine ⟨k.os.trans h.os, k.tape.trans h.tape, k.output.trans h.output, Nat.le_trans h.size k.size, fun j hj hne => ?_⟩
  refine (k.block j (Nat.lt_of_lt_of_le hj h.size) ?_).trans (h.block j hj hne)
  rcases hg with rfl | hg
  · exact hne
  · intro e; cases e; omega

set_option maxRecDepth 100000 in
set_option maxHeartbeats 200000 in
theorem Copy_any (v : Value) (xs : List Int) (w : World) (hr : Row w v xs) :
    Calls Try.prog 33 #[v] w fun e w' => ∃ v', e = .returned v' ∧ w'.ownsRow w.heap.size 34 1 v' xs.length (vals xs) ∧ Below w.heap.size w w' := by
  obtain ⟨ao, cap, rfl, hlen, hw, hc⟩ := hr
  obtain ⟨i0, hi0, hz0, hz1, hz2⟩ := info_parts u64_info
  have hown := own_empty w 34
  have hB := (Below.refl w.heap.size w).alloc (Nat.le_refl _) (.cells #[] 34)
  cases ao with
  | none =>
    have hx : xs = [] := by
      apply Classical.byContradiction; intro hne
      obtain ⟨b, off, h, _⟩ := hc hne; cases h
    subst hx
    clear hc
    go_enter Try.func33, Try.ntmps33
    go_wp2
    go_ret
    exact ⟨_, rfl, hown, hB⟩
  | some ad =>
    have hnews : ∀ j u, (vals xs)[j]? = some u → (w.alloc (.cells #[] 34)).cell? (ad.add j) = some u := by
      intro j u hj
      have hjl : j < xs.length := by
        apply Nat.lt_of_not_le; intro hcn; rw [List.getElem?_eq_none (by rw [vals_length]; exact hcn)] at hj; cases hj
      obtain ⟨b, off, h, hbl, hcell⟩ := hc (by intro h; rw [h] at hjl; simp at hjl)
      cases h
      have hadd : (⟨b, off, none⟩ : Addr).add j = ⟨b, off + j, none⟩ := by unfold Addr.add; split <;> simp_all
      rw [vals_at xs j hjl] at hj
      rw [hadd, World.cell?_alloc_lt (h := hbl), hcell j hjl]; exact hj
    have HN := hide hnews
    clear hnews hc
    go_enter Try.func33, Try.ntmps33
    go_wp2_with (at_builtin; refine wpList_append_own _ rfl _ _ _ rfl w.heap.size 34 i0 _ 1 8 Try.underlying22 hi0 hz0 hz1 hz2 rfl (by omega) _ 0 (vals []) rfl hown ad xs.length cap (vals xs) rfl (by rw [vals_length]; omega) HN.out (vals_one xs) (by unfold maxLen; omega) (by omega) (by simp) ?_; intro v' w1 hown1 hgrow _)
    go_ret
    exact ⟨_, rfl, by simpa [vals] using hown1, hB.grown hgrow (by simp) (fun k hk => by cases hk; exact Nat.le_refl _)⟩

theorem spoil_step {w wr : World} {base g n cap k : Nat} {ys : List Int} {r : Option Nat} {x : Int} {T : TypeId} (hO : wr.ownsRow base T 1 (.slice (some ⟨g, 0, none⟩) n cap) n (vals ys)) (hG : w.grownBy wr r) (hr : r = some g ∨ w.heap.size ≤ g) :
    (wr.setCell ⟨g, k, none⟩ (.int .u64 x)).ownsRow base T 1 (.slice (some ⟨g, 0, none⟩) n cap) n (vals (ys.set k x)) ∧ w.grownBy (wr.setCell ⟨g, k, none⟩ (.int .u64 x)) r := by
  have := hO.stored k (.int .u64 x)
  rw [vals_set] at this
  exact ⟨this.1, grown_far hG this.2 hr⟩
theorem own_cell {wr : World} {base g n cap k : Nat} {ys : List Int} {T : TypeId} (hO : wr.ownsRow base T 1 (.slice (some ⟨g, 0, none⟩) n cap) n (vals ys)) (hl : ys.length = n) (hk : k < n) : wr.cell? ⟨g, k, none⟩ = some (.int .u64 (ys.getD k 0)) := by
  rw [hO.cellAt k (by omega), vals_at ys k (by omega)]
theorem own_len {wr : World} {base n : Nat} {ys : List Int} {T : TypeId} {v : Value} (hO : wr.ownsRow base T 1 v n (vals ys)) : ys.length = n := by
  have := hO.1; rw [vals_length] at this; omega

end Go.Proofs.Ytdegpefhegmamaa
