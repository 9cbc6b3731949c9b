/-
  The statements' own Copy and Spoil: a list of its own; marks written into every place of a list, and behind its end.
-/
import Derived.Test.YtdegpefhegmamabRefD
import Derived.Laws.AppendOwnNone
namespace Go.Proofs.Ytdegpefhegmamab
open Go.RowKit Fld
set_option linter.unusedVariables false

theorem vals_one (xs : List Int) : ∀ u ∈ vals xs, u.oneCell' = true := by
  intro u hu
  obtain ⟨x, _, rfl⟩ := List.mem_map.1 hu
  rfl
theorem own_empty (w : World) (T : TypeId) : (w.alloc (.cells #[] T)).ownsRow w.heap.size T 1 (.slice (some ⟨w.heap.size, 0, none⟩) 0 0) 0 (vals []) :=
  ⟨by simp [vals], .inr ⟨_, 0, #[], rfl, Nat.le_refl _, heap_alloc_new w _, Nat.le_refl _, by unfold maxLen; omega, by simp, by simp [vals]⟩⟩
theorem grown_trans {a b c : World} {r : Option Nat} (h : a.grownBy b r) (k : b.grownBy c r) : a.grownBy c r :=
  ⟨k.os.trans h.os, k.tape.trans h.tape, k.output.trans h.output, Nat.le_trans h.size k.size, fun j hj hne => (k.block j (Nat.lt_of_lt_of_le hj h.size) hne).trans (h.block j hj hne)⟩
theorem grown_refl (a : World) (r : Option Nat) : a.grownBy a r := ⟨rfl, rfl, rfl, Nat.le_refl _, fun _ _ _ => rfl⟩
theorem grown_alloc {a b : World} {r : Option Nat} (h : a.grownBy b r) (o : Obj) : a.grownBy (b.alloc o) r :=
  ⟨h.os, h.tape, h.output, Nat.le_trans h.size (by simp), fun j hj hne => (Below.heap_alloc b o j (Nat.lt_of_lt_of_le hj h.size)).trans (h.block j hj hne)⟩
/-- Writes to a row that lies behind all of a's blocks, or is the very row. -/
theorem grown_far {a b c : World} {r : Option Nat} {g : Nat} (h : a.grownBy b r) (k : b.grownBy c (some g)) (hg : r = some g ∨ a.heap.size ≤ g) : a.grownBy c r := by
  refine ⟨k.os.trans h.os, k.tape.trans h.tape, k.output.trans h.output, Nat.le_trans h.size k.size, fun j hj hne => ?_⟩
  refine (k.block j (Nat.lt_of_lt_of_le hj h.size) ?_).trans (h.block j hj hne)
  rcases hg with rfl | hg
  · exact hne
  · intro e; cases e; omega

set_option maxRecDepth 100000 in
set_option maxHeartbeats 200000 in
theorem Copy_any (v : Value) (xs : List Int) (w : World) (hr : Row w v xs) :
    Calls Try.prog 4 #[v] w fun e w' => ∃ v', e = .returned v' ∧ w'.ownsRow w.heap.size 32 1 v' xs.length (vals xs) ∧ Below w.heap.size w w' := by
  obtain ⟨ao, cap, rfl, hlen, hw, hc⟩ := hr
  obtain ⟨i0, hi0, hz0, hz1, hz2⟩ := info_parts u64_info
  have hown := own_empty w 32
  have hB := (Below.refl w.heap.size w).alloc (Nat.le_refl _) (.cells #[] 32)
  cases ao with
  | none =>
    have hx : xs = [] := by
      apply Classical.byContradiction; intro hne
      obtain ⟨b, off, h, _⟩ := hc hne; cases h
    subst hx
    clear hc
    go_enter Try.func4, Try.ntmps4
    go_wp2
    go_ret
    exact ⟨_, rfl, hown, hB⟩
  | some ad =>
    have hnews : ∀ j u, (vals xs)[j]? = some u → (w.alloc (.cells #[] 32)).cell? (ad.add j) = some u := by
      intro j u hj
      have hjl : j < xs.length := by
        apply Nat.lt_of_not_le; intro hcn; rw [List.getElem?_eq_none (by rw [vals_length]; exact hcn)] at hj; cases hj
      obtain ⟨b, off, h, hbl, hcell⟩ := hc (by intro h; rw [h] at hjl; simp at hjl)
      cases h
      have hadd : (⟨b, off, none⟩ : Addr).add j = ⟨b, off + j, none⟩ := by unfold Addr.add; split <;> simp_all
      rw [vals_at xs j hjl] at hj
      rw [hadd, World.cell?_alloc_lt (h := hbl), hcell j hjl]; exact hj
    have HN := hide hnews
    clear hnews hc
    go_enter Try.func4, Try.ntmps4
    go_wp2_with (at_builtin; refine wpList_append_own _ rfl _ _ _ rfl w.heap.size 32 i0 _ 1 8 Try.underlying22 hi0 hz0 hz1 hz2 rfl (by omega) _ 0 (vals []) rfl hown ad xs.length cap (vals xs) rfl (by rw [vals_length]; omega) HN.out (vals_one xs) (by unfold maxLen; omega) (by omega) (by simp) ?_; intro v' w1 hown1 hgrow _)
    go_ret
    exact ⟨_, rfl, by simpa [vals] using hown1, hB.grown hgrow (by simp) (fun k hk => by cases hk; exact Nat.le_refl _)⟩

theorem spoil_step {w wr : World} {base g n cap k : Nat} {ys : List Int} {r : Option Nat} {x : Int} {T : TypeId} (hO : wr.ownsRow base T 1 (.slice (some ⟨g, 0, none⟩) n cap) n (vals ys)) (hG : w.grownBy wr r) (hr : r = some g ∨ w.heap.size ≤ g) :
    (wr.setCell ⟨g, k, none⟩ (.int .u64 x)).ownsRow base T 1 (.slice (some ⟨g, 0, none⟩) n cap) n (vals (ys.set k x)) ∧ w.grownBy (wr.setCell ⟨g, k, none⟩ (.int .u64 x)) r := by
  have := hO.stored k (.int .u64 x)
  rw [vals_set] at this
  exact ⟨this.1, grown_far hG this.2 hr⟩
theorem own_cell {wr : World} {base g n cap k : Nat} {ys : List Int} {T : TypeId} (hO : wr.ownsRow base T 1 (.slice (some ⟨g, 0, none⟩) n cap) n (vals ys)) (hl : ys.length = n) (hk : k < n) : wr.cell? ⟨g, k, none⟩ = some (.int .u64 (ys.getD k 0)) := by
  rw [hO.cellAt k (by omega), vals_at ys k (by omega)]
theorem own_len {wr : World} {base n : Nat} {ys : List Int} {T : TypeId} {v : Value} (hO : wr.ownsRow base T 1 v n (vals ys)) : ys.length = n := by
  have := hO.1; rw [vals_length] at this; omega

set_option maxRecDepth 100000 in
set_option maxHeartbeats 400000 in
theorem Spoil_mark (v : Value) (n base : Nat) (xs : List Int) (m : Int) (w : World) (m0 : 0 ≤ m) (m1 : m ≤ 300) (hO : w.ownsRow base 32 1 v n (vals xs)) (hn : n ≤ 17592186043904) (hb : base ≤ w.heap.size) :
    Calls Try.prog 10 #[v, .int .u64 m] w fun e w' => e = .returned (.tuple #[]) ∧ w.grownBy w' v.ownBlock := by
  obtain ⟨i0, hi0, hz0, hz1, hz2⟩ := info_parts u64_info
  have hbk := own_base hO
  have hv : v = .slice none 0 0 ∧ n = 0 ∨ ∃ g cap, v = .slice (some ⟨g, 0, none⟩) n cap := by
    rcases hO.2 with h | ⟨g, cap, _, h, _⟩
    · exact .inl h
    · exact .inr ⟨g, cap, h⟩
  rcases hv with ⟨rfl, rfl⟩ | ⟨g, cap, rfl⟩
  · go_enter Try.func10, Try.ntmps10
    go_wp2
    go_loopw [4] (fun vi wr => ∃ (k : Nat) (ys : List Int), k ≤ 0 ∧ vi = .int .i64 k ∧ wr.ownsRow base 32 1 (.slice none 0 0) 0 (vals ys) ∧ w.grownBy wr (none)) (fun vi _ => 0 - (intOf vi).toNat)
    case atStart => exact ⟨0, xs, Nat.zero_le _, rfl, hO, grown_refl _ _⟩
    case round =>
      clear hO
      obtain ⟨k, ys, hk, rfl, hO, hG⟩ := hrel
      have hyl := own_len hO
      by_cases hlt : k < 0
      · omega
      · have hGs := hG.size
        go_wp2_with (at_builtin; refine wpList_append_lies _ rfl _ _ _ rfl base 32 i0 _ 1 8 Try.underlying22 hi0 hz0 hz1 hz2 rfl (by omega) (.slice none 0 0) 0 (vals ys) rfl (hO.alloc _) ⟨wr.heap.size, 0, none⟩ 3 3 [.int .u64 m, .int .u64 m, .int .u64 m] rfl rfl (World.news_of_block (cs := #[.int .u64 m, .int .u64 m, .int .u64 m]) (t := 32) (fr := (0, 0)) (heap_alloc_new wr _)) (by simp [Value.oneCell']) (by omega) (by unfold maxLen; omega) (by omega) (by simp; omega) (wr.heap.size + 1) (by simp) ?_; intro gg cap2 w2 hO2 hgrow hat hltg)
        have hO2 : w2.ownsRow base 32 1 (.slice (some ⟨gg, 0, none⟩) (3) cap2) (3) (vals (ys ++ [m, m, m])) := by simpa [vals] using hO2
        have hG2 : w.grownBy w2 (none) := grown_trans (grown_alloc hG _) hgrow
        have hrow : (none : Option Nat) = some gg ∨ w.heap.size ≤ gg := by
          rcases hat with h | h
          · exact .inl h
          · right; omega
        clear hO hG hgrow hat hltg hyl
        go_loopw [5] (fun vi wr => ∃ (k : Nat) (zs : List Int), k ≤ 3 ∧ vi = .int .i64 k ∧ wr.ownsRow base 32 1 (.slice (some ⟨gg, 0, none⟩) (3) cap2) (3) (vals zs) ∧ w.grownBy wr (none)) (fun vi _ => 3 - (intOf vi).toNat)
        case atStart => exact ⟨0, _, Nat.zero_le _, rfl, hO2, hG2⟩
        case round =>
          clear hO2 hG2
          obtain ⟨j, zs, hj, rfl, hO, hG⟩ := hrel
          have hzl := own_len hO
          by_cases hlt2 : j < 3
          · have hck := own_cell hO hzl hlt2
            have hfr := hO.frozenAt j
            generalize zs.getD j 0 = y at *
            go_wp2
            go_roundw
            case rel => exact ⟨j + 1, _, by omega, by go_num, (spoil_step hO hG hrow).1, (spoil_step hO hG hrow).2⟩
            case measure => simp [intOf]; omega
          · go_wp2
            go_end0
            exact ⟨rfl, hG⟩
  · go_enter Try.func10, Try.ntmps10
    go_wp2
    go_loopw [4] (fun vi wr => ∃ (k : Nat) (ys : List Int), k ≤ n ∧ vi = .int .i64 k ∧ wr.ownsRow base 32 1 (.slice (some ⟨g, 0, none⟩) n cap) n (vals ys) ∧ w.grownBy wr (some g)) (fun vi _ => n - (intOf vi).toNat)
    case atStart => exact ⟨0, xs, Nat.zero_le _, rfl, hO, grown_refl _ _⟩
    case round =>
      clear hO
      obtain ⟨k, ys, hk, rfl, hO, hG⟩ := hrel
      have hyl := own_len hO
      by_cases hlt : k < n
      · have hck := own_cell hO hyl hlt
        have hfr := hO.frozenAt k
        generalize ys.getD k 0 = y at *
        go_wp2
        go_roundw
        case rel => exact ⟨k + 1, _, by omega, by go_num, (spoil_step hO hG (.inl rfl)).1, (spoil_step hO hG (.inl rfl)).2⟩
        case measure => simp [intOf]; omega
      · have hGs := hG.size
        go_wp2_with (at_builtin; refine wpList_append_lies _ rfl _ _ _ rfl base 32 i0 _ 1 8 Try.underlying22 hi0 hz0 hz1 hz2 rfl (by omega) (.slice (some ⟨g, 0, none⟩) n cap) n (vals ys) rfl (hO.alloc _) ⟨wr.heap.size, 0, none⟩ 3 3 [.int .u64 m, .int .u64 m, .int .u64 m] rfl rfl (World.news_of_block (cs := #[.int .u64 m, .int .u64 m, .int .u64 m]) (t := 32) (fr := (0, 0)) (heap_alloc_new wr _)) (by simp [Value.oneCell']) (by omega) (by unfold maxLen; omega) (by omega) (by simp; omega) (wr.heap.size + 1) (by simp) ?_; intro gg cap2 w2 hO2 hgrow hat hltg)
        have hO2 : w2.ownsRow base 32 1 (.slice (some ⟨gg, 0, none⟩) (n + 3) cap2) (n + 3) (vals (ys ++ [m, m, m])) := by simpa [vals] using hO2
        have hG2 : w.grownBy w2 (some g) := grown_trans (grown_alloc hG _) hgrow
        have hrow : (some g : Option Nat) = some gg ∨ w.heap.size ≤ gg := by
          rcases hat with h | h
          · exact .inl h
          · right; omega
        clear hO hG hgrow hat hltg hyl
        go_loopw [5] (fun vi wr => ∃ (k : Nat) (zs : List Int), k ≤ n + 3 ∧ vi = .int .i64 k ∧ wr.ownsRow base 32 1 (.slice (some ⟨gg, 0, none⟩) (n + 3) cap2) (n + 3) (vals zs) ∧ w.grownBy wr (some g)) (fun vi _ => n + 3 - (intOf vi).toNat)
        case atStart => exact ⟨0, _, Nat.zero_le _, rfl, hO2, hG2⟩
        case round =>
          clear hO2 hG2
          obtain ⟨j, zs, hj, rfl, hO, hG⟩ := hrel
          have hzl := own_len hO
          by_cases hlt2 : j < n + 3
          · have hck := own_cell hO hzl hlt2
            have hfr := hO.frozenAt j
            generalize zs.getD j 0 = y at *
            go_wp2
            go_roundw
            case rel => exact ⟨j + 1, _, by omega, by go_num, (spoil_step hO hG hrow).1, (spoil_step hO hG hrow).2⟩
            case measure => simp [intOf]; omega
          · go_wp2
            go_end0
            exact ⟨rfl, hG⟩

theorem Spoil_any (v : Value) (n base : Nat) (xs : List Int) (w : World) (hO : w.ownsRow base 32 1 v n (vals xs)) (hn : n ≤ 17592186043904) (hb : base ≤ w.heap.size) :
    Calls Try.prog 10 #[v, .int .u64 7] w fun e w' => e = .returned (.tuple #[]) ∧ w.grownBy w' v.ownBlock := Spoil_mark v n base xs 7 w (by decide) (by decide) hO hn hb

end Go.Proofs.Ytdegpefhegmamab
