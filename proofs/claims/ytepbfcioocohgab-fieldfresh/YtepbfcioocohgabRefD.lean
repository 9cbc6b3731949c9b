/-
  The document's own Batch, and its Same.
-/
import Derived.Test.YtepbfcioocohgabBatch
import Derived.Deep.QuietTactic
import Derived.BigQuiet
namespace Go.Proofs.Ytepbfcioocohgab
open Go.RowKit Fld
set_option linter.unusedVariables false

set_option maxHeartbeats 200000 in
theorem rBatch_no (f : Int) (v : Value) (xs : List Int) (w : World) (h : Bad f xs) (hr : Row w v xs) :
    Calls Try.prog 8 #[.int .u8 f, v] w fun e w' => e = .returned (.tuple #[.slice none 0 0, .int .i64 2]) ∧ Below w.heap.size w w' := by
  have hx := hide (rIn_no f v xs w h hr)
  clear h hr
  go_enter Try.func8, Try.ntmps8
  go_wp2_with (go_at_call 14; refine hx.out.mono ?_; rintro e w1 ⟨rfl, hw1⟩; subst hw1)
  go_ret2
  exact ⟨rfl, Below.refl _ _⟩

theorem one_mul_inv {p a : Int} (hp : 0 < p) : mul p 1 (inv p a) = inv p a := by
  have h := inv_el (p := p) (a := a) hp
  unfold mul; rw [Int.one_mul]; exact Int.emod_eq_of_lt h.1 h.2

theorem take_inv_snoc (xs : List Int) (g : Int → Int) (k : Nat) (h : k < xs.length) : (xs.take k).map g ++ [g (xs.getD k 0)] = (xs.take (k + 1)).map g := by
  rw [List.take_succ_eq_append_getElem h, List.map_append, getD_at h]; rfl

theorem push_step {w wr w1 : World} {v v1 : Value} {k : Nat} {ys zs : List Int} {y : Int} {T : TypeId} (hB : Below w.heap.size w wr) (hown : wr.ownsRow w.heap.size T 1 v k (vals ys))
    (h1 : w1.ownsRow w.heap.size T 1 v1 (k + 1) (vals ys ++ [.int .u64 y])) (hg : (wr.alloc (.cells #[.int .u64 y] T)).grownBy w1 v.ownBlock) (hs : ys ++ [y] = zs) :
    w1.ownsRow w.heap.size T 1 v1 (k + 1) (vals zs) ∧ Below w.heap.size w w1 := by
  refine ⟨?_, ?_⟩
  · rw [← hs, ← vals_snoc]; exact h1
  · exact (hB.alloc hB.size _).grown hg (by have := hB.size; simp; omega) (own_base hown)

set_option maxRecDepth 100000 in
set_option maxHeartbeats 400000 in
theorem rBatch_in (f p : Int) (wd : Bool) (v : Value) (xs : List Int) (w : World) (h : Fi f p wd) (hr : Row w v xs) (hi : allIn p xs = true) :
    Calls Try.prog 8 #[.int .u8 f, v] w fun e w' => ((∃ i, i < xs.length ∧ xs.getD i 0 = 0) ∧ e = .returned (.tuple #[.slice none 0 0, .int .i64 5]) ∧ Below w.heap.size w w') ∨
      ((∀ i, i < xs.length → xs.getD i 0 ≠ 0) ∧ ∃ v', e = .returned (.tuple #[v', .int .i64 0]) ∧ w'.ownsRow w.heap.size 31 1 v' xs.length (vals (xs.map (inv p))) ∧ Below w.heap.size w w') := by
  have hx := hide (rIn_yes f p wd v xs w h hr hi)
  have hp0 := h.pos
  have h1e := one_el h.md
  have hel := hide (fun i hl => allIn_el hi (by obtain ⟨_, _, _, _, g, _⟩ := hr; exact g) i hl)
  have hD0 := hide (fun W => rDiv_zero f p 1 wd W h h1e)
  have hD1 := hide (fun W b hb hb0 => rDiv_yes f p 1 b wd W h h1e hb hb0)
  obtain ⟨ao, cap, rfl, hlen, hw, hc⟩ := hr
  obtain ⟨i0, hi0, hz0, hz1, hz2⟩ := info_parts u64_info
  clear h hi
  go_enter Try.func8, Try.ntmps8
  go_wp2_with (go_at_call 14; refine hx.out.mono ?_; rintro e w1 ⟨rfl, hw1⟩; rw [hw1]; clear hw1)
  clear hx
  go_loopw [6, 7] (fun vo vi wr => ∃ k : Nat, k ≤ xs.length ∧ vi = .int .i64 k ∧ Hid (∀ i, i < k → xs.getD i 0 ≠ 0) ∧ wr.ownsRow w.heap.size 31 1 vo k (vals ((xs.take k).map (inv p))) ∧ Below w.heap.size w wr) (fun _ vi _ => xs.length - (intOf vi).toNat)
  case atStart => exact ⟨0, Nat.zero_le _, rfl, fun i hi => by omega, World.ownsRow_nil _ _ _ _, Below.refl _ _⟩
  case round =>
    obtain ⟨k, hk, rfl, HA, hown, hB⟩ := hrel
    by_cases hlt : k < xs.length
    · obtain ⟨b, off, rfl, hbl, hcell⟩ := hc (by intro h; rw [h] at hlt; simp at hlt)
      have hck := (hB.cell (p := ⟨b, off + k, none⟩) hbl).trans (hcell k hlt)
      clear hcell hc
      by_cases hz : xs.getD k 0 = 0
      · have HZ := hide hz
        rw [hz] at hck
        clear hz
        go_wp2_with (go_at_call 15; refine (hD0.out _).mono ?_; rintro e w2 ⟨rfl, hb⟩)
        go_ret2
        exact .inl ⟨⟨k, hlt, HZ.out⟩, rfl, hB.trans (hb.mono hB.size)⟩
      · have HS := hide (take_inv_snoc xs (inv p) k hlt)
        have he := hel.out k hlt
        have hpos : 0 < xs.getD k 0 := by have := he.1; omega
        have HN := hide (ne_snoc HA.out rfl hz)
        have hone := one_mul_inv (p := p) (a := xs.getD k 0) hp0
        have hD := hide (fun W => hD1.out W _ he hpos)
        rw [hone] at hD
        generalize xs.getD k 0 = x at *
        clear hone he hpos hz
        generalize inv p x = y at *
        go_wp2_with (first
          | (go_at_call 15; refine (hD.out _).mono ?_; rintro e w2 ⟨rfl, hb⟩; have hown2 := own_below hown hb; have hB2 := hB.trans (hb.mono hB.size); have hsz2 := hB2.size)
          | (at_builtin; refine wpList_append_lies _ rfl _ _ _ rfl w.heap.size 31 i0 _ 1 8 Try.underlying22 hi0 hz0 hz1 hz2 rfl (by omega) u6 k _ rfl (hown2.alloc _) ⟨w2.heap.size, 0, none⟩ 1 1 [.int .u64 y] rfl rfl (World.news_of_block (cs := #[.int .u64 y]) (t := 31) (fr := (0, 0)) (heap_alloc_new w2 _)) (by simp [Value.oneCell']) (by omega) (by unfold maxLen; omega) (by omega) (by simp; omega) (w2.heap.size + 1) (by simp) ?_; intro gg cap2 w3 hown3 hgrow hat hltg))
        have R := hide (push_step hB2 hown2 hown3 hgrow HS.out)
        clear hown3 hgrow hat hltg hown hown2 hck
        go_roundw
        case rel => exact ⟨k + 1, by omega, by go_num, HN, R.out.1, R.out.2⟩
        case measure => simp [intOf]; omega
    · have hkl : k = xs.length := by omega
      subst hkl
      clear hc
      go_wp2
      go_ret2
      exact .inr ⟨HA.out, u6, rfl, by rw [List.take_length] at hown; exact hown, hB⟩

end Go.Proofs.Ytepbfcioocohgab
