/-
  The statements' own 'elements': numbers made elements of a field, in new memory.
-/
import Derived.Test.YtepbfcioocohgaaRefB
import Derived.Test.YtepbfcioocohgaaAnch
import Derived.OwnWalk
import Derived.Laws.OwnMore
import Derived.Deep.AppendLies
namespace Go.Proofs.Ytepbfcioocohgaa
open Go.RowKit Fld
set_option linter.unusedVariables false

theorem u64_info : (Try.prog.info? 22).map (fun i => (i.zero, i.size, i.bytes)) = some (some (.int .u64 0), 1, 8) := by kernel_rfl

/-- A list of words as values. -/
def vals (xs : List Int) : List Value := xs.map (Value.int .u64)
theorem vals_length (xs : List Int) : (vals xs).length = xs.length := by simp [vals]
theorem vals_snoc (xs : List Int) (x : Int) : vals xs ++ [.int .u64 x] = vals (xs ++ [x]) := by simp [vals]

theorem own_base {w : World} {base e size n : Nat} {v : Value} {xs : List Value} (h : w.ownsRow base e size v n xs) : ∀ k, v.ownBlock = some k → base ≤ k := by
  intro k hk
  rcases h.2 with ⟨rfl, _⟩ | ⟨g, cap, cur, rfl, hb, _⟩
  · cases hk
  · cases hk; exact hb

/-- A list that the call itself has made reads as a list. -/
theorem row_of_own {w : World} {base : Nat} {v : Value} {n : Nat} {xs : List Int} (h : w.ownsRow base 22 1 v n (vals xs)) (hn : n = xs.length) (hl : xs.length ≤ 17592186043904)
    (hw : ∀ x ∈ xs, 0 ≤ x ∧ x ≤ 18446744073709551615) : Row w v xs := by
  subst hn
  rcases h.2 with ⟨rfl, h0⟩ | ⟨g, cap, cur, rfl, hb, hh, h1, h2, h3, h4⟩
  · exact ⟨none, 0, by rw [h0], hl, hw, fun hne => absurd (List.length_eq_zero_iff.1 h0) hne⟩
  · refine ⟨_, cap, rfl, hl, hw, fun hne => ⟨g, 0, rfl, ?_, fun i hi => ?_⟩⟩
    · apply Nat.lt_of_not_le; intro hc; rw [Array.getElem?_eq_none hc] at hh; cases hh
    · rw [cell_of_row w g (0 + i) cur 22 (0, 0) hh, Nat.zero_add]
      have e1 : cur[i]? = cur.toList[i]? := by simp
      have e2 : cur.toList[i]? = (vals xs)[i]? := by rw [← h4, List.getElem?_take_of_lt (by omega)]
      rw [e1, e2]; simp [vals, List.getD_eq_getElem?_getD, hi]

theorem take_mod_snoc (xs : List Int) (p : Int) (k : Nat) (h : k < xs.length) : ((xs.take k).map (· % p)) ++ [xs.getD k 0 % p] = (xs.take (k + 1)).map (· % p) := by
  rw [List.take_succ_eq_append_getElem h, List.map_append, getD_at h]; rfl

theorem elems_step {w wr w1 : World} {v v1 : Value} {k : Nat} {xs ys : List Int} {x y p : Int} {T : TypeId} (hB : Below w.heap.size w wr) (hown : wr.ownsRow w.heap.size T 1 v k (vals xs))
    (h1 : w1.ownsRow w.heap.size T 1 v1 (k + 1) (vals xs ++ [.int .u64 y])) (hg : (wr.alloc (.cells #[.int .u64 y] T)).drew.grownBy w1 v.ownBlock) (hy : y = x % p) (hs : xs ++ [x % p] = ys) :
    w1.ownsRow w.heap.size T 1 v1 (k + 1) (vals ys) ∧ Below w.heap.size w w1 := by
  refine ⟨?_, ?_⟩
  · rw [← hs, ← hy, ← vals_snoc]; exact h1
  · exact ((hB.alloc hB.size _).drew).grown hg (by have := hB.size; simp; omega) (own_base hown)

/-- Which field 'elements' takes. -/
def Gi (f g : Int) : Prop := (f % 2 = 0 ∧ g = 2) ∨ (f % 2 = 1 ∧ g = 1)

set_option maxRecDepth 100000 in
set_option maxHeartbeats 400000 in
theorem elements_any (f g p : Int) (wd : Bool) (v : Value) (xs : List Int) (w : World) (hf : 0 ≤ f ∧ f ≤ 255) (hg : Gi f g) (hfi : Fi g p wd) (hr : Row w v xs) :
    Calls Try.prog 30 #[.int .u8 f, v] w fun e w' => ∃ v', e = .returned (.tuple #[.int .u8 g, v']) ∧
      w'.ownsRow w.heap.size 22 1 v' xs.length (vals (xs.map (· % p))) ∧ Below w.heap.size w w' := by
  obtain ⟨ao, cap, rfl, hlen, hw, hc⟩ := hr
  obtain ⟨f0, f1⟩ := hf
  obtain ⟨i0, hi0, hz0, hz1, hz2⟩ := info_parts u64_info
  have hp0 := hfi.pos
  have hp1 := hfi.top
  have HP := hide (fun W => rP_yes g p wd W hfi)
  clear hfi
  have ht : (f % 2 == 0) = (g == 2) := by rcases hg with ⟨h, rfl⟩ | ⟨h, rfl⟩ <;> simp [h]
  have hgg : g = 2 ∨ g = 1 := by rcases hg with ⟨h, rfl⟩ | ⟨h, rfl⟩ <;> simp
  clear hg
  rcases hgg with rfl | rfl
  all_goals
    simp only [Int.reduceBEq] at ht
    go_enter Try.func30, Try.ntmps30
    go_wp2
    go_loopw [7, 8] (fun vo vi wr => ∃ k : Nat, k ≤ xs.length ∧ vi = .int .i64 k ∧ wr.ownsRow w.heap.size 22 1 vo k (vals ((xs.take k).map (· % p))) ∧ Below w.heap.size w wr) (fun _ vi _ => xs.length - (intOf vi).toNat)
    case atStart => exact ⟨0, Nat.zero_le _, rfl, World.ownsRow_nil _ _ _ _, Below.refl _ _⟩
    case round =>
      obtain ⟨k, hk, rfl, hown, hB⟩ := hrel
      by_cases hlt : k < xs.length
      · obtain ⟨b, off, rfl, hbl, hcell⟩ := hc (by intro h; rw [h] at hlt; simp at hlt)
        have hck : wr.cell? ⟨b, off + k, none⟩ = some (.int .u64 (xs.getD k 0)) := by rw [hB.cell (p := ⟨b, off + k, none⟩) hbl]; exact hcell k hlt
        have hx0 : 0 ≤ xs.getD k 0 ∧ xs.getD k 0 ≤ 18446744073709551615 := by rw [getD_at hlt]; exact hw _ (List.getElem_mem hlt)
        have HS := hide (take_mod_snoc xs p k hlt)
        have HT := hide (fun h : 0 ≤ xs.getD k 0 => Int.tmod_eq_emod_of_nonneg (b := p) h)
        generalize xs.getD k 0 = x at *
        obtain ⟨x0, x1⟩ := hx0
        have k0 : (0 : Int) ≤ (k : Int) := Int.natCast_nonneg _
        have k1 : (k : Int) < (xs.length : Int) := by omega
        have lb : b < wr.heap.size := Nat.lt_of_lt_of_le hbl hB.size
        have hbs := hB.size
        have hbase := own_base hown
        have ab : u7.ownBlock ≠ some b := fun h => by have := hbase b h; omega
        have hpz : ¬ p = 0 := by omega
        clear hcell hc
        go_wp2_with fail
        go_region_held3 (fun w' => w'.cell? ⟨b, off + k, none⟩ = some (.int .u64 x))
          (first | go_keep | (rw [hgrow.cell_far _ (by simp; omega) (Ne.symm ab)]; assumption))
          (first
            | (go_at_call 10; refine (HP.out _).mono ?_; rintro e w1 ⟨rfl, hw1⟩; subst hw1)
            | (refine step_append_lies _ (by rfl) _ _ _ (by rfl) w.heap.size 22 i0 _ 1 8 Try.underlying33 hi0 hz0 hz1 hz2 rfl (by omega) u7 k _ (by rfl) ((hown.alloc _).drew) ⟨wr.heap.size, 0, none⟩ 1 1 [.int .u64 (x.tmod p)] (by rfl) (by rfl) (World.news_of_block (cs := #[.int .u64 (x.tmod p)]) (t := 22) (fr := (0, 0)) (heap_alloc_new wr _)) (by simp [Value.oneCell']) (by omega) (by unfold maxLen; omega) (by omega) (by simp; omega) (wr.heap.size + 1) (by simp) ?_; intro gg cap2 w1 hown1 hgrow hat hltg))
        have R := hide (elems_step hB hown hown1 hgrow (HT.out x0) HS.out)
        clear hown1 hgrow hat hltg hown hck
        go_wp2
        go_roundw
        case rel => exact ⟨k + 1, by omega, by go_num, R.out.1, R.out.2⟩
        case measure => simp [intOf]; omega
      · have hkl : k = xs.length := by omega
        subst hkl
        clear hc
        go_wp2
        go_ret2
        exact ⟨u7, rfl, by rw [List.take_length] at hown; exact hown, hB⟩

end Go.Proofs.Ytepbfcioocohgaa
