import Derived.Test.YtjhididlcdepdaaGreatBLocT
import Derived.Lib.OwnBridge
set_option linter.unusedVariables false
set_option linter.unusedSimpArgs false
set_option maxRecDepth 100000
set_option maxHeartbeats 4000000
namespace Go.Proofs.YtjhididlcdepdaaGreat
open Go.RowKit Fld
def outB (n : Nat) (i : Int) : Bool := decide (i < 0 ∨ (n : Int) ≤ i)
def nmE (n : Nat) (at' : List Int) : Int := if at'.any (outB n) = true then 2 else if at'.Nodup then 0 else 6
theorem comp_same {zs : List Int} (h : zs.Nodup) : Lib.compact zs = zs := by
 refine Lib.compact_all zs (fun j hj => ?_)
 by_cases h0 : j = 0
 · subst h0; simp [Lib.keeps]
 · refine Lib.keeps_pos (fun e => ?_)
   rw [getElem!_pos _ _ (by simpa using hj), getElem!_pos _ _ (by simp; omega)] at e
   simp only [List.getElem_toArray] at e
   have := (List.getElem_inj h).1 e
   omega
theorem comp_less {zs : List Int} {j : Nat} (hj : j + 1 < zs.length) (he : zs[j + 1]! = zs[j]!) : (Lib.compact zs).length < zs.length := by
 unfold Lib.compact Lib.compactUpTo
 rw [List.length_map]
 have hk : Lib.keeps zs.toArray (j + 1) = false := Lib.keeps_neg (by omega) (by simpa using he)
 have h1 : ((List.range zs.length).filter (Lib.keeps zs.toArray)).length ≠ (List.range zs.length).length := fun c => by
  have := (List.length_filter_eq_length_iff.1 c) (j + 1) (List.mem_range.2 hj)
  rw [hk] at this; cases this
 have h2 := List.length_filter_le (Lib.keeps zs.toArray) (List.range zs.length)
 rw [List.length_range] at h1 h2
 omega
theorem sorted_twice : ∀ {zs : List Int}, zs.Pairwise (· ≤ ·) → ¬ zs.Nodup → ∃ j, j + 1 < zs.length ∧ zs[j + 1]! = zs[j]!
 | [], _, h => absurd List.nodup_nil h
 | [x], _, h => absurd (by simp) h
 | x :: y :: l, hs, h => by
  by_cases e : x = y
  · exact ⟨0, by simp, by simp [e]⟩
  · have hs2 := List.pairwise_cons.1 hs
    have hs3 := List.pairwise_cons.1 hs2.2
    have hn : ¬ (y :: l).Nodup := fun c => h (List.nodup_cons.2 ⟨fun hm => by
     rcases List.mem_cons.1 hm with hm | hm
     · exact e hm
     · have h1 := hs2.1 y (by simp)
       have h2 := hs3.1 x hm
       omega, c⟩)
    obtain ⟨j, h1, h2⟩ := sorted_twice hs2.2 hn
    refine ⟨j + 1, by simp at h1 ⊢; omega, ?_⟩
    simpa using h2
theorem comp_sorted (zs : List Int) : (Lib.compact (zs.mergeSort fun x y => decide (x ≤ y))).length < zs.length ↔ ¬ zs.Nodup := by
 have hp := List.mergeSort_perm zs (fun x y => decide (x ≤ y))
 have hs : (zs.mergeSort fun x y => decide (x ≤ y)).Pairwise (· ≤ ·) := by
  have := List.pairwise_mergeSort (le := fun (x y : Int) => decide (x ≤ y)) (fun a b c h1 h2 => by simp at *; omega) (fun a b => by simp; omega) zs
  exact this.imp (fun h => by simpa using h)
 have hl := hp.length_eq
 constructor
 · intro h c
   rw [comp_same (hp.nodup_iff.2 c), hl] at h
   omega
 · intro h
   obtain ⟨j, h1, h2⟩ := sorted_twice hs (fun c => h (hp.nodup_iff.1 c))
   have := comp_less h1 h2
   omega
theorem nmE_out {n : Nat} {at' : List Int} (h : at'.any (outB n) = true) : nmE n at' = 2 := by unfold nmE; rw [if_pos h]
theorem nmE_in {n : Nat} {at' : List Int} (h : at'.any (outB n) = false) : nmE n at' = if at'.Nodup then 0 else 6 := by unfold nmE; rw [h, if_neg (by decide)]
theorem in_ints {n : Nat} {at' : List Int} (h : at'.any (outB n) = false) : ∃ ats : List Nat, at' = ints ats ∧ ∀ i ∈ ats, i < n := by
 refine ⟨at'.map Int.toNat, ?_, fun i hi => ?_⟩
 · unfold ints
   rw [List.map_map]
   have : ∀ x ∈ at', ((fun (i : Nat) => (i : Int)) ∘ Int.toNat) x = x := fun x hx => by
    have := List.any_eq_false.1 h x hx
    unfold outB at this
    simp at this
    show ((x.toNat : Nat) : Int) = x
    omega
   rw [List.map_congr_left this, List.map_id']
 · obtain ⟨x, hx, rfl⟩ := List.mem_map.1 hi
   have := List.any_eq_false.1 h x hx
   unfold outB at this
   simp at this
   omega
theorem ints_nodup {ats : List Nat} : (ints ats).Nodup ↔ ats.Nodup := by
 unfold ints List.Nodup
 rw [List.pairwise_map]
 constructor
 · exact fun h => h.imp (fun h c => h (by rw [c]))
 · exact fun h => h.imp (fun h c => h (by omega))
theorem few_nums : ∀ (n : Nat) {ats : List Nat}, ats.Nodup → (∀ i ∈ ats, i < n) → ats.length ≤ n
 | 0, ats, hn, h => by
  cases ats with
  | nil => exact Nat.le_refl _
  | cons a l => exact absurd (h a (by simp)) (by omega)
 | n + 1, ats, hn, h => by
  have h1 := few_nums n (hn.erase n) (fun i hi => by
   have h2 := hn.mem_erase_iff.1 hi
   have h3 := h i h2.2
   have := h2.1
   omega)
  rw [List.length_erase] at h1
  split at h1 <;> omega
theorem ints_len (ats : List Nat) : (ints ats).length = ats.length := by simp [ints]
theorem ints_val (ats : List Nat) : (ints ats).map (Value.int .i64) = nms ats := by simp [ints, nms]
end Go.Proofs.YtjhididlcdepdaaGreat
