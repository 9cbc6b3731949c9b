/-
  Polynomials: products.
-/
import Derived.Test.YtfbipnhhnmlhfaaBPolG
namespace Go.Proofs.Ytfbipnhhnmlhfaa
open Go.RowKit Fld
set_option linter.unusedVariables false

/-- The product of the first k with all of the second. -/
def pk (p : Int) (xs ys : List Int) (k : Nat) : List Int := mk (xs.length + ys.length - 1) (fun j => cv (co (xs.take k)) (co ys) j % p)
theorem pk_len (p : Int) (xs ys : List Int) (k : Nat) : (pk p xs ys k).length = xs.length + ys.length - 1 := mk_len _ _
theorem els_pk {p : Int} (hp : 0 < p) (xs ys : List Int) (k : Nat) : Els p (pk p xs ys k) := els_mk_mod hp _ _
theorem pk_zero (p : Int) (xs ys : List Int) : pk p xs ys 0 = List.replicate (xs.length + ys.length - 1) 0 := by
  apply ext_co (by rw [pk_len]; simp)
  intro i hi
  rw [pk_len] at hi
  unfold pk
  rw [co_mk, if_pos hi, cv_row0, Int.zero_emod]
  simp [co, List.getD_eq_getElem?_getD, hi]
theorem pk_step {p : Int} {xs ys : List Int} {k : Nat} (hk : k < xs.length) : gr p (co xs k) k ys (pk p xs ys k) ys.length = pk p xs ys (k + 1) := by
  apply ext_co (by rw [gr_len, pk_len, pk_len])
  intro i hi
  rw [gr_len, pk_len] at hi
  rw [co_gr, pk_len]
  unfold pk
  rw [co_mk, co_mk, if_pos hi, if_pos hi, cv_row]
  by_cases h : k ≤ i
  · by_cases h2 : i < k + ys.length
    · rw [if_pos ⟨h, h2, hi⟩, if_pos h, Int.add_emod, Int.emod_emod_of_dvd _ (Int.dvd_refl p), ← Int.add_emod]
    · rw [if_neg (by omega), if_pos h, co_out ys (i - k) (by omega), Int.mul_zero, Int.add_zero]
  · rw [if_neg (by omega), if_neg h, Int.add_zero]
theorem pk_all {p : Int} {xs ys : List Int} (h1 : xs ≠ []) (h2 : ys ≠ []) : pk p xs ys xs.length = prd p xs ys := by
  unfold pk prd
  rw [List.take_length, if_neg (by intro h; rcases h with h | h; exact h1 h; exact h2 h)]

set_option maxRecDepth 100000 in
set_option maxHeartbeats 400000 in
theorem product_any (f p : Int) (wd : Bool) (v1 v2 : Value) (xs ys : List Int) (w : World) (h : Fi f p wd) (h1 : Rw w v1 xs) (h2 : Rw w v2 ys) (hx : Els p xs) (hy : Els p ys) (hl : xs.length + ys.length ≤ 17592186043904) :
    Calls Try.prog 111 #[.int .u8 f, v1, v2] w fun e w' => ∃ v', e = .returned v' ∧
      w'.ownsRow w.heap.size 49 1 v' (prd p xs ys).length (vals (prd p xs ys)) ∧ Below w.heap.size w w' := by
  obtain ⟨i0, hi0, hz0, hz1, hz2⟩ := info_parts u64_info
  have l1 := h1.len
  have l2 := h2.len
  obtain ⟨a2, c2, rfl, k2⟩ := h2.spell
  by_cases ex : xs = []
  · subst ex
    have HE : Hid (prd p [] ys = []) := by show _ = _; unfold prd; rw [if_pos (.inl rfl)]
    obtain ⟨a1, c1, rfl, k1⟩ := h1.spell
    clear h1 h2
    go_enter Try.func111, Try.ntmps111
    go_wp2
    go_ret
    rw [HE.out]
    exact ⟨_, rfl, World.ownsRow_nil _ _ _ _, Below.refl _ _⟩
  by_cases ey : ys = []
  · subst ey
    have HE : Hid (prd p xs [] = []) := by show _ = _; unfold prd; rw [if_pos (.inr rfl)]
    obtain ⟨a1, c1, rfl, k1⟩ := h1.spell
    have hp := List.length_pos_iff.2 ex
    clear h1 h2
    go_enter Try.func111, Try.ntmps111
    go_wp2
    go_ret
    rw [HE.out]
    exact ⟨_, rfl, World.ownsRow_nil _ _ _ _, Below.refl _ _⟩
  have px := List.length_pos_iff.2 ex
  have py := List.length_pos_iff.2 ey
  obtain ⟨N, HN⟩ : ∃ N, Hid (N = xs.length + ys.length - 1) := ⟨_, rfl⟩
  have n1 : N + 1 = xs.length + ys.length := by have := HN.out; omega
  have HE := hide (pk_all (p := p) ex ey)
  have HZ := hide (pk_zero p xs ys)
  have HSL : Hid ((prd p xs ys).length = N) := by show _ = _; rw [prd_len p xs ys ex ey, HN.out]
  have HG := hide (fun W g k (hk : k < xs.length) (hb : Below w.heap.size w W) (hg : w.heap.size ≤ g) (hO : W.ownsRow w.heap.size 49 1 (.slice (some ⟨g, 0, none⟩) N N) N (vals (pk p xs ys k))) =>
    grow_any f p (co xs k) wd (.slice a2 ys.length c2) ys (pk p xs ys k) W w.heap.size g k N N (N - k) (N - k) h (hx.co h.pos k) (h2.1.below hb) hy hO (els_pk h.pos xs ys k) (by omega) (by omega) (row_far h2.1 hg))
  have HST := hide (fun k (hk : k < xs.length) => pk_step (p := p) (ys := ys) hk)
  rw [← HN.out] at HZ
  rw [HSL.out]
  obtain ⟨⟨a1, c1, rfl, _, _, hc1⟩, _⟩ := h1
  have bx : ((xs.length : Int) == 0) = false := beq_eq_false_iff_ne.2 (by omega)
  have by' : ((ys.length : Int) == 0) = false := beq_eq_false_iff_ne.2 (by omega)
  clear h h2 hx hy ex ey HN
  go_enter Try.func111, Try.ntmps111
  go_wp2_with (at_make; refine wpList_make_full _ rfl _ _ 26 rfl w.heap.size 49 i0 (.int .u64 0) 1 Try.underlying26 hi0 hz0 hz1 .i64 .i64 _ _ N rfl rfl (by omega) (by omega) (by rw [hz2]; omega) (by unfold maxLen; omega) (Nat.le_refl _) ?_; intro w2 hown hgrow; have hO := own_made hown; have hB := below_grown_none hgrow; have hG2 := hgrow.size; clear hown)
  rw [← HZ.out] at hO
  clear hgrow
  go_loopw [27] (fun vk wr => ∃ k : Nat, k ≤ xs.length ∧ vk = .int .i64 k ∧ wr.ownsRow w.heap.size 49 1 (.slice (some ⟨w.heap.size, 0, none⟩) N N) N (vals (pk p xs ys k)) ∧ Below w.heap.size w wr) (fun vk _ => xs.length - (intOf vk).toNat)
  case atStart => exact ⟨0, Nat.zero_le _, rfl, hO, hB⟩
  case round =>
    clear hO hB
    obtain ⟨k, hk, rfl, hO, hB⟩ := hrel
    by_cases hlt : k < xs.length
    · obtain ⟨b, o, rfl, hbl, hcl⟩ := hc1 (by intro h; rw [h] at hlt; simp at hlt)
      have hck := (hB.cell (p := ⟨b, o + k, none⟩) hbl).trans (hcl k hlt)
      have hg := hide (HG.out _ _ k hlt hB (Nat.le_refl _) hO)
      have hst := hide (HST.out k hlt)
      have hco : xs.getD k 0 = co xs k := rfl
      rw [hco] at hck
      clear hco hcl hc1
      rw [hst.out] at hg
      generalize co xs k = x at *
      have HO := hide hO
      clear hO
      go_wp2_with (go_at_call 112; refine hg.out.mono ?_; rintro e w4 ⟨rfl, hO4, hG4⟩)
      go_roundw
      case rel => exact ⟨k + 1, by omega, by go_num, hO4, hB.grown hG4 hB.size (fun j hj => by cases hj; exact Nat.le_refl _)⟩
      case measure => simp [intOf]; omega
    · obtain rfl : k = xs.length := by omega
      rw [HE.out] at hO
      clear hc1
      go_wp2
      go_ret
      exact ⟨_, rfl, hO, hB⟩

end Go.Proofs.Ytfbipnhhnmlhfaa
