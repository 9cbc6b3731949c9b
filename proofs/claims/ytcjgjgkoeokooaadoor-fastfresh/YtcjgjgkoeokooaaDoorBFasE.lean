/-
  Layer 4: pieces of lists, lists padded with noughts, which lists may be.
-/
import Derived.Test.YtcjgjgkoeokooaaDoorBPolI
import Derived.Test.YtcjgjgkoeokooaaDoorBunR
import Derived.Test.YtcjgjgkoeokooaaDoorBFasD
namespace Go.Proofs.YtcjgjgkoeokooaaDoor
open Go.RowKit Fld
set_option linter.unusedVariables false

set_option maxHeartbeats 100000 in
theorem cut_nil (ao : Option Addr) (cap : Nat) (w : World) :
    Calls Tryd.prog 44 #[.slice ao 0 cap, .int .i64 0] w fun e w' => e = .returned (.tuple #[.slice ao 0 0, .slice ao 0 0]) ∧ ∃ nq, w' = w.drewN nq := by
  go_enter Tryd.func44, Tryd.ntmps44
  go_wp2_with fail
  go_quiet (fail)
  go_wp2
  go_ret2
  exact ⟨rfl, nq, rfl⟩

/-- Where the upper piece begins. -/
def upAt (o n k : Nat) : Nat := if k = n then o else o + k
set_option maxHeartbeats 100000 in
theorem cut_at (b o n cap k : Nat) (w : World) (hn : 0 < n) (hk : k ≤ n) (hc : n ≤ cap) :
    Calls Tryd.prog 44 #[.slice (some ⟨b, o, none⟩) n cap, .int .i64 k] w fun e w' => e = .returned (.tuple #[.slice (some ⟨b, o, none⟩) k k, .slice (some ⟨b, upAt o n k, none⟩) (n - k) (n - k)]) ∧ ∃ nq, w' = w.drewN nq := by
  have k0 : (0 : Int) ≤ (k : Int) := Int.natCast_nonneg _
  have n0 : (0 : Int) ≤ (n : Int) := Int.natCast_nonneg _
  have k1 : (k : Int) ≤ (n : Int) := by omega
  have k2 : (k : Int) ≤ (cap : Int) := by omega
  have n2 : (n : Int) ≤ (cap : Int) := by omega
  by_cases h0 : k = 0
  · subst h0
    have e : Hid (upAt o n 0 = o) := by show upAt o n 0 = o; unfold upAt; rw [if_neg (by omega)]; rfl
    rw [e.out]
    have hne : ¬ n = 0 := by omega
    go_enter Tryd.func44, Tryd.ntmps44
    go_wp2_with fail
    go_quiet (fail)
    go_wp2
    go_ret2
    exact ⟨rfl, nq, rfl⟩
  by_cases h1 : k = n
  · subst h1
    have e : Hid (upAt o k k = o) := by show upAt o k k = o; unfold upAt; rw [if_pos rfl]
    rw [e.out]
    go_enter Tryd.func44, Tryd.ntmps44
    go_wp2_with fail
    go_quiet (fail)
    go_wp2
    go_ret2
    exact ⟨by simp, nq, rfl⟩
  · have e : Hid (upAt o n k = o + k) := by show upAt o n k = o + k; unfold upAt; rw [if_neg h1]
    rw [e.out]
    have h2 : ¬ n = k := fun e => h1 e.symm
    go_enter Tryd.func44, Tryd.ntmps44
    go_wp2_with fail
    go_quiet (fail)
    go_wp2
    go_ret2
    exact ⟨rfl, nq, rfl⟩

theorem Rw.lower {w : World} {ao : Option Addr} {n cap : Nat} {xs : List Int} (h : Rw w (.slice ao n cap) xs) {k : Nat} (hk : k ≤ xs.length) : Rw w (.slice ao k k) (xs.take k) := by
  obtain ⟨⟨ao', cap', h1, h2, h3, h4⟩, _⟩ := h.take hk
  have hl : (xs.take k).length = k := by rw [List.length_take]; omega
  rw [hl] at h1
  cases h1
  exact ⟨⟨ao, k, by rw [hl], h2, h3, h4⟩, _, _, _, rfl, Nat.le_refl _⟩
theorem co_drop (xs : List Int) (k i : Nat) : co (xs.drop k) i = co xs (k + i) := by
  unfold co; rw [List.getD_eq_getElem?_getD, List.getD_eq_getElem?_getD, List.getElem?_drop]
theorem Rw.upper {w : World} {b o n cap : Nat} {xs : List Int} (h : Rw w (.slice (some ⟨b, o, none⟩) n cap) xs) {k : Nat} (hk : k ≤ xs.length) : Rw w (.slice (some ⟨b, upAt o n k, none⟩) (n - k) (n - k)) (xs.drop k) := by
  obtain ⟨⟨ao', cap', h1, h2, h3, h4⟩, a, m, c, h5, h6⟩ := h
  cases h1; cases h5
  have hl : (xs.drop k).length = xs.length - k := List.length_drop
  refine ⟨⟨_, _, by rw [hl], by omega, fun x hx => h3 x (List.mem_of_mem_drop hx), fun hne => ?_⟩, _, _, _, rfl, Nat.le_refl _⟩
  have hlt : k < xs.length := by
    have := List.length_pos_iff.2 hne; omega
  obtain ⟨b', o', h7, hb, hc⟩ := h4 (by intro h; rw [h] at hlt; simp at hlt)
  cases h7
  refine ⟨b, upAt o xs.length k, rfl, hb, fun i hi => ?_⟩
  have e : upAt o xs.length k = o + k := by unfold upAt; rw [if_neg (by omega)]
  rw [e, Nat.add_assoc, hc (k + i) (by omega)]
  have : (xs.drop k).getD i 0 = xs.getD (k + i) 0 := co_drop xs k i
  rw [this]
/-- Both pieces, for reading. -/
theorem cut_any (ao : Option Addr) (cap k : Nat) (xs : List Int) (w : World) (h : Rw w (.slice ao xs.length cap) xs) (hk : k ≤ xs.length) :
    Calls Tryd.prog 44 #[.slice ao xs.length cap, .int .i64 k] w fun e w' => ∃ a2, e = .returned (.tuple #[.slice ao k k, .slice a2 (xs.length - k) (xs.length - k)]) ∧ Rw w' (.slice ao k k) (xs.take k) ∧ Rw w' (.slice a2 (xs.length - k) (xs.length - k)) (xs.drop k) ∧ Below w.heap.size w w' := by
  obtain ⟨_, _, h1, hc⟩ := h.spell
  cases h1
  by_cases h0 : xs = []
  · subst h0
    have : k = 0 := by simpa using hk
    subst this
    refine (cut_nil ao cap w).mono ?_
    rintro e w' ⟨rfl, nq, rfl⟩
    have hb := below_drewN (Below.refl w.heap.size w) nq
    exact ⟨ao, rfl, (h.below hb).lower hk, by simpa using (h.below hb).lower hk, hb⟩
  · have hx : ∃ b o, ao = some ⟨b, o, none⟩ := by
      obtain ⟨⟨_, _, h1, _, _, h2⟩, _⟩ := h
      cases h1
      obtain ⟨b, o, h3, _⟩ := h2 h0
      exact ⟨b, o, h3⟩
    obtain ⟨b, o, rfl⟩ := hx
    refine (cut_at b o xs.length cap k w (List.length_pos_iff.2 h0) hk hc).mono ?_
    rintro e w' ⟨rfl, nq, rfl⟩
    have hb := below_drewN (Below.refl w.heap.size w) nq
    exact ⟨_, rfl, (h.below hb).lower hk, (h.below hb).upper hk, hb⟩

set_option maxRecDepth 100000 in
set_option maxHeartbeats 200000 in
/-- A list of its own, with noughts behind. -/
theorem padded_any (v : Value) (xs : List Int) (n : Nat) (w : World) (hr : Rw w v xs) (hl : xs.length ≤ n) (hn : n ≤ 17592186043904) :
    Calls Tryd.prog 34 #[v, .int .i64 n] w fun e w' => e = .returned (.slice (some ⟨w.heap.size, 0, none⟩) n n) ∧ OwnG w' w.heap.size n (over n xs) ∧ w.heap.size < w'.heap.size ∧ Below w.heap.size w w' := by
  obtain ⟨i0, hi0, hz0, hz1, hz2⟩ := info_parts u64_info
  obtain ⟨ao, cap, rfl, hcap⟩ := hr.spell
  have H1 := hide (vals_one xs)
  have HS := hide (splice_over n xs)
  have HW := hide (fun W (hb : Below w.heap.size w W) (hp : 0 < (vals xs).length) => row_news (hr.1.below hb) (by rw [vals_length] at hp; exact hp))
  have HL : Hid ((vals xs).length = Nat.min xs.length n) := by show _ = _; rw [vals_length]; exact (Nat.min_eq_left hl).symm
  have HV : Hid (0 + (vals xs).length ≤ (vals (List.replicate n 0)).length) := by show _ ≤ _; rw [vals_length, vals_length]; simp; exact hl
  have HOL : Hid ((over n xs).length = n) := over_len hl
  obtain ⟨cs, HC⟩ : ∃ cs, Hid (vals xs = cs) := ⟨_, rfl⟩
  rw [HC.out] at H1 HL HW HS HV
  clear hr
  go_enter Tryd.func34, Tryd.ntmps34
  go_wp2_with (first
    | (at_make; refine wpList_make_full _ rfl _ _ 22 rfl w.heap.size 39 i0 (.int .u64 0) 1 Tryd.underlying22 hi0 hz0 hz1 .i64 .i64 _ _ n rfl rfl (by omega) (by omega) (by rw [hz2]; omega) (by unfold maxLen; omega) (Nat.le_refl _) ?_; intro w2 hown hgrow; have hO := hide (own_made hown); have hB := below_grown_none hgrow; have hG2 := hgrow.size; clear hown)
    | (refine wpList_copy_splice rfl _ _ _ _ rfl 39 Tryd.underlying22 u64_size _ _ _ _ _ _ rfl rfl w.heap.size 0 _ 39 (own_block hO.out) cs HL.out (fun hp => ⟨rfl, HW.out w2 hB hp⟩) HV.out H1.out w.heap.size w hB (Nat.le_refl _) ?_; intro w3 HG3 hB3; have HO3 := hide (own_of_block (Nat.le_refl _) (by rw [HS.out] at HG3; exact HG3.out) HOL.out hn)))
  go_ret
  refine ⟨rfl, HO3.out, ?_, hB3⟩
  have := own_block HO3.out
  apply Nat.lt_of_not_le
  intro hc
  rw [Array.getElem?_eq_none hc] at this
  cases this

/-- Which error n lists have. -/
def erN (f : Int) (n : Nat) (xs : Nat → List Int) : Int := if ∀ i, i < n → inF f (xs i) = true then (if ∀ i, i < n → (xs i).length ≤ 4096 then 0 else 4) else 2
theorem below_nat {n k : Nat} {P : Nat → Prop} (h : ∀ i, i < k → P i) (hk : P k) : ∀ i, i < k + 1 → P i := fun i hi => by
  by_cases he : i = k
  · rw [he]; exact hk
  · exact h i (by omega)

set_option maxHeartbeats 200000 in
theorem fcheck_any (f : Int) (n : Nat) (v : Nat → Value) (xs : Nat → List Int) (w : World) (b : Nat) (hn : n ≤ 2) (hr : ∀ i, i < n → Rw w (v i) (xs i)) (hc : ∀ i, i < n → w.cell? ⟨b, i, none⟩ = some (v i)) (tl : b < w.heap.size) :
    Calls Tryd.prog 42 #[.int .u8 f, .slice (some ⟨b, 0, none⟩) n n] w fun e w' => e = .returned (.int .i64 (erN f n xs)) ∧ Below w.heap.size w w' := by
  have HI := hide (fun i (hi : i < n) W (hb : Below w.heap.size w W) => In_any f (v i) (xs i) W ((hr i hi).1.below hb))
  have HS := hide (fun i (hi : i < n) => (hr i hi).spell)
  have HL := hide (fun i (hi : i < n) => (hr i hi).len)
  have HC := hide hc
  clear hr hc
  go_enter Tryd.func42, Tryd.ntmps42
  go_wp2
  go_loopw [11] (fun vk wr => ∃ k : Nat, k ≤ n ∧ vk = .int .i64 k ∧ Hid (∀ i, i < k → inF f (xs i) = true) ∧ Below w.heap.size w wr) (fun vk _ => n - (intOf vk).toNat)
  case atStart => exact ⟨0, by omega, rfl, fun i hi => by omega, Below.refl _ _⟩
  case round =>
    obtain ⟨k, hk, rfl, HK, hB⟩ := hrel
    by_cases hlt : k < n
    · have d1 := (hB.cell (p := ⟨b, k, none⟩) tl).trans (HC.out k hlt)
      have i1 := hide (HI.out k hlt _ hB)
      have k0 : (0 : Int) ≤ (k : Int) := Int.natCast_nonneg _
      have k1 : (k : Int) < (n : Int) := by omega
      generalize v k = vk at *
      cases hin : inF f (xs k) with
      | false =>
        have HE : Hid (erN f n xs = 2) := by
          show erN f n xs = 2
          unfold erN
          rw [if_neg]
          intro h; rw [h k hlt] at hin; cases hin
        rw [hin] at i1
        go_wp2_with (go_at_call 61; refine i1.out.mono ?_; rintro e w1 ⟨rfl, hb⟩)
        go_ret
        exact ⟨ret_i64 HE.out.symm, Below.next hB hb⟩
      | true =>
        rw [hin] at i1
        have HK2 := hide (below_nat (n := n) HK.out hin)
        clear hin
        go_wp2_with (go_at_call 61; refine i1.out.mono ?_; rintro e w1 ⟨rfl, hb⟩)
        go_roundw
        case rel => exact ⟨k + 1, by omega, by go_num, HK2, Below.next hB hb⟩
        case measure => simp [intOf]; omega
    · obtain rfl : k = n := by omega
      clear HI
      go_wp2
      go_loopw [22] (fun vj wr => ∃ j : Nat, j ≤ k ∧ vj = .int .i64 j ∧ Hid (∀ i, i < j → (xs i).length ≤ 4096) ∧ Below w.heap.size w wr) (fun vj _ => k - (intOf vj).toNat)
      case atStart => exact ⟨0, by omega, rfl, fun i hi => by omega, hB⟩
      case round =>
        clear hB
        obtain ⟨j, hj, rfl, HJ, hB⟩ := hrel
        by_cases hlt2 : j < k
        · have d1 := (hB.cell (p := ⟨b, j, none⟩) tl).trans (HC.out j hlt2)
          obtain ⟨a, c, hv, _⟩ := HS.out j hlt2
          rw [hv] at d1
          have j0 : (0 : Int) ≤ (j : Int) := Int.natCast_nonneg _
          have j1 : (j : Int) < (k : Int) := by omega
          have hll := HL.out j hlt2
          by_cases hbig : 4096 < (xs j).length
          · have HE : Hid (erN f k xs = 4) := by
              show erN f k xs = 4
              unfold erN
              rw [if_pos HK.out, if_neg]
              intro h; have := h j hlt2; omega
            generalize (xs j).length = m at *
            go_wp2
            go_ret
            exact ⟨ret_i64 HE.out.symm, hB⟩
          · have HJ2 := hide (below_nat (n := k) HJ.out (by omega))
            generalize (xs j).length = m at *
            go_wp2
            go_roundw
            case rel => exact ⟨j + 1, by omega, by go_num, HJ2, hB⟩
            case measure => simp [intOf]; omega
        · obtain rfl : j = k := by omega
          have HE : Hid (erN f j xs = 0) := by
            show erN f j xs = 0
            unfold erN
            rw [if_pos HK.out, if_pos HJ.out]
          go_wp2
          go_ret
          exact ⟨ret_i64 HE.out.symm, hB⟩

end Go.Proofs.YtcjgjgkoeokooaaDoor
