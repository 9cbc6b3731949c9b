import Derived.Test.YtpibiagohfnbmaaBPdsA
import Derived.Test.YtpibiagohfnbmaaBMtxL
set_option linter.unusedVariables false
set_option linter.unusedSimpArgs false
set_option maxRecDepth 100000
set_option maxHeartbeats 4000000
namespace Go.Proofs.Ytpibiagohfnbmaa
open Go.RowKit Fld Pln Rnk
theorem fi_of {f : Int} (h : fdB f = true) : ∃ wd, Fi f (prF f) wd := by
 unfold fdB at h
 rw [Bool.or_eq_true, beq_iff_eq, beq_iff_eq] at h
 rcases h with rfl | rfl
 · exact ⟨false, .inl ⟨rfl, rfl, rfl⟩⟩
 · exact ⟨true, .inr ⟨rfl, rfl, rfl⟩⟩
theorem fd_no {f : Int} (h : fdB f = false) : f ≠ 1 ∧ f ≠ 2 := by
 unfold fdB at h
 rw [Bool.or_eq_false_iff, beq_eq_false_iff_ne, beq_eq_false_iff_ne] at h
 exact h
def rsl (q : Int) (xs : List Int) (k : Nat) : List Int := (xs.take k).map (· % q) ++ xs.drop k
theorem rsl_zero (q : Int) (xs : List Int) : rsl q xs 0 = xs := by simp [rsl]
theorem rsl_all (q : Int) (xs : List Int) : rsl q xs xs.length = xs.map (· % q) := by simp [rsl]
theorem rsl_len (q : Int) (xs : List Int) (k : Nat) : (rsl q xs k).length = xs.length := by simp [rsl]; omega
theorem rsl_at (q : Int) {xs : List Int} {k i : Nat} (hk : k <= xs.length) : co (rsl q xs k) i = if i < k then co xs i % q else co xs i := by
 unfold rsl co
 rw [List.getD_eq_getElem?_getD, List.getD_eq_getElem?_getD]
 by_cases h : i < k
 · rw [if_pos h, List.getElem?_append_left (by simp; omega), List.getElem?_map, List.getElem?_take_of_lt h, List.getElem?_eq_getElem (by omega)]; rfl
 · rw [if_neg h, List.getElem?_append_right (by simp; omega), List.getElem?_drop]
   congr 2
   simp; omega
theorem rsl_set (q : Int) {xs : List Int} {k : Nat} (hk : k < xs.length) : (rsl q xs k).set k (co xs k % q) = rsl q xs (k + 1) := by
 refine ext_co (by rw [List.length_set, rsl_len, rsl_len]) (fun i hi => ?_)
 rw [co_set _ _ _ _ (by rw [rsl_len]; exact hk), rsl_at q (by omega), rsl_at q (by omega)]
 by_cases e : i = k
 · rw [if_pos e, if_pos (by omega), e]
 · rw [if_neg e]
   by_cases h : i < k
   · rw [if_pos h, if_pos (by omega)]
   · rw [if_neg h, if_neg (by omega)]
theorem gIsPlace (ao : Option Addr) (n cap : Nat) (a : Int) (hn : n <= 17592186043904) (w : World) : Calls Try.prog 19 #[.slice ao n cap, .int .i64 a] w fun e w' => e = .returned (.bool (decide (0 <= a ∧ a <= n))) ∧ w' = w := by
 by_cases h1 : 0 <= a <;> by_cases h2 : a <= (n : Int)
 all_goals
  go_enter Try.func19, Try.ntmps19
  go_wp2
  all_goals
   go_ret
   refine ⟨?_, rfl⟩
   simp_all
   try omega
theorem gRests (q : Int) (v : Value) (xs : List Int) (w : World) (q0 : 0 < q) (q1 : q <= 18446744073709551615) (hr : Rw w v xs) :
 Calls Try.prog 20 #[.int .u64 q, v] w fun e w' => e = .returned (.slice (some ⟨w.heap.size, 0, none⟩) xs.length xs.length) ∧ w'.ownsRow w.heap.size 49 1 (.slice (some ⟨w.heap.size, 0, none⟩) xs.length xs.length) xs.length (vals (xs.map (· % q))) ∧ Below w.heap.size w w' := by
 obtain ⟨i0, hi0, hz0, hz1, hz2⟩ := info_parts u64_info
 obtain ⟨ao, cap, rfl, hcap⟩ := hr.spell
 have hlen := hr.len
 have HWd := hide (fun k (hk : k < xs.length) => by rw [co_at hk]; exact hr.words _ (List.getElem_mem hk) : ∀ k, k < xs.length -> 0 <= co xs k ∧ co xs k <= 18446744073709551615)
 have H1 := hide (vals_one xs)
 have HS := hide (splice_over xs.length xs)
 rw [over_self] at HS
 have HW := hide (fun W (hb : Below w.heap.size w W) (hp : 0 < (vals xs).length) => row_news (hr.1.below hb) (by rw [vals_length] at hp; exact hp))
 have HL : Hid ((vals xs).length = Nat.min xs.length xs.length) := by show _ = _; rw [vals_length]; exact (Nat.min_self _).symm
 have HV : Hid (0 + (vals xs).length <= (vals (List.replicate xs.length 0)).length) := by show _ <= _; rw [vals_length, vals_length]; simp
 have HO0 := hide (fun W (hh : W.heap[w.heap.size]? = some (.cells (vals xs).toArray 49 (0, 0))) => own_of_block (w := W) (base := w.heap.size) (Nat.le_refl _) hh rfl hlen)
 have hq : ¬ q = 0 := by omega
 have HR1 := hide (rsl_all q xs)
 have HR0 := hide (rsl_zero q xs)
 have HST := hide (fun k (hk : k < xs.length) => rsl_set q hk)
 have HRL := hide (rsl_len q xs)
 have HAT := hide (fun k (hk : k < xs.length) => by have := rsl_at q (xs := xs) (k := k) (i := k) (by omega); rw [if_neg (by omega)] at this; exact this : ∀ k, k < xs.length -> co (rsl q xs k) k = co xs k)
 obtain ⟨cs, HC⟩ : ∃ cs, Hid (vals xs = cs) := ⟨_, rfl⟩
 rw [HC.out] at H1 HL HW HS HV HO0
 clear hr hcap
 go_enter Try.func20, Try.ntmps20
 go_wp2_with (first
  | (at_make; refine wpList_make_full _ rfl _ _ 25 rfl w.heap.size 49 i0 (.int .u64 0) 1 Try.underlying25 hi0 hz0 hz1 .i64 .i64 _ _ xs.length rfl rfl (by omega) (by omega) (by rw [hz2]; omega) (by unfold maxLen; omega) (Nat.le_refl _) ?_; intro w2 hown hgrow; have hO := hide (own_made hown); have hB := below_grown_none hgrow; have hG2 := hgrow.size; clear hown)
  | (refine wpList_copy_splice rfl _ _ _ _ rfl 49 Try.underlying25 u64_size _ _ _ _ _ _ rfl rfl w.heap.size 0 _ 49 (own_block hO.out) cs HL.out (fun hp => ⟨rfl, HW.out w2 hB hp⟩) HV.out H1.out w.heap.size w hB (Nat.le_refl _) ?_; intro w3 HG3 hB3; have HO3 := hide (HO0.out w3 (by rw [HS.out] at HG3; exact HG3.out))))
 rw [<- HC.out, <- HR0.out] at HO3
 clear H1 HS HW HL HV HO0 HC HG3 hO hB hgrow hG2 HR0
 go_loopw [15] (fun vi wr => ∃ k : Nat, k <= xs.length ∧ vi = .int .i64 k ∧ Hid (wr.ownsRow w.heap.size 49 1 (.slice (some ⟨w.heap.size, 0, none⟩) xs.length xs.length) xs.length (vals (rsl q xs k))) ∧ Below w.heap.size w wr) (fun vi _ => xs.length - (intOf vi).toNat)
 case atStart => exact ⟨0, Nat.zero_le _, rfl, HO3, hB3⟩
 case round =>
  clear HO3 hB3
  obtain ⟨k, hk, rfl, HO, hB⟩ := hrel
  by_cases hlt : k < xs.length
  · have d1 := own_cell HO.out (HRL.out k) hlt
    rw [show (rsl q xs k).getD k 0 = co xs k from HAT.out k hlt] at d1
    have f1 := HO.out.frozenAt k
    obtain ⟨x0, x1⟩ := HWd.out k hlt
    have hO2 := own_setv HO.out (.int .u64 (co xs k % q)) hlt
    rw [vals_set, HST.out k hlt] at hO2
    have HO2 := hide hO2
    have hB2 := hB.setCell (p := ⟨w.heap.size, k, none⟩) (Nat.le_refl _) (.int .u64 (co xs k % q))
    clear hO2 HST HAT HRL HWd HO
    generalize co xs k = x at *
    have hT : x.tmod q = x % q := Int.tmod_eq_emod_of_nonneg x0
    go_wp2
    go_roundw
    case rel => exact ⟨k + 1, by omega, by go_num, HO2, hB2⟩
    case measure => simp [intOf]; omega
  · obtain rfl : k = xs.length := by omega
    rw [HR1.out] at HO
    clear HST HAT HRL HWd HR1
    go_wp2
    go_ret
    exact ⟨rfl, HO.out, hB⟩
end Go.Proofs.Ytpibiagohfnbmaa
