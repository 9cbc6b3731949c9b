/-
  Layer 9: values, steps and programs written: the program's calls.
-/
import Derived.Test.YtjkialmhajbcfaaDoorBSlwE
import Derived.Laws.Concat
namespace Go.Proofs.YtjkialmhajbcfaaDoor
open Go.RowKit Fld Slp
set_option linter.unusedVariables false
set_option linter.unusedSimpArgs false

theorem dec_le : ∀ (k n : Nat), n < 10 ^ (k + 1) → (dec n).length ≤ k + 1
  | 0, n, h => by rw [dec_small (by simpa using h)]; simp
  | k + 1, n, h => by
    by_cases h1 : n < 10
    · rw [dec_small h1]; simp
    · rw [dec_big h1, List.length_append]
      have := dec_le k (n / 10) (Nat.div_lt_of_lt_mul (by rw [Nat.mul_comm, ← Nat.pow_succ]; exact h))
      simp only [List.length_cons, List.length_nil]; omega
theorem dec_20 {n : Nat} (h : n < 18446744073709551616) : (dec n).length ≤ 20 := dec_le 19 n (Nat.lt_of_lt_of_le h (by decide))
theorem valT_21 {inp v : Int} (h0 : 0 ≤ v) (h1 : 0 ≤ inp) (h2 : v ≤ 9223372036854775807) : (valT inp v).length ≤ 21 := by
  unfold valT
  split
  · rw [List.length_cons]; have := dec_20 (n := v.toNat) (by omega); omega
  · rw [List.length_cons]; have := dec_20 (n := (v - inp).toNat) (by omega); omega

theorem tx_size (a : Tx) : (⟨a.toArray⟩ : ByteArray).size = a.length := by show a.toArray.size = a.length; simp
theorem tx_add (a b : Tx) (h : a.length + b.length ≤ 9223372036854775807) (W : World) : (binOp .add 9 (tx a) (tx b)).run Tryd.prog W = .ok (tx (a ++ b)) W := by
  unfold tx
  have e : (⟨a.toArray⟩ : ByteArray) ++ (⟨b.toArray⟩ : ByteArray) = ⟨(a ++ b).toArray⟩ := by rw [ByteArray.mk_append_mk]
  simp only [binOp]
  rw [run_string_add_sum _ _ _ (by rw [tx_size, tx_size]; exact h), e]
theorem tx_eq (a b : Tx) (W : World) : (binOp .eql 9 (tx a) (tx b)).run Tryd.prog W = .ok (.bool (a == b)) W := by
  unfold tx
  simp [go_sem]

set_option maxHeartbeats 200000 in
theorem sName (v inp : Int) (w : World) (h0 : 0 ≤ v) (h1 : 0 ≤ inp) (h2 : v ≤ 9223372036854775807) (hT : Tb9 w) : Calls Tryd.prog 30 #[.int .i64 v, .int .i64 inp] w fun e w' => e = .returned (tx (valT inp v)) ∧ Below w.heap.size w w' := by
  unfold valT
  by_cases hc : v < inp
  · rw [if_pos hc]
    obtain ⟨n, rfl⟩ := Int.eq_ofNat_of_zero_le h0
    rw [Int.toNat_natCast]
    have hl := dec_20 (n := n) (by omega)
    have HI := hide (lItoa n w (by omega) hT)
    have ha : ∀ W, (binOp .add 9 (.string ⟨#[120]⟩) (tx (dec n))).run Tryd.prog W = .ok (tx (120 :: dec n)) W := fun W => tx_add [120] (dec n) (by simp only [List.length_cons, List.length_nil]; omega) W
    go_enter Tryd.func30, Tryd.ntmps30
    go_wp2_with (go_at_call 29; refine HI.out.mono ?_; rintro e w1 ⟨rfl, hb⟩)
    go_ret
    exact ⟨rfl, hb⟩
  · rw [if_neg hc]
    obtain ⟨n, hn⟩ := Int.eq_ofNat_of_zero_le (show 0 ≤ v - inp by omega)
    rw [hn, Int.toNat_natCast]
    have hl := dec_20 (n := n) (by omega)
    have HI := hide (lItoa n w (by omega) hT)
    have ha : ∀ W, (binOp .add 9 (.string ⟨#[116]⟩) (tx (dec n))).run Tryd.prog W = .ok (tx (116 :: dec n)) W := fun W => tx_add [116] (dec n) (by simp only [List.length_cons, List.length_nil]; omega) W
    go_enter Tryd.func30, Tryd.ntmps30
    go_wp2_with (go_at_call 29; refine HI.out.mono ?_; rintro e w1 ⟨rfl, hb⟩)
    go_ret
    exact ⟨rfl, hb⟩

theorem sSign (k : Int) (w : World) (hk : k = 1 ∨ k = 2 ∨ k = 3) : Calls Tryd.prog 46 #[.int .u8 k] w fun e w' => e = .returned (tx [sgn k]) ∧ w' = w := by
  rcases hk with rfl | rfl | rfl
  all_goals
    go_enter Tryd.func46, Tryd.ntmps46
    go_wp2
    go_ret
    exact ⟨rfl, rfl⟩

/-- What a step makes its value of, as it is written. -/
def mkT (inp : Int) (o : O4) : Tx := if o.k = 4 then dec o.c.toNat else valT inp o.a ++ ([32, sgn o.k, 32] ++ valT inp o.b)
theorem stpT_mk (inp : Int) (i : Nat) (o : O4) : stpT inp i o = (116 :: dec i) ++ ([32, 61, 32] ++ mkT inp o) := rfl
/-- A step that may be, of at most so many values. -/
def Fit (o : O4) : Prop := (o.k = 4 ∧ 0 ≤ o.c ∧ o.c ≤ 18446744073709551615) ∨ ((o.k = 1 ∨ o.k = 2 ∨ o.k = 3) ∧ (0 ≤ o.a ∧ o.a ≤ 1000) ∧ (0 ≤ o.b ∧ o.b ≤ 1000))
theorem mkT_len {inp : Int} {o : O4} (h1 : 0 ≤ inp) (h : Fit o) : (mkT inp o).length ≤ 45 := by
  unfold mkT
  rcases h with ⟨hk, c0, c1⟩ | ⟨hk, ⟨a0, a1⟩, b0, b1⟩
  · rw [if_pos hk]
    have := dec_20 (n := o.c.toNat) (by omega); omega
  · rw [if_neg (by omega)]
    have := valT_21 (inp := inp) a0 h1 (by omega)
    have := valT_21 (inp := inp) b0 h1 (by omega)
    simp only [List.length_append, List.length_cons, List.length_nil]; omega

set_option maxRecDepth 100000 in
set_option maxHeartbeats 400000 in
theorem sMaker (o : O4) (inp : Int) (w : World) (h1 : 0 ≤ inp) (hF : Fit o) (hT : Tb9 w) : Calls Tryd.prog 31 #[opv o, .int .i64 inp] w fun e w' => e = .returned (tx (mkT inp o)) ∧ Below w.heap.size w w' := by
  obtain ⟨k, a, b, c⟩ := o
  have hB := alloc_below w (.cells #[.int .u8 k, .int .i64 a, .int .i64 b, .int .u64 c] 47)
  have HT := hide (fun W (hb : Below w.heap.size w W) => hT.below hb)
  unfold mkT opv
  rcases hF with ⟨hk, c0, c1⟩ | ⟨hk, ⟨a0, a1⟩, b0, b1⟩
  · dsimp only at *
    subst hk
    rw [if_pos rfl]
    obtain ⟨n, rfl⟩ := Int.eq_ofNat_of_zero_le c0
    rw [Int.toNat_natCast]
    have HB := hide hB
    clear hB
    go_enter Tryd.func31, Tryd.ntmps31
    go_wp2_with (go_at_call 45; refine (lFormatU n _ (by omega) (HT.out _ HB.out)).mono ?_; rintro e w1 ⟨rfl, hb⟩)
    go_ret
    exact ⟨rfl, Below.next HB.out hb⟩
  · dsimp only at *
    rw [if_neg (by omega)]
    have hk4 : (k == 4) = false := by rw [beq_eq_false_iff_ne]; omega
    have HN1 := hide (fun W (hb : Below w.heap.size w W) => sName a inp W a0 h1 (by omega) (HT.out W hb))
    have HN2 := hide (fun W (hb : Below w.heap.size w W) => sName b inp W b0 h1 (by omega) (HT.out W hb))
    have l1 := valT_21 (inp := inp) a0 h1 (by omega)
    have l2 := valT_21 (inp := inp) b0 h1 (by omega)
    have HE : Hid ((((valT inp a ++ [32]) ++ [sgn k]) ++ [32]) ++ valT inp b = valT inp a ++ ([32, sgn k, 32] ++ valT inp b)) := by show _ = _; simp
    generalize valT inp a = ta at *
    generalize valT inp b = tb at *
    have g1 : ∀ W, (binOp .add 9 (tx ta) (.string ⟨#[32]⟩)).run Tryd.prog W = .ok (tx (ta ++ [32])) W := fun W => tx_add ta [32] (by simp only [List.length_append, List.length_cons, List.length_nil]; omega) W
    have g2 : ∀ W, (binOp .add 9 (tx (ta ++ [32])) (tx [sgn k])).run Tryd.prog W = .ok (tx ((ta ++ [32]) ++ [sgn k])) W := fun W => tx_add _ _ (by simp only [List.length_append, List.length_cons, List.length_nil]; omega) W
    have g3 : ∀ W, (binOp .add 9 (tx ((ta ++ [32]) ++ [sgn k])) (.string ⟨#[32]⟩)).run Tryd.prog W = .ok (tx (((ta ++ [32]) ++ [sgn k]) ++ [32])) W := fun W => tx_add _ [32] (by simp only [List.length_append, List.length_cons, List.length_nil]; omega) W
    have g4 : ∀ W, (binOp .add 9 (tx (((ta ++ [32]) ++ [sgn k]) ++ [32])) (tx tb)).run Tryd.prog W = .ok (tx ((((ta ++ [32]) ++ [sgn k]) ++ [32]) ++ tb)) W := fun W => tx_add _ _ (by simp only [List.length_append, List.length_cons, List.length_nil]; omega) W
    rw [← HE.out]
    have HB := hide hB
    have p0 : (w.alloc (.cells #[.int .u8 k, .int .i64 a, .int .i64 b, .int .u64 c] 47)).cell? ⟨w.heap.size, 0, none⟩ = some (.int .u8 k) := by simp [go_sem]
    have p1 : (w.alloc (.cells #[.int .u8 k, .int .i64 a, .int .i64 b, .int .u64 c] 47)).cell? ⟨w.heap.size, 1, none⟩ = some (.int .i64 a) := by simp [go_sem]
    have p2 : (w.alloc (.cells #[.int .u8 k, .int .i64 a, .int .i64 b, .int .u64 c] 47)).cell? ⟨w.heap.size, 2, none⟩ = some (.int .i64 b) := by simp [go_sem]
    generalize (((ta ++ [32]) ++ [sgn k]) ++ [32]) ++ tb = t4 at *
    generalize ((ta ++ [32]) ++ [sgn k]) ++ [32] = t3 at *
    generalize (ta ++ [32]) ++ [sgn k] = t2 at *
    generalize ta ++ [32] = t1 at *
    clear hB l1 l2 HE
    go_enter Tryd.func31, Tryd.ntmps31
    go_wp2_with fail
    have hB := HB.out
    generalize (w.alloc (.cells #[.int .u8 k, .int .i64 a, .int .i64 b, .int .u64 c] 47)) = w0 at *
    have HS : Hid (∀ W', Below w0.heap.size w0 W' → W'.cell? ⟨w.heap.size, 0, none⟩ = some (.int .u8 k) ∧ W'.cell? ⟨w.heap.size, 1, none⟩ = some (.int .i64 a) ∧ W'.cell? ⟨w.heap.size, 2, none⟩ = some (.int .i64 b)) := fun W' hb => ⟨(hb.cell (cell_in p0)).trans p0, (hb.cell (cell_in p1)).trans p1, (hb.cell (cell_in p2)).trans p2⟩
    have hS0 := HS.out w0.drew (Below.refl _ w0).drew
    go_region_held3 (fun W' => W'.cell? ⟨w.heap.size, 0, none⟩ = some (.int .u8 k) ∧ W'.cell? ⟨w.heap.size, 1, none⟩ = some (.int .i64 a) ∧ W'.cell? ⟨w.heap.size, 2, none⟩ = some (.int .i64 b)) (first | with_reducible exact hS3 | with_reducible exact hS1 | with_reducible exact hS0) (first
      | (go_at_call 30; refine (HN2.out _ hB1).mono ?_; rintro e w3 ⟨rfl, hb3⟩; have hS3 := HS.out w3 (Below.next hC1 hb3))
      | (go_at_call 46; refine (sSign k _ hk).mono ?_; rintro e w2 ⟨rfl, hw2⟩; subst hw2)
      | (go_at_call 30; refine (HN1.out _ hB.drew).mono ?_; rintro e w1 ⟨rfl, hb1⟩; have hC1 := Below.next (Below.refl w0.heap.size w0).drew hb1; have hB1 := Below.next hB.drew hb1; have hS1 := HS.out w1 hC1))
    go_wp2
    go_ret
    exact ⟨rfl, Below.next hB1 hb3⟩

end Go.Proofs.YtjkialmhajbcfaaDoor
