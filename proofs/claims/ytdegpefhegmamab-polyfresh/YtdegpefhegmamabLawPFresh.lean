/-
  PolyFresh's walk: what is handed in stays, and what is answered is new memory.
-/
import Derived.Test.YtdegpefhegmamabLawPA
import Derived.Test.YtdegpefhegmamabPolK
import Derived.Test.YtdegpefhegmamabPolN
import Derived.Test.YtdegpefhegmamabPolO
namespace Go.Proofs.Ytdegpefhegmamab
open Go.RowKit Fld
set_option linter.unusedVariables false

/-- The six answers: lists of the calls' own, from the k-th on; where each lies; the list that holds them, at the block g. -/
def Six (v : Nat → Value) (n lo hi : Nat → Nat) (g k : Nat) (wr : World) : Prop :=
  (∀ j, k ≤ j → j < 6 → ∃ zs, wr.ownsRow (lo j) 32 1 (v j) (n j) (vals zs)) ∧ (∀ j, j < 6 → wr.cell? ⟨g, j, none⟩ = some (v j)) ∧ g < wr.heap.size
def Apart (v : Nat → Value) (lo hi : Nat → Nat) (B g : Nat) : Prop :=
  (∀ j k, j < 6 → (v j).ownBlock = some k → lo j ≤ k ∧ k < hi j) ∧ (∀ i j, i < 6 → j < 6 → i ≠ j → hi i ≤ lo j ∨ hi j ≤ lo i) ∧ (∀ j, j < 6 → B ≤ lo j ∧ hi j ≤ g ∧ lo j ≤ g)
theorem Six.next {v : Nat → Value} {n lo hi : Nat → Nat} {g k B : Nat} {wr w' : World} (hA : Apart v lo hi B g) (h : Six v n lo hi g k wr) (hk : k < 6) (hg : wr.grownBy w' (v k).ownBlock) : Six v n lo hi g (k + 1) w' := by
  obtain ⟨h1, h2, h3⟩ := h
  obtain ⟨a1, a2, a3⟩ := hA
  refine ⟨fun j hj hj6 => ?_, fun j hj => ?_, Nat.lt_of_lt_of_le h3 hg.size⟩
  · obtain ⟨zs, hO⟩ := h1 j (by omega) hj6
    refine ⟨zs, hO.kept hg ?_⟩
    cases hb : (v j).ownBlock with
    | none => exact .inl rfl
    | some b =>
      right
      intro hc
      have e1 := a1 j b hj6 hb
      have e2 := a1 k b hk hc.symm
      rcases a2 j k hj6 hk (by omega) with h | h <;> omega
  · refine hg.cell (h2 j hj) ?_
    intro hc
    have e2 := a1 k g hk hc.symm
    have := (a3 k hk).2.1
    omega
theorem six_cases {P : Nat → Prop} (h0 : P 0) (h1 : P 1) (h2 : P 2) (h3 : P 3) (h4 : P 4) (h5 : P 5) : ∀ j, j < 6 → P j := by
  intro j hj
  obtain rfl | rfl | rfl | rfl | rfl | rfl : j = 0 ∨ j = 1 ∨ j = 2 ∨ j = 3 ∨ j = 4 ∨ j = 5 := by omega
  all_goals assumption

theorem cells6 (w : World) (a b c d e f : Value) (T : TypeId) : ∀ j, j < 6 → (w.alloc (.cells #[a, b, c, d, e, f] T)).cell? ⟨w.heap.size, j, none⟩ = some ([a, b, c, d, e, f].getD j undef) :=
  six_cases (by simp [go_sem]) (by simp [go_sem]) (by simp [go_sem]) (by simp [go_sem]) (by simp [go_sem]) (by simp [go_sem])

theorem dvE_len {f : Int} {xs ys A B : List Int} (hx : ∀ x ∈ xs, 0 ≤ x ∧ x ≤ 18446744073709551615) (hy : ∀ x ∈ ys, 0 ≤ x ∧ x ≤ 18446744073709551615) (h : DvE f xs ys A B) : A.length ≤ 17592186043904 ∧ B.length ≤ 17592186043904 := by
  by_cases he : divE f xs ys = 0
  · obtain ⟨p, wd, hf, i1, i2, m1, m2⟩ := er_zero (divE_zero he).1
    have h1 := h.2 he
    rw [pOf_eq hf] at h1
    have hb := h1.2.2.2.2.1
    have := tr_len ys
    refine ⟨?_, by omega⟩
    by_cases hA : A = []
    · rw [hA]; simp
    · have := h1.len hf.md (els_of i2 hy) hA
      omega
  · have h1 := h.1 he
    rw [h1.1, h1.2]; simp
theorem intoL_len (f : Int) (xs ys : List Int) : (intoL f xs ys).length ≤ 17592186043904 := by
  unfold intoL; split
  · rename_i he
    have he' : er f xs ys = 0 := by
      apply Classical.byContradiction; intro hc
      unfold intoE at he; rw [if_neg hc] at he; exact hc he
    obtain ⟨p, wd, h, _, _, m1, m2⟩ := er_zero he'
    refine Nat.le_trans (tr_len _) ?_
    rw [mk_len]
    have n1 := tr_len xs
    have n2 := tr_len ys
    have := Nat.mul_le_mul (show (tr xs).length ≤ 4096 by omega) (show (tr ys).length ≤ 4096 by omega)
    omega
  · simp

theorem own_spell {w : World} {base n : Nat} {v : Value} {xs : List Value} {T : TypeId} (h : w.ownsRow base T 1 v n xs) : ∃ a c, v = .slice a n c := by
  rcases h.2 with ⟨rfl, rfl⟩ | ⟨g, c, cur, rfl, _⟩
  · exact ⟨none, 0, rfl⟩
  · exact ⟨_, _, rfl⟩

set_option maxRecDepth 100000 in
set_option maxHeartbeats 1000000 in
theorem pfresh_any (f : Int) (v1 v2 : Value) (xs ys : List Int) (w : World) (h1 : Rw w v1 xs) (h2 : Rw w v2 ys) :
    Calls Try.prog 3 #[.int .u8 f, v1, v2] w fun e w' => e = .returned (.bool true) ∧ Below w.heap.size w w' := by
  have l1 := h1.len
  have l2 := h2.len
  have W1 : Hid (Wd xs) := ⟨l1, h1.words⟩
  have W2 : Hid (Wd ys) := ⟨l2, h2.words⟩
  have WT : Hid (∀ x ∈ tr xs, 0 ≤ x ∧ x ≤ 18446744073709551615) := fun x hx => h1.words x (by rw [← take_tr_len] at hx; exact List.mem_of_mem_take hx)
  have H1 := hide h1
  have H2 := hide h2
  have ga := hide (fun W => anch3 W)
  have WA := hide (addL_wd f xs ys)
  have WM := hide (mulL_wd f xs ys)
  have WI := hide (intoL_len f xs ys)
  have WQ := hide (fun Q R (h : DvE f xs ys Q R) => dvE_len h1.words h2.words h)
  have tl := tr_len xs
  clear h1 h2
  go_enter Try.func3, Try.ntmps3
  go_wp2_with fail
  refine (Copy_any v1 xs w H1.out.1).mono ?_; rintro e w1 ⟨vx, rfl, ox, hb1⟩
  have rx := hide (W1.out.row ox)
  clear ox
  go_wp2_with fail
  refine (Copy_any v2 ys w1 (H2.out.1.below hb1)).mono ?_; rintro e w2 ⟨vy, rfl, oy, hb⟩
  have rx := hide (rx.out.below hb)
  have ry := hide (W2.out.row oy)
  have hb2 := Below.next hb1 hb
  clear oy hb hb1
  have GA := hide (pAdd_any f vx vy xs ys w2 rx.out ry.out)
  have GM := hide (fun W (hb : Below w2.heap.size w2 W) => pMul_any f vx vy xs ys W (rx.out.below hb) (ry.out.below hb))
  have GD := hide (fun W (hb : Below w2.heap.size w2 W) => pDivMod_any f vx vy xs ys W (rx.out.below hb) (ry.out.below hb))
  have GI := hide (fun W (hb : Below w2.heap.size w2 W) => pInto_any f vx vy xs ys W (rx.out.below hb) (ry.out.below hb))
  have GT := hide (fun W (hb : Below w2.heap.size w2 W) => Trim_any vx xs W (rx.out.below hb))
  have DM := hide (fun W (hb : Below w.heap.size w W) => dMul_any f v1 v2 xs ys W (H1.out.below hb) (H2.out.below hb))
  unfold Gives at GA GM GI DM
  unfold Parts at GD
  go_wp2_with fail
  refine GA.out.mono ?_; rintro e w3 ⟨va, rfl, oa, b3⟩
  have B3 := b3
  go_wp2_with fail
  refine (GM.out _ B3).mono ?_; rintro e w4 ⟨vb, rfl, ob, b4⟩
  have B4 := Below.next B3 b4
  go_wp2_with fail
  refine (GD.out _ B4).mono ?_; rintro e w5 ⟨vq, vr, Q, R, b, rfl, hS, oq, or', hbb, hwb, b5⟩
  have B5 := Below.next B4 b5
  go_wp2_with fail
  refine (GI.out _ B5).mono ?_; rintro e w6 ⟨vi, rfl, oi, b6⟩
  have B6 := Below.next B5 b6
  go_wp2_with fail
  refine (GT.out _ B6).mono ?_; rintro e w7 ⟨vt, rfl, ot, b7⟩
  have B7 := Below.next B6 b7
  have s3 := b3.size
  have s4 := b4.size
  have s5 := b5.size
  have s6 := b6.size
  have s7 := b7.size
  obtain ⟨aa, ca, rfl⟩ := own_spell oa
  obtain ⟨ab, cb, rfl⟩ := own_spell ob
  obtain ⟨aq, cq, rfl⟩ := own_spell oq
  obtain ⟨ar, cr, rfl⟩ := own_spell or'
  obtain ⟨ai, ci, rfl⟩ := own_spell oi
  obtain ⟨at', ct, rfl⟩ := own_spell ot
  generalize addL f xs ys = A at *
  generalize mulL f xs ys = M at *
  generalize intoL f xs ys = I at *
  obtain ⟨b', hb1', hb2', hb3'⟩ : ∃ b', b' ≤ b ∧ b' ≤ w5.heap.size ∧ (w4.heap.size ≤ b' ∧ (b' = b ∨ b' = w5.heap.size)) := by
    by_cases h : b ≤ w5.heap.size
    · exact ⟨b, Nat.le_refl _, h, hwb, .inl rfl⟩
    · exact ⟨w5.heap.size, by omega, Nat.le_refl _, s5, .inr rfl⟩
  have oq := own_mono oq hb1'
  have hAp : Apart (fun j => [Value.slice aa A.length ca, .slice ab M.length cb, .slice aq Q.length cq, .slice ar R.length cr, .slice ai I.length ci, .slice at' (tr xs).length ct].getD j undef)
      (fun j => [w2.heap.size, w3.heap.size, b', w4.heap.size, w5.heap.size, w6.heap.size].getD j 0) (fun j => [w3.heap.size, w4.heap.size, w5.heap.size, b', w6.heap.size, w7.heap.size].getD j 0) w2.heap.size w7.heap.size := by
    refine ⟨fun j k hj => ?_, fun i j hi hj => ?_, fun j hj => ?_⟩
    · intro hk
      obtain rfl | rfl | rfl | rfl | rfl | rfl : j = 0 ∨ j = 1 ∨ j = 2 ∨ j = 3 ∨ j = 4 ∨ j = 5 := by omega
      · exact oa.lt k hk
      · exact ob.lt k hk
      · exact oq.lt k hk
      · have e1 := hbb k hk
        have e2 := or'.lt k hk
        exact ⟨e2.1, by show k < b'; omega⟩
      · exact oi.lt k hk
      · exact ot.lt k hk
    · obtain rfl | rfl | rfl | rfl | rfl | rfl : i = 0 ∨ i = 1 ∨ i = 2 ∨ i = 3 ∨ i = 4 ∨ i = 5 := by omega
      all_goals
        obtain rfl | rfl | rfl | rfl | rfl | rfl : j = 0 ∨ j = 1 ∨ j = 2 ∨ j = 3 ∨ j = 4 ∨ j = 5 := by omega
        all_goals (simp; try omega)
    · obtain rfl | rfl | rfl | rfl | rfl | rfl : j = 0 ∨ j = 1 ∨ j = 2 ∨ j = 3 ∨ j = 4 ∨ j = 5 := by omega
      all_goals (simp; try omega)
  have hal := alloc_below w7 (.cells #[.slice aa A.length ca, .slice ab M.length cb, .slice aq Q.length cq, .slice ar R.length cr, .slice ai I.length ci, .slice at' (tr xs).length ct] 22)
  have hS6 : Hid (Six (fun j => [Value.slice aa A.length ca, .slice ab M.length cb, .slice aq Q.length cq, .slice ar R.length cr, .slice ai I.length ci, .slice at' (tr xs).length ct].getD j undef) (fun j => [A.length, M.length, Q.length, R.length, I.length, (tr xs).length].getD j 0)
      (fun j => [w2.heap.size, w3.heap.size, b', w4.heap.size, w5.heap.size, w6.heap.size].getD j 0) (fun j => [w3.heap.size, w4.heap.size, w5.heap.size, b', w6.heap.size, w7.heap.size].getD j 0) w7.heap.size 0
      (w7.alloc (.cells #[.slice aa A.length ca, .slice ab M.length cb, .slice aq Q.length cq, .slice ar R.length cr, .slice ai I.length ci, .slice at' (tr xs).length ct] 22))) := by
    refine ⟨fun j _ hj => ?_, cells6 w7 _ _ _ _ _ _ _, by simp⟩
    obtain rfl | rfl | rfl | rfl | rfl | rfl : j = 0 ∨ j = 1 ∨ j = 2 ∨ j = 3 ∨ j = 4 ∨ j = 5 := by omega
    · exact ⟨A, own_below (own_below (own_below (own_below (own_below oa b4) b5) b6) b7) hal⟩
    · exact ⟨M, own_below (own_below (own_below (own_below ob b5) b6) b7) hal⟩
    · exact ⟨Q, own_below (own_below (own_below oq b6) b7) hal⟩
    · exact ⟨R, own_below (own_below (own_below or' b6) b7) hal⟩
    · exact ⟨I, own_below (own_below oi b7) hal⟩
    · exact ⟨tr xs, own_below ot hal⟩
  have hNl : Hid (∀ j, j < 6 → (fun j => [A.length, M.length, Q.length, R.length, I.length, (tr xs).length].getD j 0) j ≤ 17592186043904) := six_cases WA.out.1 WM.out.1 (WQ.out Q R hS).1 (WQ.out Q R hS).2 WI.out (by show (tr xs).length ≤ _; omega)
  have B8 := hide (Below.next B7 hal)
  clear oa ob oq or' oi ot hal b3 b4 b5 b6 b7 B3 B4 B5 B6 B7 hbb hwb hS GA GD GI GT
  obtain ⟨V, hV⟩ : ∃ V : Nat → Value, (fun j => [Value.slice aa A.length ca, .slice ab M.length cb, .slice aq Q.length cq, .slice ar R.length cr, .slice ai I.length ci, .slice at' (tr xs).length ct].getD j undef) = V := ⟨_, rfl⟩
  obtain ⟨n, hn⟩ : ∃ n : Nat → Nat, (fun j => [A.length, M.length, Q.length, R.length, I.length, (tr xs).length].getD j 0) = n := ⟨_, rfl⟩
  obtain ⟨lo, hlo⟩ : ∃ lo : Nat → Nat, (fun j => [w2.heap.size, w3.heap.size, b', w4.heap.size, w5.heap.size, w6.heap.size].getD j 0) = lo := ⟨_, rfl⟩
  obtain ⟨hi, hhi⟩ : ∃ hi : Nat → Nat, (fun j => [w3.heap.size, w4.heap.size, w5.heap.size, b', w6.heap.size, w7.heap.size].getD j 0) = hi := ⟨_, rfl⟩
  rw [hV, hn, hlo, hhi] at hS6
  rw [hV, hlo, hhi] at hAp
  rw [hn] at hNl
  have HAp := hide hAp
  clear hV hn hlo hhi hAp hb1' hb2' hb3' s3 s4 s5 s6
  go_wp2
  go_loopw [20] (fun vk wr => ∃ k : Nat, k ≤ 6 ∧ vk = .int .i64 k ∧ Hid (Six V n lo hi w7.heap.size k wr) ∧ Hid (Below w2.heap.size w2 wr)) (fun vk _ => 6 - (intOf vk).toNat)
  case atStart => exact ⟨0, by omega, rfl, hS6, B8⟩
  case round =>
    clear hS6 B8
    obtain ⟨k, hk, rfl, HS, HB⟩ := hrel
    by_cases hlt : k < 6
    · obtain ⟨zs, hO⟩ := HS.out.1 k (Nat.le_refl _) hlt
      have hck := HS.out.2.1 k hlt
      have hlo := (HAp.out.2.2 k hlt).1
      have hsz := HB.out.size
      have hlg := (HAp.out.2.2 k hlt).2.2
      have hg7 := HS.out.2.2
      have hbk : Hid (∀ j, (V k).ownBlock = some j → w2.heap.size ≤ j) := fun j hj => Nat.le_trans hlo (HAp.out.1 k j hlt hj).1
      have hsp := hide (Spoil_mark (V k) (n k) (lo k) zs (50 * (k : Int) + 3) wr (by omega) (by omega) hO (hNl.out k hlt) (by omega))
      have k0 : (0 : Int) ≤ (k : Int) := Int.natCast_nonneg _
      have k1 : (k : Int) < 6 := by omega
      clear hO
      generalize hvk : V k = vk at *
      have HVK := hide hvk
      clear hvk
      go_wp2_with (go_at_call 10; refine hsp.out.mono ?_; rintro e w8 ⟨rfl, hg⟩)
      have HN := hide (HS.out.next HAp.out hlt (by rw [HVK.out]; exact hg))
      have HB2 := hide (HB.out.grown hg hsz hbk.out)
      go_roundw
      case rel => exact ⟨k + 1, by omega, by go_num, HN, HB2⟩
      case measure => simp [intOf]; omega
    · obtain rfl : k = 6 := by omega
      clear HS HAp hNl
      have HBw := hide (hb2.trans (HB.out.mono hb2.size))
      go_wp2_with fail
      refine (GM.out _ HB.out).mono ?_; rintro e w9 ⟨um, rfl, om, b9⟩
      have rm := hide (WM.out.row om).1
      have HB9 := hide (Below.next HB.out b9)
      have HBw9 := hide (Below.next HBw.out b9)
      clear om b9
      go_wp2_with fail
      refine (DM.out _ HBw9.out).mono ?_; rintro e w10 ⟨un, rfl, on, b10⟩
      have rm := hide (rm.out.below b10)
      have rn := hide (WM.out.row on).1
      have HB10 := hide (Below.next HB9.out b10)
      have HBw10 := hide (Below.next HBw9.out b10)
      clear on b10
      go_wp2_with fail
      refine (ga.out _).mono ?_; rintro e w11 ⟨rfl, b11⟩
      have rm := hide (rm.out.below b11)
      have rn := hide (rn.out.below b11)
      have HB11 := hide (Below.next HB10.out b11)
      have HBw11 := hide (Below.next HBw10.out b11)
      clear b11
      go_wp2_with fail
      refine (Same_yes _ _ xs _ (rx.out.below HB11.out).1 (H1.out.below HBw11.out).1).mono ?_; rintro e w12 ⟨rfl, b12⟩
      have rm := hide (rm.out.below b12)
      have rn := hide (rn.out.below b12)
      have HB12 := hide (Below.next HB11.out b12)
      have HBw12 := hide (Below.next HBw11.out b12)
      clear b12
      go_wp2_with fail
      refine (Same_yes _ _ ys _ (ry.out.below HB12.out).1 (H2.out.below HBw12.out).1).mono ?_; rintro e w13 ⟨rfl, b13⟩
      have rm := hide (rm.out.below b13)
      have rn := hide (rn.out.below b13)
      have HBw13 := hide (Below.next HBw12.out b13)
      clear b13
      go_wp2_with fail
      refine (Same_yes _ _ M _ rm.out rn.out).mono ?_; rintro e w14 ⟨rfl, b14⟩
      go_wp2
      go_ret
      exact ⟨by simp, Below.next HBw13.out b14⟩

end Go.Proofs.Ytdegpefhegmamab
