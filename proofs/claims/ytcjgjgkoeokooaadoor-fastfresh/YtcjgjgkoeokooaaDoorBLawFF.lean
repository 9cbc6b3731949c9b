/-
  FastFresh's walk: what is handed in stays, and what is answered is new memory.
-/
import Derived.Test.YtcjgjgkoeokooaaDoorBLawFE
namespace Go.Proofs.YtcjgjgkoeokooaaDoor
open Go.RowKit Fld
set_option linter.unusedVariables false

set_option maxRecDepth 100000 in
set_option maxHeartbeats 200000 in
theorem small_less (f p : Int) (wd : Bool) (v1 v2 : Value) (xs ys : List Int) (w : World) (h : Fi f p wd) (h1 : Rw w v1 xs) (h2 : Rw w v2 ys) (hx : Els p xs) (hy : Els p ys) (t1 : tr xs = xs) (t2 : tr ys = ys) (hl : xs.length ≤ 64 ∧ ys.length ≤ 64) (hc : xs.length < ys.length) :
    Calls Tryd.prog 30 #[.int .u8 f, v1, v2] w fun e w' => ∃ v', e = .returned v' ∧ w'.ownsRow w.heap.size 39 1 v' (prd p xs ys).length (vals (prd p xs ys)) ∧ Below w.heap.size w w' := by
  have HM := hide (mul_hv f p wd v1 v2 xs ys w h h1 h2 hx hy (by omega))
  have HH := hide (halves_any f p wd v1 v2 xs ys w h h1 h2 hx hy (by omega))
  have HV1 := hide (fun zs (hv : HV p xs ys zs) => hv.only h.md hx hy t1 t2)
  unfold Hs at HH
  obtain ⟨a1, c1, rfl, k1⟩ := h1.spell
  obtain ⟨a2, c2, rfl, k2⟩ := h2.spell
  clear h1 h2 h hx hy t1 t2
  by_cases hf : xs.length ≤ 32
  · have hd : decide ((xs.length : Int) ≤ 32) = true := decide_eq_true (by omega)
    clear HH
    go_enter Tryd.func30, Tryd.ntmps30
    go_wp2_with (go_at_call 47; refine HM.out.mono ?_; rintro e w1 ⟨u, zs, rfl, hv, hO, hb⟩; have V := hide hv; have O := hide hO; clear hv hO)
    go_ret
    have := HV1.out _ V.out
    exact ⟨_, rfl, by rw [← this]; exact O.out, hb⟩
  · have hd1 : decide ((xs.length : Int) ≤ 32) = false := decide_eq_false (by omega)
    have hd : decide ((xs.length : Int) ≤ 64) = true := decide_eq_true (by omega)
    clear HM
    go_enter Tryd.func30, Tryd.ntmps30
    go_wp2_with (go_at_call 29; refine HH.out.mono ?_; rintro e w1 ⟨u, zs, rfl, hv, hO, hb⟩; have V := hide hv; have O := hide hO; clear hv hO)
    go_ret
    have := HV1.out _ V.out
    exact ⟨_, rfl, by rw [← this]; exact O.out, hb⟩

set_option maxRecDepth 100000 in
set_option maxHeartbeats 200000 in
theorem small_more (f p : Int) (wd : Bool) (v1 v2 : Value) (xs ys : List Int) (w : World) (h : Fi f p wd) (h1 : Rw w v1 xs) (h2 : Rw w v2 ys) (hx : Els p xs) (hy : Els p ys) (t1 : tr xs = xs) (t2 : tr ys = ys) (hl : xs.length ≤ 64 ∧ ys.length ≤ 64) (hc : ¬ xs.length < ys.length) :
    Calls Tryd.prog 30 #[.int .u8 f, v1, v2] w fun e w' => ∃ v', e = .returned v' ∧ w'.ownsRow w.heap.size 39 1 v' (prd p xs ys).length (vals (prd p xs ys)) ∧ Below w.heap.size w w' := by
  have HM := hide (mul_hv f p wd v1 v2 xs ys w h h1 h2 hx hy (by omega))
  have HH := hide (halves_any f p wd v1 v2 xs ys w h h1 h2 hx hy (by omega))
  have HV1 := hide (fun zs (hv : HV p xs ys zs) => hv.only h.md hx hy t1 t2)
  unfold Hs at HH
  obtain ⟨a1, c1, rfl, k1⟩ := h1.spell
  obtain ⟨a2, c2, rfl, k2⟩ := h2.spell
  clear h1 h2 h hx hy t1 t2
  by_cases hf : ys.length ≤ 32
  · have hd : decide ((ys.length : Int) ≤ 32) = true := decide_eq_true (by omega)
    clear HH
    go_enter Tryd.func30, Tryd.ntmps30
    go_wp2_with (go_at_call 47; refine HM.out.mono ?_; rintro e w1 ⟨u, zs, rfl, hv, hO, hb⟩; have V := hide hv; have O := hide hO; clear hv hO)
    go_ret
    have := HV1.out _ V.out
    exact ⟨_, rfl, by rw [← this]; exact O.out, hb⟩
  · have hd1 : decide ((ys.length : Int) ≤ 32) = false := decide_eq_false (by omega)
    have hd : decide ((ys.length : Int) ≤ 64) = true := decide_eq_true (by omega)
    clear HM
    go_enter Tryd.func30, Tryd.ntmps30
    go_wp2_with (go_at_call 29; refine HH.out.mono ?_; rintro e w1 ⟨u, zs, rfl, hv, hO, hb⟩; have V := hide hv; have O := hide hO; clear hv hO)
    go_ret
    have := HV1.out _ V.out
    exact ⟨_, rfl, by rw [← this]; exact O.out, hb⟩

set_option maxHeartbeats 200000 in
/-- Of short lists Mul answers a list of its own. -/
theorem fMul_small (f p : Int) (wd : Bool) (v1 v2 : Value) (xs ys : List Int) (w : World) (h : Fi f p wd) (h1 : Rw w v1 xs) (h2 : Rw w v2 ys) (hxe : Els p xs) (hye : Els p ys) (hl : xs.length ≤ 64 ∧ ys.length ≤ 64) : Gives 10 #[.int .u8 f, v1, v2] w (mulL f xs ys) 0 := by
  have he := er_els h hxe hye (by omega) (by omega)
  have HF := hide (factors_in f _ _ xs ys w h1 h2 he)
  have n1 := tr_len xs
  have n2 := tr_len ys
  have hm : ¬ 4096 < (tr xs).length + (tr ys).length - 1 := by omega
  obtain ⟨q1, q2⟩ := mul_yes h hxe hye (by omega)
  rw [q2]
  have hx := hxe.tr h.pos
  have hy := hye.tr h.pos
  have HH := hide (fun W u1 u2 (r1 : Rw W u1 (tr xs)) (r2 : Rw W u2 (tr ys)) => show Calls Tryd.prog 30 #[.int .u8 f, u1, u2] W fun e w' => ∃ v', e = .returned v' ∧ w'.ownsRow W.heap.size 39 1 v' (prd p (tr xs) (tr ys)).length (vals (prd p (tr xs) (tr ys))) ∧ Below W.heap.size W w' from by
    by_cases hc : (tr xs).length < (tr ys).length
    · exact small_less f p wd u1 u2 (tr xs) (tr ys) W h r1 r2 hx hy (tr_tr xs) (tr_tr ys) (by omega) hc
    · exact small_more f p wd u1 u2 (tr xs) (tr ys) W h r1 r2 hx hy (tr_tr xs) (tr_tr ys) (by omega) hc)
  obtain ⟨a1, c1, rfl, _⟩ := h1.spell
  obtain ⟨a2, c2, rfl, _⟩ := h2.spell
  clear h1 h2 hx hy h hxe hye he q1 q2
  show Calls _ _ _ _ _
  go_enter Tryd.func10, Tryd.ntmps10
  go_wp2_with fail
  refine HF.out.mono ?_; rintro e w1 ⟨⟨hc, _⟩ | ⟨_, u1, u2, rfl, r1, r2⟩, hb⟩
  · exact absurd hc hm
  · have HK := hide (HH.out _ _ _ r1 r2)
    clear r1 r2
    go_wp2_with (go_at_call 30; refine HK.out.mono ?_; rintro e w2 ⟨u3, rfl, o3, hb3⟩; have O := hide o3; clear o3)
    go_ret2
    exact ⟨_, rfl, own_mono O.out hb.size, Below.next hb hb3⟩

/-- The five answers: lists of the calls' own, from the k-th on; where each lies; the list that holds them, at the block g. -/
def Fiv (v : Nat → Value) (n lo hi : Nat → Nat) (g k : Nat) (wr : World) : Prop :=
  (∀ j, k ≤ j → j < 5 → ∃ zs, wr.ownsRow (lo j) 39 1 (v j) (n j) (vals zs)) ∧ (∀ j, j < 5 → wr.cell? ⟨g, j, none⟩ = some (v j)) ∧ g < wr.heap.size
def FApart (v : Nat → Value) (lo hi : Nat → Nat) (B g : Nat) : Prop :=
  (∀ j k, j < 5 → (v j).ownBlock = some k → lo j ≤ k ∧ k < hi j) ∧ (∀ i j, i < 5 → j < 5 → i ≠ j → hi i ≤ lo j ∨ hi j ≤ lo i) ∧ (∀ j, j < 5 → B ≤ lo j ∧ hi j ≤ g ∧ lo j ≤ g)
theorem Fiv.next {v : Nat → Value} {n lo hi : Nat → Nat} {g k B : Nat} {wr w' : World} (hA : FApart v lo hi B g) (h : Fiv v n lo hi g k wr) (hk : k < 5) (hg : wr.grownBy w' (v k).ownBlock) : Fiv v n lo hi g (k + 1) w' := by
  obtain ⟨h1, h2, h3⟩ := h
  obtain ⟨a1, a2, a3⟩ := hA
  refine ⟨fun j hj hj6 => ?_, fun j hj => ?_, Nat.lt_of_lt_of_le h3 hg.size⟩
  · obtain ⟨zs, hO⟩ := h1 j (by omega) hj6
    refine ⟨zs, hO.kept hg ?_⟩
    cases hb : (v j).ownBlock with
    | none => exact .inl rfl
    | some b =>
      right
      intro hc
      have e1 := a1 j b hj6 hb
      have e2 := a1 k b hk hc.symm
      rcases a2 j k hj6 hk (by omega) with h | h <;> omega
  · refine hg.cell (h2 j hj) ?_
    intro hc
    have e2 := a1 k g hk hc.symm
    have := (a3 k hk).2.1
    omega
theorem five_cases {P : Nat → Prop} (h0 : P 0) (h1 : P 1) (h2 : P 2) (h3 : P 3) (h4 : P 4) : ∀ j, j < 5 → P j := by
  intro j hj
  obtain rfl | rfl | rfl | rfl | rfl : j = 0 ∨ j = 1 ∨ j = 2 ∨ j = 3 ∨ j = 4 := by omega
  all_goals assumption
theorem cells5 (w : World) (a b c d e : Value) (T : TypeId) : ∀ j, j < 5 → (w.alloc (.cells #[a, b, c, d, e] T)).cell? ⟨w.heap.size, j, none⟩ = some ([a, b, c, d, e].getD j undef) :=
  five_cases (by simp [go_sem]) (by simp [go_sem]) (by simp [go_sem]) (by simp [go_sem]) (by simp [go_sem])

set_option maxRecDepth 100000 in
set_option maxHeartbeats 1000000 in
theorem ffresh_any (f : Int) (v1 v2 : Value) (xs ys : List Int) (w : World) (hf : 0 ≤ f ∧ f ≤ 255) (h1 : Rw w v1 xs) (h2 : Rw w v2 ys) (hT : Tb w) :
    Calls Tryd.prog 8 #[.int .u8 f, v1, v2] w fun e w' => e = .returned (.bool true) ∧ Below w.heap.size w w' := by
  obtain ⟨p, wd, LL, gb, hB⟩ := pick_lb f hf.1
  have hp0 := hB.fi.pos
  have hp1 := hB.fi.top
  have L1 := hide (flist_any f p wd v1 xs 6 w hf hB.fi (by decide) h1)
  have L2 := hide (fun W (hb : Below w.heap.size w W) => flist_any f p wd v2 ys 6 W hf hB.fi (by decide) (h2.below hb))
  have GT := hide (fun W v zs (r : Rw W v zs) (hb : Below w.heap.size w W) => fTransform_any (pick f) v zs W r (hT.below hb))
  have GB := hide (fun W v zs (r : Rw W v zs) (hb : Below w.heap.size w W) => fBack_any (pick f) v zs W r (hT.below hb))
  have GR := hide (fun W u v zs us (r : Rw W u zs) (s : Rw W v us) (hb : Below w.heap.size w W) => fRound_any (pick f) u v zs us W r s (hT.below hb))
  have GS := hide (fun W u v zs us (r : Rw W u zs) (s : Rw W v us) (e1 : Els p zs) (e2 : Els p us) hl => fMul_small (pick f) p wd u v zs us W hB.fi r s e1 e2 hl)
  have GM := hide (fun W u v zs us (r : Rw W u zs) (s : Rw W v us) (hb : Below w.heap.size w W) => fMul_any (pick f) u v zs us W r s (hT.below hb))
  have GK := hide (fun W u v zs us (r : Rw W u zs) (s : Rw W v us) => fKara_any (pick f) u v zs us W r s)
  have GD := hide (fun W u v zs us (r : Rw W u zs) (s : Rw W v us) => dMul_any (pick f) u v zs us W r s)
  have ga := hide (fun W (hb : Below w.heap.size w W) => anch4 W (hT.below hb))
  have WT := hide (fun zs => trL_wd (pick f) zs)
  have WB := hide (fun zs => bkL_wd (pick f) zs)
  have WR := hide (fun zs us => rdM_wd (pick f) zs us)
  have WM := hide (fun zs us => mulL_wd (pick f) zs us)
  unfold Gives at GT GB GR GS GK GD
  unfold Gets at GM
  obtain ⟨a1, c1, rfl, _⟩ := h1.spell
  obtain ⟨a2, c2, rfl, _⟩ := h2.spell
  clear h1 h2 hT hB
  generalize pick f = g at *
  go_enter Tryd.func8, Tryd.ntmps8
  go_wp2_with fail
  refine L1.out.mono ?_; rintro e w1 ⟨K1, b1, n1, rfl, hK1, hn1, o1, hs1, hb1⟩
  have hle1 : n1 ≤ 64 := by rw [hn1]; exact Nat.pow_le_pow_right (n := 2) (by decide) hK1
  obtain ⟨A, HA⟩ : ∃ A, Hid (lsL p n1 xs = A) := ⟨_, rfl⟩
  have EA : Hid (Els p A) := by rw [← HA.out]; exact els_lsL hp0 n1 xs
  have LA : Hid (A.length = n1) := by rw [← HA.out]; exact lsL_len p n1 xs
  rw [HA.out] at o1
  have RA := hide (rw_of_own o1 (by rw [LA.out]; omega) (els_words EA.out hp1))
  clear o1 hn1 HA
  go_wp2_with fail
  refine (L2.out _ hb1).mono ?_; rintro e w2 ⟨K2, b2, n2, rfl, hK2, hn2, o2, hs2, hb⟩
  have hle2 : n2 ≤ 64 := by rw [hn2]; exact Nat.pow_le_pow_right (n := 2) (by decide) hK2
  obtain ⟨B, HB⟩ : ∃ B, Hid (lsL p n2 ys = B) := ⟨_, rfl⟩
  have EB : Hid (Els p B) := by rw [← HB.out]; exact els_lsL hp0 n2 ys
  have LB : Hid (B.length = n2) := by rw [← HB.out]; exact lsL_len p n2 ys
  rw [HB.out] at o2
  have RB := hide (rw_of_own o2 (by rw [LB.out]; omega) (els_words EB.out hp1))
  have RA := hide (RA.out.below hb)
  have hb2 := Below.next hb1 hb
  clear o2 hn2 HB hb hb1
  have WA : Hid (Wd A) := ⟨by rw [LA.out]; omega, els_words EA.out hp1⟩
  have WB' : Hid (Wd B) := ⟨by rw [LB.out]; omega, els_words EB.out hp1⟩
  go_wp2_with fail
  refine (Copy_any _ A w2 RA.out.1).mono ?_; rintro e w3 ⟨vx, rfl, ox, hb⟩
  have rx := hide (WA.out.row ox)
  have RA := hide (RA.out.below hb)
  have RB := hide (RB.out.below hb)
  have hb3 := Below.next hb2 hb
  clear ox hb hb2
  go_wp2_with fail
  refine (Copy_any _ B w3 RB.out.1).mono ?_; rintro e w4 ⟨vy, rfl, oy, hb⟩
  have ry := hide (WB'.out.row oy)
  have rx := hide (rx.out.below hb)
  have RA := hide (RA.out.below hb)
  have RB := hide (RB.out.below hb)
  have hb4 := Below.next hb3 hb
  clear oy hb hb3
  have hll : Hid (A.length ≤ 64 ∧ B.length ≤ 64) := by show _ ∧ _; rw [LA.out, LB.out]; omega
  go_wp2_with fail
  refine (GT.out _ _ _ rx.out hb4).mono ?_; rintro e w5 ⟨vt, rfl, ot, b5⟩
  have B5 := b5
  go_wp2_with fail
  refine (GB.out _ _ _ (rx.out.below B5) (Below.next hb4 B5)).mono ?_; rintro e w6 ⟨vu, rfl, ou, b6⟩
  have B6 := Below.next B5 b6
  go_wp2_with fail
  refine (GS.out _ _ _ _ _ (rx.out.below B6) (ry.out.below B6) EA.out EB.out hll.out).mono ?_; rintro e w7 ⟨vp, rfl, op, b7⟩
  have B7 := Below.next B6 b7
  go_wp2_with fail
  refine (GK.out _ _ _ _ _ (rx.out.below B7) (ry.out.below B7)).mono ?_; rintro e w8 ⟨vk, rfl, ok, b8⟩
  have B8 := Below.next B7 b8
  go_wp2_with fail
  refine (GR.out _ _ _ _ _ (rx.out.below B8) (rx.out.below B8) (Below.next hb4 B8)).mono ?_; rintro e w9 ⟨vr, rfl, or', b9⟩
  have B9 := Below.next B8 b9
  have s5 := b5.size
  have s6 := b6.size
  have s7 := b7.size
  have s8 := b8.size
  have s9 := b9.size
  obtain ⟨at', ct, rfl⟩ := own_spell ot
  obtain ⟨au, cu, rfl⟩ := own_spell ou
  obtain ⟨ap, cp', rfl⟩ := own_spell op
  obtain ⟨ak, ck, rfl⟩ := own_spell ok
  obtain ⟨ar, cr, rfl⟩ := own_spell or'
  have LT := hide (WT.out A).1
  have LU := hide (WB.out A).1
  have LM := hide (WM.out A B).1
  have LR := hide (WR.out A A).1
  have GM2 := hide (fun W (hb : Below w4.heap.size w4 W) => GM.out W _ _ _ _ (rx.out.below hb) (ry.out.below hb) (Below.next hb4 hb))
  have GD2 := hide (fun W (hb : Below w4.heap.size w4 W) => GD.out W _ _ _ _ (RA.out.below hb) (RB.out.below hb))
  have WM2 := hide (WM.out A B)
  clear GT GB GR GS GK GM GD
  generalize trL g A = T1 at *
  generalize bkL g A = T2 at *
  generalize mulL g A B = M1 at *
  generalize rdM g A A = T4 at *
  generalize mulE g A B = e1 at *
  have hAp : FApart (fun j => [Value.slice at' T1.length ct, .slice au T2.length cu, .slice ap M1.length cp', .slice ak M1.length ck, .slice ar T4.length cr].getD j undef) (fun j => [w4.heap.size, w5.heap.size, w6.heap.size, w7.heap.size, w8.heap.size].getD j 0) (fun j => [w5.heap.size, w6.heap.size, w7.heap.size, w8.heap.size, w9.heap.size].getD j 0) w4.heap.size w9.heap.size := by
    refine ⟨fun j k hj => ?_, fun i j hi hj => ?_, fun j hj => ?_⟩
    · intro hk
      obtain rfl | rfl | rfl | rfl | rfl : j = 0 ∨ j = 1 ∨ j = 2 ∨ j = 3 ∨ j = 4 := by omega
      · exact ot.lt k hk
      · exact ou.lt k hk
      · exact op.lt k hk
      · exact ok.lt k hk
      · exact or'.lt k hk
    · obtain rfl | rfl | rfl | rfl | rfl : i = 0 ∨ i = 1 ∨ i = 2 ∨ i = 3 ∨ i = 4 := by omega
      all_goals
        obtain rfl | rfl | rfl | rfl | rfl : j = 0 ∨ j = 1 ∨ j = 2 ∨ j = 3 ∨ j = 4 := by omega
        all_goals (simp; try omega)
    · obtain rfl | rfl | rfl | rfl | rfl : j = 0 ∨ j = 1 ∨ j = 2 ∨ j = 3 ∨ j = 4 := by omega
      all_goals (simp; try omega)
  have hal := alloc_below w9 (.cells #[Value.slice at' T1.length ct, .slice au T2.length cu, .slice ap M1.length cp', .slice ak M1.length ck, .slice ar T4.length cr] 22)
  have hS5 : Hid (Fiv (fun j => [Value.slice at' T1.length ct, .slice au T2.length cu, .slice ap M1.length cp', .slice ak M1.length ck, .slice ar T4.length cr].getD j undef) (fun j => [T1.length, T2.length, M1.length, M1.length, T4.length].getD j 0) (fun j => [w4.heap.size, w5.heap.size, w6.heap.size, w7.heap.size, w8.heap.size].getD j 0) (fun j => [w5.heap.size, w6.heap.size, w7.heap.size, w8.heap.size, w9.heap.size].getD j 0) w9.heap.size 0 (w9.alloc (.cells #[Value.slice at' T1.length ct, .slice au T2.length cu, .slice ap M1.length cp', .slice ak M1.length ck, .slice ar T4.length cr] 22))) := by
    refine ⟨fun j _ hj => ?_, cells5 w9 _ _ _ _ _ _, by simp⟩
    obtain rfl | rfl | rfl | rfl | rfl : j = 0 ∨ j = 1 ∨ j = 2 ∨ j = 3 ∨ j = 4 := by omega
    · exact ⟨T1, own_below (own_below (own_below (own_below (own_below ot b6) b7) b8) b9) hal⟩
    · exact ⟨T2, own_below (own_below (own_below (own_below ou b7) b8) b9) hal⟩
    · exact ⟨M1, own_below (own_below (own_below op b8) b9) hal⟩
    · exact ⟨M1, own_below (own_below ok b9) hal⟩
    · exact ⟨T4, own_below or' hal⟩
  have hNl : Hid (∀ j, j < 5 → (fun j => [T1.length, T2.length, M1.length, M1.length, T4.length].getD j 0) j ≤ 17592186043904) := five_cases LT.out LU.out LM.out LM.out LR.out
  have BA := hide (Below.next B9 hal)
  clear ot ou op ok or' hal b5 b6 b7 b8 b9 B5 B6 B7 B8 B9
  obtain ⟨V, hV⟩ : ∃ V : Nat → Value, (fun j => [Value.slice at' T1.length ct, .slice au T2.length cu, .slice ap M1.length cp', .slice ak M1.length ck, .slice ar T4.length cr].getD j undef) = V := ⟨_, rfl⟩
  obtain ⟨n, hn⟩ : ∃ n : Nat → Nat, (fun j => [T1.length, T2.length, M1.length, M1.length, T4.length].getD j 0) = n := ⟨_, rfl⟩
  obtain ⟨lo, hlo⟩ : ∃ lo : Nat → Nat, (fun j => [w4.heap.size, w5.heap.size, w6.heap.size, w7.heap.size, w8.heap.size].getD j 0) = lo := ⟨_, rfl⟩
  obtain ⟨hi, hhi⟩ : ∃ hi : Nat → Nat, (fun j => [w5.heap.size, w6.heap.size, w7.heap.size, w8.heap.size, w9.heap.size].getD j 0) = hi := ⟨_, rfl⟩
  rw [hV, hn, hlo, hhi] at hS5
  rw [hV, hlo, hhi] at hAp
  rw [hn] at hNl
  have HAp := hide hAp
  clear hV hn hlo hhi hAp s5 s6 s7 s8
  go_wp2
  go_loopw [24] (fun vk wr => ∃ k : Nat, k ≤ 5 ∧ vk = .int .i64 k ∧ Hid (Fiv V n lo hi w9.heap.size k wr) ∧ Hid (Below w4.heap.size w4 wr)) (fun vk _ => 5 - (intOf vk).toNat)
  case atStart => exact ⟨0, by omega, rfl, hS5, BA⟩
  case round =>
    clear hS5 BA
    obtain ⟨k, hk, rfl, HS, HB⟩ := hrel
    by_cases hlt : k < 5
    · obtain ⟨zs, hO⟩ := HS.out.1 k (Nat.le_refl _) hlt
      have hck := HS.out.2.1 k hlt
      have hlo := (HAp.out.2.2 k hlt).1
      have hsz := HB.out.size
      have hlg := (HAp.out.2.2 k hlt).2.2
      have hg7 := HS.out.2.2
      have hbk : Hid (∀ j, (V k).ownBlock = some j → w4.heap.size ≤ j) := fun j hj => Nat.le_trans hlo (HAp.out.1 k j hlt hj).1
      have hsp := hide (Spoil_mark (V k) (n k) (lo k) zs (30 * (k : Int) + 1) wr (by omega) (by omega) hO (hNl.out k hlt) (by omega))
      have k0 : (0 : Int) ≤ (k : Int) := Int.natCast_nonneg _
      have k1 : (k : Int) < 5 := by omega
      clear hO
      generalize hvk : V k = vk at *
      have HVK := hide hvk
      clear hvk
      go_wp2_with (go_at_call 27; refine hsp.out.mono ?_; rintro e wz ⟨rfl, hg⟩)
      have HN := hide (HS.out.next HAp.out hlt (by rw [HVK.out]; exact hg))
      have HB2 := hide (HB.out.grown hg hsz hbk.out)
      go_roundw
      case rel => exact ⟨k + 1, by omega, by go_num, HN, HB2⟩
      case measure => simp [intOf]; omega
    · obtain rfl : k = 5 := by omega
      clear HS HAp hNl
      have HBw := hide (hb4.trans (HB.out.mono hb4.size))
      go_wp2_with fail
      refine (GM2.out _ HB.out).mono ?_; rintro e wa ⟨um, rfl, om, ba⟩
      have rm := hide om.1
      have HBa := hide (Below.next HB.out ba)
      have HBwa := hide (Below.next HBw.out ba)
      clear om ba
      go_wp2_with fail
      refine (GD2.out _ HBa.out).mono ?_; rintro e wb ⟨un, rfl, on, bb⟩
      have rm := hide (rm.out.below bb)
      have rn := hide (WM2.out.row on).1
      have HBb := hide (Below.next HBa.out bb)
      have HBwb := hide (Below.next HBwa.out bb)
      clear on bb
      go_wp2_with fail
      refine (ga.out _ HBwb.out).mono ?_; rintro e wc ⟨rfl, bc⟩
      have rm := hide (rm.out.below bc)
      have rn := hide (rn.out.below bc)
      have HBc := hide (Below.next HBb.out bc)
      have HBwc := hide (Below.next HBwb.out bc)
      clear bc
      go_wp2_with fail
      refine (Same_yes _ _ A _ (rx.out.below HBc.out).1 (RA.out.below HBc.out).1).mono ?_; rintro e wd' ⟨rfl, bd⟩
      have rm := hide (rm.out.below bd)
      have rn := hide (rn.out.below bd)
      have HBd := hide (Below.next HBc.out bd)
      have HBwd := hide (Below.next HBwc.out bd)
      clear bd
      go_wp2_with fail
      refine (Same_yes _ _ B _ (ry.out.below HBd.out).1 (RB.out.below HBd.out).1).mono ?_; rintro e we ⟨rfl, be⟩
      have rm := hide (rm.out.below be)
      have rn := hide (rn.out.below be)
      have HBwe := hide (Below.next HBwd.out be)
      clear be
      go_wp2_with fail
      refine (Same_yes _ _ M1 _ rm.out rn.out).mono ?_; rintro e wf ⟨rfl, bf⟩
      go_wp2
      go_ret
      exact ⟨by simp, Below.next HBwe.out bf⟩

end Go.Proofs.YtcjgjgkoeokooaaDoor
