/-
  Euclid: EuclidMade and EuclidInverts, walked.
-/
import Derived.Test.YtdgcnockccjdjaaBLawEA
namespace Go.Proofs.Ytdgcnockccjdjaa
open Go.RowKit Fld
set_option linter.unusedVariables false

set_option maxHeartbeats 200000 in
theorem usual_any (f : Int) (v1 v2 : Value) (a b : List Int) (w : World) (h1 : Rw w v1 a) (h2 : Rw w v2 b) :
    Calls Try.prog 19 #[.int .u8 f, v1, v2] w fun e w' => e = .returned (.tuple #[.int .u8 f, .bool (decide (chE f a b = 0))]) ∧ w' = w := by
  have hk := hide (rBad_any f v1 v2 a b w h1 h2)
  obtain ⟨a1, c1, rfl, _⟩ := h1.spell
  obtain ⟨a2, c2, rfl, _⟩ := h2.spell
  have l1 := h1.len
  have l2 := h2.len
  clear h1 h2
  by_cases he : er f a b = 0
  · rw [he] at hk
    by_cases hn : a.length ≤ 2048
    · by_cases hm : b.length ≤ 2048
      · have hc : chE f a b = 0 := by unfold chE; rw [he, if_neg (by decide), if_neg (by omega)]
        rw [hc]
        clear hc he
        generalize a.length = n1 at *
        generalize b.length = n2 at *
        have hn' : (n1 : Int) ≤ 2048 := by omega
        have hm' : (n2 : Int) ≤ 2048 := by omega
        go_enter Try.func19, Try.ntmps19
        go_wp2_with (go_at_call 22; refine hk.out.mono ?_; rintro e w1 ⟨rfl, hw⟩; rw [hw]; clear hw)
        go_ret2
        exact ⟨by simp, rfl⟩
      · have hc : chE f a b ≠ 0 := by unfold chE; rw [he, if_neg (by decide), if_pos (by omega)]; decide
        have hd : decide (chE f a b = 0) = false := decide_eq_false hc
        rw [hd]
        clear hc hd he
        generalize a.length = n1 at *
        generalize b.length = n2 at *
        have hn' : (n1 : Int) ≤ 2048 := by omega
        have hm' : ¬ (n2 : Int) ≤ 2048 := by omega
        go_enter Try.func19, Try.ntmps19
        go_wp2_with (go_at_call 22; refine hk.out.mono ?_; rintro e w1 ⟨rfl, hw⟩; rw [hw]; clear hw)
        go_ret2
        exact ⟨by simp; omega, rfl⟩
    · have hc : chE f a b ≠ 0 := by unfold chE; rw [he, if_neg (by decide), if_pos (by omega)]; decide
      have hd : decide (chE f a b = 0) = false := decide_eq_false hc
      rw [hd]
      clear hc hd he
      generalize a.length = n1 at *
      generalize b.length = n2 at *
      have hn' : ¬ (n1 : Int) ≤ 2048 := by omega
      go_enter Try.func19, Try.ntmps19
      go_wp2_with (go_at_call 22; refine hk.out.mono ?_; rintro e w1 ⟨rfl, hw⟩; rw [hw]; clear hw)
      go_ret2
      exact ⟨rfl, rfl⟩
  · have hc : chE f a b ≠ 0 := by rw [chE_ne he]; exact he
    have hd : decide (chE f a b = 0) = false := decide_eq_false hc
    have hb : (er f a b == 0) = false := beq_eq_false_iff_ne.2 he
    rw [hd]
    clear hc hd he
    generalize er f a b = e0 at *
    generalize a.length = n1 at *
    generalize b.length = n2 at *
    go_enter Try.func19, Try.ntmps19
    go_wp2_with (go_at_call 22; refine hk.out.mono ?_; rintro e w1 ⟨rfl, hw⟩; rw [hw]; clear hw)
    go_ret2
    exact ⟨rfl, rfl⟩

theorem mul_any' {f p : Int} {wd : Bool} (h : Fi f p wd) {xs ys : List Int} (hx : Els p xs) (hy : Els p ys) (l1 : xs.length ≤ 4096) (l2 : ys.length ≤ 4096) (l : xs.length + ys.length ≤ 4097) :
    mulE f xs ys = 0 ∧ Tm p (mulL f xs ys) ∧ pl p (mulL f xs ys) = qm (pl p xs) (pl p ys) ∧ (mulL f xs ys).length ≤ 4096 := by
  have he := er_yes h (allIn_of hx) (allIn_of hy) l1 l2
  have n1 := tr_len xs
  have n2 := tr_len ys
  have h0 : mulE f xs ys = 0 := by unfold mulE; rw [if_pos he, if_neg (by omega)]
  have e : mulL f xs ys = prd p (tr xs) (tr ys) := by unfold mulL; rw [h0, if_pos rfl, pOf_eq h]
  have hi := (is_prd h.md (hx.tr h.pos) (hy.tr h.pos) (tr_tr xs) (tr_tr ys)).tm
  exact ⟨h0, by rw [e]; exact hi.1, by rw [e, hi.2, ← pl_tr p xs, ← pl_tr p ys]; rfl, mulL_len f xs ys⟩
theorem add_facts {f p : Int} {wd : Bool} (h : Fi f p wd) {xs ys : List Int} (hx : Els p xs) (hy : Els p ys) (l1 : xs.length ≤ 4096) (l2 : ys.length ≤ 4096) :
    er f xs ys = 0 ∧ Tm p (addL f xs ys) ∧ pl p (addL f xs ys) = qa (pl p xs) (pl p ys) := by
  have he := er_yes h (allIn_of hx) (allIn_of hy) l1 l2
  have e : addL f xs ys = tr (sm p 1 xs ys) := by unfold addL; rw [if_pos he, pOf_eq h]
  have hi := (is_add h.pos xs ys).tm
  exact ⟨he, by rw [e]; exact hi.1, by rw [e]; exact hi.2⟩

/-- What a call of the document's Mul answers here. -/
theorem mul_call {f p : Int} {wd : Bool} (h : Fi f p wd) {xs ys : List Int} (hx : Els p xs) (hy : Els p ys) (l1 : xs.length ≤ 4096) (l2 : ys.length ≤ 4096) (l : xs.length + ys.length ≤ 4097) (W : World) (v1 v2 : Value) (r1 : Rw W v1 xs) (r2 : Rw W v2 ys) :
    Calls Try.prog 20 #[.int .u8 f, v1, v2] W fun e w' => ∃ v' M, e = .returned (.tuple #[v', .int .i64 0]) ∧ Rw w' v' M ∧ Tm p M ∧ M.length ≤ 4096 ∧ pl p M = qm (pl p xs) (pl p ys) ∧ Below W.heap.size W w' := by
  have hm := mul_any' h hx hy l1 l2 l
  have hc := dMul_any f v1 v2 xs ys W r1 r2
  unfold Gives at hc
  rw [hm.1] at hc
  exact hc.mono fun e w' ⟨v', he, hO, hb⟩ => ⟨v', _, he, (mulL_wd f xs ys).row hO, hm.2.1, hm.2.2.2, hm.2.2.1, hb⟩

theorem add_call {f p : Int} {wd : Bool} (h : Fi f p wd) {xs ys : List Int} (hx : Els p xs) (hy : Els p ys) (l1 : xs.length ≤ 4096) (l2 : ys.length ≤ 4096) (W : World) (v1 v2 : Value) (r1 : Rw W v1 xs) (r2 : Rw W v2 ys) :
    Calls Try.prog 21 #[.int .u8 f, v1, v2] W fun e w' => ∃ v' M, e = .returned (.tuple #[v', .int .i64 0]) ∧ Rw w' v' M ∧ Tm p M ∧ pl p M = qa (pl p xs) (pl p ys) ∧ Below W.heap.size W w' := by
  have hm := add_facts h hx hy l1 l2
  have hc := dAdd_any f v1 v2 xs ys W r1 r2
  unfold Gives at hc
  rw [hm.1] at hc
  exact hc.mono fun e w' ⟨v', he, hO, hb⟩ => ⟨v', _, he, (addL_wd f xs ys).row hO, hm.2.1, hm.2.2, hb⟩

theorem div_call {f p : Int} {wd : Bool} (h : Fi f p wd) {xs ys : List Int} (hx : Els p xs) (hy : Els p ys) (hn : tr ys ≠ []) (l1 : xs.length ≤ 4096) (l2 : ys.length ≤ 4096) (W : World) (v1 v2 : Value) (r1 : Rw W v1 xs) (r2 : Rw W v2 ys) :
    Calls Try.prog 23 #[.int .u8 f, v1, v2] W fun e w' => ∃ vq vr Q R, e = .returned (.tuple #[vq, vr, .int .i64 0]) ∧ Rw w' vq Q ∧ Rw w' vr R ∧ Dv p xs ys Q R ∧ Below W.heap.size W w' := by
  have he : divE f xs ys = 0 := by unfold divE; rw [er_yes h (allIn_of hx) (allIn_of hy) l1 l2, if_pos rfl, if_neg hn]
  have hc := dDivMod_any f v1 v2 xs ys W r1 r2
  unfold PartsD at hc
  rw [he] at hc
  exact hc.mono fun e w' ⟨vq, vr, Q, R, hE, hS, hOq, hOr, hb⟩ => by
    have hd := hS.dv h he
    have hw := dv_wd h.md h.top hy hd l1 l2
    exact ⟨vq, vr, Q, R, hE, hw.1.row hOq, hw.2.row hOr, hd, hb⟩

set_option maxRecDepth 100000 in
set_option maxHeartbeats 400000 in
theorem emade_any (f : Int) (v1 v2 : Value) (a b : List Int) (s : Int) (w : World) (h1 : Rw w v1 a) (h2 : Rw w v2 b) :
    Calls Try.prog 6 #[.int .u8 f, .agg #[v1, v2], .int .i64 s] w fun e w' => e = .returned (.bool true) ∧ Below w.heap.size w w' := by
  have hu := hide (fun W (hb : Below w.heap.size w W) => usual_any f v1 v2 a b W (h1.below hb) (h2.below hb))
  have g1 := hide (fun W (hb : Below w.heap.size w W) => ePartial_any f v1 v2 a b s W (h1.below hb) (h2.below hb))
  have hb0 := alloc_below w (.cells #[v1, v2] 23)
  by_cases he : stE f a b s = 0
  · obtain ⟨hs, hc⟩ := stE_zero he
    obtain ⟨p, wd, hf, i1, i2, la, lb⟩ := chE_zero hc
    have e1 := els_of i1 h1.words
    have e2 := els_of i2 h2.words
    have na := tr_len a
    have nb := tr_len b
    have HF : Hid (∀ B, PtE f a b s B → ∃ A, Fnd p s.toNat a b A B) := fun B hp => by
      obtain ⟨A, h⟩ := hp.2 he
      rw [pOf_eq hf] at h; exact ⟨A, h⟩
    have HMd := hide (fun A B (hv : Fnd p s.toNat a b A B) => hv.made hf.md e1 e2)
    have HTm := hide (fun A B (hv : Fnd p s.toNat a b A B) => hv.tm hf.md e1 e2)
    have HM1 := hide (fun W v xs (hb : Below w.heap.size w W) (hx : Tm p xs) (l : xs.length ≤ 2049) (r : Rw W v xs) => mul_call hf hx.1 e1 (by omega) (by omega) (by omega) W v v1 r (h1.below hb))
    have HM2 := hide (fun W v xs (hb : Below w.heap.size w W) (hx : Tm p xs) (l : xs.length ≤ 2049) (r : Rw W v xs) => mul_call hf hx.1 e2 (by omega) (by omega) (by omega) W v v2 r (h2.below hb))
    have HAd := hide (fun W v u xs ys (hx : Tm p xs) (hy : Tm p ys) (l : xs.length ≤ 4096) (l2 : ys.length ≤ 4096) (r : Rw W v xs) (r2 : Rw W u ys) => add_call hf hx.1 hy.1 l l2 W v u r r2)
    have HOn := hide (fun xs ys (hx : Tm p xs) (hy : Tm p ys) (e : pl p xs = pl p ys) => hx.only hf.pos hy e)
    have hs' : ¬ s < 0 := by omega
    rw [hc] at hu
    rw [he] at g1
    clear h1 h2 hf hc he e1 e2
    go_enter Try.func6, Try.ntmps6
    go_wp2_with fail
    refine (hu.out _ hb0).mono ?_; rintro e w0 ⟨rfl, hw⟩; rw [hw]; clear hw
    go_wp2_with fail
    refine (g1.out _ hb0).mono ?_; rintro e w1 ⟨c0, c1, c2, B, rfl, RB, hB, hb1⟩
    obtain ⟨A, hv⟩ := HF.out B hB
    obtain ⟨x1, y1, rfl, _⟩ := RB.1.spell
    obtain ⟨x2, y2, rfl, _⟩ := RB.2.1.spell
    obtain ⟨x3, y3, rfl, _⟩ := RB.2.2.spell
    have HRB := hide RB
    have hb2 := Below.next hb0 hb1
    have T := (Two.first w v1 v2 23).below hb1
    obtain ⟨t1, t2, _, _, _⟩ := T
    have hmd := hide (HMd.out A B hv)
    have htm := hide (HTm.out A B hv)
    clear RB hB
    go_wp2_with fail
    refine (HM1.out _ _ B.u hb2 htm.out.2.1 (by have := hmd.out.2.2.2.2.1; omega) HRB.out.2.1).mono ?_; rintro e w3 ⟨u3, M, rfl, RM, tM, lM, eM, hb3⟩
    have HRM := hide RM
    have HRB := hide (HRB.out.below hb3)
    have hb4 := Below.next hb2 hb3
    have T := ((Two.first w v1 v2 23).below hb1).below hb3
    clear t1 t2
    obtain ⟨t1, t2, _, _, _⟩ := T
    clear RM
    go_wp2_with fail
    refine (HM2.out _ _ B.v hb4 htm.out.2.2.1 (by have := hmd.out.2.2.2.2.2; omega) HRB.out.2.2).mono ?_; rintro e w5 ⟨u5, M5, rfl, RM5, tM5, lM5, eM5, hb5⟩
    have HRM5 := hide RM5
    have HRM := hide (HRM.out.below hb5)
    have HRB := hide (HRB.out.below hb5)
    have hb6 := Below.next hb4 hb5
    clear RM5 t1 t2 hb1 hb2 hb3 hb4 hb5
    go_wp2_with fail
    refine (HAd.out _ _ _ M M5 tM tM5 lM lM5 HRM.out HRM5.out).mono ?_; rintro e w7 ⟨u7, M7, rfl, RM7, tM7, eM7, hb7⟩
    obtain rfl : M7 = B.x := HOn.out M7 B.x tM7 htm.out.1 (by rw [eM7, eM, eM5]; exact hmd.out.1.symm)
    have HRM7 := hide RM7
    have HRB := hide (HRB.out.below hb7)
    have hb8 := Below.next hb6 hb7
    clear RM7 HRM HRM5
    go_wp2_with fail
    refine (anch5 _).mono ?_; rintro e w9 ⟨rfl, hb9⟩
    have HRM7 := hide (HRM7.out.below hb9)
    have HRB := hide (HRB.out.below hb9)
    have hb10 := Below.next hb8 hb9
    clear hb9 hb8 hb7 hb6
    go_wp2_with fail
    refine (Same_yes _ _ B.x _ HRM7.out.1 HRB.out.1.1).mono ?_; rintro e w11 ⟨rfl, hb11⟩
    have hl : (B.x.length : Int) ≤ s := by have := hmd.out.2.1; omega
    have hb12 := Below.next hb10 hb11
    by_cases hu0 : B.u = []
    · have hv0 : B.v ≠ [] := by rcases hmd.out.2.2.1 with h | h; exact absurd hu0 h; exact h
      have hvp := List.length_pos_iff.2 hv0
      have k1 : ¬ (0 : Int) < (B.u.length : Int) := by rw [hu0]; simp
      have k2 : (0 : Int) < (B.v.length : Int) := by omega
      clear hmd htm HRB HRM7
      go_wp2
      go_ret
      exact ⟨rfl, hb12⟩
    · have hup := List.length_pos_iff.2 hu0
      have k1 : (0 : Int) < (B.u.length : Int) := by omega
      clear hmd htm HRB HRM7
      go_wp2
      go_ret
      exact ⟨rfl, hb12⟩
  · have hne : (stE f a b s != 0) = true := bne_iff_ne.2 he
    by_cases hc : chE f a b = 0
    · have hs : s < 0 := by
        apply Int.not_le.1
        intro h
        apply he
        unfold stE; rw [if_neg (by omega), hc]
      have hd : decide (chE f a b = 0) = true := decide_eq_true hc
      rw [hd] at hu
      clear h1 h2 he hc hd
      generalize stE f a b s = e0 at *
      go_enter Try.func6, Try.ntmps6
      go_wp2_with fail
      refine (hu.out _ hb0).mono ?_; rintro e w0 ⟨rfl, hw⟩; rw [hw]; clear hw
      go_wp2_with fail
      refine (g1.out _ hb0).mono ?_; rintro e w1 ⟨c0, c1, c2, B, rfl, _, _, hb1⟩
      have hb2 := Below.next hb0 hb1
      go_wp2_with fail
      refine (anch5 _).mono ?_; rintro e w9 ⟨rfl, hb9⟩
      go_wp2
      go_ret
      exact ⟨rfl, Below.next hb2 hb9⟩
    · have hd : decide (chE f a b = 0) = false := decide_eq_false hc
      rw [hd] at hu
      clear h1 h2 he hc hd
      generalize stE f a b s = e0 at *
      go_enter Try.func6, Try.ntmps6
      go_wp2_with fail
      refine (hu.out _ hb0).mono ?_; rintro e w0 ⟨rfl, hw⟩; rw [hw]; clear hw
      go_wp2_with fail
      refine (g1.out _ hb0).mono ?_; rintro e w1 ⟨c0, c1, c2, B, rfl, _, _, hb1⟩
      have hb2 := Below.next hb0 hb1
      go_wp2_with fail
      refine (anch5 _).mono ?_; rintro e w9 ⟨rfl, hb9⟩
      go_wp2
      go_ret
      exact ⟨rfl, Below.next hb2 hb9⟩

namespace Fld
theorem rem_same {p : Int} {wd : Bool} (hm : Md p wd) {P O m q r q2 o s t : List Int} (hme : Els p m) (h1 : Dv p P m q r) (h2 : Dv p O m q2 o) (e : qa (qm (pl p s) (pl p m)) (pl p P) = qa (qm (pl p t) (pl p m)) (pl p O)) : r = o := by
  have hp : 0 < p := by have := hm.bounds; omega
  have n1 := nz_tm hp (sm p 1 s q)
  have n2 := nz_tm hp (sm p 1 t q2)
  have D1 : Dv p (sm p 1 (prd p s m) P) m _ r := Dv.of n1.1 h1.rg.2.1 h1.rg.2.2.1 (by rw [n1.2, pl_add, pl_add, pl_mul, qa_qm, qa_assoc, h1.rg.2.2.2])
  have D2 : Dv p (sm p 1 (prd p s m) P) m _ o := Dv.of n2.1 h2.rg.2.1 h2.rg.2.2.1 (by rw [n2.2, pl_add, pl_add, pl_mul, qa_qm, qa_assoc, h2.rg.2.2.2, e])
  exact (D1.only hm hme D2).2
theorem gc_long {p : Int} {wd : Bool} (hm : Md p wd) {a m g h : List Int} (hme : Els p m) (hne : tr m ≠ []) (hg : Gc p a m g) (hh : Tm p h) (h2 : 2 ≤ h.length) (ha : Dd p h a) (hb : Dd p h m) : 1 < g.length := by
  have hp : 0 < p := by have := hm.bounds; omega
  have h3 := Dd.len hm hg.1 (Tm.tr hp hme) (hg.2.2.2.1.same (pl_tr p m).symm) hne
  have h4 := Dd.len hm hh hg.1 (hg.2.2.2.2 h ha hb) h3.1
  omega
end Fld

theorem els_one {p : Int} {wd : Bool} (hm : Md p wd) : Els p [1] := (one_tm hm).1

set_option maxRecDepth 100000 in
set_option maxHeartbeats 400000 in
theorem einverts_any (f : Int) (v1 v2 : Value) (a m : List Int) (w : World) (h1 : Rw w v1 a) (h2 : Rw w v2 m) :
    Calls Try.prog 8 #[.int .u8 f, v1, v2] w fun e w' => e = .returned (.bool true) ∧ Below w.heap.size w w' := by
  have hu := hide (usual_any f v1 v2 a m w h1 h2)
  have g1 := hide (eModulo_any f v1 v2 a m w h1 h2)
  by_cases he : moE f a m = 0
  · obtain ⟨hc, hn⟩ := moE_zero he
    obtain ⟨p, wd, hf, i1, i2, la, lm⟩ := chE_zero hc
    have e1 := els_of i1 h1.words
    have e2 := els_of i2 h2.words
    have nm := tr_len m
    have HF : Hid (∀ i x, MoE f a m i x → Mo p a m i x) := fun i x hp => by
      have h := hp.2 he
      rw [pOf_eq hf] at h; exact h
    have ht := hide (fun W (hb : Below w.heap.size w W) => rTrim_any v2 m W (h2.below hb))
    have WT := hide (wd_els (e2.tr hf.pos) hf.top (show (tr m).length ≤ 17592186043904 by omega))
    have HG := hide (fun W (hb : Below w.heap.size w W) => eGCD_any f v1 v2 a m W (h1.below hb) (h2.below hb))
    rw [hc] at HG
    have HGc : Hid (∀ g h, GcE f a m g → Tm p h → 2 ≤ h.length → Dd p h a → Dd p h m → 1 < g.length) := fun g h hg th h2 ha hb => by
      have := hg.2 hc
      rw [pOf_eq hf] at this
      exact gc_long hf.md e2 hn this th h2 ha hb
    have HM := hide (fun W v i (hb : Below w.heap.size w W) (hx : Tm p i) (l : i.length < (tr m).length) (r : Rw W v i) => mul_call hf hx.1 e1 (by omega) (by omega) (by omega) W v v1 r (h1.below hb))
    have HD := hide (fun W v xs (hb : Below w.heap.size w W) (hx : Els p xs) (l : xs.length ≤ 4096) (r : Rw W v xs) => div_call hf hx e2 hn l (by omega) W v v2 r (h2.below hb))
    have HOne := hide (els_one hf.md)
    have HRe := hide (fun i M Q R Q2 O s t (eM : pl p M = qm (pl p i) (pl p a)) (d1 : Dv p M m Q R) (d2 : Dv p [1] m Q2 O) (e : qa (qm (pl p i) (pl p a)) (qm (pl p s) (pl p m)) = qa (pl p [1]) (qm (pl p t) (pl p m))) => rem_same (s := s) (t := t) hf.md e2 d1 d2 (by rw [eM, qa_comm, e, qa_comm]))
    have hpos := List.length_pos_iff.2 hn
    have bz : (((tr m).length : Int) == 0) = false := beq_eq_false_iff_ne.2 (by omega)
    rw [hc] at hu
    rw [he] at g1
    clear h1 h2 hf hc he e1 e2 hn
    obtain ⟨nt, HNT⟩ : ∃ nt, Hid ((tr m).length = nt) := ⟨_, rfl⟩
    rw [HNT.out] at bz hpos
    go_enter Try.func8, Try.ntmps8
    go_wp2_with fail
    refine hu.out.mono ?_; rintro e w0 ⟨rfl, hw⟩; rw [hw]; clear hw
    go_wp2_with fail
    refine g1.out.mono ?_; rintro e w1 ⟨c0, i, x, rfl, RI, hI, hb1⟩
    have hmo := HF.out i x hI
    obtain ⟨x1, y1, rfl, _⟩ := RI.spell
    have HRI := hide RI
    clear RI hI
    go_wp2_with fail
    refine (ht.out _ hb1).mono ?_; rintro e w2 ⟨u2, rfl, hO2, hb2⟩
    obtain ⟨x2, y2, rfl, _⟩ := (WT.out.row hO2).spell
    rw [HNT.out]
    have HRI := hide (HRI.out.below hb2)
    have hb3 := Below.next hb1 hb2
    clear hO2 hb1 hb2
    rcases hmo with ⟨rfl, ti, li, s, t, ee⟩ | ⟨rfl, rfl, h, th, h2, ha, hb⟩
    · go_wp2_with fail
      refine (HM.out _ _ i hb3 ti li HRI.out).mono ?_; rintro e w4 ⟨u4, M, rfl, RM, tM, lM, eM, hb4⟩
      have HRM := hide RM
      have HRI := hide (HRI.out.below hb4)
      have hb5 := Below.next hb3 hb4
      clear RM
      go_wp2_with fail
      refine (HD.out _ _ M hb5 tM.1 lM HRM.out).mono ?_; rintro e w6 ⟨vq, vr, Q, R, rfl, _, RR, dR, hb6⟩
      have HRR := hide RR
      have HRI := hide (HRI.out.below hb6)
      have hb7 := Below.next hb5 hb6
      have hb8 := Below.next hb7 (alloc_below w6 (.cells #[.int .u64 1] 49))
      have HRR := hide (HRR.out.below (alloc_below w6 (.cells #[.int .u64 1] 49)))
      have HRI := hide (HRI.out.below (alloc_below w6 (.cells #[.int .u64 1] 49)))
      clear RR
      go_wp2_with fail
      refine (HD.out _ _ [1] hb8 HOne.out (by simp) (rw_one w6 _)).mono ?_; rintro e w9 ⟨vq2, vr2, Q2, O, rfl, _, RO, dO, hb9⟩
      obtain rfl := HRe.out i M Q R Q2 O s t eM dR dO ee
      have HRO := hide RO
      have HRR := hide (HRR.out.below hb9)
      have HRI := hide (HRI.out.below hb9)
      have hb10 := Below.next hb8 hb9
      clear RO hb3 hb4 hb5 hb6 hb7 hb8 hb9 ee
      go_wp2_with fail
      refine (anch5 _).mono ?_; rintro e w11 ⟨rfl, hb11⟩
      have HRO := hide (HRO.out.below hb11)
      have HRR := hide (HRR.out.below hb11)
      have hb12 := Below.next hb10 hb11
      go_wp2_with fail
      refine (Same_yes _ _ R _ HRR.out.1 HRO.out.1).mono ?_; rintro e w13 ⟨rfl, hb13⟩
      have hb14 := Below.next hb12 hb13
      go_wp2_with fail
      refine (ht.out _ hb14).mono ?_; rintro e w15 ⟨u15, rfl, hO15, hb15⟩
      obtain ⟨x5, y5, rfl, _⟩ := (WT.out.row hO15).spell
      have hlt : (i.length : Int) < (nt : Int) := by have := HNT.out; omega
      rw [HNT.out]
      clear hO15
      go_wp2
      go_ret
      exact ⟨by simp, Below.next hb14 hb15⟩
    · go_wp2_with fail
      refine (HG.out _ hb3).mono ?_; rintro e w4 ⟨vg, g, rfl, RG, hg, hb4⟩
      have hgl := HGc.out g h hg th h2 ha hb
      obtain ⟨x3, y3, rfl, _⟩ := RG.spell
      have hb5 := Below.next hb3 hb4
      clear RG
      have hgl' : (1 : Int) < (g.length : Int) := by omega
      go_wp2_with fail
      refine (anch5 _).mono ?_; rintro e w9 ⟨rfl, hb9⟩
      go_wp2
      go_ret
      exact ⟨by simp, Below.next hb5 hb9⟩
  · have hne : (moE f a m != 0) = true := bne_iff_ne.2 he
    by_cases hc : chE f a m = 0
    · have hn : tr m = [] := by
        apply Classical.byContradiction
        intro h
        apply he
        unfold moE; rw [if_pos hc, if_neg h]
      have ht := hide (fun W (hb : Below w.heap.size w W) => rTrim_any v2 m W (h2.below hb))
      rw [hn] at ht
      have hd : decide (chE f a m = 0) = true := decide_eq_true hc
      rw [hd] at hu
      clear h1 h2 he hc hd hn
      generalize moE f a m = e0 at *
      go_enter Try.func8, Try.ntmps8
      go_wp2_with fail
      refine hu.out.mono ?_; rintro e w0 ⟨rfl, hw⟩; rw [hw]; clear hw
      go_wp2_with fail
      refine g1.out.mono ?_; rintro e w1 ⟨c0, i, x, rfl, _, _, hb1⟩
      go_wp2_with fail
      refine (ht.out _ hb1).mono ?_; rintro e w2 ⟨u2, rfl, hO2, hb2⟩
      obtain ⟨x2, y2, rfl, _⟩ := (wd_nil.row hO2).spell
      have hb3 := Below.next hb1 hb2
      clear hO2
      go_wp2_with fail
      refine (anch5 _).mono ?_; rintro e w9 ⟨rfl, hb9⟩
      go_wp2
      go_ret
      exact ⟨rfl, Below.next hb3 hb9⟩
    · have hd : decide (chE f a m = 0) = false := decide_eq_false hc
      rw [hd] at hu
      clear h1 h2 he hc hd
      generalize moE f a m = e0 at *
      go_enter Try.func8, Try.ntmps8
      go_wp2_with fail
      refine hu.out.mono ?_; rintro e w0 ⟨rfl, hw⟩; rw [hw]; clear hw
      go_wp2_with fail
      refine g1.out.mono ?_; rintro e w1 ⟨c0, i, x, rfl, _, _, hb1⟩
      go_wp2_with fail
      refine (anch5 _).mono ?_; rintro e w9 ⟨rfl, hb9⟩
      go_wp2
      go_ret
      exact ⟨rfl, Below.next hb1 hb9⟩

end Go.Proofs.Ytdgcnockccjdjaa
