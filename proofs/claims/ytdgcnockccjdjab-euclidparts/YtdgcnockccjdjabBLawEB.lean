/-
  Euclid: EuclidMade and EuclidInverts, walked.
-/
import Derived.Test.YtdgcnockccjdjabBLawEA
namespace Go.Proofs.Ytdgcnockccjdjab
open Go.RowKit Fld
set_option linter.unusedVariables false

set_option maxHeartbeats 200000 in
theorem usual_any (f : Int) (v1 v2 : Value) (a b : List Int) (w : World) (h1 : Rw w v1 a) (h2 : Rw w v2 b) :
    Calls Try.prog 4 #[.int .u8 f, v1, v2] w fun e w' => e = .returned (.tuple #[.int .u8 f, .bool (decide (chE f a b = 0))]) ∧ w' = w := by
  have hk := hide (rBad_any f v1 v2 a b w h1 h2)
  obtain ⟨a1, c1, rfl, _⟩ := h1.spell
  obtain ⟨a2, c2, rfl, _⟩ := h2.spell
  have l1 := h1.len
  have l2 := h2.len
  clear h1 h2
  by_cases he : er f a b = 0
  · rw [he] at hk
    by_cases hn : a.length ≤ 2048
    · by_cases hm : b.length ≤ 2048
      · have hc : chE f a b = 0 := by unfold chE; rw [he, if_neg (by decide), if_neg (by omega)]
        rw [hc]
        clear hc he
        generalize a.length = n1 at *
        generalize b.length = n2 at *
        have hn' : (n1 : Int) ≤ 2048 := by omega
        have hm' : (n2 : Int) ≤ 2048 := by omega
        go_enter Try.func4, Try.ntmps4
        go_wp2_with (go_at_call 11; refine hk.out.mono ?_; rintro e w1 ⟨rfl, hw⟩; rw [hw]; clear hw)
        go_ret2
        exact ⟨by simp, rfl⟩
      · have hc : chE f a b ≠ 0 := by unfold chE; rw [he, if_neg (by decide), if_pos (by omega)]; decide
        have hd : decide (chE f a b = 0) = false := decide_eq_false hc
        rw [hd]
        clear hc hd he
        generalize a.length = n1 at *
        generalize b.length = n2 at *
        have hn' : (n1 : Int) ≤ 2048 := by omega
        have hm' : ¬ (n2 : Int) ≤ 2048 := by omega
        go_enter Try.func4, Try.ntmps4
        go_wp2_with (go_at_call 11; refine hk.out.mono ?_; rintro e w1 ⟨rfl, hw⟩; rw [hw]; clear hw)
        go_ret2
        exact ⟨by simp; omega, rfl⟩
    · have hc : chE f a b ≠ 0 := by unfold chE; rw [he, if_neg (by decide), if_pos (by omega)]; decide
      have hd : decide (chE f a b = 0) = false := decide_eq_false hc
      rw [hd]
      clear hc hd he
      generalize a.length = n1 at *
      generalize b.length = n2 at *
      have hn' : ¬ (n1 : Int) ≤ 2048 := by omega
      go_enter Try.func4, Try.ntmps4
      go_wp2_with (go_at_call 11; refine hk.out.mono ?_; rintro e w1 ⟨rfl, hw⟩; rw [hw]; clear hw)
      go_ret2
      exact ⟨rfl, rfl⟩
  · have hc : chE f a b ≠ 0 := by rw [chE_ne he]; exact he
    have hd : decide (chE f a b = 0) = false := decide_eq_false hc
    have hb : (er f a b == 0) = false := beq_eq_false_iff_ne.2 he
    rw [hd]
    clear hc hd he
    generalize er f a b = e0 at *
    generalize a.length = n1 at *
    generalize b.length = n2 at *
    go_enter Try.func4, Try.ntmps4
    go_wp2_with (go_at_call 11; refine hk.out.mono ?_; rintro e w1 ⟨rfl, hw⟩; rw [hw]; clear hw)
    go_ret2
    exact ⟨rfl, rfl⟩

theorem mul_any' {f p : Int} {wd : Bool} (h : Fi f p wd) {xs ys : List Int} (hx : Els p xs) (hy : Els p ys) (l1 : xs.length ≤ 4096) (l2 : ys.length ≤ 4096) (l : xs.length + ys.length ≤ 4097) :
    mulE f xs ys = 0 ∧ Tm p (mulL f xs ys) ∧ pl p (mulL f xs ys) = qm (pl p xs) (pl p ys) ∧ (mulL f xs ys).length ≤ 4096 := by
  have he := er_yes h (allIn_of hx) (allIn_of hy) l1 l2
  have n1 := tr_len xs
  have n2 := tr_len ys
  have h0 : mulE f xs ys = 0 := by unfold mulE; rw [if_pos he, if_neg (by omega)]
  have e : mulL f xs ys = prd p (tr xs) (tr ys) := by unfold mulL; rw [h0, if_pos rfl, pOf_eq h]
  have hi := (is_prd h.md (hx.tr h.pos) (hy.tr h.pos) (tr_tr xs) (tr_tr ys)).tm
  exact ⟨h0, by rw [e]; exact hi.1, by rw [e, hi.2, ← pl_tr p xs, ← pl_tr p ys]; rfl, mulL_len f xs ys⟩
theorem add_facts {f p : Int} {wd : Bool} (h : Fi f p wd) {xs ys : List Int} (hx : Els p xs) (hy : Els p ys) (l1 : xs.length ≤ 4096) (l2 : ys.length ≤ 4096) :
    er f xs ys = 0 ∧ Tm p (addL f xs ys) ∧ pl p (addL f xs ys) = qa (pl p xs) (pl p ys) := by
  have he := er_yes h (allIn_of hx) (allIn_of hy) l1 l2
  have e : addL f xs ys = tr (sm p 1 xs ys) := by unfold addL; rw [if_pos he, pOf_eq h]
  have hi := (is_add h.pos xs ys).tm
  exact ⟨he, by rw [e]; exact hi.1, by rw [e]; exact hi.2⟩

/-- What a call of the document's Mul answers here. -/
theorem mul_call {f p : Int} {wd : Bool} (h : Fi f p wd) {xs ys : List Int} (hx : Els p xs) (hy : Els p ys) (l1 : xs.length ≤ 4096) (l2 : ys.length ≤ 4096) (l : xs.length + ys.length ≤ 4097) (W : World) (v1 v2 : Value) (r1 : Rw W v1 xs) (r2 : Rw W v2 ys) :
    Calls Try.prog 8 #[.int .u8 f, v1, v2] W fun e w' => ∃ v' M, e = .returned (.tuple #[v', .int .i64 0]) ∧ Rw w' v' M ∧ Tm p M ∧ M.length ≤ 4096 ∧ pl p M = qm (pl p xs) (pl p ys) ∧ Below W.heap.size W w' := by
  have hm := mul_any' h hx hy l1 l2 l
  have hc := dMul_any f v1 v2 xs ys W r1 r2
  unfold Gives at hc
  rw [hm.1] at hc
  exact hc.mono fun e w' ⟨v', he, hO, hb⟩ => ⟨v', _, he, (mulL_wd f xs ys).row hO, hm.2.1, hm.2.2.2, hm.2.2.1, hb⟩

theorem div_call {f p : Int} {wd : Bool} (h : Fi f p wd) {xs ys : List Int} (hx : Els p xs) (hy : Els p ys) (hn : tr ys ≠ []) (l1 : xs.length ≤ 4096) (l2 : ys.length ≤ 4096) (W : World) (v1 v2 : Value) (r1 : Rw W v1 xs) (r2 : Rw W v2 ys) :
    Calls Try.prog 10 #[.int .u8 f, v1, v2] W fun e w' => ∃ vq vr Q R, e = .returned (.tuple #[vq, vr, .int .i64 0]) ∧ Rw w' vq Q ∧ Rw w' vr R ∧ Dv p xs ys Q R ∧ Below W.heap.size W w' := by
  have he : divE f xs ys = 0 := by unfold divE; rw [er_yes h (allIn_of hx) (allIn_of hy) l1 l2, if_pos rfl, if_neg hn]
  have hc := dDivMod_any f v1 v2 xs ys W r1 r2
  unfold PartsD at hc
  rw [he] at hc
  exact hc.mono fun e w' ⟨vq, vr, Q, R, hE, hS, hOq, hOr, hb⟩ => by
    have hd := hS.dv h he
    have hw := dv_wd h.md h.top hy hd l1 l2
    exact ⟨vq, vr, Q, R, hE, hw.1.row hOq, hw.2.row hOr, hd, hb⟩

namespace Fld
theorem rem_same {p : Int} {wd : Bool} (hm : Md p wd) {P O m q r q2 o s t : List Int} (hme : Els p m) (h1 : Dv p P m q r) (h2 : Dv p O m q2 o) (e : qa (qm (pl p s) (pl p m)) (pl p P) = qa (qm (pl p t) (pl p m)) (pl p O)) : r = o := by
  have hp : 0 < p := by have := hm.bounds; omega
  have n1 := nz_tm hp (sm p 1 s q)
  have n2 := nz_tm hp (sm p 1 t q2)
  have D1 : Dv p (sm p 1 (prd p s m) P) m _ r := Dv.of n1.1 h1.rg.2.1 h1.rg.2.2.1 (by rw [n1.2, pl_add, pl_add, pl_mul, qa_qm, qa_assoc, h1.rg.2.2.2])
  have D2 : Dv p (sm p 1 (prd p s m) P) m _ o := Dv.of n2.1 h2.rg.2.1 h2.rg.2.2.1 (by rw [n2.2, pl_add, pl_add, pl_mul, qa_qm, qa_assoc, h2.rg.2.2.2, e])
  exact (D1.only hm hme D2).2
theorem gc_long {p : Int} {wd : Bool} (hm : Md p wd) {a m g h : List Int} (hme : Els p m) (hne : tr m ≠ []) (hg : Gc p a m g) (hh : Tm p h) (h2 : 2 ≤ h.length) (ha : Dd p h a) (hb : Dd p h m) : 1 < g.length := by
  have hp : 0 < p := by have := hm.bounds; omega
  have h3 := Dd.len hm hg.1 (Tm.tr hp hme) (hg.2.2.2.1.same (pl_tr p m).symm) hne
  have h4 := Dd.len hm hh hg.1 (hg.2.2.2.2 h ha hb) h3.1
  omega
end Fld

theorem els_one {p : Int} {wd : Bool} (hm : Md p wd) : Els p [1] := (one_tm hm).1

end Go.Proofs.Ytdgcnockccjdjab
