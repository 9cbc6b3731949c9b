/-
  Layer 4: products by halves, walked: which way is taken.
-/
import Derived.Test.YtcjgjgkoeokooaaDoorBFasI
namespace Go.Proofs.YtcjgjgkoeokooaaDoor
open Go.RowKit Fld
set_option linter.unusedVariables false

theorem mul_hv (f p : Int) (wd : Bool) (v1 v2 : Value) (xs ys : List Int) (w : World) (h : Fi f p wd) (h1 : Rw w v1 xs) (h2 : Rw w v2 ys) (hx : Els p xs) (hy : Els p ys) (hl : xs.length + ys.length ≤ 4097 ∧ xs.length ≤ 4096 ∧ ys.length ≤ 4096) :
    Calls Tryd.prog 47 #[.int .u8 f, v1, v2] w fun e w' => ∃ v' zs, e = .returned (.tuple #[v', .int .i64 0]) ∧ HV p xs ys zs ∧ w'.ownsRow w.heap.size 39 1 v' zs.length (vals zs) ∧ Below w.heap.size w w' := by
  have hg := pMul_any f v1 v2 xs ys w h1 h2
  unfold Gives at hg
  have t1 := tr_len xs
  have t2 := tr_len ys
  have he := er_els h hx hy hl.2.1 hl.2.2
  have e1 : mulE f xs ys = 0 := by unfold mulE; rw [if_pos he, if_neg (by omega)]
  have e2 : mulL f xs ys = prd p (tr xs) (tr ys) := by unfold mulL; rw [if_pos e1, pOf_eq h]
  rw [e1, e2] at hg
  refine hg.mono ?_
  rintro e w' ⟨v', rfl, hO, hb⟩
  exact ⟨v', _, rfl, HV.of_prd h.md hx hy, hO, hb⟩

set_option maxRecDepth 100000 in
set_option maxHeartbeats 200000 in
theorem halves_plain (f p : Int) (wd : Bool) (v1 v2 : Value) (xs ys : List Int) (w : World) (h : Fi f p wd) (hy1 : Hyp f p (xs.length + ys.length)) (h1 : Rw w v1 xs) (h2 : Rw w v2 ys) (hx : Els p xs) (hy : Els p ys) (hl : xs.length + ys.length ≤ 4097 ∧ xs.length ≤ 4096 ∧ ys.length ≤ 4096) (hc : ¬ xs.length < ys.length) :
    Hs f p v1 v2 xs ys w := by
  unfold Hs
  obtain ⟨a1, c1, rfl, k1⟩ := h1.spell
  obtain ⟨a2, c2, rfl, k2⟩ := h2.spell
  obtain ⟨n, hn⟩ : ∃ n : Nat, ((xs.length : Int) + 1) / 2 = (n : Int) := ⟨(xs.length + 1) / 2, by omega⟩
  have hn2 : n = (xs.length + 1) / 2 := by omega
  by_cases hf : ys.length ≤ 32
  · have hd : decide ((ys.length : Int) ≤ 32) = true := decide_eq_true (by omega)
    have HM := hide (mul_hv f p wd _ _ xs ys w h h1 h2 hx hy (by omega))
    clear h1 h2 hx hy h hy1 hn2
    go_enter Tryd.func29, Tryd.ntmps29
    go_wp2_with (go_at_call 47; refine HM.out.mono ?_; rintro e w1 ⟨u, zs, rfl, hv, hO, hb⟩; have V := hide hv; have O := hide hO; clear hv hO)
    go_ret
    exact ⟨_, _, rfl, V.out, O.out, hb⟩
  by_cases hs : ys.length ≤ n
  · have HM := hide (cutOne_any f p wd _ _ xs ys n w h hy1 h1 h2 hx hy (by omega) (by omega) (by omega) (take_ne (n := 1) (by decide) (by omega)))
    clear h1 h2 hx hy h hy1 hn2
    go_enter Tryd.func29, Tryd.ntmps29
    go_wp2_with (go_at_call 48; refine HM.out.mono ?_; rintro e w1 ⟨u, zs, rfl, hv, hO, hb⟩; have V := hide hv; have O := hide hO; clear hv hO)
    go_ret
    exact ⟨_, _, rfl, V.out, O.out, hb⟩
  · have HM := hide (cutBoth_any f p wd _ _ xs ys n w h hy1 h1 h2 hx hy (by omega) (by omega) (by omega) (by omega) (by omega) (by omega))
    clear h1 h2 hx hy h hy1 hn2
    go_enter Tryd.func29, Tryd.ntmps29
    go_wp2_with (go_at_call 49; refine HM.out.mono ?_; rintro e w1 ⟨u, zs, rfl, hv, hO, hb⟩; have V := hide hv; have O := hide hO; clear hv hO)
    go_ret
    exact ⟨_, _, rfl, V.out, O.out, hb⟩

set_option maxRecDepth 100000 in
set_option maxHeartbeats 200000 in
theorem halves_turned (f p : Int) (wd : Bool) (v1 v2 : Value) (xs ys : List Int) (w : World) (h : Fi f p wd) (hy1 : Hyp f p (xs.length + ys.length)) (h1 : Rw w v1 xs) (h2 : Rw w v2 ys) (hx : Els p xs) (hy : Els p ys) (hl : xs.length + ys.length ≤ 4097 ∧ xs.length ≤ 4096 ∧ ys.length ≤ 4096) (hc : xs.length < ys.length) :
    Hs f p v1 v2 xs ys w := by
  unfold Hs
  obtain ⟨a1, c1, rfl, k1⟩ := h1.spell
  obtain ⟨a2, c2, rfl, k2⟩ := h2.spell
  obtain ⟨n, hn⟩ : ∃ n : Nat, ((ys.length : Int) + 1) / 2 = (n : Int) := ⟨(ys.length + 1) / 2, by omega⟩
  have hn2 : n = (ys.length + 1) / 2 := by omega
  by_cases hf : xs.length ≤ 32
  · have hd : decide ((xs.length : Int) ≤ 32) = true := decide_eq_true (by omega)
    have HM := hide (mul_hv f p wd _ _ ys xs w h h2 h1 hy hx (by omega))
    clear h1 h2 hx hy h hy1 hn2
    go_enter Tryd.func29, Tryd.ntmps29
    go_wp2_with (go_at_call 47; refine HM.out.mono ?_; rintro e w1 ⟨u, zs, rfl, hv, hO, hb⟩; have V := hide hv; have O := hide hO; clear hv hO)
    go_ret
    exact ⟨_, _, rfl, V.out.comm, O.out, hb⟩
  by_cases hs : xs.length ≤ n
  · have HM := hide (cutOne_any f p wd _ _ ys xs n w h (by rw [Nat.add_comm]; exact hy1) h2 h1 hy hx (by omega) (by omega) (by omega) (take_ne (n := 1) (by decide) (by omega)))
    clear h1 h2 hx hy h hy1 hn2
    go_enter Tryd.func29, Tryd.ntmps29
    go_wp2_with (go_at_call 48; refine HM.out.mono ?_; rintro e w1 ⟨u, zs, rfl, hv, hO, hb⟩; have V := hide hv; have O := hide hO; clear hv hO)
    go_ret
    exact ⟨_, _, rfl, V.out.comm, O.out, hb⟩
  · have HM := hide (cutBoth_any f p wd _ _ ys xs n w h (by rw [Nat.add_comm]; exact hy1) h2 h1 hy hx (by omega) (by omega) (by omega) (by omega) (by omega) (by omega))
    clear h1 h2 hx hy h hy1 hn2
    go_enter Tryd.func29, Tryd.ntmps29
    go_wp2_with (go_at_call 49; refine HM.out.mono ?_; rintro e w1 ⟨u, zs, rfl, hv, hO, hb⟩; have V := hide hv; have O := hide hO; clear hv hO)
    go_ret
    exact ⟨_, _, rfl, V.out.comm, O.out, hb⟩

theorem halves_hyp (f p : Int) (wd : Bool) (h : Fi f p wd) : ∀ K, Hyp f p K := by
  intro K
  induction K with
  | zero => intro v1 v2 xs ys w hk; omega
  | succ K ih =>
    intro v1 v2 xs ys w hk h1 h2 hx hy hl
    have hs : Hyp f p (xs.length + ys.length) := fun v1 v2 xs' ys' w hk' => ih v1 v2 xs' ys' w (by omega)
    by_cases hc : xs.length < ys.length
    · exact halves_turned f p wd v1 v2 xs ys w h hs h1 h2 hx hy hl hc
    · exact halves_plain f p wd v1 v2 xs ys w h hs h1 h2 hx hy hl hc
theorem halves_any (f p : Int) (wd : Bool) (v1 v2 : Value) (xs ys : List Int) (w : World) (h : Fi f p wd) (h1 : Rw w v1 xs) (h2 : Rw w v2 ys) (hx : Els p xs) (hy : Els p ys) (hl : xs.length + ys.length ≤ 4097 ∧ xs.length ≤ 4096 ∧ ys.length ≤ 4096) : Hs f p v1 v2 xs ys w :=
  halves_hyp f p wd h (xs.length + ys.length + 1) v1 v2 xs ys w (by omega) h1 h2 hx hy hl

end Go.Proofs.YtcjgjgkoeokooaaDoor
