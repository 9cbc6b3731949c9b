import Derived.Test.YtpibiagohfnbmaaBunNA
set_option linter.unusedVariables false
set_option linter.unusedSimpArgs false
set_option maxRecDepth 100000
set_option maxHeartbeats 4000000
namespace Go.Proofs.Ytpibiagohfnbmaa
open Pln
def prF (f : Int) : Int := if f = 1 then 2013265921 else if f = 2 then 18446744069414584321 else 0
def drw (f : Int) (tape : List Int) (a n : Nat) : List Int := ((tape.drop a).take n).map (fun x => x % prF f)
theorem drw_len {f : Int} {tape : List Int} {a n : Nat} (h : a + n <= tape.length) : (drw f tape a n).length = n := by
 unfold drw; rw [List.length_map, List.length_take, List.length_drop]; omega
theorem drw_at {f : Int} {tape : List Int} {a n i : Nat} (h : a + n <= tape.length) (hi : i < n) : (drw f tape a n).getD i 0 = tape.getD (a + i) 0 % prF f := by
 have h1 : i < (drw f tape a n).length := by rw [drw_len h]; exact hi
 have h2 : a + i < tape.length := by omega
 rw [List.getD_eq_getElem?_getD, List.getD_eq_getElem?_getD, List.getElem?_eq_getElem h1, List.getElem?_eq_getElem h2]
 simp [drw]
theorem drw_more (f : Int) (tape : List Int) (a n : Nat) (h : a + n < tape.length) : drw f tape a (n + 1) = drw f tape a n ++ [tape.getD (a + n) 0 % prF f] := by
 unfold drw
 have h1 : n < (tape.drop a).length := by rw [List.length_drop]; omega
 rw [List.take_add_one, List.map_append, List.getElem?_eq_getElem h1]
 congr 1
 simp [List.getD_eq_getElem?_getD, List.getElem?_eq_getElem h]
theorem drw_app (f : Int) (tape : List Int) (a m n : Nat) : drw f tape a m ++ drw f tape (a + m) n = drw f tape a (m + n) := by
 unfold drw
 rw [<- List.map_append, <- List.drop_drop, List.take_add]
theorem drw_cut (f : Int) (tape : List Int) (a i m n : Nat) (h : i + m <= n) : ((drw f tape a n).drop i).take m = drw f tape (a + i) m := by
 unfold drw
 rw [<- List.map_drop, <- List.map_take, List.drop_take, List.drop_drop, List.take_take, Nat.min_eq_left (by omega)]
theorem drw_zero (f : Int) (tape : List Int) (a : Nat) : drw f tape a 0 = [] := by unfold drw; rw [List.take_zero]; rfl
def tdE (f : Int) (tape : List Int) (a m : Int) : Int := if fdB f = false ∨ a < 0 ∨ m < 0 ∨ (tape.length : Int) < a then 2 else if (tape.length : Int) - a < m then 7 else 0
def tdL (f : Int) (tape : List Int) (a m : Int) : List Int := if tdE f tape a m = 0 then drw f tape a.toNat m.toNat else []
def tdN (f : Int) (tape : List Int) (a m : Int) : Int := if tdE f tape a m = 0 then a + m else 0
theorem td_zero {f : Int} {tape : List Int} {a m : Int} : tdE f tape a m = 0 ↔ fdB f = true ∧ 0 <= a ∧ 0 <= m ∧ a + m <= tape.length := by
 unfold tdE
 by_cases c : fdB f = false ∨ a < 0 ∨ m < 0 ∨ (tape.length : Int) < a
 · rw [if_pos c]
   refine ⟨fun h => absurd h (by decide), fun ⟨h1, h2, h3, h4⟩ => ?_⟩
   rcases c with c | c | c | c
   · rw [h1] at c; cases c
   all_goals omega
 · rw [if_neg c]
   have c0 : fdB f = true := by cases e : fdB f with | true => rfl | false => exact absurd (.inl e) c
   have c1 : ¬ a < 0 := fun e => c (.inr (.inl e))
   have c2 : ¬ m < 0 := fun e => c (.inr (.inr (.inl e)))
   have c3 : ¬ (tape.length : Int) < a := fun e => c (.inr (.inr (.inr e)))
   by_cases d : (tape.length : Int) - a < m
   · rw [if_pos d]
     refine ⟨fun h => absurd h (by decide), fun ⟨_, _, _, h4⟩ => ?_⟩
     omega
   · rw [if_neg d]
     exact ⟨fun _ => ⟨c0, by omega, by omega, by omega⟩, fun _ => rfl⟩
def pdE (p : Pn) (tape : List Int) (a : Int) : Int := if mayP p = true then tdE p.f tape a (p.t * p.w) else 2
def pdR (p : Pn) (tape : List Int) (a n : Nat) : List (List Int) := (List.range n).map fun t => drw p.f tape (a + t * p.w.toNat) p.w.toNat
def pdL (p : Pn) (tape : List Int) (a : Int) : List (List Int) := if pdE p tape a = 0 then pdR p tape a.toNat p.t.toNat else []
def pdN (p : Pn) (tape : List Int) (a : Int) : Int := if pdE p tape a = 0 then a + p.t * p.w else 0
theorem pdR_more (p : Pn) (tape : List Int) (a n : Nat) : pdR p tape a (n + 1) = pdR p tape a n ++ [drw p.f tape (a + n * p.w.toNat) p.w.toNat] := by
 unfold pdR; rw [List.range_succ, List.map_append]; rfl
theorem pdR_len (p : Pn) (tape : List Int) (a n : Nat) : (pdR p tape a n).length = n := by unfold pdR; rw [List.length_map, List.length_range]
theorem pdR_at (p : Pn) (tape : List Int) (a n i : Nat) (h : i < n) : (pdR p tape a n).getD i [] = drw p.f tape (a + i * p.w.toNat) p.w.toNat := by
 have h1 : i < (pdR p tape a n).length := by rw [pdR_len]; exact h
 rw [List.getD_eq_getElem?_getD, List.getElem?_eq_getElem h1]
 simp [pdR]
def rdE19 (p : Pn) (tape : List Int) (a : Int) : Int := if mayP p = true ∧ 0 <= a ∧ a <= tape.length then 0 else 2
def rdN19 (p : Pn) (tape : List Int) (a : Int) : Int :=
 if rdE19 p tape a = 0 then
  if p.t * p.w = 0 then 65536
  else if 65536 < ((tape.length : Int) - a) / (p.t * p.w) then 65536 else ((tape.length : Int) - a) / (p.t * p.w)
 else 0
theorem tw_bound {p : Pn} (h : mayP p = true) : 0 <= p.t * p.w ∧ p.t * p.w <= 4096 := by
 have h2 := (may_iff.1 h).2
 refine ⟨Int.mul_nonneg (by omega) (by omega), ?_⟩
 have h1 : p.t * p.w <= 64 * p.w := Int.mul_le_mul_of_nonneg_right (by omega) (by omega)
 omega
theorem rounds_yes {p : Pn} {tape : List Int} {i : Nat} (h : mayP p = true) (hi : (i : Int) < rdN19 p tape 0) : pdE p tape (i * (p.t * p.w)) = 0 := by
 obtain ⟨hb0, hb1⟩ := tw_bound h
 have hf : fdB p.f = true := (may_iff.1 h).1
 unfold pdE
 rw [if_pos h, td_zero]
 have e0 : rdE19 p tape 0 = 0 := by unfold rdE19; rw [if_pos ⟨h, by decide, by omega⟩]
 unfold rdN19 at hi
 rw [if_pos e0] at hi
 have hle : ((i : Int) + 1) * (p.t * p.w) <= tape.length := by
  by_cases c : p.t * p.w = 0
  · rw [c, Int.mul_zero]; omega
  · rw [if_neg c] at hi
    have hp : 0 < p.t * p.w := by omega
    have hq : (i : Int) + 1 <= ((tape.length : Int) - 0) / (p.t * p.w) := by
     by_cases d : 65536 < ((tape.length : Int) - 0) / (p.t * p.w)
     · rw [if_pos d] at hi; omega
     · rw [if_neg d] at hi; omega
    have hr := (Int.le_ediv_iff_mul_le hp).1 hq
    omega
 rw [Int.add_mul, Int.one_mul] at hle
 exact ⟨hf, Int.mul_nonneg (by omega) hb0, hb0, hle⟩
theorem rounds_no {p : Pn} {tape : List Int} {n : Nat} (h : mayP p = true) (hn : (n : Int) = rdN19 p tape 0) (hl : n < 65536) : pdE p tape (n * (p.t * p.w)) = 7 := by
 obtain ⟨hb0, hb1⟩ := tw_bound h
 have hf : fdB p.f = true := (may_iff.1 h).1
 have e0 : rdE19 p tape 0 = 0 := by unfold rdE19; rw [if_pos ⟨h, by decide, by omega⟩]
 unfold rdN19 at hn
 rw [if_pos e0] at hn
 have c : ¬ p.t * p.w = 0 := by
  intro c; rw [if_pos c] at hn; omega
 rw [if_neg c] at hn
 have hp : 0 < p.t * p.w := by omega
 have d : ¬ 65536 < ((tape.length : Int) - 0) / (p.t * p.w) := by
  intro d; rw [if_pos d] at hn; omega
 rw [if_neg d] at hn
 have h1 : (n : Int) * (p.t * p.w) <= tape.length := by
  have := (Int.le_ediv_iff_mul_le hp).1 (Int.le_of_eq hn); omega
 have h2 : (tape.length : Int) < ((n : Int) + 1) * (p.t * p.w) := by
  have := (Int.ediv_lt_iff_lt_mul hp).1 (show ((tape.length : Int) - 0) / (p.t * p.w) < (n : Int) + 1 by omega); omega
 rw [Int.add_mul, Int.one_mul] at h2
 have h3 : 0 <= (n : Int) * (p.t * p.w) := Int.mul_nonneg (by omega) hb0
 unfold pdE tdE
 rw [if_pos h, if_neg, if_pos (by omega)]
 rintro (k | k | k | k)
 · rw [hf] at k; cases k
 all_goals omega
end Go.Proofs.Ytpibiagohfnbmaa
