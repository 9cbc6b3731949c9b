/- Texts laid together: IntJ, IntK, IntL. -/
import Derived.Test.YtnjcljnijgkoiaaBunIB
import Derived.Test.YtnjcljnijgkoiaaBRefE
import Derived.Lib.AppendZeros
namespace Go.Proofs.Ytnjcljnijgkoiaa
open Go.RowKit Fld
set_option linter.unusedVariables false

theorem dp_bt_step {p x : Int} {wd : Bool} (hm : Md p wd) {xs : List Int} {i k : Nat} (hk : k < xs.length) (h : k ≠ i) : mul p (dp p x (bt xs i k)) (sub p x (co xs k)) = dp p x (bt xs i (k + 1)) := by
  rw [bt_step hk h, dp_snoc hm]
theorem dp_bt_self {p x : Int} {xs : List Int} {i : Nat} (hi : i < xs.length) : dp p x (bt xs i (i + 1)) = dp p x (bt xs i i) := by rw [bt_self hi]

end Go.Proofs.Ytnjcljnijgkoiaa

namespace Go.Proofs.Ytnjcljnijgkoiaa
open Go.RowKit Fld
set_option linter.unusedVariables false

theorem step_append_run {P : Program} {ops : Array Oper} {o : Oper} {a : Act} {w : World} {K : Act → World → Prop} {Q : Exit → Act → World → Prop} {E : Prop} (hgd : o.guard = none) (s x : Operand) (t tn : TypeId)
    (ho : o.op = .call { callee := .builtin .append, args := #[s, x], argTypes := #[t, tn] }) (vs vx : Value) (hs : a.eval s = vs) (hx : a.eval x = vx)
    (v' : Value) (w' : World) (hr : (Builtin.append_ #[t, tn] o.type #[vs, vx]).run P w = .ok v' w') (h : K (a.put o.dst v') w') : if Region.wanted o (yielded ops a.tmps) = true then Oper.wp P o a w K Q else E := by
  have hw : Region.wanted o (yielded ops a.tmps) = true := by simp [Region.wanted, hgd]
  rw [if_pos hw]
  exact Lib.wp_append_run w s x t tn ho vs vx hs hx v' w' hr h
/-- A piece of a list. -/
theorem Rw.piece {w : World} {b off n cap : Nat} {xs : List Int} (h : Rw w (.slice (some ⟨b, off, none⟩) n cap) xs) {k m : Nat} (hk : k + m ≤ xs.length) : Rw w (.slice (some ⟨b, off + k, none⟩) m (cap - k)) ((xs.drop k).take m) := by
  obtain ⟨⟨ao', cap', h1, h2, h3, h4⟩, a, q, c, h5, h6⟩ := h
  cases h1; cases h5
  have hl : ((xs.drop k).take m).length = m := by rw [List.length_take, List.length_drop]; omega
  refine ⟨⟨_, _, by rw [hl], by omega, fun x hx => h3 x (List.mem_of_mem_drop (List.mem_of_mem_take hx)), fun hne => ?_⟩, _, _, _, rfl, by omega⟩
  have hm : 0 < m := by rw [← hl]; exact List.length_pos_iff.2 hne
  obtain ⟨b', off', h7, hb, hc⟩ := h4 (by intro e; rw [e] at hk; simp at hk; omega)
  cases h7
  refine ⟨b, off + k, rfl, hb, fun i hi => ?_⟩
  rw [hl] at hi
  have := hc (k + i) (by omega)
  rw [show off + k + i = off + (k + i) by omega, this]
  rw [List.getD_eq_getElem?_getD, List.getD_eq_getElem?_getD, List.getElem?_take_of_lt hi, List.getElem?_drop]
/-- A piece appended to a list of the call's own. -/
theorem app_piece (w : World) (base : Nat) (u : Value) (A B : List Int) (ad : Addr) (c : Nat) (hO : w.ownsRow base 50 1 u A.length (vals A)) (hB : 0 < B.length → ∀ j x, (vals B)[j]? = some x → w.cell? (ad.add j) = some x) (hl : A.length + B.length ≤ 4096) (hb : base ≤ w.heap.size) :
    ∃ v' w', (Builtin.append_ #[35, 35] 35 #[u, .slice (some ad) B.length c]).run Try.prog w = .ok v' w' ∧ w'.ownsRow base 50 1 v' (A ++ B).length (vals (A ++ B)) ∧ Below base w w' := by
  obtain ⟨i0, hi0, hz0, hz1, hz2⟩ := info_parts u64_info
  obtain ⟨v', w', hr, ho, hg, _⟩ := run_append_own (P := Try.prog) (w := w) base 35 35 50 i0 (.int .u64 0) 1 8 Try.underlying35 hi0 hz0 hz1 hz2 rfl (by decide) u A.length (vals A) hO ad B.length c (vals B) (by rw [vals_length]; omega) (fun j x hj => by
    by_cases h0 : 0 < B.length
    · exact hB h0 j x hj
    · rw [List.getElem?_eq_none (by rw [vals_length]; omega)] at hj; cases hj) (vals_one B) (by unfold maxLen; omega) (by omega) hb
  refine ⟨v', w', hr, ?_, (Below.refl base w).grown hg hb (fun k hk => own_base hO k hk)⟩
  rw [List.length_append]
  have e : vals (A ++ B) = vals A ++ vals B := by simp [vals]
  rw [e]; exact ho

end Go.Proofs.Ytnjcljnijgkoiaa

namespace Go.Proofs.Ytnjcljnijgkoiaa
open Go.RowKit Fld
set_option linter.unusedVariables false

theorem thr_val {f p x : Int} {wd : Bool} (h : Fi f p wd) (hx : El p x) (xs ys : List Int) (hl : xs.length ≤ 512) : er f (tp p xs ys xs.length) [x] = 0 ∧ valE f x (tp p xs ys xs.length) = ds p (bs p xs x) (co ys) xs.length := by
  have he : er f (tp p xs ys xs.length) [x] = 0 := er_yes h (allIn_of (tp_tm h.pos xs ys _).1) (allIn_of (fun y hy => by rw [List.mem_singleton.1 hy]; exact hx)) (by have := tp_len h.md xs ys xs.length (Nat.le_refl _); omega) (by simp)
  refine ⟨he, ?_⟩
  unfold valE
  rw [if_pos he, pOf_eq h, vl_tp h.md]

theorem bad_ne {f : Int} {xs ys : List Int} {n : Nat} : bad f xs ys n = 0 ∨ bad f xs ys n = 2 ∨ bad f xs ys n = 3 ∨ bad f xs ys n = 4 ∨ bad f xs ys n = 6 := by
  unfold bad
  split
  · split
    · split
      · exact .inr (.inr (.inr (.inl rfl)))
      · split
        · exact .inl rfl
        · exact .inr (.inr (.inr (.inr rfl)))
    · exact .inr (.inr (.inl rfl))
  · exact .inr (.inl rfl)
theorem bac_zero {f : Int} {xs zs : List Int} (hz : bac f xs zs = 0) : bad f xs zs xs.length = 0 ∧ zs.length ≤ 512 := by
  unfold bac at hz
  by_cases hc : bad f xs zs xs.length ≠ 2 ∧ bad f xs zs xs.length ≠ 3 ∧ 512 < zs.length
  · rw [if_pos hc] at hz; cases hz
  · rw [if_neg hc] at hz
    refine ⟨hz, Nat.le_of_not_lt fun h => hc ⟨?_, ?_, h⟩⟩ <;> rw [hz] <;> decide

end Go.Proofs.Ytnjcljnijgkoiaa

