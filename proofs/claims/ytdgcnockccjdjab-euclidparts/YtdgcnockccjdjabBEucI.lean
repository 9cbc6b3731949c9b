/-
  Euclid: the document's own bad, monic and GCD.
-/
import Derived.Test.YtdgcnockccjdjabBEucF
import Derived.Test.YtdgcnockccjdjabBPolJ
namespace Go.Proofs.Ytdgcnockccjdjab
open Go.RowKit Fld
set_option linter.unusedVariables false

theorem scl_facts {f p c : Int} {wd : Bool} (h : Fi f p wd) {xs : List Int} (hc : El p c) (hx : Els p xs) (l : xs.length ≤ 4096) : er f [c] xs = 0 ∧ Is p (sclL f c xs) (cv (co [c]) (co xs)) := by
  have he : er f [c] xs = 0 := er_yes h (allIn_of (fun x hx => by rw [List.mem_singleton.1 hx]; exact hc)) (allIn_of hx) (by simp) l
  have e : sclL f c xs = tr (sm p c [] xs) := by unfold sclL; rw [if_pos he, pOf_eq h]
  exact ⟨he, by rw [e]; exact is_scale h.pos c xs⟩

theorem cm_len {p : Int} {wd : Bool} (hm : Md p wd) {x y q r : List Int} (hd : Dv p x y q r) (ht : tr y = y) : r.length < y.length := by have := hd.2.2.2.2.1; rw [ht] at this; exact this

end Go.Proofs.Ytdgcnockccjdjab
