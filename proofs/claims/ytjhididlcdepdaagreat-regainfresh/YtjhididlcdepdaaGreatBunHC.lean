import Derived.Test.YtjhididlcdepdaaGreatBShaM
import Derived.Test.YtjhididlcdepdaaGreatBQMute
import Derived.Test.YtjhididlcdepdaaGreatBTkA
set_option linter.unusedVariables false
set_option linter.unusedSimpArgs false
set_option maxRecDepth 100000
set_option maxHeartbeats 4000000
namespace Go.Proofs.YtjhididlcdepdaaGreat
open Go.RowKit Fld Pln Shr
theorem own_rws {W : World} {lo n : Nat} {v : Value} {us : List Value} {l : List (List Int)} (h : W.ownsRow lo 36 1 v n us) (hl : l.length = n) (he : ∀ i, i < l.length → Rw W (us.getD i nov) (l.getD i [])) (hb : n ≤ 1000) : Rws W v l := by
 have hul : us.length = n := by have := h.1; omega
 rcases h.2 with ⟨rfl, h0⟩ | ⟨g, cap, cur, rfl, h2, h3, h4, h5, h6, h7⟩
 · have : l = [] := List.length_eq_zero_iff.1 (by omega)
   subst this
   exact rws_nil W
 · refine ⟨_, cap, by rw [hl], by omega, by omega, fun hne => ⟨g, 0, rfl, own_top h g rfl, fun i hi => ⟨us.getD i nov, ?_, he i hi⟩⟩⟩
   rw [Nat.zero_add, h.cellAt i (by omega), List.getD_eq_getElem?_getD, List.getElem?_eq_getElem (by omega)]; rfl
theorem getD_app {α : Type} (a b : List α) (d : α) (i : Nat) : (a ++ b).getD i d = if i < a.length then a.getD i d else b.getD (i - a.length) d := by
 rw [List.getD_eq_getElem?_getD, List.getD_eq_getElem?_getD, List.getD_eq_getElem?_getD]
 by_cases h : i < a.length
 · rw [if_pos h, List.getElem?_append_left h]
 · rw [if_neg h, List.getElem?_append_right (by omega)]
end Go.Proofs.YtjhididlcdepdaaGreat
