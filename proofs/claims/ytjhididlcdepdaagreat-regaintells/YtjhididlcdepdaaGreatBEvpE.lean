import Derived.Test.YtjhididlcdepdaaGreatBEvpD
import Derived.Test.YtjhididlcdepdaaGreatBunK
import Derived.Test.YtjhididlcdepdaaGreatBunO
import Derived.Test.YtjhididlcdepdaaGreatBQMute
import Derived.Test.YtjhididlcdepdaaGreatBTkA
import Derived.Test.YtjhididlcdepdaaGreatBEvpB
import Derived.RegionTactic
import Derived.Deep.RegionHeld3
import Derived.Test.YtjhididlcdepdaaGreatBEvpC
import Derived.Test.YtjhididlcdepdaaGreatBunH
set_option linter.unusedVariables false
set_option linter.unusedSimpArgs false
set_option maxRecDepth 100000
set_option maxHeartbeats 4000000
namespace Go.Proofs.YtjhididlcdepdaaGreat
open Go.RowKit Fld Slp
theorem sl_infoE : (Tryz.prog.info? 36).map (fun i => (i.zero, i.size, i.bytes)) = some (some (.slice none 0 0), 1, 24) := by kernel_rfl
theorem lss_here {w : World} {lo hi : Nat} {v : Value} {us : List Value} {xss : List (List Int)} (h : Lss w lo hi v us xss) : Lss w lo w.heap.size v us xss :=
 ⟨h.row, h.each, h.from_, fun i g hg => by
  by_cases hi' : i < xss.length
  · exact own_top (h.each i hi') g hg
  · have : us.getD i nov = nov := by
     rw [List.getD_eq_getElem?_getD, List.getElem?_eq_none (by have := h.len; omega)]; rfl
    rw [this] at hg; simp [nov, Value.ownBlock] at hg, h.up⟩
def GivesL11 (k : FuncId) (args : Array Value) (W : World) (xss : List (List Int)) (e0 : Int) : Prop :=
 Calls Tryz.prog k args W fun e w' => ∃ v' us, e = .returned (.tuple #[v', .int .i64 e0]) ∧ Lss w' W.heap.size w'.heap.size v' us xss ∧ Below W.heap.size W w'
theorem take_snocL (g : List Int → List Int) (xss : List (List Int)) {k : Nat} (hk : k < xss.length) : (xss.take k).map g ++ [g (xss.getD k [])] = (xss.take (k + 1)).map g := by
 rw [List.take_succ_eq_append_getElem hk, List.map_append, List.getD_eq_getElem?_getD, List.getElem?_eq_getElem hk]; rfl
theorem lss_lo {w : World} {lo lo' hi : Nat} {v : Value} {us : List Value} {xss : List (List Int)} (h : Lss w lo hi v us xss) (hl : lo' ≤ lo) : Lss w lo' hi v us xss :=
 ⟨own_mono h.row hl, fun i hi => own_mono (h.each i hi) hl, fun i g hg => Nat.le_trans hl (h.from_ i g hg), h.top, h.up⟩
end Go.Proofs.YtjhididlcdepdaaGreat
