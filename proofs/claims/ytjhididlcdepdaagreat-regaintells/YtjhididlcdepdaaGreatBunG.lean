import Derived.Test.YtjhididlcdepdaaGreatBunM
import Derived.Test.YtjhididlcdepdaaGreatBRowA
set_option linter.unusedVariables false
set_option linter.unusedSimpArgs false
set_option maxRecDepth 100000
set_option maxHeartbeats 4000000
namespace Go.Proofs.YtjhididlcdepdaaGreat
open Go.RowKit Fld Slp
section
variable {α : Type} {f : α -> Value} {T : TypeId} {n : Nat}
end
section
variable {α : Type} {f : α -> Value} {T : TypeId} {w W W' : World} {p : Pr} {vo vu : Value} {b0 b1 b2 : Nat} {z : α} {xs : List α}
end
def iz (l : List Nat) : List Int := l.map (fun d : Nat => (d : Int))
theorem iz_len (l : List Nat) : (iz l).length = l.length := by simp [iz]
theorem iz_get (l : List Nat) (k : Nat) : (iz l).getD k 0 = ((l.getD k 0 : Nat) : Int) := by
 unfold iz
 rw [List.getD_eq_getElem?_getD, List.getElem?_map, List.getD_eq_getElem?_getD]
 cases l[k]? <;> rfl
theorem iz_snoc (l : List Nat) (x : Nat) : iz (l ++ [x]) = iz l ++ [(x : Int)] := by simp [iz]
theorem dgL_cap : ∀ (os : List O4) (l : List Nat), (∀ d ∈ l, d <= 1025) -> ∀ d ∈ dgL cap9 l os, d <= 1025
 | [], l, h, d, hd => h d hd
 | o :: os, l, h, d, hd => dgL_cap os (l ++ [cap9 (dgS l o)]) (fun x hx => by
  rcases List.mem_append.1 hx with hx | hx
  · exact h x hx
  · rw [List.mem_singleton.1 hx]; unfold cap9; omega) d hd
section
variable {α : Type} {f : α -> Value} {T : TypeId} {m : Nat} {w W W' : World} {p : Pr} {vo vu : Value} {b0 b2 : Nat} {xs : List α}
end
end Go.Proofs.YtjhididlcdepdaaGreat
