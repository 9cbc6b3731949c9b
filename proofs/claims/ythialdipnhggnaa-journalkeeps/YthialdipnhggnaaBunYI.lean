import Derived.Test.YthialdipnhggnaaBQMute
set_option linter.unusedVariables false
set_option linter.unusedSimpArgs false
set_option maxRecDepth 100000
set_option maxHeartbeats 4000000
namespace Go.Proofs.Ythialdipnhggnaa
def muteS (s : Oper) : Oper := { s with op := .move (match s.dst with | none => .const undef | some d => .tmp d) }
def muteLS : List Oper -> List Oper
 | [] => []
 | [s] => [muteS s]
 | o :: o2 :: r => o :: muteLS (o2 :: r)
theorem partedS : ∀ (L : List Oper), L ≠ [] -> ∃ l s, L = l ++ [s] ∧ muteLS L = l ++ [muteS s] ∧ L.dropLast = l ∧ lastL L = [s]
 | [], h => absurd rfl h
 | [s], _ => ⟨[], s, rfl, rfl, rfl, rfl⟩
 | o :: o2 :: r, _ => by
  obtain ⟨l, s, h1, h2, h3, h4⟩ := partedS (o2 :: r) (List.cons_ne_nil _ _)
  refine ⟨o :: l, s, by rw [h1]; rfl, ?_, ?_, ?_⟩
  · show o :: muteLS (o2 :: r) = _; rw [h2]; rfl
  · show o :: (o2 :: r).dropLast = _; rw [h3]
  · show lastL (o2 :: r) = _; rw [h4]
def coverS (L : List Oper) (s : Oper) : Bool := s.guard.isNone && (List.range L.length).all fun i => covN L s 8 i
section
variable {P : Program} {C : World -> Prop}
end
end Go.Proofs.Ythialdipnhggnaa
