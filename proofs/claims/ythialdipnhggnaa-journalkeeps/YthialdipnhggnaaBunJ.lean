import Derived.Test.YthialdipnhggnaaRows
import Derived.BigQuiet
set_option linter.unusedVariables false
set_option linter.unusedSimpArgs false
set_option maxRecDepth 100000
set_option maxHeartbeats 4000000
namespace Go.Proofs.Ythialdipnhggnaa
def mute (s : Oper) : Oper := { s with op := .move (.const undef) }
def muteL : List Oper -> List Oper
 | [] => []
 | [s] => [mute s]
 | o :: o2 :: r => o :: muteL (o2 :: r)
def lastL : List Oper -> List Oper
 | [] => []
 | [s] => [s]
 | _ :: o2 :: r => lastL (o2 :: r)
theorem parted : ∀ (L : List Oper), L ≠ [] -> ∃ l s, L = l ++ [s] ∧ muteL L = l ++ [mute s] ∧ L.dropLast = l ∧ lastL L = [s]
 | [], h => absurd rfl h
 | [s], _ => ⟨[], s, rfl, rfl, rfl, rfl⟩
 | o :: o2 :: r, _ => by
  obtain ⟨l, s, h1, h2, h3, h4⟩ := parted (o2 :: r) (List.cons_ne_nil _ _)
  refine ⟨o :: l, s, by rw [h1]; rfl, ?_, ?_, ?_⟩
  · show o :: muteL (o2 :: r) = _; rw [h2]; rfl
  · show o :: (o2 :: r).dropLast = _; rw [h3]
  · show lastL (o2 :: r) = _; rw [h4]
def backB (L : List Oper) : Bool := (List.range L.length).all fun i => (L[i]?.map fun o => o.after.all fun e => decide (e.on < i)).getD true
section
variable {P : Program} {C : World -> Prop}
theorem yielded_mute (l : List Oper) (s : Oper) (tmps : Array Value) : yielded (l ++ [mute s]).toArray tmps = yielded (l ++ [s]).toArray tmps := by
 funext j
 unfold yielded
 have : (((l ++ [mute s]).toArray)[j]?).bind (·.dst) = (((l ++ [s]).toArray)[j]?).bind (·.dst) := by
  simp only [List.getElem?_toArray]
  by_cases h : j < l.length
  · rw [List.getElem?_append_left h, List.getElem?_append_left h]
  · rw [List.getElem?_append_right (by omega), List.getElem?_append_right (by omega)]
    cases h2 : j - l.length with
    | zero => rfl
    | succ k => rfl
 rw [this]
theorem ready_mute (l : List Oper) (s : Oper) (listed : Array Bool) : Region.ready .any (l ++ [mute s]).toArray listed = Region.ready .any (l ++ [s]).toArray listed := by
 unfold Region.ready
 have hs : ((l ++ [mute s]).toArray).size = ((l ++ [s]).toArray).size := by simp
 rw [hs]
 apply List.filter_congr
 intro j _
 congr 1
 simp only [List.getElem?_toArray]
 by_cases h : j < l.length
 · rw [List.getElem?_append_left h, List.getElem?_append_left h]
 · rw [List.getElem?_append_right (by omega), List.getElem?_append_right (by omega)]
   cases h2 : j - l.length with
   | zero => rfl
   | succ k => rfl
theorem some_ready {ops : List Oper} (hb : backB ops = true) {listed : Array Bool} (hl : listed.size = ops.length) : ∀ (j : Nat), j < ops.length -> listed.getD j true = false -> Region.ready .any ops.toArray listed ≠ [] := by
 intro j
 induction j using Nat.strongRecOn with
 | _ j ih =>
  intro hj hu he
  obtain ⟨o, ho⟩ : ∃ o, ops[j]? = some o := ⟨_, List.getElem?_eq_getElem hj⟩
  by_cases hall : ∀ e ∈ o.after, Region.binds .any e = true -> listed.getD e.on false = true
  · have : j ∈ Region.ready .any ops.toArray listed := mem_ready.2 ⟨hu, o, by simpa using ho, hall⟩
    rw [he] at this; cases this
  · obtain ⟨e, h1⟩ := Classical.not_forall.1 hall
    obtain ⟨hm, h2⟩ := Classical.not_imp.1 h1
    obtain ⟨hbi, h3⟩ := Classical.not_imp.1 h2
    unfold backB at hb
    rw [List.all_eq_true] at hb
    have h4 := hb j (List.mem_range.2 hj)
    rw [ho] at h4
    simp only [Option.map_some, Option.getD_some] at h4
    have h5 := (Array.all_eq_true_iff_forall_mem.1 h4) e hm
    have hlt : e.on < j := by simpa using h5
    refine ih e.on hlt (by omega) ?_ he
    have hs : e.on < listed.size := by omega
    have : listed.getD e.on false = listed.getD e.on true := by simp [Array.getD, hs]
    rw [<- this]; simpa using h3
end
end Go.Proofs.Ythialdipnhggnaa
