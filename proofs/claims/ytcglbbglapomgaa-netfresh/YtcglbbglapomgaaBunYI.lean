import Derived.Test.YtcglbbglapomgaaBQMute
set_option linter.unusedVariables false
set_option linter.unusedSimpArgs false
set_option maxRecDepth 100000
set_option maxHeartbeats 4000000
namespace Go.Proofs.Ytcglbbglapomgaa
def muteS (s : Oper) : Oper := { s with op := .move (match s.dst with | none => .const undef | some d => .tmp d) }
def muteLS : List Oper -> List Oper
 | [] => []
 | [s] => [muteS s]
 | o :: o2 :: r => o :: muteLS (o2 :: r)
theorem partedS : ∀ (L : List Oper), L ≠ [] -> ∃ l s, L = l ++ [s] ∧ muteLS L = l ++ [muteS s] ∧ L.dropLast = l ∧ lastL L = [s]
 | [], h => absurd rfl h
 | [s], _ => ⟨[], s, rfl, rfl, rfl, rfl⟩
 | o :: o2 :: r, _ => by
  obtain ⟨l, s, h1, h2, h3, h4⟩ := partedS (o2 :: r) (List.cons_ne_nil _ _)
  refine ⟨o :: l, s, by rw [h1]; rfl, ?_, ?_, ?_⟩
  · show o :: muteLS (o2 :: r) = _; rw [h2]; rfl
  · show o :: (o2 :: r).dropLast = _; rw [h3]
  · show lastL (o2 :: r) = _; rw [h4]
def coverS (L : List Oper) (s : Oper) : Bool := s.guard.isNone && (List.range L.length).all fun i => covN L s 8 i
def lastS (L : List Oper) : Bool := !L.isEmpty && backB L && ((lastL L).all fun s => coverS L.dropLast s)
section
variable {P : Program} {C : World -> Prop}
def selfS (s : Oper) : Operand := match s.dst with | none => .const undef | some d => .tmp d
theorem put_self (s : Oper) (a : Act) : a.put s.dst (a.eval (selfS s)) = a := by
 unfold selfS
 cases h : s.dst with
 | none => rfl
 | some d =>
  show ({ a with tmps := _ } : Act) = a
  have : a.tmps.setIfInBounds d (a.tmps.getD d undef) = a.tmps := by
   apply Array.ext
   · simp
   · intro i h1 h2
     rw [Array.getElem_setIfInBounds]
     split
     · rename_i e; subst e; simp [Array.getD, h2]
     · rfl
  show ({ tmps := a.tmps.setIfInBounds d (a.tmps.getD d undef), defers := a.defers } : Act) = a
  rw [this]
theorem yielded_muteS (l : List Oper) (s : Oper) (tmps : Array Value) : yielded (l ++ [muteS s]).toArray tmps = yielded (l ++ [s]).toArray tmps := by
 funext j
 unfold yielded
 have : (((l ++ [muteS s]).toArray)[j]?).bind (·.dst) = (((l ++ [s]).toArray)[j]?).bind (·.dst) := by
  simp only [List.getElem?_toArray]
  by_cases h : j < l.length
  · rw [List.getElem?_append_left h, List.getElem?_append_left h]
  · rw [List.getElem?_append_right (by omega), List.getElem?_append_right (by omega)]
    cases h2 : j - l.length with
    | zero => rfl
    | succ k => rfl
 rw [this]
theorem ready_muteS (l : List Oper) (s : Oper) (listed : Array Bool) : Region.ready .any (l ++ [muteS s]).toArray listed = Region.ready .any (l ++ [s]).toArray listed := by
 unfold Region.ready
 have hs : ((l ++ [muteS s]).toArray).size = ((l ++ [s]).toArray).size := by simp
 rw [hs]
 apply List.filter_congr
 intro j _
 congr 1
 simp only [List.getElem?_toArray]
 by_cases h : j < l.length
 · rw [List.getElem?_append_left h, List.getElem?_append_left h]
 · rw [List.getElem?_append_right (by omega), List.getElem?_append_right (by omega)]
   cases h2 : j - l.length with
   | zero => rfl
   | succ k => rfl
theorem quiet_muteS (ops : Array Oper) (Q : Act -> Prop) (s : Oper) (hg : s.guard = none) (a : Act) (h : Q a) : wpQuiet P ops C Q [muteS s] a := by
 have hw : Region.wanted (muteS s) (yielded ops a.tmps) = true := by
  have : (muteS s).guard = none := hg
  simp [Region.wanted, this]
 show (if Region.wanted (muteS s) (yielded ops a.tmps) = true then _ else _)
 rw [if_pos hw]
 refine ⟨a.eval (selfS s), fun w hw => ?_, ?_⟩
 · unfold Oper.quietAt
   show Oper.quietUpon P C w (a.eval (selfS s)) ((execOp a.eval (muteS s)).run P w)
   have e : (execOp a.eval (muteS s)).run P w = .ok (.value (a.eval (selfS s))) w := rfl
   rw [e]
   simp [Oper.quietUpon]
 · show Q (a.put s.dst (a.eval (selfS s)))
   rw [put_self]
   exact h
theorem all_listedS {l : List Oper} {s : Oper} {n : Nat} (hc : coverS l s = true) (hn : l.length = n) {listed : Array Bool} (hcl : Closed (l ++ [s]) listed) (hr : n ∈ Region.ready .any (l ++ [s]).toArray listed) : Region.ready .any (l ++ [s]).toArray (listed.setIfInBounds n true) = [] := by
 obtain ⟨hu, o, ho, hall⟩ := mem_ready.1 hr
 have hos : o = s := by
  simp only [List.getElem?_toArray] at ho
  rw [List.getElem?_append_right (by omega), hn, Nat.sub_self] at ho
  simpa using ho.symm
 subst hos
 cases he : Region.ready .any (l ++ [o]).toArray (listed.setIfInBounds n true) with
 | nil => rfl
 | cons j r =>
  exfalso
  have hj : j ∈ Region.ready .any (l ++ [o]).toArray (listed.setIfInBounds n true) := by rw [he]; exact List.mem_cons_self
  obtain ⟨hju, oj, hoj, _⟩ := mem_ready.1 hj
  have hjl : j < l.length + 1 := by
   apply Nat.lt_of_not_le; intro hcn
   simp only [List.getElem?_toArray] at hoj
   rw [List.getElem?_eq_none (by simp; omega)] at hoj; cases hoj
  by_cases hjn : j = n
  · subst hjn
    by_cases hsz : j < listed.size
    · simp [hsz] at hju
    · simp [hsz] at hju
  · have h1 : listed.getD j true = false := by rw [getD_set_ne true (fun h => hjn h.symm)] at hju; exact hju
    unfold coverS at hc
    simp only [Bool.and_eq_true] at hc
    have h2 := List.all_eq_true.1 hc.2 j (List.mem_range.2 (by omega))
    have h3 := covN_listed hall hcl 8 j h2
    by_cases hsz : j < listed.size
    · simp [hsz] at h1 h3
      rw [h1] at h3; cases h3
    · simp [hsz] at h3
theorem any_lastS {l : List Oper} {s : Oper} {n : Nat} (hn : l.length = n) (hb : backB (l ++ [s]) = true) (hc : coverS l s = true) {Q : Exit -> Act -> World -> Prop} :
 ∀ (fuel : Nat) (listed : Array Bool) (a : Act) (w : World), C w -> listed.size = n + 1 -> listed.getD n true = false -> Closed (l ++ [s]) listed ->
 wpAnyQ P .any (l ++ [muteS s]).toArray C (fun a' => ∀ w', C w' -> wpList P (l ++ [s]).toArray Q [s] a' w') fuel listed a -> wpAny P .any (l ++ [s]).toArray Q fuel listed a w := by
 have hlen : (l ++ [s]).length = n + 1 := by simp [hn]
 intro fuel
 induction fuel with
 | zero =>
  intro listed a w hw hsz hu hcl h
  have := h.1
  rw [ready_muteS] at this
  exact absurd this (some_ready hb (by omega) n (by omega) hu)
 | succ fuel ih =>
  intro listed a w hw hsz hu hcl h
  refine ⟨fun h0 => absurd h0 (some_ready hb (by omega) n (by omega) hu), fun i hi => ?_⟩
  have h1 := h.2 i (by rw [ready_muteS]; exact hi)
  by_cases hin : i = n
  · subst hin
    have hempty := all_listedS hc hn hcl hi
    have hcc := hc
    unfold coverS at hcc
    simp only [Bool.and_eq_true, Option.isNone_iff_eq_none] at hcc
    have hls : ((l ++ [s]).toArray)[i]? = some s := by simp [<- hn]
    have hlm : ((l ++ [muteS s]).toArray)[i]? = some (muteS s) := by simp [<- hn]
    obtain ⟨v, hy, hK⟩ := yieldsIn_of_qOp hlm h1
    have hv : v = a.eval (selfS s) := by
     have hwt : Region.wanted (muteS s) (yielded (l ++ [muteS s]).toArray a.tmps) = true := by
      have : (muteS s).guard = none := hcc.1
      simp [Region.wanted, this]
     rcases hy with ⟨_, hy⟩ | ⟨hy, _⟩
     · have h5 := hy w hw
       unfold Oper.quietAt at h5
       have e : (execOp a.eval (muteS s)).run P w = .ok (.value (a.eval (selfS s))) w := rfl
       have h6 : Oper.quietUpon P C w v ((execOp a.eval (muteS s)).run P w) := h5
       rw [e] at h6
       simpa [Oper.quietUpon, eq_comm] using h6
     · rw [hwt] at hy; cases hy
    rw [hv, show (muteS s).dst = s.dst from rfl, put_self] at hK
    have hQ : ∀ w', C w' -> wpList P (l ++ [s]).toArray Q [s] a w' := by
     have hK' : wpAnyQ P .any (l ++ [muteS s]).toArray C (fun a' => ∀ w', C w' -> wpList P (l ++ [s]).toArray Q [s] a' w') fuel (listed.setIfInBounds i true) a := hK
     cases fuel with
     | zero => exact hK'.2
     | succ fuel => exact hK'.1 (by rw [ready_muteS]; exact hempty)
    have h2 := hQ w hw
    have hnext : ∀ a' w', Q .normal a' w' -> wpAny P .any (l ++ [s]).toArray Q fuel (listed.setIfInBounds i true) a' w' := by
     intro a' w' hq
     cases fuel with
     | zero => exact ⟨hempty, hq⟩
     | succ fuel => exact ⟨fun _ => hq, fun j hj => by rw [hempty] at hj; cases hj⟩
    refine wpOp_mono hnext ?_
    unfold wpOp
    simp only [hls]
    exact h2
  · have hil : i < l.length := by
     obtain ⟨_, o, ho, _⟩ := mem_ready.1 hi
     apply Nat.lt_of_not_le; intro hcn
     simp only [List.getElem?_toArray] at ho
     rw [List.getElem?_eq_none (by simp; omega)] at ho; cases ho
    have h2 := wpOp_of_qOp (Q' := Q) (K' := wpAny P .any (l ++ [s]).toArray Q fuel (listed.setIfInBounds i true)) hw (fun a' w' hw' hk => ih _ a' w' hw' (by simpa using hsz) (by rw [getD_set_ne true hin]; exact hu) (hcl.set hi) hk) h1
    have e1 : ((l ++ [muteS s]).toArray)[i]? = ((l ++ [s]).toArray)[i]? := by
     simp only [List.getElem?_toArray]
     rw [List.getElem?_append_left hil, List.getElem?_append_left hil]
    unfold wpOp at h2 ⊢
    rw [e1] at h2
    simp only [yielded_muteS] at h2
    exact h2
end
end Go.Proofs.Ytcglbbglapomgaa
