import Derived.Test.YtipobchbnjgenaaGreatBunQ
import Derived.Lib.AppendZeros
set_option linter.unusedVariables false
set_option linter.unusedSimpArgs false
set_option maxRecDepth 100000
set_option maxHeartbeats 4000000
namespace Go.Proofs.YtipobchbnjgenaaGreat
section
variable {P : Program}
def muteQ (P : Program) (ops : Array Oper) (s : Oper) (Q : Exit -> Act -> World -> Prop) : Exit -> Act -> World -> Prop
 | .normal, a, w => wpList P ops Q [s] a w
 | e, a, w => Q e a w
def covN (L : List Oper) (s : Oper) : Nat -> Nat -> Bool
 | 0, i => s.after.any fun e => Region.binds .any e && e.on == i
 | f + 1, i => (s.after.any fun e => Region.binds .any e && e.on == i) || (List.range L.length).any fun j => ((L[j]?.map fun o => o.after.any fun e => Region.binds .any e && e.on == i).getD false) && covN L s f j
def covB (L : List Oper) (s : Oper) : Bool := s.dst.isNone && s.guard.isNone && (List.range L.length).all fun i => covN L s 4 i
def lastC (L : List Oper) : Bool := !L.isEmpty && backB L && ((lastL L).all fun s => covB L.dropLast s)
def Closed (L : List Oper) (listed : Array Bool) : Prop := ∀ j o, L[j]? = some o -> listed.getD j false = true -> ∀ e ∈ o.after, Region.binds .any e = true -> listed.getD e.on false = true
theorem Closed.set {L : List Oper} {listed : Array Bool} {i : Nat} (h : Closed L listed) (hi : i ∈ Region.ready .any L.toArray listed) : Closed L (listed.setIfInBounds i true) := by
 intro j o ho hj e he hb
 apply getD_set_true
 by_cases hji : j = i
 · subst hji
   obtain ⟨_, o', ho', hall⟩ := mem_ready.1 hi
   simp only [List.getElem?_toArray] at ho'
   rw [ho] at ho'; cases ho'
   exact hall e he hb
 · rw [getD_set_ne false (fun h => hji h.symm)] at hj
   exact h j o ho hj e he hb
theorem covN_listed {l : List Oper} {s : Oper} {listed : Array Bool} (hall : ∀ e ∈ s.after, Region.binds .any e = true -> listed.getD e.on false = true) (hcl : Closed (l ++ [s]) listed) : ∀ (f i : Nat), covN l s f i = true -> listed.getD i false = true
 | 0, i, h => by
  unfold covN at h
  rw [Array.any_eq_true'] at h
  obtain ⟨e, hem, heb⟩ := h
  simp only [Bool.and_eq_true, beq_iff_eq] at heb
  rw [<- heb.2]; exact hall e hem heb.1
 | f + 1, i, h => by
  unfold covN at h
  rw [Bool.or_eq_true] at h
  rcases h with h | h
  · rw [Array.any_eq_true'] at h
    obtain ⟨e, hem, heb⟩ := h
    simp only [Bool.and_eq_true, beq_iff_eq] at heb
    rw [<- heb.2]; exact hall e hem heb.1
  · obtain ⟨j, hj, h2⟩ := List.any_eq_true.1 h
    rw [Bool.and_eq_true] at h2
    have hjl := List.mem_range.1 hj
    have h3 := covN_listed hall hcl f j h2.2
    have ho : l[j]? = some l[j] := List.getElem?_eq_getElem hjl
    have h4 := h2.1
    rw [ho] at h4
    simp only [Option.map_some, Option.getD_some] at h4
    rw [Array.any_eq_true'] at h4
    obtain ⟨e, hem, heb⟩ := h4
    simp only [Bool.and_eq_true, beq_iff_eq] at heb
    rw [<- heb.2]
    exact hcl j l[j] (by rw [List.getElem?_append_left hjl]; exact ho) h3 e hem heb.1
theorem all_listed2 {l : List Oper} {s : Oper} {n : Nat} (hc : covB l s = true) (hn : l.length = n) {listed : Array Bool} (hcl : Closed (l ++ [s]) listed) (hr : n ∈ Region.ready .any (l ++ [s]).toArray listed) : Region.ready .any (l ++ [s]).toArray (listed.setIfInBounds n true) = [] := by
 obtain ⟨hu, o, ho, hall⟩ := mem_ready.1 hr
 have hos : o = s := by
  simp only [List.getElem?_toArray] at ho
  rw [List.getElem?_append_right (by omega), hn, Nat.sub_self] at ho
  simpa using ho.symm
 subst hos
 cases he : Region.ready .any (l ++ [o]).toArray (listed.setIfInBounds n true) with
 | nil => rfl
 | cons j r =>
  exfalso
  have hj : j ∈ Region.ready .any (l ++ [o]).toArray (listed.setIfInBounds n true) := by rw [he]; exact List.mem_cons_self
  obtain ⟨hju, oj, hoj, _⟩ := mem_ready.1 hj
  have hjl : j < l.length + 1 := by
   apply Nat.lt_of_not_le; intro hcn
   simp only [List.getElem?_toArray] at hoj
   rw [List.getElem?_eq_none (by simp; omega)] at hoj; cases hoj
  by_cases hjn : j = n
  · subst hjn
    by_cases hsz : j < listed.size
    · simp [hsz] at hju
    · simp [hsz] at hju
  · have h1 : listed.getD j true = false := by rw [getD_set_ne true (fun h => hjn h.symm)] at hju; exact hju
    unfold covB at hc
    simp only [Bool.and_eq_true] at hc
    have h2 := List.all_eq_true.1 hc.2 j (List.mem_range.2 (by omega))
    have h3 := covN_listed hall hcl 4 j h2
    by_cases hsz : j < listed.size
    · simp [hsz] at h1 h3
      rw [h1] at h3; cases h3
    · simp [hsz] at h3
theorem any_mute {l : List Oper} {s : Oper} {n : Nat} (hn : l.length = n) (hb : backB (l ++ [s]) = true) (hc : covB l s = true) {Q : Exit -> Act -> World -> Prop} :
 ∀ (fuel : Nat) (listed : Array Bool) (a : Act) (w : World), listed.size = n + 1 -> listed.getD n true = false -> Closed (l ++ [s]) listed ->
 wpAny P .any (l ++ [mute s]).toArray (muteQ P (l ++ [s]).toArray s Q) fuel listed a w -> wpAny P .any (l ++ [s]).toArray Q fuel listed a w := by
 have hlen : (l ++ [s]).length = n + 1 := by simp [hn]
 intro fuel
 induction fuel with
 | zero =>
  intro listed a w hsz hu hcl h
  have := h.1
  rw [ready_mute] at this
  exact absurd this (some_ready hb (by omega) n (by omega) hu)
 | succ fuel ih =>
  intro listed a w hsz hu hcl h
  refine ⟨fun h0 => absurd h0 (some_ready hb (by omega) n (by omega) hu), fun i hi => ?_⟩
  have h1 := h.2 i (by rw [ready_mute]; exact hi)
  by_cases hin : i = n
  · subst hin
    have hempty := all_listed2 hc hn hcl hi
    have hcc := hc
    unfold covB at hcc
    simp only [Bool.and_eq_true, Option.isNone_iff_eq_none] at hcc
    have hls : ((l ++ [s]).toArray)[i]? = some s := by simp [<- hn]
    have hlm : ((l ++ [mute s]).toArray)[i]? = some (mute s) := by simp [<- hn]
    have hd : (mute s).dst = none := hcc.1.1
    have hw : Region.wanted (mute s) (yielded (l ++ [mute s]).toArray a.tmps) = true := by
     have : (mute s).guard = none := hcc.1.2
     simp [Region.wanted, this]
    unfold wpOp at h1
    rw [hlm] at h1
    simp only at h1
    rw [if_pos hw] at h1
    have h2 : wpAny P .any (l ++ [mute s]).toArray (muteQ P (l ++ [s]).toArray s Q) fuel (listed.setIfInBounds i true) (a.put (mute s).dst undef) w := by
     rcases h1 with h1 | h1
     · unfold Oper.wp at h1
       simpa [mute, execOp, go_sem, Oper.upon] using h1
     · exfalso
       have h3 := h1.1.1
       simp only [mute, execOp] at h3
       have h4 : noRoomEvent ∈ (#[] : Array Event) := h3
       simp at h4
    rw [hd] at h2
    have hQ : wpList P (l ++ [s]).toArray Q [s] a w := by
     cases fuel with
     | zero => exact h2.2
     | succ fuel => exact h2.1 (by rw [ready_mute]; exact hempty)
    have hnext : ∀ a' w', Q .normal a' w' -> wpAny P .any (l ++ [s]).toArray Q fuel (listed.setIfInBounds i true) a' w' := by
     intro a' w' hq
     cases fuel with
     | zero => exact ⟨hempty, hq⟩
     | succ fuel => exact ⟨fun _ => hq, fun j hj => by rw [hempty] at hj; cases hj⟩
    refine wpOp_mono hnext ?_
    unfold wpOp
    simp only [hls]
    exact hQ
  · have hil : i < l.length := by
     obtain ⟨_, o, ho, _⟩ := mem_ready.1 hi
     apply Nat.lt_of_not_le; intro hcn
     simp only [List.getElem?_toArray] at ho
     rw [List.getElem?_eq_none (by simp; omega)] at ho; cases ho
    have e1 : ((l ++ [mute s]).toArray)[i]? = ((l ++ [s]).toArray)[i]? := by
     simp only [List.getElem?_toArray]
     rw [List.getElem?_append_left hil, List.getElem?_append_left hil]
    have h2 := wpOp_mono (fun a' w' hk => ih (listed.setIfInBounds i true) a' w' (by simpa using hsz) (by rw [getD_set_ne true hin]; exact hu) (hcl.set hi) hk) h1
    unfold wpOp at h2 ⊢
    rw [e1] at h2
    simp only [yielded_mute] at h2
    split at h2
    · exact h2
    · split at h2
      · rename_i o ho hw
        rw [if_pos hw]
        rcases h2 with h2 | h2
        · refine Or.inl ?_
          unfold Oper.wp at h2 ⊢
          generalize (execOp a.eval o).run P w = r at h2 ⊢
          cases r with
          | ok nx w' => cases nx <;> exact h2
          | halt x w' => cases x <;> exact h2
        · exact Or.inr h2
      · rename_i o ho hw
        rw [if_neg hw]
        exact h2
theorem none_listed (n j : Nat) : (Array.replicate n false).getD j false = false := by
 by_cases h : j < n <;> simp [h]
theorem wp_region_mute {id : Nat} {S : World -> Prop} {Q : Exit -> Act -> World -> Prop} {a : Act} {w : World} {L : List Oper} {s : Oper} (hm : P.follows .mixedOrders = true) (hL : lastC L = true) (hs : lastL L = [s]) (hS : S w.drew)
 (h : S w.drew -> wpAnyH P .any (muteL L).toArray (muteQ P L.toArray s Q) S (muteL L).toArray.size (Array.replicate (muteL L).toArray.size false) a w.drew) : (Code.region id L.toArray true).wp P Q a w := by
 unfold lastC at hL
 simp only [Bool.and_eq_true] at hL
 obtain ⟨⟨hne, hb⟩, hc⟩ := hL
 obtain ⟨l, t, rfl, h2, h3, h4⟩ := parted L (by intro h; rw [h] at hne; simp at hne)
 rw [h4] at hs hc
 injection hs with hs
 subst hs
 rw [h2] at h
 have hc : covB l t = true := by simpa [h3] using hc
 refine wp_region_any hm ?_
 have e : ((l ++ [t]).toArray).size = (l ++ [mute t]).toArray.size := by simp
 rw [e]
 exact any_mute rfl hb hc _ _ _ _ (by simp) (by simp [Array.getD]) (fun j o _ hj => by rw [none_listed] at hj; cases hj) (wpAny_of_held _ _ _ _ (h hS))
end
theorem app_mute {P : Program} {ops : Array Oper} {o : Oper} {a : Act} {w : World} {K : Act -> World -> Prop} {Q : Exit -> Act -> World -> Prop} {E : Prop} (hgd : o.guard = none) (s x : Operand) (t tn : TypeId)
 (ho : o.op = .call { callee := .builtin .append, args := #[s, x], argTypes := #[t, tn] }) (vs vx : Value) (hs : a.eval s = vs) (hx : a.eval x = vx)
 (v' : Value) (w' : World) (hr : (Builtin.append_ #[t, tn] o.type #[vs, vx]).run P w = .ok v' w') (h : K (a.put o.dst v') w') : if Region.wanted o (yielded ops a.tmps) = true then Oper.wp P o a w K Q else E := by
 have hw : Region.wanted o (yielded ops a.tmps) = true := by simp [Region.wanted, hgd]
 rw [if_pos hw]
 exact Lib.wp_append_run w s x t tn ho vs vx hs hx v' w' hr h
end Go.Proofs.YtipobchbnjgenaaGreat
