import Derived.Test.YthialdipnhggnaaBBas
import Derived.RangeFuncNested
import Derived.RangeFuncBound
import Derived.Shelf.RegionOpen
import Derived.Deep.RegionHeld3
import Derived.OwnWalkIn
import Derived.LoopNIn
import Derived.LoopIn
set_option linter.unusedVariables false
set_option linter.unusedSimpArgs false
set_option maxRecDepth 100000
set_option maxHeartbeats 4000000
namespace Go.Proofs.Ythialdipnhggnaa
open Go.RowKit Go.Shelf
attribute [local go_sem] Oper.semAt_some
def noDefer (ops : Array Oper) : Bool := ops.toList.all (fun o => match o.op with | .defer _ => false | _ => true)
theorem oper_round {P : Program} {l m : Nat} {o : Oper} {a : Act} {W : World} {K : Act -> World -> Prop} {Q : Exit -> Act -> World -> Prop} (hd : ∀ c, o.op ≠ .defer c) (h : o.wp P a W K Q) : o.wpIn (Fence.wide.inRound l) m P a W K Q := by
 refine ⟨fun _ _ => trivial, ?_⟩
 have e : o.semAt (Fence.wide.inRound l).round a.eval = execOp a.eval o := Oper.semAt_eq _ _ _ hd
 rw [e]
 unfold Oper.wp at h
 generalize (execOp a.eval o).run P W = r at *
 cases r with
 | ok x w' =>
  cases x <;> simp only [Oper.upon] at h <;> simp only [Oper.uponIn]
  case value v => exact h
  case skip => exact h
  case defer d => exact h
  case enter f args => exact ⟨fun hc => by simp [Fence.inRound, Fence.wide] at hc, CallsIn.inRound l (callsIn_wide.2 h)⟩
  case row r args => exact ⟨fun hc => by simp [Fence.inRound, Fence.wide] at hc, fun c cs _ => let ⟨v, w2, r1, r2⟩ := h c cs; ⟨v, w2, r1, stepsIn_wide.2 r2⟩⟩
 | halt x w' => cases x <;> simp only [Oper.upon] at h <;> simp only [Oper.uponIn] <;> exact h
theorem any_round {P : Program} {l m : Nat} {md : Region.Mode} {ops : Array Oper} {Q : Exit -> Act -> World -> Prop} (hd : noDefer ops = true) (hlo : ¬ LetsOut Q) : ∀ (fuel : Nat) (listed : Array Bool) (a : Act) (W : World), wpAny P md ops Q fuel listed a W -> wpAnyIn (Fence.wide.inRound l) m P md ops Q fuel listed a W := by
 intro fuel
 induction fuel with
 | zero => intro listed a W h; exact h
 | succ fuel ih =>
  intro listed a W h
  refine ⟨h.1, fun i hi => ?_⟩
  have h2 := h.2 i hi
  unfold wpOp at h2
  unfold wpOpIn
  cases ho : ops[i]? with
  | none => rw [ho] at h2; exact ih _ _ _ h2
  | some o =>
   rw [ho] at h2
   have hno : ∀ c, o.op ≠ .defer c := fun c hc => by
    have hm : o ∈ ops.toList := by
     obtain ⟨hlt, e⟩ := Array.getElem?_eq_some_iff.1 ho
     rw [<- e]; exact Array.getElem_mem_toList hlt
    have := List.all_eq_true.1 hd o hm
    rw [hc] at this; cases this
   simp only at h2 ⊢
   split
   · rename_i hw
     rw [if_pos hw] at h2
     exact Oper.wpIn_mono (fun a' w' h' => ih _ a' w' h') (oper_round hno (h2.resolve_right fun hc => hlo hc.2))
   · rename_i hw
     rw [if_neg hw] at h2
     exact ⟨fun _ _ => trivial, ih _ _ _ h2⟩
def onlyN (K : Act -> World -> Prop) : Exit -> Act -> World -> Prop
 | .normal, a, w => K a w
 | _, _, _ => False
theorem region_round {P : Program} {l m id : Nat} {ops : Array Oper} {Q : Exit -> Act -> World -> Prop} {a : Act} {W : World} {S : World -> Prop} (hm : P.follows .mixedOrders = true) (hd : noDefer ops = true) (hS : S W.drew)
 (h : S W.drew -> wpAnyH P .any ops (onlyN (Q .normal)) S ops.size (Array.replicate ops.size false) a W.drew) : (Code.region id ops true).wpIn (Fence.wide.inRound l) m P Q a W :=
 wpIn_mono (wpIn_region_any hm (any_round hd (fun ⟨_, _, hc⟩ => hc) _ _ _ _ (wpAny_of_held _ _ _ _ (h hS)))) (fun e a w h => by
  cases e <;> first | exact h | exact h.elim)
end Go.Proofs.Ythialdipnhggnaa
