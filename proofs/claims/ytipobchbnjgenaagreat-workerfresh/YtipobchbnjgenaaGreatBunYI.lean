import Derived.Test.YtipobchbnjgenaaGreatBQMute
import Derived.Test.YtipobchbnjgenaaGreatBunS
set_option linter.unusedVariables false
set_option linter.unusedSimpArgs false
set_option maxRecDepth 100000
set_option maxHeartbeats 4000000
namespace Go.Proofs.YtipobchbnjgenaaGreat
def muteS (s : Oper) : Oper := { s with op := .move (match s.dst with | none => .const undef | some d => .tmp d) }
def muteLS : List Oper -> List Oper
 | [] => []
 | [s] => [muteS s]
 | o :: o2 :: r => o :: muteLS (o2 :: r)
theorem partedS : ∀ (L : List Oper), L ≠ [] -> ∃ l s, L = l ++ [s] ∧ muteLS L = l ++ [muteS s] ∧ L.dropLast = l ∧ lastL L = [s]
 | [], h => absurd rfl h
 | [s], _ => ⟨[], s, rfl, rfl, rfl, rfl⟩
 | o :: o2 :: r, _ => by
  obtain ⟨l, s, h1, h2, h3, h4⟩ := partedS (o2 :: r) (List.cons_ne_nil _ _)
  refine ⟨o :: l, s, by rw [h1]; rfl, ?_, ?_, ?_⟩
  · show o :: muteLS (o2 :: r) = _; rw [h2]; rfl
  · show o :: (o2 :: r).dropLast = _; rw [h3]
  · show lastL (o2 :: r) = _; rw [h4]
def coverS (L : List Oper) (s : Oper) : Bool := s.guard.isNone && (List.range L.length).all fun i => covN L s 8 i
section
variable {P : Program} {C : World -> Prop}
end
end Go.Proofs.YtipobchbnjgenaaGreat
namespace Go.Proofs.YtipobchbnjgenaaGreat
open Go.RowKit
theorem own_zero (W : World) (T : TypeId) (s B : Nat) (hB : B <= W.heap.size) : (W.alloc (.cells #[] T)).ownsRow B T s (.slice (some ⟨W.heap.size, 0, none⟩) 0 0) 0 [] :=
 ⟨by simp, .inr ⟨W.heap.size, 0, #[], rfl, hB, heap_alloc_new W _, Nat.le_refl _, by unfold maxLen; omega, by simp, by simp⟩⟩
theorem appI (W : World) (base : Nat) (u : Value) (A B : List Int) (vb : Value) (hO : W.ownsRow base 3 1 u A.length (A.flatMap iw)) (hB : Lm iw 1 W vb B) (hl : A.length + B.length <= 17592186044416) (hb : base <= W.heap.size) :
 ∃ v' W', (Builtin.append_ #[26, 26] 26 #[u, vb]).run Tryz.prog W = .ok v' W' ∧ W'.ownsRow base 3 1 v' (A.length + B.length) ((A ++ B).flatMap iw) ∧ Below base W W' ∧ W.grownBy W' u.ownBlock ∧ (v'.ownBlock = u.ownBlock ∨ v'.ownBlock = some W.heap.size) := by
 obtain ⟨i0, hi0, hz0, hz1, hz2⟩ := info_parts int_info
 obtain ⟨ao, cap, rfl, h1, h2⟩ := hB
 cases ao with
 | some ad =>
  obtain ⟨v', W', hr, ho, hg, _, hbk⟩ := run_append_own_at (P := Tryz.prog) (w := W) base 26 26 3 i0 (.int .i64 0) 1 8 Tryz.underlying26 hi0 hz0 hz1 hz2 rfl (by decide) u A.length (A.flatMap iw) hO ad B.length cap (B.flatMap iw) (flat_len iw 1 iw_len B) (Lm.news iw_len (by decide) ⟨some ad, cap, rfl, h1, h2⟩) (fun x hx => by
   obtain ⟨o, _, ho⟩ := List.mem_flatMap.1 hx
   simp [iw] at ho
   rw [ho]; rfl) (by unfold maxLen; omega) (by omega) hb
  refine ⟨v', W', hr, ?_, (Below.refl base W).grown hg hb (fun k hk => own_base hO k hk), hg, hbk⟩
  rw [List.flatMap_append]; exact ho
 | none =>
  have hB0 : B = [] := by
   cases B with
   | nil => rfl
   | cons o B => obtain ⟨b, off, e, _⟩ := h2 (by simp); cases e
  have hc0 := h1.2.2 rfl
  subst hB0 hc0
  refine ⟨u, W, run_append_owned_none (P := Tryz.prog) W base 26 26 3 i0 1 Tryz.underlying26 hi0 u A.length (A.flatMap iw) hO, by rw [List.append_nil]; exact hO, Below.refl _ _, ⟨rfl, rfl, rfl, Nat.le_refl _, fun _ _ _ => rfl⟩, .inl rfl⟩
theorem appI1 (W : World) (base : Nat) (u : Value) (A : List Int) (a : Addr) (x : Int) (hO : W.ownsRow base 3 1 u A.length (A.flatMap iw)) (hc : W.cell? a = some (.int .i64 x)) (hl : A.length <= 100000) (hb : base <= W.heap.size) :
 ∃ (au' : Option Addr) (cu' : Nat) (W' : World), (Builtin.append_ #[26, 26] 26 #[u, .slice (some a) 1 1]).run Tryz.prog W = .ok (.slice au' (A.length + 1) cu') W' ∧ W'.ownsRow base 3 1 (.slice au' (A.length + 1) cu') (A ++ [x]).length ((A ++ [x]).flatMap iw) ∧ Below base W W' ∧ W.grownBy W' u.ownBlock ∧ ((Value.slice au' (A.length + 1) cu').ownBlock = u.ownBlock ∨ (Value.slice au' (A.length + 1) cu').ownBlock = some W.heap.size) := by
 obtain ⟨i0, hi0, hz0, hz1, hz2⟩ := info_parts int_info
 obtain ⟨v', W', hr, ho, hg, _, hbk⟩ := run_append_own_at (P := Tryz.prog) (w := W) base 26 26 3 i0 (.int .i64 0) 1 8 Tryz.underlying26 hi0 hz0 hz1 hz2 rfl (by decide) u A.length (A.flatMap iw) hO a 1 1 [.int .i64 x] rfl (fun j u hj => by
  cases j with
  | zero => simp at hj; rw [<- hj]; exact hc
  | succ j => simp at hj) (by simp [Value.oneCell']) (by unfold maxLen; omega) (by omega) hb
 obtain ⟨au', cu', rfl⟩ := own_slice ho
 refine ⟨au', cu', W', hr, ?_, (Below.refl base W).grown hg hb (fun k hk => own_base hO k hk), hg, hbk⟩
 rw [List.flatMap_append, List.length_append]; exact ho
end Go.Proofs.YtipobchbnjgenaaGreat
namespace Go.Proofs.YtipobchbnjgenaaGreat
section
variable {P : Program} {C : World -> Prop}
def tailQ (P : Program) (ops : Array Oper) (m : Oper) (Q : Exit -> Act -> World -> Prop) : Exit -> Act -> World -> Prop
 | .normal, a, w => wpList P ops Q [m] a w
 | e, a, w => Q e a w
def guardB (L : List Oper) : Bool := L.all fun o => (o.guard.map fun g => decide (g.1 < L.length)).getD true
theorem guard_in {L : List Oper} (h : guardB L = true) {o : Oper} (ho : o ∈ L) {k : Nat} {b : Bool} (hg : o.guard = some (k, b)) : k < L.length := by
 have := List.all_eq_true.1 h o ho
 rw [hg] at this
 simpa using this
theorem wanted_tail {L : List Oper} {m o : Oper} (h : guardB L = true) (ho : o ∈ L) (tmps : Array Value) : Region.wanted o (yielded (L ++ [m]).toArray tmps) = Region.wanted o (yielded L.toArray tmps) := by
 unfold Region.wanted
 cases hg : o.guard with
 | none => rfl
 | some g =>
  obtain ⟨k, b⟩ := g
  have hk := guard_in h ho hg
  have e : yielded (L ++ [m]).toArray tmps k = yielded L.toArray tmps k := by
   unfold yielded
   have : ((L ++ [m]).toArray)[k]? = (L.toArray)[k]? := by
    simp only [List.getElem?_toArray]
    rw [List.getElem?_append_left hk]
   rw [this]
  simp [e]
theorem push_false (listed : Array Bool) (k : Nat) : (listed.push false).getD k false = listed.getD k false := by
 simp only [Array.getD_eq_getD_getElem?, Array.getElem?_push]
 split
 · rename_i h; subst h; simp
 · rfl
theorem push_true {listed : Array Bool} {k : Nat} (h : k ≠ listed.size) : (listed.push false).getD k true = listed.getD k true := by
 simp only [Array.getD_eq_getD_getElem?, Array.getElem?_push]
 rw [if_neg h]
theorem push_set {listed : Array Bool} {i : Nat} (h : i < listed.size) : (listed.push false).setIfInBounds i true = (listed.setIfInBounds i true).push false := by
 apply Array.ext
 · simp
 · intro k h1 h2
   simp only [Array.size_setIfInBounds, Array.size_push] at h1
   rw [Array.getElem_setIfInBounds (by simpa using h1), Array.getElem_push, Array.getElem_push]
   by_cases hk : k < listed.size
   · rw [dif_pos hk, dif_pos (by simpa using hk), Array.getElem_setIfInBounds (by simpa using hk)]
   · rw [dif_neg hk, dif_neg (by simpa using hk), if_neg (by omega)]
theorem any_tail {L : List Oper} {m : Oper} {n : Nat} (hn : L.length = n) (hb : backB (L ++ [m]) = true) (hg : guardB L = true) (hc : coverS L m = true) {Q : Exit -> Act -> World -> Prop} :
 ∀ (fuel : Nat) (listed : Array Bool) (a : Act) (w : World), listed.size = n -> Closed (L ++ [m]) listed ->
 wpAny P .any L.toArray (tailQ P (L ++ [m]).toArray m Q) fuel listed a w -> wpAny P .any (L ++ [m]).toArray Q (fuel + 1) (listed.push false) a w := by
 have hcc := hc
 unfold coverS at hcc
 simp only [Bool.and_eq_true, Option.isNone_iff_eq_none] at hcc
 have hlm : ((L ++ [m]).toArray)[n]? = some m := by simp [<- hn]
 have hls : ∀ i, i < n -> ((L ++ [m]).toArray)[i]? = (L.toArray)[i]? := fun i hi => by
  simp only [List.getElem?_toArray]
  rw [List.getElem?_append_left (by omega)]
 have done : ∀ (listed : Array Bool), listed.size = n -> Closed (L ++ [m]) listed -> n ∈ Region.ready .any (L ++ [m]).toArray (listed.push false) -> Region.ready .any L.toArray listed = [] := fun listed hsz hcl hr => by
  obtain ⟨_, o, ho, hall⟩ := mem_ready.1 hr
  rw [hlm] at ho
  cases ho
  have hall' : ∀ e ∈ m.after, Region.binds .any e = true -> listed.getD e.on false = true := fun e he hb => by rw [<- push_false]; exact hall e he hb
  cases he : Region.ready .any L.toArray listed with
  | nil => rfl
  | cons j r =>
   exfalso
   have hj : j ∈ Region.ready .any L.toArray listed := by rw [he]; exact List.mem_cons_self
   obtain ⟨hju, oj, hoj, _⟩ := mem_ready.1 hj
   have hjl : j < L.length := by
    apply Nat.lt_of_not_le; intro hcn
    simp only [List.getElem?_toArray] at hoj
    rw [List.getElem?_eq_none hcn] at hoj; cases hoj
   have h2 := List.all_eq_true.1 hcc.2 j (List.mem_range.2 hjl)
   have h3 := covN_listed hall' hcl 8 j h2
   have hsz' : j < listed.size := by omega
   simp [hsz'] at hju h3
   rw [hju] at h3; cases h3
 have empty : ∀ (listed : Array Bool), listed.size = n -> Region.ready .any L.toArray listed = [] -> Region.ready .any (L ++ [m]).toArray ((listed.push false).setIfInBounds n true) = [] := fun listed hsz h0 => by
  cases he : Region.ready .any (L ++ [m]).toArray ((listed.push false).setIfInBounds n true) with
  | nil => rfl
  | cons j r =>
   exfalso
   have hj : j ∈ Region.ready .any (L ++ [m]).toArray ((listed.push false).setIfInBounds n true) := by rw [he]; exact List.mem_cons_self
   obtain ⟨hju, oj, hoj, _⟩ := mem_ready.1 hj
   have hjl : j < n + 1 := by
    apply Nat.lt_of_not_le; intro hcn
    simp only [List.getElem?_toArray] at hoj
    rw [List.getElem?_eq_none (by simp; omega)] at hoj; cases hoj
   by_cases hjn : j = n
   · subst hjn
     simp [hsz] at hju
   · have h1 : listed.getD j true = false := by
      rw [getD_set_ne true (fun h => hjn h.symm), push_true (by omega)] at hju; exact hju
     have hbl : backB L = true := by
      unfold backB at hb ⊢
      rw [List.all_eq_true] at hb ⊢
      intro i hi
      have hi' := List.mem_range.1 hi
      have := hb i (List.mem_range.2 (by rw [List.length_append]; omega))
      rw [List.getElem?_append_left hi'] at this
      exact this
     exact some_ready hbl (by omega) j (by omega) h1 h0
 have last : ∀ (fuel : Nat) (listed : Array Bool) (a : Act) (w : World), listed.size = n -> Region.ready .any L.toArray listed = [] -> wpList P (L ++ [m]).toArray Q [m] a w -> wpOp P (L ++ [m]).toArray Q n (wpAny P .any (L ++ [m]).toArray Q fuel ((listed.push false).setIfInBounds n true)) a w := fun fuel listed a w hsz h0 hw => by
  have hempty := empty listed hsz h0
  have hnext : ∀ a' w', Q .normal a' w' -> wpAny P .any (L ++ [m]).toArray Q fuel ((listed.push false).setIfInBounds n true) a' w' := by
   intro a' w' hq
   cases fuel with
   | zero => exact ⟨hempty, hq⟩
   | succ fuel => exact ⟨fun _ => hq, fun j hj => by rw [hempty] at hj; cases hj⟩
  refine wpOp_mono hnext ?_
  unfold wpOp
  simp only [hlm]
  exact hw
 intro fuel
 induction fuel with
 | zero =>
  intro listed a w hsz hcl h
  refine ⟨fun h0 => ?_, fun i hi => ?_⟩
  · exact absurd h0 (some_ready hb (by simp [hsz, hn]) n (by simp [hn]) (by simp [Array.getD_eq_getD_getElem?, <- hsz]))
  · have hin : i = n := by
     apply Classical.byContradiction; intro hne
     obtain ⟨hju, oj, hoj, hall⟩ := mem_ready.1 hi
     have hil : i < n := by
      apply Nat.lt_of_not_le; intro hcn
      simp only [List.getElem?_toArray] at hoj
      rw [List.getElem?_eq_none (by simp; omega)] at hoj; cases hoj
     have : i ∈ Region.ready .any L.toArray listed := mem_ready.2 ⟨by rw [<- push_true (by omega)]; exact hju, oj, by rw [<- hls i hil]; exact hoj, fun e he hb => by rw [<- push_false]; exact hall e he hb⟩
     rw [h.1] at this; cases this
    subst hin
    exact last 0 listed a w hsz h.1 h.2
 | succ fuel ih =>
  intro listed a w hsz hcl h
  refine ⟨fun h0 => ?_, fun i hi => ?_⟩
  · exact absurd h0 (some_ready hb (by simp [hsz, hn]) n (by simp [hn]) (by simp [Array.getD_eq_getD_getElem?, <- hsz]))
  · by_cases hin : i = n
    · subst hin
      have h0 := done listed hsz hcl hi
      exact last _ listed a w hsz h0 (h.1 h0)
    · obtain ⟨hju, oj, hoj, hall⟩ := mem_ready.1 hi
      have hil : i < n := by
       apply Nat.lt_of_not_le; intro hcn
       simp only [List.getElem?_toArray] at hoj
       rw [List.getElem?_eq_none (by simp; omega)] at hoj; cases hoj
      have hr : i ∈ Region.ready .any L.toArray listed := mem_ready.2 ⟨by rw [<- push_true (by omega)]; exact hju, oj, by rw [<- hls i hil]; exact hoj, fun e he hb => by rw [<- push_false]; exact hall e he hb⟩
      have hr2 : i ∈ Region.ready .any (L ++ [m]).toArray listed := mem_ready.2 ⟨by rw [<- push_true (by omega)]; exact hju, oj, hoj, fun e he hb => by rw [<- push_false]; exact hall e he hb⟩
      have h1 := wpOp_mono (fun a' w' hk => ih (listed.setIfInBounds i true) a' w' (by simpa using hsz) (hcl.set hr2) hk) (h.2 i hr)
      rw [<- push_set (by omega)] at h1
      have hmem : oj ∈ L := by
       rw [hls i hil] at hoj
       simp only [List.getElem?_toArray] at hoj
       exact List.mem_of_getElem? hoj
      have hoj2 := hoj
      rw [hls i hil] at hoj2
      unfold wpOp at h1 ⊢
      rw [hoj2] at h1
      rw [hoj]
      simp only at h1 ⊢
      rw [wanted_tail hg hmem]
      split at h1
      · rename_i hw
        rw [if_pos hw]
        rcases h1 with h1 | h1
        · refine Or.inl ?_
          unfold Oper.wp at h1 ⊢
          generalize (execOp a.eval oj).run P w = r at h1 ⊢
          cases r with
          | ok nx w' => cases nx <;> exact h1
          | halt x w' => cases x <;> exact h1
        · exact Or.inr h1
      · rename_i hw
        rw [if_neg hw]
        exact h1
def tailB (L : List Oper) : Bool := !L.isEmpty && backB L && guardB L.dropLast && ((lastL L).all fun m => coverS L.dropLast m)
theorem partedT : ∀ (L : List Oper), L ≠ [] -> ∃ l m, L = l ++ [m] ∧ L.dropLast = l ∧ lastL L = [m] := fun L h => by
 obtain ⟨l, m, h1, _, h3, h4⟩ := partedS L h
 exact ⟨l, m, h1, h3, h4⟩
end
end Go.Proofs.YtipobchbnjgenaaGreat
namespace Go.Proofs.YtipobchbnjgenaaGreat
theorem wp_region_two {P : Program} {id : Nat} {S : World -> Prop} {Q : Exit -> Act -> World -> Prop} {a : Act} {w : World} {L : List Oper} {s t : Oper} (hm : P.follows .mixedOrders = true) (hT : tailB L = true) (hT2 : tailB L.dropLast = true) (hs : lastL L.dropLast = [s]) (ht : lastL L = [t]) (hS : S w.drew)
 (h : S w.drew -> wpAnyH P .any L.dropLast.dropLast.toArray (tailQ P L.dropLast.toArray s (tailQ P L.toArray t Q)) S L.dropLast.dropLast.toArray.size (Array.replicate L.dropLast.dropLast.toArray.size false) a w.drew) : (Code.region id L.toArray true).wp P Q a w := by
 have h0 := wpAny_of_held _ _ _ _ (h hS)
 unfold tailB at hT hT2
 simp only [Bool.and_eq_true] at hT hT2
 obtain ⟨⟨⟨hne, hb⟩, hg⟩, hc⟩ := hT
 obtain ⟨⟨⟨hne2, hb2⟩, hg2⟩, hc2⟩ := hT2
 obtain ⟨L1, t', hL, h3, h4⟩ := partedT L (by intro h; rw [h] at hne; simp at hne)
 rw [h4] at ht hc
 injection ht with ht
 subst ht
 subst hL
 rw [h3] at hg hc hs hne2 hb2 hg2 hc2 h0
 obtain ⟨l, s', hL, h5, h6⟩ := partedT L1 (by intro h; rw [h] at hne2; simp at hne2)
 rw [h6] at hs hc2
 injection hs with hs
 subst hs
 subst hL
 rw [h5] at hg2 hc2 h0
 have hc : coverS (l ++ [s']) t' = true := by simpa using hc
 have hc2 : coverS l s' = true := by simpa using hc2
 have h1 := any_tail rfl hb2 hg2 hc2 (Q := tailQ P (l ++ [s'] ++ [t']).toArray t' Q) _ (Array.replicate l.length false) a w.drew (by simp) (fun j o _ hj => by rw [none_listed] at hj; cases hj) h0
 have e : (Array.replicate l.length false).push false = Array.replicate (l.length + 1) false := by
  rw [<- Array.replicate_succ]
 rw [e] at h1
 have h2 := any_tail (n := l.length + 1) (by simp) hb hg hc (Q := Q) _ (Array.replicate (l.length + 1) false) a w.drew (by simp) (fun j o _ hj => by rw [none_listed] at hj; cases hj) h1
 have e1 : (Array.replicate (l.length + 1) false).push false = Array.replicate (l ++ [s'] ++ [t']).toArray.size false := by
  rw [<- Array.replicate_succ]; simp
 have e2 : l.toArray.size + 1 + 1 = (l ++ [s'] ++ [t']).toArray.size := by simp
 rw [e1, e2] at h2
 exact wp_region_any hm h2
end Go.Proofs.YtipobchbnjgenaaGreat
