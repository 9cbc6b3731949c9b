import Derived.Lib.ItoaNum
set_option linter.unusedVariables false
set_option linter.unusedSimpArgs false
set_option maxRecDepth 100000
set_option maxHeartbeats 4000000
namespace Go.Proofs.YtjhididlcdepdaaGreat.Slp
abbrev Tx := List UInt8
def num (l : Tx) : Nat := l.foldl (fun n d => 10 * n + (d.toNat - 48)) 0
end Go.Proofs.YtjhididlcdepdaaGreat.Slp
namespace Go.Proofs.YtjhididlcdepdaaGreat.Slp
structure O4 where
 k : Int
 a : Int
 b : Int
 c : Int
structure Pr where
 inp : Int
 ops : List O4
 outs : List Int
def opM (o : O4) (own : Int) : Bool :=
 if o.k = 1 ∨ o.k = 2 ∨ o.k = 3 then decide (0 <= o.a ∧ o.a < own ∧ 0 <= o.b ∧ o.b < own ∧ o.c = 0) else if o.k = 4 then decide (o.a = 0 ∧ o.b = 0) else false
def opsM (inp : Int) : Nat -> List O4 -> Bool
 | _, [] => true
 | i, o :: os => opM o (inp + i) && opsM inp (i + 1) os
def outM (inp : Int) (n : Nat) (outs : List Int) : Bool := outs.all (fun v => decide (0 <= v ∧ v < inp + n))
def mayB (p : Pr) : Bool := decide (0 <= p.inp ∧ p.inp <= 64 ∧ p.ops.length <= 256 ∧ p.outs.length <= 64) && (opsM p.inp 0 p.ops && outM p.inp p.ops.length p.outs)
theorem mayB_iff {p : Pr} : mayB p = true ↔ (0 <= p.inp ∧ p.inp <= 64 ∧ p.ops.length <= 256 ∧ p.outs.length <= 64) ∧ opsM p.inp 0 p.ops = true ∧ outM p.inp p.ops.length p.outs = true := by
 unfold mayB
 rw [Bool.and_eq_true, Bool.and_eq_true, decide_eq_true_iff]
end Go.Proofs.YtjhididlcdepdaaGreat.Slp
namespace Go.Proofs.YtjhididlcdepdaaGreat.Slp
def shO (at_ : List Int) (o : O4) : O4 := if o.k = 4 then o else ⟨o.k, at_.getD o.a.toNat 0, at_.getD o.b.toNat 0, o.c⟩
theorem opsM_get (inp : Int) : ∀ (os : List O4) (i j : Nat) (hj : j < os.length), opsM inp i os = true -> opM os[j] (inp + ((i + j : Nat) : Int)) = true
 | [], i, j, hj, _ => by simp at hj
 | o :: os, i, j, hj, h => by
  have h' : (opM o (inp + i) && opsM inp (i + 1) os) = true := h
  rw [Bool.and_eq_true] at h'
  cases j with
  | zero => exact h'.1
  | succ j =>
   have := opsM_get inp os (i + 1) j (by simpa using hj) h'.2
   rw [show i + (j + 1) = i + 1 + j by omega]; exact this
def hand (n : Nat) : Pr := ⟨n, [], (List.range n).map (fun j : Nat => (j : Int))⟩
end Go.Proofs.YtjhididlcdepdaaGreat.Slp
namespace Go.Proofs.YtjhididlcdepdaaGreat.Slp
def dgS (l : List Nat) (o : O4) : Nat := if o.k = 1 ∨ o.k = 2 then max (l.getD o.a.toNat 0) (l.getD o.b.toNat 0) else if o.k = 3 then l.getD o.a.toNat 0 + l.getD o.b.toNat 0 else 0
def dgL (f : Nat -> Nat) (l : List Nat) : List O4 -> List Nat
 | [] => l
 | o :: os => dgL f (l ++ [f (dgS l o)]) os
def dgs (p : Pr) : List Nat := dgL id (List.replicate p.inp.toNat 1) p.ops
theorem dgL_len (f : Nat -> Nat) : ∀ (os : List O4) (l : List Nat), (dgL f l os).length = l.length + os.length
 | [], l => rfl
 | o :: os, l => by
  show (dgL f (l ++ [f (dgS l o)]) os).length = _
  rw [dgL_len f os]; simp; omega
theorem dgL_app (f : Nat -> Nat) : ∀ (os os' : List O4) (l : List Nat), dgL f l (os ++ os') = dgL f (dgL f l os) os'
 | [], os', l => rfl
 | o :: os, os', l => by
  show dgL f (l ++ [f (dgS l o)]) (os ++ os') = dgL f (dgL f (l ++ [f (dgS l o)]) os) os'
  exact dgL_app f os os' _
theorem getD_app {α : Type} (l l' : List α) (d : α) {v : Nat} (h : v < l.length) : (l ++ l').getD v d = l.getD v d := by
 rw [List.getD_eq_getElem?_getD, List.getElem?_append_left h, <- List.getD_eq_getElem?_getD]
theorem getD_last {α : Type} (l : List α) (x d : α) : (l ++ [x]).getD l.length d = x := by
 rw [List.getD_eq_getElem?_getD, List.getElem?_append_right (Nat.le_refl _)]; simp
theorem dgL_get (f : Nat -> Nat) : ∀ (os : List O4) (l : List Nat) {v : Nat}, v < l.length -> (dgL f l os).getD v 0 = l.getD v 0
 | [], l, v, h => rfl
 | o :: os, l, v, h => by
  show (dgL f (l ++ [f (dgS l o)]) os).getD v 0 = _
  rw [dgL_get f os _ (by simp; omega), getD_app _ _ _ h]
theorem dgL_next (f : Nat -> Nat) (os : List O4) (l : List Nat) {i : Nat} (h : i < os.length) : dgL f l (os.take (i + 1)) = dgL f l (os.take i) ++ [f (dgS (dgL f l (os.take i)) os[i])] := by
 rw [List.take_succ_eq_append_getElem h, dgL_app]; rfl
theorem dgL_at (f : Nat -> Nat) (os : List O4) (l : List Nat) {i : Nat} (h : i < os.length) : (dgL f l os).getD (l.length + i) 0 = f (dgS (dgL f l (os.take i)) os[i]) := by
 have e : os = os.take (i + 1) ++ os.drop (i + 1) := (List.take_append_drop _ _).symm
 have hl : (dgL f l (os.take i)).length = l.length + i := by rw [dgL_len, List.length_take, Nat.min_eq_left (by omega)]
 conv => lhs; rw [e, dgL_app]
 rw [dgL_get f _ _ (by rw [dgL_len, List.length_take]; omega), dgL_next f os l h, <- hl, getD_last]
theorem dgL_arg (f : Nat -> Nat) (os : List O4) (l : List Nat) {i v : Nat} (h : i <= os.length) (hv : v < l.length + i) : (dgL f l (os.take i)).getD v 0 = (dgL f l os).getD v 0 := by
 conv => rhs; rw [<- List.take_append_drop i os, dgL_app]
 exact (dgL_get f _ _ (by rw [dgL_len, List.length_take]; omega)).symm
def mxl (l : List Nat) : Nat := l.foldl max 0
def dgO (p : Pr) : Nat := mxl (p.outs.map (fun v => (dgs p).getD v.toNat 0))
end Go.Proofs.YtjhididlcdepdaaGreat.Slp
namespace Go.Proofs.YtjhididlcdepdaaGreat.Slp
def wtS (inp : Nat) (w : List Bool) (i : Nat) (o : O4) : List Bool := if w.getD (inp + i) false = true ∧ ¬ o.k = 4 then (w.set o.a.toNat true).set o.b.toNat true else w
def wtD (inp : Nat) (ops : List O4) : Nat -> List Bool -> List Bool
 | 0, w => w
 | i + 1, w => wtD inp ops i (wtS inp w i (ops.getD i ⟨0, 0, 0, 0⟩))
def wt0 (p : Pr) : List Bool := p.outs.foldl (fun w v => w.set v.toNat true) (List.replicate (p.inp.toNat + p.ops.length) false)
def wtd (p : Pr) : List Bool := wtD p.inp.toNat p.ops p.ops.length (wt0 p)
theorem set_get (w : List Bool) (k v : Nat) (hk : k < w.length) : (w.set k true).getD v false = if v = k then true else w.getD v false := by
 rw [List.getD_eq_getElem?_getD, List.getElem?_set]
 by_cases h : v = k
 · subst h; simp [hk]
 · rw [if_neg (fun e => h e.symm), if_neg h, <- List.getD_eq_getElem?_getD]
theorem wtS_len (inp : Nat) (w : List Bool) (i : Nat) (o : O4) : (wtS inp w i o).length = w.length := by unfold wtS; split <;> simp
theorem wtD_len (inp : Nat) (ops : List O4) : ∀ (i : Nat) (w : List Bool), (wtD inp ops i w).length = w.length
 | 0, w => rfl
 | i + 1, w => by
  show (wtD inp ops i (wtS inp w i _)).length = _
  rw [wtD_len inp ops i, wtS_len]
theorem wtS_mono (inp : Nat) (w : List Bool) (i : Nat) (o : O4) (v : Nat) (h : w.getD v false = true) : (wtS inp w i o).getD v false = true := by
 unfold wtS
 split
 · have key : ∀ (w : List Bool) (k : Nat), w.getD v false = true -> (w.set k true).getD v false = true := fun w k h => by
    by_cases hk : k < w.length
    · rw [set_get w k v hk]; split
      · rfl
      · exact h
    · rw [List.set_eq_of_length_le (by omega)]; exact h
   exact key _ _ (key _ _ h)
 · exact h
theorem wtD_mono (inp : Nat) (ops : List O4) : ∀ (i : Nat) (w : List Bool) (v : Nat), w.getD v false = true -> (wtD inp ops i w).getD v false = true
 | 0, w, v, h => h
 | i + 1, w, v, h => wtD_mono inp ops i _ v (wtS_mono inp w i _ v h)
theorem wtD_high (inp : Nat) (ops : List O4) (hm : ∀ i (h : i < ops.length), ¬ ops[i].k = 4 -> ops[i].a.toNat < inp + i ∧ ops[i].b.toNat < inp + i) : ∀ (i : Nat) (w : List Bool) (v : Nat), i <= ops.length -> inp + ops.length <= w.length -> inp + i <= v + 1 -> (wtD inp ops i w).getD v false = true -> w.getD v false = true ∨ v + 1 < inp + i
 | 0, w, v, _, _, _, h => .inl h
 | i + 1, w, v, hi, hw, hv, h => by
  have e : ops.getD i ⟨0, 0, 0, 0⟩ = ops[i] := by rw [List.getD_eq_getElem?_getD, List.getElem?_eq_getElem (by omega)]; rfl
  rcases wtD_high inp ops hm i (wtS inp w i (ops.getD i ⟨0, 0, 0, 0⟩)) v (by omega) (by rw [wtS_len]; exact hw) (by omega) h with h1 | h1
  · rw [e] at h1
    unfold wtS at h1
    split at h1
    · rename_i hc
      have := hm i (by omega) hc.2
      rw [set_get _ _ _ (by simp; omega), set_get _ _ _ (by omega), if_neg (by omega), if_neg (by omega)] at h1
      exact .inl h1
    · exact .inl h1
  · exact .inr (by omega)
theorem wtD_split (inp : Nat) (ops : List O4) : ∀ (n i : Nat) (w : List Bool), i <= n -> ∃ w', wtD inp ops n w = wtD inp ops i w' ∧ w'.length = w.length
 | 0, i, w, h => ⟨w, by rw [show i = 0 by omega], rfl⟩
 | n + 1, i, w, h => by
  by_cases e : i = n + 1
  · exact ⟨w, by rw [e], rfl⟩
  · obtain ⟨w', h1, h2⟩ := wtD_split inp ops n i (wtS inp w n (ops.getD n ⟨0, 0, 0, 0⟩)) (by omega)
    exact ⟨w', h1, by rw [h2, wtS_len]⟩
theorem wt0_len (p : Pr) : (wt0 p).length = p.inp.toNat + p.ops.length := by
 have key : ∀ (os : List Int) (w : List Bool), (os.foldl (fun w v => w.set v.toNat true) w).length = w.length := by
  intro os
  induction os with
  | nil => intro w; rfl
  | cons v os ih => intro w; rw [List.foldl_cons, ih]; simp
 unfold wt0; rw [key]; simp
theorem wtd_len (p : Pr) : (wtd p).length = p.inp.toNat + p.ops.length := by unfold wtd; rw [wtD_len, wt0_len]
theorem may_args {p : Pr} (hm : mayB p = true) : ∀ i (h : i < p.ops.length), ¬ p.ops[i].k = 4 -> (0 <= p.ops[i].a ∧ 0 <= p.ops[i].b) ∧ p.ops[i].a.toNat < p.inp.toNat + i ∧ p.ops[i].b.toNat < p.inp.toNat + i := fun i h hk => by
 obtain ⟨⟨i0, i1, l1, l3⟩, mo, mu⟩ := mayB_iff.1 hm
 have := opsM_get p.inp p.ops 0 i h mo
 rw [Nat.zero_add] at this
 unfold opM at this
 split at this
 · have := of_decide_eq_true this
   omega
 · first | (cases this; done) | (rw [if_neg hk] at this; cases this)
theorem may_out {p : Pr} (hm : mayB p = true) : ∀ v ∈ p.outs, 0 <= v ∧ v.toNat < p.inp.toNat + p.ops.length := fun v hv => by
 obtain ⟨⟨i0, i1, l1, l3⟩, mo, mu⟩ := mayB_iff.1 hm
 have := of_decide_eq_true (List.all_eq_true.1 mu v hv)
 omega
theorem wt_fold (N : Nat) : ∀ (os : List Int) (w : List Bool), w.length = N -> (∀ v ∈ os, v.toNat < N) -> ∀ u, (os.foldl (fun w v => w.set v.toNat true) w).getD u false = true ↔ (w.getD u false = true ∨ ∃ v ∈ os, v.toNat = u)
 | [], w, hw, _, u => by simp
 | v :: os, w, hw, ho, u => by
  rw [List.foldl_cons, wt_fold N os (w.set v.toNat true) (by simpa using hw) (fun x hx => ho x (List.mem_cons_of_mem _ hx)) u, set_get w _ _ (by rw [hw]; exact ho v (by simp))]
  constructor
  · rintro (h | ⟨x, hx, e⟩)
    · split at h
      · rename_i e; exact .inr ⟨v, by simp, e.symm⟩
      · exact .inl h
    · exact .inr ⟨x, List.mem_cons_of_mem _ hx, e⟩
  · rintro (h | ⟨x, hx, e⟩)
    · left; split
      · rfl
      · exact h
    · rcases List.mem_cons.1 hx with rfl | hx
      · left; rw [if_pos e.symm]
      · exact .inr ⟨x, hx, e⟩
theorem wt0_iff {p : Pr} (hm : mayB p = true) (u : Nat) : (wt0 p).getD u false = true ↔ ∃ v ∈ p.outs, v.toNat = u := by
 unfold wt0
 rw [wt_fold (p.inp.toNat + p.ops.length) p.outs _ (by simp) (fun v hv => (may_out hm v hv).2)]
 constructor
 · rintro (h | h)
   · rw [List.getD_eq_getElem?_getD, List.getElem?_replicate] at h
     split at h <;> cases h
   · exact h
 · exact .inr
theorem wt_out {p : Pr} (hm : mayB p = true) {v : Int} (hv : v ∈ p.outs) : (wtd p).getD v.toNat false = true := wtD_mono _ _ _ _ _ ((wt0_iff hm _).2 ⟨v, hv, rfl⟩)
theorem wt_arg {p : Pr} (hm : mayB p = true) {i : Nat} (hi : i < p.ops.length) (hw : (wtd p).getD (p.inp.toNat + i) false = true) (hk : ¬ p.ops[i].k = 4) : (wtd p).getD p.ops[i].a.toNat false = true ∧ (wtd p).getD p.ops[i].b.toNat false = true := by
 obtain ⟨w', e1, e2⟩ := wtD_split p.inp.toNat p.ops p.ops.length (i + 1) (wt0 p) (by omega)
 have hl : w'.length = p.inp.toNat + p.ops.length := by rw [e2, wt0_len]
 have ha := (may_args hm i hi hk).2
 unfold wtd at hw ⊢
 rw [e1] at hw ⊢
 have e : p.ops.getD i ⟨0, 0, 0, 0⟩ = p.ops[i] := by rw [List.getD_eq_getElem?_getD, List.getElem?_eq_getElem hi]; rfl
 rcases wtD_high p.inp.toNat p.ops (fun j h h4 => (may_args hm j h h4).2) (i + 1) w' (p.inp.toNat + i) (by omega) (by omega) (by omega) hw with h1 | h1
 · have hs : wtS p.inp.toNat w' i (p.ops.getD i ⟨0, 0, 0, 0⟩) = (w'.set p.ops[i].a.toNat true).set p.ops[i].b.toNat true := by rw [e]; unfold wtS; rw [if_pos ⟨h1, hk⟩]
   show (wtD p.inp.toNat p.ops i (wtS p.inp.toNat w' i _)).getD _ false = true ∧ (wtD p.inp.toNat p.ops i (wtS p.inp.toNat w' i _)).getD _ false = true
   rw [hs]
   constructor
   · refine wtD_mono _ _ _ _ _ ?_
     rw [set_get _ _ _ (by simp; omega)]
     split
     · rfl
     · rw [set_get _ _ _ (by omega), if_pos rfl]
   · refine wtD_mono _ _ _ _ _ ?_
     rw [set_get _ _ _ (by simp; omega), if_pos rfl]
 · omega
end Go.Proofs.YtjhididlcdepdaaGreat.Slp
namespace Go.Proofs.YtjhididlcdepdaaGreat.Slp
def trS (p : Pr) : Nat -> List Int × List O4
 | 0 => ((List.range p.inp.toNat).map (fun j : Nat => (j : Int)), [])
 | i + 1 =>
  let s := trS p i
  if (wtd p).getD (p.inp.toNat + i) false = true then (s.1 ++ [p.inp + (s.2.length : Int)], s.2 ++ [shO s.1 (p.ops.getD i ⟨0, 0, 0, 0⟩)]) else (s.1 ++ [p.inp + (i : Int)], s.2)
def trP (p : Pr) : Pr := ⟨p.inp, (trS p p.ops.length).2, p.outs.map (fun v => (trS p p.ops.length).1.getD v.toNat 0)⟩
theorem trS_yes {p : Pr} {i : Nat} (h : (wtd p).getD (p.inp.toNat + i) false = true) : trS p (i + 1) = ((trS p i).1 ++ [p.inp + ((trS p i).2.length : Int)], (trS p i).2 ++ [shO (trS p i).1 (p.ops.getD i ⟨0, 0, 0, 0⟩)]) := by
 show (if _ then _ else _) = _
 rw [if_pos h]
theorem trS_no {p : Pr} {i : Nat} (h : ¬ (wtd p).getD (p.inp.toNat + i) false = true) : trS p (i + 1) = ((trS p i).1 ++ [p.inp + (i : Int)], (trS p i).2) := by
 show (if _ then _ else _) = _
 rw [if_neg h]
theorem trS_len (p : Pr) : ∀ i, (trS p i).1.length = p.inp.toNat + i ∧ (trS p i).2.length <= i
 | 0 => ⟨by simp [trS], Nat.le_refl _⟩
 | i + 1 => by
  have ih := trS_len p i
  by_cases h : (wtd p).getD (p.inp.toNat + i) false = true
  · rw [trS_yes h]; simp; omega
  · rw [trS_no h]; simp; omega
theorem trS_at (p : Pr) {i n v : Nat} (hi : i <= n) (hv : v < p.inp.toNat + i) : (trS p n).1.getD v 0 = (trS p i).1.getD v 0 := by
 induction n with
 | zero => rw [show i = 0 by omega]
 | succ n ih =>
  by_cases e : i = n + 1
  · rw [e]
  · rw [<- ih (by omega)]
    have hl := (trS_len p n).1
    by_cases h : (wtd p).getD (p.inp.toNat + n) false = true
    · rw [trS_yes h]; exact getD_app _ _ _ (by omega)
    · rw [trS_no h]; exact getD_app _ _ _ (by omega)
theorem trS_low (p : Pr) {i v : Nat} (hv : v < p.inp.toNat) : (trS p i).1.getD v 0 = (v : Int) := by
 rw [trS_at p (Nat.zero_le i) (by omega)]
 show ((List.range p.inp.toNat).map (fun j : Nat => (j : Int))).getD v 0 = _
 rw [List.getD_eq_getElem?_getD]; simp [hv]
theorem trS_step {p : Pr} {i n : Nat} (hi : i < n) (h : (wtd p).getD (p.inp.toNat + i) false = true) : (trS p n).1.getD (p.inp.toNat + i) 0 = p.inp + ((trS p i).2.length : Int) := by
 rw [trS_at p (i := i + 1) hi (by omega), trS_yes h, <- (trS_len p i).1, getD_last]
theorem trS_pre (p : Pr) {i n : Nat} (hi : i <= n) : ∃ os, (trS p n).2 = (trS p i).2 ++ os := by
 induction n with
 | zero => exact ⟨[], by rw [show i = 0 by omega]; simp⟩
 | succ n ih =>
  by_cases e : i = n + 1
  · exact ⟨[], by rw [e]; simp⟩
  · obtain ⟨os, h1⟩ := ih (by omega)
    by_cases h : (wtd p).getD (p.inp.toNat + n) false = true
    · exact ⟨os ++ [shO (trS p n).1 (p.ops.getD n ⟨0, 0, 0, 0⟩)], by rw [trS_yes h]; show (trS p n).2 ++ _ = _; rw [h1]; simp⟩
    · exact ⟨os, by rw [trS_no h]; exact h1⟩
theorem trS_get {p : Pr} {i n : Nat} (hi : i < n) (hp : i < p.ops.length) (h : (wtd p).getD (p.inp.toNat + i) false = true) : ∃ hl : (trS p i).2.length < (trS p n).2.length, (trS p n).2[(trS p i).2.length] = shO (trS p i).1 p.ops[i] := by
 obtain ⟨os, e⟩ := trS_pre p (i := i + 1) (n := n) hi
 rw [trS_yes h] at e
 have e2 : (trS p n).2 = (trS p i).2 ++ (shO (trS p i).1 p.ops[i] :: os) := by
  rw [e]
  have : p.ops.getD i ⟨0, 0, 0, 0⟩ = p.ops[i] := by rw [List.getD_eq_getElem?_getD, List.getElem?_eq_getElem hp]; rfl
  rw [this]; simp
 refine ⟨by rw [e2]; simp, ?_⟩
 simp only [e2]
 rw [List.getElem_append_right (Nat.le_refl _)]
 simp
theorem trS_in {p : Pr} (h0 : 0 <= p.inp) {i n v : Nat} (hi : i <= n) (hv : v < p.inp.toNat + i) (hw : (wtd p).getD v false = true) : 0 <= (trS p n).1.getD v 0 ∧ (trS p n).1.getD v 0 < p.inp + ((trS p i).2.length : Int) := by
 by_cases h1 : v < p.inp.toNat
 · rw [trS_low p h1]; omega
 · obtain ⟨j, rfl⟩ : ∃ j, v = p.inp.toNat + j := ⟨v - p.inp.toNat, by omega⟩
   rw [trS_step (by omega) hw]
   obtain ⟨os, e⟩ := trS_pre p (i := j + 1) (n := i) (by omega)
   rw [trS_yes hw] at e
   have := congrArg List.length e
   simp at this
   omega
theorem wt_lt {p : Pr} {v : Nat} (h : (wtd p).getD v false = true) : v < p.inp.toNat + p.ops.length := by
 rw [<- wtd_len]
 apply Nat.lt_of_not_le
 intro hn
 rw [List.getD_eq_getElem?_getD, List.getElem?_eq_none hn] at h
 cases h
theorem tr_deg {p : Pr} (hm : mayB p = true) : ∀ v, (wtd p).getD v false = true -> (dgs (trP p)).getD ((trS p p.ops.length).1.getD v 0).toNat 0 = (dgs p).getD v 0 := by
 obtain ⟨⟨i0, i1, l1, l3⟩, mo, mu⟩ := mayB_iff.1 hm
 intro v
 induction v using Nat.strongRecOn with
 | _ v ih =>
  intro hw
  have hlt := wt_lt hw
  by_cases h1 : v < p.inp.toNat
  · rw [trS_low p h1, Int.toNat_natCast]
    have h5 : v < (List.replicate p.inp.toNat 1).length := by simpa using h1
    show (dgL id (List.replicate p.inp.toNat 1) (trP p).ops).getD v 0 = (dgL id (List.replicate p.inp.toNat 1) p.ops).getD v 0
    rw [dgL_get id _ _ h5, dgL_get id _ _ h5]
  · obtain ⟨i, rfl⟩ : ∃ i, v = p.inp.toNat + i := ⟨v - p.inp.toNat, by omega⟩
    have hi : i < p.ops.length := by omega
    obtain ⟨hl, e⟩ := trS_get hi hi hw
    have e' : (trP p).ops[(trS p i).2.length]'hl = shO (trS p i).1 p.ops[i] := e
    rw [trS_step hi hw, show (p.inp + ((trS p i).2.length : Int)).toNat = p.inp.toNat + (trS p i).2.length by omega]
    have a1 := dgL_at id p.ops (List.replicate p.inp.toNat 1) hi
    have a2 := dgL_at id (trP p).ops (List.replicate p.inp.toNat 1) hl
    rw [List.length_replicate] at a1 a2
    show (dgL id (List.replicate p.inp.toNat 1) (trP p).ops).getD _ 0 = (dgL id (List.replicate p.inp.toNat 1) p.ops).getD _ 0
    rw [a1, a2, e']
    show dgS _ _ = dgS _ _
    unfold shO
    by_cases h4 : p.ops[i].k = 4
    · rw [if_pos h4]
      have k1 : ¬ (p.ops[i].k = 1 ∨ p.ops[i].k = 2) := by omega
      have k2 : ¬ p.ops[i].k = 3 := by omega
      unfold dgS
      rw [if_neg k1, if_neg k2, if_neg k1, if_neg k2]
    · rw [if_neg h4]
      have ha := may_args hm i hi h4
      have hb := wt_arg hm hi hw h4
      have arg : ∀ u, u < p.inp.toNat + i -> (wtd p).getD u false = true -> (dgL id (List.replicate p.inp.toNat 1) ((trP p).ops.take (trS p i).2.length)).getD ((trS p i).1.getD u 0).toNat 0 = (dgL id (List.replicate p.inp.toNat 1) (p.ops.take i)).getD u 0 := fun u hu hwu => by
       have hin := trS_in (p := p) i0 (i := i) (n := i) (Nat.le_refl _) hu hwu
       rw [dgL_arg id p.ops _ (by omega) (by simpa using hu), dgL_arg id (trP p).ops _ (Nat.le_of_lt hl) (by rw [List.length_replicate]; omega)]
       have := ih u hu hwu
       rw [trS_at p (i := i) (Nat.le_of_lt hi) hu] at this
       exact this
      unfold dgS
      dsimp only
      rw [arg _ ha.2.1 hb.1, arg _ ha.2.2 hb.2]
theorem tr_out {p : Pr} (hm : mayB p = true) : dgO (trP p) = dgO p := by
 unfold dgO
 congr 1
 show (p.outs.map _).map _ = _
 rw [List.map_map]
 exact List.map_congr_left (fun v hv => tr_deg hm v.toNat (wt_out hm hv))
end Go.Proofs.YtjhididlcdepdaaGreat.Slp
