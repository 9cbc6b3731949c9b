import Derived.Lib.ItoaNum
set_option linter.unusedVariables false
set_option linter.unusedSimpArgs false
set_option maxRecDepth 100000
set_option maxHeartbeats 4000000
namespace Go.Proofs.YtjhididlcdepdaaGreat.Slp
abbrev Tx := List UInt8
def num (l : Tx) : Nat := l.foldl (fun n d => 10 * n + (d.toNat - 48)) 0
end Go.Proofs.YtjhididlcdepdaaGreat.Slp
namespace Go.Proofs.YtjhididlcdepdaaGreat.Slp
structure O4 where
 k : Int
 a : Int
 b : Int
 c : Int
structure Pr where
 inp : Int
 ops : List O4
 outs : List Int
def opM (o : O4) (own : Int) : Bool :=
 if o.k = 1 ∨ o.k = 2 ∨ o.k = 3 then decide (0 <= o.a ∧ o.a < own ∧ 0 <= o.b ∧ o.b < own ∧ o.c = 0) else if o.k = 4 then decide (o.a = 0 ∧ o.b = 0) else false
def opsM (inp : Int) : Nat -> List O4 -> Bool
 | _, [] => true
 | i, o :: os => opM o (inp + i) && opsM inp (i + 1) os
def outM (inp : Int) (n : Nat) (outs : List Int) : Bool := outs.all (fun v => decide (0 <= v ∧ v < inp + n))
def mayB (p : Pr) : Bool := decide (0 <= p.inp ∧ p.inp <= 64 ∧ p.ops.length <= 256 ∧ p.outs.length <= 64) && (opsM p.inp 0 p.ops && outM p.inp p.ops.length p.outs)
theorem mayB_iff {p : Pr} : mayB p = true ↔ (0 <= p.inp ∧ p.inp <= 64 ∧ p.ops.length <= 256 ∧ p.outs.length <= 64) ∧ opsM p.inp 0 p.ops = true ∧ outM p.inp p.ops.length p.outs = true := by
 unfold mayB
 rw [Bool.and_eq_true, Bool.and_eq_true, decide_eq_true_iff]
end Go.Proofs.YtjhididlcdepdaaGreat.Slp
namespace Go.Proofs.YtjhididlcdepdaaGreat.Slp
def pz : Pr := ⟨0, [], []⟩
end Go.Proofs.YtjhididlcdepdaaGreat.Slp
namespace Go.Proofs.YtjhididlcdepdaaGreat.Slp
def shO (at_ : List Int) (o : O4) : O4 := if o.k = 4 then o else ⟨o.k, at_.getD o.a.toNat 0, at_.getD o.b.toNat 0, o.c⟩
theorem opsM_get (inp : Int) : ∀ (os : List O4) (i j : Nat) (hj : j < os.length), opsM inp i os = true -> opM os[j] (inp + ((i + j : Nat) : Int)) = true
 | [], i, j, hj, _ => by simp at hj
 | o :: os, i, j, hj, h => by
  have h' : (opM o (inp + i) && opsM inp (i + 1) os) = true := h
  rw [Bool.and_eq_true] at h'
  cases j with
  | zero => exact h'.1
  | succ j =>
   have := opsM_get inp os (i + 1) j (by simpa using hj) h'.2
   rw [show i + (j + 1) = i + 1 + j by omega]; exact this
def hand (n : Nat) : Pr := ⟨n, [], (List.range n).map (fun j : Nat => (j : Int))⟩
end Go.Proofs.YtjhididlcdepdaaGreat.Slp
namespace Go.Proofs.YtjhididlcdepdaaGreat.Slp
def dgS (l : List Nat) (o : O4) : Nat := if o.k = 1 ∨ o.k = 2 then max (l.getD o.a.toNat 0) (l.getD o.b.toNat 0) else if o.k = 3 then l.getD o.a.toNat 0 + l.getD o.b.toNat 0 else 0
def dgL (f : Nat -> Nat) (l : List Nat) : List O4 -> List Nat
 | [] => l
 | o :: os => dgL f (l ++ [f (dgS l o)]) os
def cap9 (d : Nat) : Nat := min d 1025
def dgs (p : Pr) : List Nat := dgL id (List.replicate p.inp.toNat 1) p.ops
def cps (p : Pr) : List Nat := dgL cap9 (List.replicate p.inp.toNat 1) p.ops
theorem dgL_len (f : Nat -> Nat) : ∀ (os : List O4) (l : List Nat), (dgL f l os).length = l.length + os.length
 | [], l => rfl
 | o :: os, l => by
  show (dgL f (l ++ [f (dgS l o)]) os).length = _
  rw [dgL_len f os]; simp; omega
theorem dgL_app (f : Nat -> Nat) : ∀ (os os' : List O4) (l : List Nat), dgL f l (os ++ os') = dgL f (dgL f l os) os'
 | [], os', l => rfl
 | o :: os, os', l => by
  show dgL f (l ++ [f (dgS l o)]) (os ++ os') = dgL f (dgL f (l ++ [f (dgS l o)]) os) os'
  exact dgL_app f os os' _
theorem getD_app {α : Type} (l l' : List α) (d : α) {v : Nat} (h : v < l.length) : (l ++ l').getD v d = l.getD v d := by
 rw [List.getD_eq_getElem?_getD, List.getElem?_append_left h, <- List.getD_eq_getElem?_getD]
theorem getD_last {α : Type} (l : List α) (x d : α) : (l ++ [x]).getD l.length d = x := by
 rw [List.getD_eq_getElem?_getD, List.getElem?_append_right (Nat.le_refl _)]; simp
theorem dgL_get (f : Nat -> Nat) : ∀ (os : List O4) (l : List Nat) {v : Nat}, v < l.length -> (dgL f l os).getD v 0 = l.getD v 0
 | [], l, v, h => rfl
 | o :: os, l, v, h => by
  show (dgL f (l ++ [f (dgS l o)]) os).getD v 0 = _
  rw [dgL_get f os _ (by simp; omega), getD_app _ _ _ h]
theorem dgL_next (f : Nat -> Nat) (os : List O4) (l : List Nat) {i : Nat} (h : i < os.length) : dgL f l (os.take (i + 1)) = dgL f l (os.take i) ++ [f (dgS (dgL f l (os.take i)) os[i])] := by
 rw [List.take_succ_eq_append_getElem h, dgL_app]; rfl
theorem dgL_at (f : Nat -> Nat) (os : List O4) (l : List Nat) {i : Nat} (h : i < os.length) : (dgL f l os).getD (l.length + i) 0 = f (dgS (dgL f l (os.take i)) os[i]) := by
 have e : os = os.take (i + 1) ++ os.drop (i + 1) := (List.take_append_drop _ _).symm
 have hl : (dgL f l (os.take i)).length = l.length + i := by rw [dgL_len, List.length_take, Nat.min_eq_left (by omega)]
 conv => lhs; rw [e, dgL_app]
 rw [dgL_get f _ _ (by rw [dgL_len, List.length_take]; omega), dgL_next f os l h, <- hl, getD_last]
theorem dgL_arg (f : Nat -> Nat) (os : List O4) (l : List Nat) {i v : Nat} (h : i <= os.length) (hv : v < l.length + i) : (dgL f l (os.take i)).getD v 0 = (dgL f l os).getD v 0 := by
 conv => rhs; rw [<- List.take_append_drop i os, dgL_app]
 exact (dgL_get f _ _ (by rw [dgL_len, List.length_take]; omega)).symm
theorem cap_step {l l' : List Nat} (h : ∀ v, l'.getD v 0 = cap9 (l.getD v 0)) (o : O4) : cap9 (dgS l' o) = cap9 (dgS l o) := by
 unfold dgS
 rw [h, h]
 unfold cap9
 split
 · omega
 · split
   · omega
   · rfl
theorem cap_all : ∀ (os : List O4) (l l' : List Nat), l'.length = l.length -> (∀ v, l'.getD v 0 = cap9 (l.getD v 0)) -> ∀ v, (dgL cap9 l' os).getD v 0 = cap9 ((dgL id l os).getD v 0)
 | [], l, l', hl, h, v => h v
 | o :: os, l, l', hl, h, v => by
  show (dgL cap9 (l' ++ [cap9 (dgS l' o)]) os).getD v 0 = cap9 ((dgL id (l ++ [dgS l o]) os).getD v 0)
  refine cap_all os _ _ (by simp [hl]) (fun u => ?_) v
  by_cases h1 : u < l.length
  · rw [getD_app _ _ _ h1, getD_app _ _ _ (by omega)]; exact h u
  · by_cases h2 : u = l.length
    · subst h2
      rw [getD_last, <- hl, getD_last]
      exact cap_step h o
    · rw [List.getD_eq_getElem?_getD, List.getElem?_eq_none (by simp; omega), List.getD_eq_getElem?_getD, List.getElem?_eq_none (by simp; omega)]; rfl
theorem cps_cap (p : Pr) (v : Nat) : (cps p).getD v 0 = cap9 ((dgs p).getD v 0) := by
 refine cap_all p.ops _ _ rfl (fun v => ?_) v
 by_cases h : v < p.inp.toNat
 · rw [List.getD_eq_getElem?_getD, List.getElem?_replicate, if_pos h]; rfl
 · rw [List.getD_eq_getElem?_getD, List.getElem?_replicate, if_neg h]; rfl
def mxl (l : List Nat) : Nat := l.foldl max 0
theorem mxl_snoc (l : List Nat) (x : Nat) : mxl (l ++ [x]) = max (mxl l) x := by unfold mxl; rw [List.foldl_append]; rfl
theorem mxl_le {l : List Nat} {b : Nat} : mxl l <= b ↔ ∀ x ∈ l, x <= b := by
 have key : ∀ (l : List Nat) (a : Nat), l.foldl max a <= b ↔ a <= b ∧ ∀ x ∈ l, x <= b := by
  intro l
  induction l with
  | nil => intro a; simp
  | cons y l ih =>
   intro a
   rw [List.foldl_cons, ih]
   simp only [List.mem_cons, forall_eq_or_imp]
   exact ⟨fun ⟨h1, h2⟩ => ⟨by omega, by omega, h2⟩, fun ⟨h1, h2, h3⟩ => ⟨by omega, h3⟩⟩
 rw [mxl, key]; simp
theorem mxl_cap (g : Int -> Nat) : ∀ l : List Int, mxl (l.map (fun v => cap9 (g v))) = cap9 (mxl (l.map g)) := by
 intro l
 have key : ∀ (l : List Int) (a : Nat), (l.map (fun v => cap9 (g v))).foldl max (cap9 a) = cap9 ((l.map g).foldl max a) := by
  intro l
  induction l with
  | nil => intro a; rfl
  | cons y l ih =>
   intro a
   rw [List.map_cons, List.foldl_cons, List.map_cons, List.foldl_cons, <- ih]
   congr 1
   unfold cap9; omega
 exact key l 0
def dgO (p : Pr) : Nat := mxl (p.outs.map (fun v => (dgs p).getD v.toNat 0))
def cpO (p : Pr) : Nat := mxl (p.outs.map (fun v => (cps p).getD v.toNat 0))
theorem cpO_cap (p : Pr) : cpO p = cap9 (dgO p) := by
 unfold cpO dgO
 rw [<- mxl_cap]
 congr 1
 exact List.map_congr_left (fun v _ => cps_cap p v.toNat)
end Go.Proofs.YtjhididlcdepdaaGreat.Slp
namespace Go.Proofs.YtjhididlcdepdaaGreat.Slp
def wtS (inp : Nat) (w : List Bool) (i : Nat) (o : O4) : List Bool := if w.getD (inp + i) false = true ∧ ¬ o.k = 4 then (w.set o.a.toNat true).set o.b.toNat true else w
def wtD (inp : Nat) (ops : List O4) : Nat -> List Bool -> List Bool
 | 0, w => w
 | i + 1, w => wtD inp ops i (wtS inp w i (ops.getD i ⟨0, 0, 0, 0⟩))
def wt0 (p : Pr) : List Bool := p.outs.foldl (fun w v => w.set v.toNat true) (List.replicate (p.inp.toNat + p.ops.length) false)
def wtd (p : Pr) : List Bool := wtD p.inp.toNat p.ops p.ops.length (wt0 p)
theorem set_get (w : List Bool) (k v : Nat) (hk : k < w.length) : (w.set k true).getD v false = if v = k then true else w.getD v false := by
 rw [List.getD_eq_getElem?_getD, List.getElem?_set]
 by_cases h : v = k
 · subst h; simp [hk]
 · rw [if_neg (fun e => h e.symm), if_neg h, <- List.getD_eq_getElem?_getD]
theorem wtS_len (inp : Nat) (w : List Bool) (i : Nat) (o : O4) : (wtS inp w i o).length = w.length := by unfold wtS; split <;> simp
theorem wtD_len (inp : Nat) (ops : List O4) : ∀ (i : Nat) (w : List Bool), (wtD inp ops i w).length = w.length
 | 0, w => rfl
 | i + 1, w => by
  show (wtD inp ops i (wtS inp w i _)).length = _
  rw [wtD_len inp ops i, wtS_len]
theorem wtS_mono (inp : Nat) (w : List Bool) (i : Nat) (o : O4) (v : Nat) (h : w.getD v false = true) : (wtS inp w i o).getD v false = true := by
 unfold wtS
 split
 · have key : ∀ (w : List Bool) (k : Nat), w.getD v false = true -> (w.set k true).getD v false = true := fun w k h => by
    by_cases hk : k < w.length
    · rw [set_get w k v hk]; split
      · rfl
      · exact h
    · rw [List.set_eq_of_length_le (by omega)]; exact h
   exact key _ _ (key _ _ h)
 · exact h
theorem wtD_mono (inp : Nat) (ops : List O4) : ∀ (i : Nat) (w : List Bool) (v : Nat), w.getD v false = true -> (wtD inp ops i w).getD v false = true
 | 0, w, v, h => h
 | i + 1, w, v, h => wtD_mono inp ops i _ v (wtS_mono inp w i _ v h)
theorem wtD_high (inp : Nat) (ops : List O4) (hm : ∀ i (h : i < ops.length), ¬ ops[i].k = 4 -> ops[i].a.toNat < inp + i ∧ ops[i].b.toNat < inp + i) : ∀ (i : Nat) (w : List Bool) (v : Nat), i <= ops.length -> inp + ops.length <= w.length -> inp + i <= v + 1 -> (wtD inp ops i w).getD v false = true -> w.getD v false = true ∨ v + 1 < inp + i
 | 0, w, v, _, _, _, h => .inl h
 | i + 1, w, v, hi, hw, hv, h => by
  have e : ops.getD i ⟨0, 0, 0, 0⟩ = ops[i] := by rw [List.getD_eq_getElem?_getD, List.getElem?_eq_getElem (by omega)]; rfl
  rcases wtD_high inp ops hm i (wtS inp w i (ops.getD i ⟨0, 0, 0, 0⟩)) v (by omega) (by rw [wtS_len]; exact hw) (by omega) h with h1 | h1
  · rw [e] at h1
    unfold wtS at h1
    split at h1
    · rename_i hc
      have := hm i (by omega) hc.2
      rw [set_get _ _ _ (by simp; omega), set_get _ _ _ (by omega), if_neg (by omega), if_neg (by omega)] at h1
      exact .inl h1
    · exact .inl h1
  · exact .inr (by omega)
theorem wtD_split (inp : Nat) (ops : List O4) : ∀ (n i : Nat) (w : List Bool), i <= n -> ∃ w', wtD inp ops n w = wtD inp ops i w' ∧ w'.length = w.length
 | 0, i, w, h => ⟨w, by rw [show i = 0 by omega], rfl⟩
 | n + 1, i, w, h => by
  by_cases e : i = n + 1
  · exact ⟨w, by rw [e], rfl⟩
  · obtain ⟨w', h1, h2⟩ := wtD_split inp ops n i (wtS inp w n (ops.getD n ⟨0, 0, 0, 0⟩)) (by omega)
    exact ⟨w', h1, by rw [h2, wtS_len]⟩
theorem wt0_len (p : Pr) : (wt0 p).length = p.inp.toNat + p.ops.length := by
 have key : ∀ (os : List Int) (w : List Bool), (os.foldl (fun w v => w.set v.toNat true) w).length = w.length := by
  intro os
  induction os with
  | nil => intro w; rfl
  | cons v os ih => intro w; rw [List.foldl_cons, ih]; simp
 unfold wt0; rw [key]; simp
theorem wtd_len (p : Pr) : (wtd p).length = p.inp.toNat + p.ops.length := by unfold wtd; rw [wtD_len, wt0_len]
theorem may_args {p : Pr} (hm : mayB p = true) : ∀ i (h : i < p.ops.length), ¬ p.ops[i].k = 4 -> (0 <= p.ops[i].a ∧ 0 <= p.ops[i].b) ∧ p.ops[i].a.toNat < p.inp.toNat + i ∧ p.ops[i].b.toNat < p.inp.toNat + i := fun i h hk => by
 obtain ⟨⟨i0, i1, l1, l3⟩, mo, mu⟩ := mayB_iff.1 hm
 have := opsM_get p.inp p.ops 0 i h mo
 rw [Nat.zero_add] at this
 unfold opM at this
 split at this
 · have := of_decide_eq_true this
   omega
 · first | (cases this; done) | (rw [if_neg hk] at this; cases this)
theorem may_out {p : Pr} (hm : mayB p = true) : ∀ v ∈ p.outs, 0 <= v ∧ v.toNat < p.inp.toNat + p.ops.length := fun v hv => by
 obtain ⟨⟨i0, i1, l1, l3⟩, mo, mu⟩ := mayB_iff.1 hm
 have := of_decide_eq_true (List.all_eq_true.1 mu v hv)
 omega
theorem wt_fold (N : Nat) : ∀ (os : List Int) (w : List Bool), w.length = N -> (∀ v ∈ os, v.toNat < N) -> ∀ u, (os.foldl (fun w v => w.set v.toNat true) w).getD u false = true ↔ (w.getD u false = true ∨ ∃ v ∈ os, v.toNat = u)
 | [], w, hw, _, u => by simp
 | v :: os, w, hw, ho, u => by
  rw [List.foldl_cons, wt_fold N os (w.set v.toNat true) (by simpa using hw) (fun x hx => ho x (List.mem_cons_of_mem _ hx)) u, set_get w _ _ (by rw [hw]; exact ho v (by simp))]
  constructor
  · rintro (h | ⟨x, hx, e⟩)
    · split at h
      · rename_i e; exact .inr ⟨v, by simp, e.symm⟩
      · exact .inl h
    · exact .inr ⟨x, List.mem_cons_of_mem _ hx, e⟩
  · rintro (h | ⟨x, hx, e⟩)
    · left; split
      · rfl
      · exact h
    · rcases List.mem_cons.1 hx with rfl | hx
      · left; rw [if_pos e.symm]
      · exact .inr ⟨x, hx, e⟩
theorem wt0_iff {p : Pr} (hm : mayB p = true) (u : Nat) : (wt0 p).getD u false = true ↔ ∃ v ∈ p.outs, v.toNat = u := by
 unfold wt0
 rw [wt_fold (p.inp.toNat + p.ops.length) p.outs _ (by simp) (fun v hv => (may_out hm v hv).2)]
 constructor
 · rintro (h | h)
   · rw [List.getD_eq_getElem?_getD, List.getElem?_replicate] at h
     split at h <;> cases h
   · exact h
 · exact .inr
theorem wt_out {p : Pr} (hm : mayB p = true) {v : Int} (hv : v ∈ p.outs) : (wtd p).getD v.toNat false = true := wtD_mono _ _ _ _ _ ((wt0_iff hm _).2 ⟨v, hv, rfl⟩)
theorem wt_arg {p : Pr} (hm : mayB p = true) {i : Nat} (hi : i < p.ops.length) (hw : (wtd p).getD (p.inp.toNat + i) false = true) (hk : ¬ p.ops[i].k = 4) : (wtd p).getD p.ops[i].a.toNat false = true ∧ (wtd p).getD p.ops[i].b.toNat false = true := by
 obtain ⟨w', e1, e2⟩ := wtD_split p.inp.toNat p.ops p.ops.length (i + 1) (wt0 p) (by omega)
 have hl : w'.length = p.inp.toNat + p.ops.length := by rw [e2, wt0_len]
 have ha := (may_args hm i hi hk).2
 unfold wtd at hw ⊢
 rw [e1] at hw ⊢
 have e : p.ops.getD i ⟨0, 0, 0, 0⟩ = p.ops[i] := by rw [List.getD_eq_getElem?_getD, List.getElem?_eq_getElem hi]; rfl
 rcases wtD_high p.inp.toNat p.ops (fun j h h4 => (may_args hm j h h4).2) (i + 1) w' (p.inp.toNat + i) (by omega) (by omega) (by omega) hw with h1 | h1
 · have hs : wtS p.inp.toNat w' i (p.ops.getD i ⟨0, 0, 0, 0⟩) = (w'.set p.ops[i].a.toNat true).set p.ops[i].b.toNat true := by rw [e]; unfold wtS; rw [if_pos ⟨h1, hk⟩]
   show (wtD p.inp.toNat p.ops i (wtS p.inp.toNat w' i _)).getD _ false = true ∧ (wtD p.inp.toNat p.ops i (wtS p.inp.toNat w' i _)).getD _ false = true
   rw [hs]
   constructor
   · refine wtD_mono _ _ _ _ _ ?_
     rw [set_get _ _ _ (by simp; omega)]
     split
     · rfl
     · rw [set_get _ _ _ (by omega), if_pos rfl]
   · refine wtD_mono _ _ _ _ _ ?_
     rw [set_get _ _ _ (by simp; omega), if_pos rfl]
 · omega
theorem wt_least {p : Pr} (hm : mayB p = true) (P : Nat -> Prop) (h0 : ∀ v ∈ p.outs, P v.toNat) (h1 : ∀ i (h : i < p.ops.length), P (p.inp.toNat + i) -> ¬ p.ops[i].k = 4 -> P p.ops[i].a.toNat ∧ P p.ops[i].b.toNat) : ∀ u, (wtd p).getD u false = true -> P u := by
 have key : ∀ (i : Nat) (w : List Bool), i <= p.ops.length -> w.length = p.inp.toNat + p.ops.length -> (∀ u, w.getD u false = true -> P u) -> ∀ u, (wtD p.inp.toNat p.ops i w).getD u false = true -> P u := by
  intro i
  induction i with
  | zero => intro w _ _ h; exact h
  | succ i ih =>
   intro w hi hl h
   refine ih _ (by omega) (by rw [wtS_len]; exact hl) (fun u hu => ?_)
   have e : p.ops.getD i ⟨0, 0, 0, 0⟩ = p.ops[i] := by rw [List.getD_eq_getElem?_getD, List.getElem?_eq_getElem (by omega)]; rfl
   rw [e] at hu
   unfold wtS at hu
   split at hu
   · rename_i hc
     have ha := (may_args hm i (by omega) hc.2).2
     have hp := h1 i (by omega) (h _ hc.1) hc.2
     rw [set_get _ _ _ (by simp; omega), set_get _ _ _ (by omega)] at hu
     split at hu
     · rename_i e2; rw [e2]; exact hp.2
     · split at hu
       · rename_i e2; rw [e2]; exact hp.1
       · exact h u hu
   · exact h u hu
 refine key p.ops.length (wt0 p) (Nat.le_refl _) (wt0_len p) (fun u hu => ?_)
 obtain ⟨v, hv, rfl⟩ := (wt0_iff hm u).1 hu
 exact h0 v hv
end Go.Proofs.YtjhididlcdepdaaGreat.Slp
namespace Go.Proofs.YtjhididlcdepdaaGreat.Slp
def trS (p : Pr) : Nat -> List Int × List O4
 | 0 => ((List.range p.inp.toNat).map (fun j : Nat => (j : Int)), [])
 | i + 1 =>
  let s := trS p i
  if (wtd p).getD (p.inp.toNat + i) false = true then (s.1 ++ [p.inp + (s.2.length : Int)], s.2 ++ [shO s.1 (p.ops.getD i ⟨0, 0, 0, 0⟩)]) else (s.1 ++ [p.inp + (i : Int)], s.2)
def trP (p : Pr) : Pr := ⟨p.inp, (trS p p.ops.length).2, p.outs.map (fun v => (trS p p.ops.length).1.getD v.toNat 0)⟩
theorem trS_yes {p : Pr} {i : Nat} (h : (wtd p).getD (p.inp.toNat + i) false = true) : trS p (i + 1) = ((trS p i).1 ++ [p.inp + ((trS p i).2.length : Int)], (trS p i).2 ++ [shO (trS p i).1 (p.ops.getD i ⟨0, 0, 0, 0⟩)]) := by
 show (if _ then _ else _) = _
 rw [if_pos h]
theorem trS_no {p : Pr} {i : Nat} (h : ¬ (wtd p).getD (p.inp.toNat + i) false = true) : trS p (i + 1) = ((trS p i).1 ++ [p.inp + (i : Int)], (trS p i).2) := by
 show (if _ then _ else _) = _
 rw [if_neg h]
theorem trS_len (p : Pr) : ∀ i, (trS p i).1.length = p.inp.toNat + i ∧ (trS p i).2.length <= i
 | 0 => ⟨by simp [trS], Nat.le_refl _⟩
 | i + 1 => by
  have ih := trS_len p i
  by_cases h : (wtd p).getD (p.inp.toNat + i) false = true
  · rw [trS_yes h]; simp; omega
  · rw [trS_no h]; simp; omega
theorem trS_at (p : Pr) {i n v : Nat} (hi : i <= n) (hv : v < p.inp.toNat + i) : (trS p n).1.getD v 0 = (trS p i).1.getD v 0 := by
 induction n with
 | zero => rw [show i = 0 by omega]
 | succ n ih =>
  by_cases e : i = n + 1
  · rw [e]
  · rw [<- ih (by omega)]
    have hl := (trS_len p n).1
    by_cases h : (wtd p).getD (p.inp.toNat + n) false = true
    · rw [trS_yes h]; exact getD_app _ _ _ (by omega)
    · rw [trS_no h]; exact getD_app _ _ _ (by omega)
theorem trS_low (p : Pr) {i v : Nat} (hv : v < p.inp.toNat) : (trS p i).1.getD v 0 = (v : Int) := by
 rw [trS_at p (Nat.zero_le i) (by omega)]
 show ((List.range p.inp.toNat).map (fun j : Nat => (j : Int))).getD v 0 = _
 rw [List.getD_eq_getElem?_getD]; simp [hv]
theorem trS_step {p : Pr} {i n : Nat} (hi : i < n) (h : (wtd p).getD (p.inp.toNat + i) false = true) : (trS p n).1.getD (p.inp.toNat + i) 0 = p.inp + ((trS p i).2.length : Int) := by
 rw [trS_at p (i := i + 1) hi (by omega), trS_yes h, <- (trS_len p i).1, getD_last]
theorem trS_pre (p : Pr) {i n : Nat} (hi : i <= n) : ∃ os, (trS p n).2 = (trS p i).2 ++ os := by
 induction n with
 | zero => exact ⟨[], by rw [show i = 0 by omega]; simp⟩
 | succ n ih =>
  by_cases e : i = n + 1
  · exact ⟨[], by rw [e]; simp⟩
  · obtain ⟨os, h1⟩ := ih (by omega)
    by_cases h : (wtd p).getD (p.inp.toNat + n) false = true
    · exact ⟨os ++ [shO (trS p n).1 (p.ops.getD n ⟨0, 0, 0, 0⟩)], by rw [trS_yes h]; show (trS p n).2 ++ _ = _; rw [h1]; simp⟩
    · exact ⟨os, by rw [trS_no h]; exact h1⟩
theorem trS_get {p : Pr} {i n : Nat} (hi : i < n) (hp : i < p.ops.length) (h : (wtd p).getD (p.inp.toNat + i) false = true) : ∃ hl : (trS p i).2.length < (trS p n).2.length, (trS p n).2[(trS p i).2.length] = shO (trS p i).1 p.ops[i] := by
 obtain ⟨os, e⟩ := trS_pre p (i := i + 1) (n := n) hi
 rw [trS_yes h] at e
 have e2 : (trS p n).2 = (trS p i).2 ++ (shO (trS p i).1 p.ops[i] :: os) := by
  rw [e]
  have : p.ops.getD i ⟨0, 0, 0, 0⟩ = p.ops[i] := by rw [List.getD_eq_getElem?_getD, List.getElem?_eq_getElem hp]; rfl
  rw [this]; simp
 refine ⟨by rw [e2]; simp, ?_⟩
 simp only [e2]
 rw [List.getElem_append_right (Nat.le_refl _)]
 simp
theorem trS_from (p : Pr) : ∀ (n j : Nat), j < (trS p n).2.length -> ∃ i, i < n ∧ (wtd p).getD (p.inp.toNat + i) false = true ∧ (trS p i).2.length = j
 | 0, j, h => by simp [trS] at h
 | n + 1, j, h => by
  by_cases hw : (wtd p).getD (p.inp.toNat + n) false = true
  · rw [trS_yes hw] at h
    by_cases e : j = (trS p n).2.length
    · exact ⟨n, by omega, hw, e.symm⟩
    · have h2 : j < (trS p n).2.length := by simp at h; omega
      obtain ⟨i, h3, h4, h5⟩ := trS_from p n j h2
      exact ⟨i, by omega, h4, h5⟩
  · rw [trS_no hw] at h
    obtain ⟨i, h3, h4, h5⟩ := trS_from p n j h
    exact ⟨i, by omega, h4, h5⟩
theorem trS_in {p : Pr} (h0 : 0 <= p.inp) {i n v : Nat} (hi : i <= n) (hv : v < p.inp.toNat + i) (hw : (wtd p).getD v false = true) : 0 <= (trS p n).1.getD v 0 ∧ (trS p n).1.getD v 0 < p.inp + ((trS p i).2.length : Int) := by
 by_cases h1 : v < p.inp.toNat
 · rw [trS_low p h1]; omega
 · obtain ⟨j, rfl⟩ : ∃ j, v = p.inp.toNat + j := ⟨v - p.inp.toNat, by omega⟩
   rw [trS_step (by omega) hw]
   obtain ⟨os, e⟩ := trS_pre p (i := j + 1) (n := i) (by omega)
   rw [trS_yes hw] at e
   have := congrArg List.length e
   simp at this
   omega
theorem tr_may {p : Pr} (hm : mayB p = true) : mayB (trP p) = true := by
 obtain ⟨⟨i0, i1, l1, l3⟩, mo, mu⟩ := mayB_iff.1 hm
 have hlen := (trS_len p p.ops.length).2
 refine mayB_iff.2 ⟨⟨i0, i1, by show (trS p p.ops.length).2.length <= 256; omega, by show (p.outs.map _).length <= 64; simp; omega⟩, ?_, ?_⟩
 · have key : ∀ (os : List O4) (j : Nat), (∀ k (h : k < os.length), opM os[k] (p.inp + ((j + k : Nat) : Int)) = true) -> opsM p.inp j os = true := by
    intro os
    induction os with
    | nil => intro j _; rfl
    | cons o os ih =>
     intro j h
     show (opM o (p.inp + j) && opsM p.inp (j + 1) os) = true
     rw [Bool.and_eq_true]
     refine ⟨h 0 (by simp), ih (j + 1) (fun k hk => ?_)⟩
     have := h (k + 1) (by simpa using hk)
     rw [show j + 1 + k = j + (k + 1) by omega]; exact this
   refine key _ 0 (fun k hk => ?_)
   obtain ⟨i, h1, h2, h3⟩ := trS_from p p.ops.length k hk
   obtain ⟨hl, e⟩ := trS_get h1 h1 h2
   subst h3
   have e' : (trP p).ops[(trS p i).2.length]'hk = shO (trS p i).1 p.ops[i] := e
   rw [e', Nat.zero_add]
   show opM _ (p.inp + ((trS p i).2.length : Int)) = true
   have hop := opsM_get p.inp p.ops 0 i h1 mo
   rw [Nat.zero_add] at hop
   unfold shO
   by_cases h4 : p.ops[i].k = 4
   · rw [if_pos h4]
     unfold opM at hop ⊢
     rw [if_neg (by omega), if_pos h4] at hop ⊢
     exact hop
   · rw [if_neg h4]
     have ha := may_args hm i h1 h4
     have hb := wt_arg hm h1 h2 h4
     have q1 := trS_in (p := p) i0 (i := i) (n := i) (Nat.le_refl _) ha.2.1 hb.1
     have q2 := trS_in (p := p) i0 (i := i) (n := i) (Nat.le_refl _) ha.2.2 hb.2
     unfold opM at hop ⊢
     by_cases hk : p.ops[i].k = 1 ∨ p.ops[i].k = 2 ∨ p.ops[i].k = 3
     · rw [if_pos hk, decide_eq_true_iff] at hop ⊢
       exact ⟨q1.1, q1.2, q2.1, q2.2, hop.2.2.2.2⟩
     · rw [if_neg hk, if_neg h4] at hop; cases hop
 · show (p.outs.map _).all _ = true
   rw [List.all_eq_true]
   intro x hx
   obtain ⟨v, hv, rfl⟩ := List.mem_map.1 hx
   have h1 := may_out hm v hv
   have := trS_in (p := p) i0 (i := p.ops.length) (n := p.ops.length) (Nat.le_refl _) h1.2 (wt_out hm hv)
   exact decide_eq_true ⟨this.1, this.2⟩
theorem tr_wt {p : Pr} (hm : mayB p = true) : ∀ v, (wtd p).getD v false = true -> v < p.inp.toNat + p.ops.length -> (wtd (trP p)).getD ((trS p p.ops.length).1.getD v 0).toNat false = true := by
 have hq := tr_may hm
 have hin : (trP p).inp.toNat = p.inp.toNat := rfl
 obtain ⟨⟨i0, i1, l1, l3⟩, mo, mu⟩ := mayB_iff.1 hm
 have key := wt_least hm (fun v => (wtd p).getD v false = true ∧ (wtd (trP p)).getD ((trS p p.ops.length).1.getD v 0).toNat false = true) (fun v hv => ⟨wt_out hm hv, wt_out hq (List.mem_map.2 ⟨v, hv, rfl⟩)⟩) (fun i h ⟨h1, h2⟩ hk => by
  have ha := may_args hm i h hk
  have hw := wt_arg hm h h1 hk
  obtain ⟨hl, e⟩ := trS_get h h h1
  have e1 : ((trS p p.ops.length).1.getD (p.inp.toNat + i) 0).toNat = p.inp.toNat + (trS p i).2.length := by rw [trS_step h h1]; omega
  rw [e1] at h2
  have e' : (trP p).ops[(trS p i).2.length]'hl = shO (trS p i).1 p.ops[i] := e
  have e2 : (trP p).ops[(trS p i).2.length]'hl = ⟨p.ops[i].k, (trS p i).1.getD p.ops[i].a.toNat 0, (trS p i).1.getD p.ops[i].b.toNat 0, p.ops[i].c⟩ := by rw [e']; unfold shO; rw [if_neg hk]
  have h3 := wt_arg hq (i := (trS p i).2.length) hl (by rw [hin]; exact h2) (by rw [e2]; exact hk)
  rw [e2] at h3
  rw [trS_at p (i := i) (Nat.le_of_lt h) ha.2.1, trS_at p (i := i) (Nat.le_of_lt h) ha.2.2]
  exact ⟨⟨hw.1, h3.1⟩, ⟨hw.2, h3.2⟩⟩)
 exact fun v hv _ => (key v hv).2
theorem wt_lt {p : Pr} {v : Nat} (h : (wtd p).getD v false = true) : v < p.inp.toNat + p.ops.length := by
 rw [<- wtd_len]
 apply Nat.lt_of_not_le
 intro hn
 rw [List.getD_eq_getElem?_getD, List.getElem?_eq_none hn] at h
 cases h
theorem tr_all {p : Pr} (hm : mayB p = true) {j : Nat} (hj : j < (trP p).ops.length) : (wtd (trP p)).getD ((trP p).inp.toNat + j) false = true := by
 obtain ⟨⟨i0, i1, l1, l3⟩, mo, mu⟩ := mayB_iff.1 hm
 obtain ⟨i, h1, h2, h3⟩ := trS_from p p.ops.length j hj
 have := tr_wt hm _ h2 (by omega)
 rw [trS_step h1 h2, h3, show (p.inp + (j : Int)).toNat = p.inp.toNat + j by omega] at this
 exact this
theorem tr_deg {p : Pr} (hm : mayB p = true) : ∀ v, (wtd p).getD v false = true -> (dgs (trP p)).getD ((trS p p.ops.length).1.getD v 0).toNat 0 = (dgs p).getD v 0 := by
 obtain ⟨⟨i0, i1, l1, l3⟩, mo, mu⟩ := mayB_iff.1 hm
 intro v
 induction v using Nat.strongRecOn with
 | _ v ih =>
  intro hw
  have hlt := wt_lt hw
  by_cases h1 : v < p.inp.toNat
  · rw [trS_low p h1, Int.toNat_natCast]
    have h5 : v < (List.replicate p.inp.toNat 1).length := by simpa using h1
    show (dgL id (List.replicate p.inp.toNat 1) (trP p).ops).getD v 0 = (dgL id (List.replicate p.inp.toNat 1) p.ops).getD v 0
    rw [dgL_get id _ _ h5, dgL_get id _ _ h5]
  · obtain ⟨i, rfl⟩ : ∃ i, v = p.inp.toNat + i := ⟨v - p.inp.toNat, by omega⟩
    have hi : i < p.ops.length := by omega
    obtain ⟨hl, e⟩ := trS_get hi hi hw
    have e' : (trP p).ops[(trS p i).2.length]'hl = shO (trS p i).1 p.ops[i] := e
    rw [trS_step hi hw, show (p.inp + ((trS p i).2.length : Int)).toNat = p.inp.toNat + (trS p i).2.length by omega]
    have a1 := dgL_at id p.ops (List.replicate p.inp.toNat 1) hi
    have a2 := dgL_at id (trP p).ops (List.replicate p.inp.toNat 1) hl
    rw [List.length_replicate] at a1 a2
    show (dgL id (List.replicate p.inp.toNat 1) (trP p).ops).getD _ 0 = (dgL id (List.replicate p.inp.toNat 1) p.ops).getD _ 0
    rw [a1, a2, e']
    show dgS _ _ = dgS _ _
    unfold shO
    by_cases h4 : p.ops[i].k = 4
    · rw [if_pos h4]
      have k1 : ¬ (p.ops[i].k = 1 ∨ p.ops[i].k = 2) := by omega
      have k2 : ¬ p.ops[i].k = 3 := by omega
      unfold dgS
      rw [if_neg k1, if_neg k2, if_neg k1, if_neg k2]
    · rw [if_neg h4]
      have ha := may_args hm i hi h4
      have hb := wt_arg hm hi hw h4
      have arg : ∀ u, u < p.inp.toNat + i -> (wtd p).getD u false = true -> (dgL id (List.replicate p.inp.toNat 1) ((trP p).ops.take (trS p i).2.length)).getD ((trS p i).1.getD u 0).toNat 0 = (dgL id (List.replicate p.inp.toNat 1) (p.ops.take i)).getD u 0 := fun u hu hwu => by
       have hin := trS_in (p := p) i0 (i := i) (n := i) (Nat.le_refl _) hu hwu
       rw [dgL_arg id p.ops _ (by omega) (by simpa using hu), dgL_arg id (trP p).ops _ (Nat.le_of_lt hl) (by rw [List.length_replicate]; omega)]
       have := ih u hu hwu
       rw [trS_at p (i := i) (Nat.le_of_lt hi) hu] at this
       exact this
      unfold dgS
      dsimp only
      rw [arg _ ha.2.1 hb.1, arg _ ha.2.2 hb.2]
theorem tr_out {p : Pr} (hm : mayB p = true) : dgO (trP p) = dgO p := by
 unfold dgO
 congr 1
 show (p.outs.map _).map _ = _
 rw [List.map_map]
 exact List.map_congr_left (fun v hv => tr_deg hm v.toNat (wt_out hm hv))
end Go.Proofs.YtjhididlcdepdaaGreat.Slp
namespace Go.Proofs.YtjhididlcdepdaaGreat.Slp
structure Rg (α : Type) where
 z : α
 ad : α -> α -> α
 su : α -> α -> α
 mu : α -> α -> α
 cs : Int -> α
def rnS {α : Type} (R : Rg α) (l : List α) (o : O4) : α := if o.k = 1 then R.ad (l.getD o.a.toNat R.z) (l.getD o.b.toNat R.z) else if o.k = 2 then R.su (l.getD o.a.toNat R.z) (l.getD o.b.toNat R.z) else if o.k = 3 then R.mu (l.getD o.a.toNat R.z) (l.getD o.b.toNat R.z) else R.cs o.c
def rnL {α : Type} (R : Rg α) (l : List α) : List O4 -> List α
 | [] => l
 | o :: os => rnL R (l ++ [rnS R l o]) os
def rns {α : Type} (R : Rg α) (p : Pr) (xs : List α) : List α := rnL R xs p.ops
def rnO {α : Type} (R : Rg α) (p : Pr) (xs : List α) : List α := p.outs.map (fun v => (rns R p xs).getD v.toNat R.z)
theorem rnL_len {α : Type} (R : Rg α) : ∀ (os : List O4) (l : List α), (rnL R l os).length = l.length + os.length
 | [], l => rfl
 | o :: os, l => by
  show (rnL R (l ++ [rnS R l o]) os).length = _
  rw [rnL_len R os]; simp; omega
theorem rnL_app {α : Type} (R : Rg α) : ∀ (os os' : List O4) (l : List α), rnL R l (os ++ os') = rnL R (rnL R l os) os'
 | [], os', l => rfl
 | o :: os, os', l => by
  show rnL R (l ++ [rnS R l o]) (os ++ os') = rnL R (rnL R (l ++ [rnS R l o]) os) os'
  exact rnL_app R os os' _
theorem rnL_get {α : Type} (R : Rg α) : ∀ (os : List O4) (l : List α) {v : Nat}, v < l.length -> (rnL R l os).getD v R.z = l.getD v R.z
 | [], l, v, h => rfl
 | o :: os, l, v, h => by
  show (rnL R (l ++ [rnS R l o]) os).getD v R.z = _
  rw [rnL_get R os _ (by simp; omega), getD_app _ _ _ h]
theorem rnL_next {α : Type} (R : Rg α) (os : List O4) (l : List α) {i : Nat} (h : i < os.length) : rnL R l (os.take (i + 1)) = rnL R l (os.take i) ++ [rnS R (rnL R l (os.take i)) os[i]] := by
 rw [List.take_succ_eq_append_getElem h, rnL_app]; rfl
theorem rnL_at {α : Type} (R : Rg α) (os : List O4) (l : List α) {i : Nat} (h : i < os.length) : (rnL R l os).getD (l.length + i) R.z = rnS R (rnL R l (os.take i)) os[i] := by
 have e : os = os.take (i + 1) ++ os.drop (i + 1) := (List.take_append_drop _ _).symm
 have hl : (rnL R l (os.take i)).length = l.length + i := by rw [rnL_len, List.length_take, Nat.min_eq_left (by omega)]
 conv => lhs; rw [e, rnL_app]
 rw [rnL_get R _ _ (by rw [rnL_len, List.length_take]; omega), rnL_next R os l h, <- hl, getD_last]
theorem rnL_arg {α : Type} (R : Rg α) (os : List O4) (l : List α) {i v : Nat} (h : i <= os.length) (hv : v < l.length + i) : (rnL R l (os.take i)).getD v R.z = (rnL R l os).getD v R.z := by
 conv => rhs; rw [<- List.take_append_drop i os, rnL_app]
 exact (rnL_get R _ _ (by rw [rnL_len, List.length_take]; omega)).symm
theorem rnS_sh {α : Type} (R : Rg α) (L l : List α) (at_ : List Int) (o : O4) (h : ¬ o.k = 4 -> L.getD (at_.getD o.a.toNat 0).toNat R.z = l.getD o.a.toNat R.z ∧ L.getD (at_.getD o.b.toNat 0).toNat R.z = l.getD o.b.toNat R.z) : rnS R L (shO at_ o) = rnS R l o := by
 unfold shO
 by_cases h4 : o.k = 4
 · rw [if_pos h4]
   have k1 : ¬ o.k = 1 := by omega
   have k2 : ¬ o.k = 2 := by omega
   have k3 : ¬ o.k = 3 := by omega
   unfold rnS
   rw [if_neg k1, if_neg k2, if_neg k3, if_neg k1, if_neg k2, if_neg k3]
 · rw [if_neg h4]
   have := h h4
   unfold rnS
   dsimp only
   rw [this.1, this.2]
theorem tr_vals {α : Type} (R : Rg α) {p : Pr} (hm : mayB p = true) (xs : List α) (hx : xs.length = p.inp.toNat) : ∀ v, (wtd p).getD v false = true -> (rns R (trP p) xs).getD ((trS p p.ops.length).1.getD v 0).toNat R.z = (rns R p xs).getD v R.z := by
 obtain ⟨⟨i0, i1, l1, l3⟩, mo, mu⟩ := mayB_iff.1 hm
 intro v
 induction v using Nat.strongRecOn with
 | _ v ih =>
  intro hw
  have hlt := wt_lt hw
  by_cases h1 : v < p.inp.toNat
  · rw [trS_low p h1, Int.toNat_natCast]
    show (rnL R xs (trP p).ops).getD v R.z = (rnL R xs p.ops).getD v R.z
    rw [rnL_get R _ _ (by omega), rnL_get R _ _ (by omega)]
  · obtain ⟨i, rfl⟩ : ∃ i, v = p.inp.toNat + i := ⟨v - p.inp.toNat, by omega⟩
    have hi : i < p.ops.length := by omega
    obtain ⟨hl, e⟩ := trS_get hi hi hw
    have e' : (trP p).ops[(trS p i).2.length]'hl = shO (trS p i).1 p.ops[i] := e
    rw [trS_step hi hw, show (p.inp + ((trS p i).2.length : Int)).toNat = p.inp.toNat + (trS p i).2.length by omega]
    have a1 := rnL_at R p.ops xs hi
    have a2 := rnL_at R (trP p).ops xs hl
    rw [hx] at a1 a2
    show (rnL R xs (trP p).ops).getD _ R.z = (rnL R xs p.ops).getD _ R.z
    rw [a1, a2, e']
    refine rnS_sh R _ _ _ _ (fun h4 => ?_)
    have ha := may_args hm i hi h4
    have hb := wt_arg hm hi hw h4
    have arg : ∀ u, u < p.inp.toNat + i -> (wtd p).getD u false = true -> (rnL R xs ((trP p).ops.take (trS p i).2.length)).getD ((trS p i).1.getD u 0).toNat R.z = (rnL R xs (p.ops.take i)).getD u R.z := fun u hu hwu => by
     have hin := trS_in (p := p) i0 (i := i) (n := i) (Nat.le_refl _) hu hwu
     rw [rnL_arg R p.ops _ (by omega) (by omega), rnL_arg R (trP p).ops _ (Nat.le_of_lt hl) (by omega)]
     have := ih u hu hwu
     rw [trS_at p (i := i) (Nat.le_of_lt hi) hu] at this
     exact this
    exact ⟨arg _ ha.2.1 hb.1, arg _ ha.2.2 hb.2⟩
theorem tr_run {α : Type} (R : Rg α) {p : Pr} (hm : mayB p = true) (xs : List α) (hx : xs.length = p.inp.toNat) : rnO R (trP p) xs = rnO R p xs := by
 show (p.outs.map _).map _ = _
 rw [List.map_map]
 exact List.map_congr_left (fun v hv => tr_vals R hm xs hx v.toNat (wt_out hm hv))
theorem rn_all {α : Type} (R : Rg α) (P : α -> Prop) (hz : P R.z) (ha : ∀ x y, P x -> P y -> P (R.ad x y)) (hs : ∀ x y, P x -> P y -> P (R.su x y)) (hu : ∀ x y, P x -> P y -> P (R.mu x y)) (hc : ∀ c, P (R.cs c)) : ∀ (os : List O4) (l : List α), (∀ x ∈ l, P x) -> ∀ x ∈ rnL R l os, P x
 | [], l, h => h
 | o :: os, l, h => by
  refine rn_all R P hz ha hs hu hc os _ (fun x hx => ?_)
  rcases List.mem_append.1 hx with h1 | h1
  · exact h x h1
  · rw [List.mem_singleton.1 h1]
    have g : ∀ v, P (l.getD v R.z) := fun v => by
     rw [List.getD_eq_getElem?_getD]
     cases e : l[v]? with
     | none => exact hz
     | some y => exact h y (List.mem_of_getElem? e)
    unfold rnS
    split
    · exact ha _ _ (g _) (g _)
    · split
      · exact hs _ _ (g _) (g _)
      · split
        · exact hu _ _ (g _) (g _)
        · exact hc _
theorem rn_map {α β : Type} (R : Rg α) (Q : Rg β) (P : α -> Prop) (f : α -> β) (hz : P R.z) (ha : ∀ x y, P x -> P y -> P (R.ad x y) ∧ f (R.ad x y) = Q.ad (f x) (f y)) (hs : ∀ x y, P x -> P y -> P (R.su x y) ∧ f (R.su x y) = Q.su (f x) (f y)) (hu : ∀ x y, P x -> P y -> P (R.mu x y) ∧ f (R.mu x y) = Q.mu (f x) (f y)) (hc : ∀ c, P (R.cs c) ∧ f (R.cs c) = Q.cs c) (fz : f R.z = Q.z) : ∀ (os : List O4) (l : List α), (∀ x ∈ l, P x) -> (rnL R l os).map f = rnL Q (l.map f) os
 | [], l, h => rfl
 | o :: os, l, h => by
  have g : ∀ v, P (l.getD v R.z) := fun v => by
   rw [List.getD_eq_getElem?_getD]
   cases e : l[v]? with
   | none => exact hz
   | some y => exact h y (List.mem_of_getElem? e)
  have gf : ∀ v, (l.map f).getD v Q.z = f (l.getD v R.z) := fun v => by
   rw [List.getD_eq_getElem?_getD, List.getD_eq_getElem?_getD, List.getElem?_map]
   cases l[v]? with
   | none => exact fz.symm
   | some y => rfl
  have e : P (rnS R l o) ∧ f (rnS R l o) = rnS Q (l.map f) o := by
   unfold rnS
   rw [gf, gf]
   split
   · exact ha _ _ (g _) (g _)
   · split
     · exact hs _ _ (g _) (g _)
     · split
       · exact hu _ _ (g _) (g _)
       · exact hc _
  show (rnL R (l ++ [rnS R l o]) os).map f = rnL Q (l.map f ++ [rnS Q (l.map f) o]) os
  rw [rn_map R Q P f hz ha hs hu hc fz os _ (fun x hx => by
   rcases List.mem_append.1 hx with h1 | h1
   · exact h x h1
   · rw [List.mem_singleton.1 h1]; exact e.1), List.map_append, List.map_singleton, e.2]
theorem rn_out {α β : Type} (R : Rg α) (Q : Rg β) (P : α -> Prop) (f : α -> β) (hz : P R.z) (ha : ∀ x y, P x -> P y -> P (R.ad x y) ∧ f (R.ad x y) = Q.ad (f x) (f y)) (hs : ∀ x y, P x -> P y -> P (R.su x y) ∧ f (R.su x y) = Q.su (f x) (f y)) (hu : ∀ x y, P x -> P y -> P (R.mu x y) ∧ f (R.mu x y) = Q.mu (f x) (f y)) (hc : ∀ c, P (R.cs c) ∧ f (R.cs c) = Q.cs c) (fz : f R.z = Q.z) (p : Pr) (xs : List α) (hx : ∀ x ∈ xs, P x) : (rnO R p xs).map f = rnO Q p (xs.map f) := by
 have h := rn_map R Q P f hz ha hs hu hc fz p.ops xs hx
 unfold rnO rns
 rw [List.map_map, <- h]
 refine List.map_congr_left (fun v _ => ?_)
 show f ((rnL R xs p.ops).getD v.toNat R.z) = ((rnL R xs p.ops).map f).getD v.toNat Q.z
 rw [List.getD_eq_getElem?_getD, List.getD_eq_getElem?_getD, List.getElem?_map]
 cases (rnL R xs p.ops)[v.toNat]? with
 | none => exact fz
 | some y => rfl
theorem rn_deg {α : Type} (R : Rg α) (P : α -> Prop) (f : α -> Nat) (D : Nat) (hz : P R.z) (fz : f R.z = 0) (ha : ∀ x y, P x -> P y -> P (R.ad x y) ∧ f (R.ad x y) <= max (f x) (f y)) (hs : ∀ x y, P x -> P y -> P (R.su x y) ∧ f (R.su x y) <= max (f x) (f y)) (hu : ∀ x y, P x -> P y -> P (R.mu x y) ∧ f (R.mu x y) <= f x + f y) (hc : ∀ c, P (R.cs c) ∧ f (R.cs c) = 0) : ∀ (os : List O4) (l : List α) (d : List Nat), (∀ o ∈ os, o.k = 1 ∨ o.k = 2 ∨ o.k = 3 ∨ o.k = 4) -> l.length = d.length -> (∀ v, P (l.getD v R.z)) -> (∀ v, f (l.getD v R.z) <= d.getD v 0 * D) -> ∀ v, P ((rnL R l os).getD v R.z) ∧ f ((rnL R l os).getD v R.z) <= (dgL id d os).getD v 0 * D
 | [], l, d, _, _, h1, h2, v => ⟨h1 v, h2 v⟩
 | o :: os, l, d, hk, hl, h1, h2, v => by
  have e : P (rnS R l o) ∧ f (rnS R l o) <= dgS d o * D := by
   have a1 := h2 o.a.toNat
   have a2 := h2 o.b.toNat
   have m1 : d.getD o.a.toNat 0 * D <= max (d.getD o.a.toNat 0) (d.getD o.b.toNat 0) * D := Nat.mul_le_mul_right _ (Nat.le_max_left _ _)
   have m2 : d.getD o.b.toNat 0 * D <= max (d.getD o.a.toNat 0) (d.getD o.b.toNat 0) * D := Nat.mul_le_mul_right _ (Nat.le_max_right _ _)
   unfold rnS dgS
   rcases hk o (by simp) with h | h | h | h
   · rw [if_pos h, if_pos (.inl h)]
     have := ha _ _ (h1 o.a.toNat) (h1 o.b.toNat)
     exact ⟨this.1, Nat.le_trans this.2 (Nat.max_le.2 ⟨Nat.le_trans a1 m1, Nat.le_trans a2 m2⟩)⟩
   · have k1 : ¬ o.k = 1 := by omega
     rw [if_neg k1, if_pos h, if_pos (.inr h)]
     have := hs _ _ (h1 o.a.toNat) (h1 o.b.toNat)
     exact ⟨this.1, Nat.le_trans this.2 (Nat.max_le.2 ⟨Nat.le_trans a1 m1, Nat.le_trans a2 m2⟩)⟩
   · have k1 : ¬ o.k = 1 := by omega
     have k2 : ¬ o.k = 2 := by omega
     have k3 : ¬ (o.k = 1 ∨ o.k = 2) := by omega
     rw [if_neg k1, if_neg k2, if_pos h, if_neg k3, if_pos h, Nat.add_mul]
     have := hu _ _ (h1 o.a.toNat) (h1 o.b.toNat)
     exact ⟨this.1, Nat.le_trans this.2 (Nat.add_le_add a1 a2)⟩
   · have k1 : ¬ o.k = 1 := by omega
     have k2 : ¬ o.k = 2 := by omega
     have k3 : ¬ o.k = 3 := by omega
     have k4 : ¬ (o.k = 1 ∨ o.k = 2) := by omega
     rw [if_neg k1, if_neg k2, if_neg k3, if_neg k4, if_neg k3, (hc o.c).2]
     exact ⟨(hc o.c).1, Nat.zero_le _⟩
  have at_ : ∀ u, (l ++ [rnS R l o]).getD u R.z = (if u < l.length then l.getD u R.z else if u = l.length then rnS R l o else R.z) ∧ (d ++ [dgS d o]).getD u 0 = (if u < l.length then d.getD u 0 else if u = l.length then dgS d o else 0) := fun u => by
   by_cases c1 : u < l.length
   · rw [if_pos c1, if_pos c1, getD_app _ _ _ c1, getD_app _ _ _ (by omega)]; exact ⟨rfl, rfl⟩
   · rw [if_neg c1, if_neg c1]
     by_cases c2 : u = l.length
     · rw [if_pos c2, if_pos c2]
       refine ⟨by rw [c2, getD_last], by rw [c2, hl, getD_last]⟩
     · rw [if_neg c2, if_neg c2, List.getD_eq_getElem?_getD, List.getElem?_eq_none (by simp; omega), List.getD_eq_getElem?_getD, List.getElem?_eq_none (by simp; omega)]; exact ⟨rfl, rfl⟩
  refine rn_deg R P f D hz fz ha hs hu hc os (l ++ [rnS R l o]) (d ++ [dgS d o]) (fun x hx => hk x (by simp [hx])) (by simp [hl]) (fun u => ?_) (fun u => ?_) v
  · rw [(at_ u).1]
    by_cases c1 : u < l.length
    · rw [if_pos c1]; exact h1 u
    · rw [if_neg c1]
      by_cases c2 : u = l.length
      · rw [if_pos c2]; exact e.1
      · rw [if_neg c2]; exact hz
  · rw [(at_ u).1, (at_ u).2]
    by_cases c1 : u < l.length
    · rw [if_pos c1, if_pos c1]; exact h2 u
    · rw [if_neg c1, if_neg c1]
      by_cases c2 : u = l.length
      · rw [if_pos c2, if_pos c2]; exact e.2
      · rw [if_neg c2, if_neg c2, fz]; exact Nat.zero_le _
end Go.Proofs.YtjhididlcdepdaaGreat.Slp
