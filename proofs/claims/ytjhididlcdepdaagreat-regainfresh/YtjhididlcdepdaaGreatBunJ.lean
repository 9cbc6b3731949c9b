import Derived.Test.YtjhididlcdepdaaGreatBunQ
set_option linter.unusedVariables false
set_option linter.unusedSimpArgs false
set_option maxRecDepth 100000
set_option maxHeartbeats 4000000
namespace Go.Proofs.YtjhididlcdepdaaGreat
open Go.RowKit Fld
theorem dEval_any (f t : Int) (v : Value) (xs : List Int) (w : World) (hc : 0 <= t ∧ t <= 18446744073709551615) (h1 : Rw w v xs) :
 Calls Tryz.prog 35 #[.int .u8 f, v, .int .u64 t] w fun e w' => e = .returned (.tuple #[.int .u64 (valE f t xs), .int .i64 (er f xs [t])]) ∧ Below w.heap.size w w' := by
 obtain ⟨a1, c1, rfl, _⟩ := h1.spell
 have hk := hide (fun T => rBad_any f _ _ xs [t] _ (h1.below (alloc_below _ _)) (rw1 w t hc T))
 unfold valE
 by_cases he : er f xs [t] = 0
 · obtain ⟨p, wd, h, i1, i2, m1, m2⟩ := er_zero he
   rw [if_pos he, he, pOf_eq h]
   rw [he] at hk
   have hte : El p t := els_of i2 (by simp [hc]) t (List.mem_singleton.2 rfl)
   have hp0 := h.pos
   have hp1 := h.top
   have hp2 : 1 < p := by have := h.md.bounds; omega
   have hP := hide (fun W => rP_yes f p wd W h)
   have HX := hide (els_of i1 h1.words)
   have H0 := hide (px_zero hp2 t)
   have H1 := hide (lw_zero p t xs)
   have t0 := hte.1
   have t1 := hc.2
   have HL : Hid (lw p t xs xs.length = vl p t xs) := rfl
   rw [<- HL.out]
   obtain ⟨⟨a, c, hv, _, _, hcell⟩, _⟩ := h1
   cases hv
   clear h i1 i2 he HL
   go_enter Tryz.func35, Tryz.ntmps35
   go_wp2_with (go_at_call 48; refine (hk.out _).mono ?_; rintro e w1 ⟨rfl, hw⟩; rw [hw]; clear hw)
   go_loopw [9, 10, 11] (fun vs vp vi wr => ∃ k : Nat, k <= xs.length ∧ vi = .int .i64 k ∧ vs = .int .u64 (lw p t xs k) ∧ vp = .int .u64 (px p t k) ∧ Below w.heap.size w wr) (fun _ _ vi _ => xs.length - (intOf vi).toNat)
   case atStart => exact ⟨0, Nat.zero_le _, rfl, by rw [H1.out], by rw [H0.out], alloc_below _ _⟩
   case round =>
    obtain ⟨k, hkl, rfl, rfl, rfl, hB⟩ := hrel
    by_cases hlt : k < xs.length
    · obtain ⟨b, o, rfl, hbl, hcl⟩ := hcell (by intro h; rw [h] at hlt; simp at hlt)
      have d1 := (hB.cell (p := ⟨b, o + k, none⟩) hbl).trans (hcl k hlt)
      have HS := hide (lw_step p t xs k)
      have HQ := hide (px_step p t k)
      have e1 := lw_el hp0 t xs k
      have e2 := px_el hp0 t k
      have e3 := HX.out.co hp0 k
      have sm' := mul_el (a := co xs k) (b := px p t k) hp0
      have hco : xs.getD k 0 = co xs k := rfl
      rw [hco] at d1
      have k0 : (0 : Int) <= (k : Int) := Int.natCast_nonneg _
      have k1 : (k : Int) < (xs.length : Int) := by omega
      clear hco hcl hcell HX
      generalize co xs k = x at *
      generalize hs : lw p t xs k = s at *
      generalize hq : px p t k = q at *
      have sa := hide (fun W => rSum_any p s (mul p x q) W hp1 e1 sm')
      have sx := hide (fun W => rTimes_any p x q W hp1 e3 e2.1 (elWord e2 hp1).2)
      have st := hide (fun W => rTimes_any p q t W hp1 e2 t0 t1)
      rw [HS.out] at sa
      rw [HQ.out] at st
      clear e1 e2 e3 sm' hs hq HS HQ
      obtain ⟨s2, HS2⟩ : ∃ s2, Hid (lw p t xs (k + 1) = s2) := ⟨_, rfl⟩
      obtain ⟨q2, HQ2⟩ : ∃ q2, Hid (px p t (k + 1) = q2) := ⟨_, rfl⟩
      rw [HS2.out] at sa
      rw [HQ2.out] at st
      generalize mul p x q = z at *
      go_wp2_with fail
      go_quiet ((first
       | (go_at_call 70; exact Calls.quiet_of_same (hP.out _))
       | (go_at_call 71; exact Calls.quiet_of_same (sx.out _))
       | (go_at_call 69; exact Calls.quiet_of_same (sa.out _))))
      have hW2 := below_drewN hB nq
      clear hB d1
      go_wp2_with (first
       | (go_at_call 70; refine (hP.out _).mono ?_; rintro e w1 ⟨rfl, hw⟩; rw [hw]; clear hw)
       | (go_at_call 71; refine (st.out _).mono ?_; rintro e w1 ⟨rfl, hw⟩; rw [hw]; clear hw))
      go_roundw
      case rel => exact ⟨k + 1, by omega, by go_num, by rw [HS2.out], by rw [HQ2.out], hW2⟩
      case measure => simp [intOf]; omega
    · obtain rfl : k = xs.length := by omega
      clear hcell
      go_wp2
      go_ret2
      exact ⟨rfl, hB⟩
 · have ht : (er f xs [t] != 0) = true := bne_iff_ne.2 he
   rw [if_neg he]
   clear h1 he
   generalize er f xs [t] = e0 at *
   go_enter Tryz.func35, Tryz.ntmps35
   go_wp2_with (go_at_call 48; refine (hk.out _).mono ?_; rintro e w1 ⟨rfl, hw⟩; rw [hw]; clear hw)
   go_ret2
   exact ⟨rfl, alloc_below _ _⟩
end Go.Proofs.YtjhididlcdepdaaGreat
namespace Go.Proofs.YtjhididlcdepdaaGreat
def mute (s : Oper) : Oper := { s with op := .move (.const undef) }
def muteL : List Oper -> List Oper
 | [] => []
 | [s] => [mute s]
 | o :: o2 :: r => o :: muteL (o2 :: r)
def lastL : List Oper -> List Oper
 | [] => []
 | [s] => [s]
 | _ :: o2 :: r => lastL (o2 :: r)
theorem parted : ∀ (L : List Oper), L ≠ [] -> ∃ l s, L = l ++ [s] ∧ muteL L = l ++ [mute s] ∧ L.dropLast = l ∧ lastL L = [s]
 | [], h => absurd rfl h
 | [s], _ => ⟨[], s, rfl, rfl, rfl, rfl⟩
 | o :: o2 :: r, _ => by
  obtain ⟨l, s, h1, h2, h3, h4⟩ := parted (o2 :: r) (List.cons_ne_nil _ _)
  refine ⟨o :: l, s, by rw [h1]; rfl, ?_, ?_, ?_⟩
  · show o :: muteL (o2 :: r) = _; rw [h2]; rfl
  · show o :: (o2 :: r).dropLast = _; rw [h3]
  · show lastL (o2 :: r) = _; rw [h4]
def backB (L : List Oper) : Bool := (List.range L.length).all fun i => (L[i]?.map fun o => o.after.all fun e => decide (e.on < i)).getD true
def coverB (s : Oper) (n : Nat) : Bool := s.dst.isNone && s.guard.isNone && (List.range n).all fun i => s.after.any fun e => Region.binds .any e && e.on == i
def lastB (L : List Oper) : Bool := !L.isEmpty && backB L && ((lastL L).all fun s => coverB s (L.length - 1))
section
variable {P : Program} {C : World -> Prop}
theorem yielded_mute (l : List Oper) (s : Oper) (tmps : Array Value) : yielded (l ++ [mute s]).toArray tmps = yielded (l ++ [s]).toArray tmps := by
 funext j
 unfold yielded
 have : (((l ++ [mute s]).toArray)[j]?).bind (·.dst) = (((l ++ [s]).toArray)[j]?).bind (·.dst) := by
  simp only [List.getElem?_toArray]
  by_cases h : j < l.length
  · rw [List.getElem?_append_left h, List.getElem?_append_left h]
  · rw [List.getElem?_append_right (by omega), List.getElem?_append_right (by omega)]
    cases h2 : j - l.length with
    | zero => rfl
    | succ k => rfl
 rw [this]
theorem ready_mute (l : List Oper) (s : Oper) (listed : Array Bool) : Region.ready .any (l ++ [mute s]).toArray listed = Region.ready .any (l ++ [s]).toArray listed := by
 unfold Region.ready
 have hs : ((l ++ [mute s]).toArray).size = ((l ++ [s]).toArray).size := by simp
 rw [hs]
 apply List.filter_congr
 intro j _
 congr 1
 simp only [List.getElem?_toArray]
 by_cases h : j < l.length
 · rw [List.getElem?_append_left h, List.getElem?_append_left h]
 · rw [List.getElem?_append_right (by omega), List.getElem?_append_right (by omega)]
   cases h2 : j - l.length with
   | zero => rfl
   | succ k => rfl
theorem quiet_mute (ops : Array Oper) (Q : Act -> Prop) (s : Oper) (hd : s.dst = none) (hg : s.guard = none) (a : Act) (h : Q a) : wpQuiet P ops C Q [mute s] a := by
 have hw : Region.wanted (mute s) (yielded ops a.tmps) = true := by
  have : (mute s).guard = none := hg
  simp [Region.wanted, this]
 show (if Region.wanted (mute s) (yielded ops a.tmps) = true then _ else _)
 rw [if_pos hw]
 refine ⟨undef, fun w hw => ?_, ?_⟩
 · unfold Oper.quietAt
   show Oper.quietUpon P C w undef ((execOp a.eval (mute s)).run P w)
   simp [mute, execOp, Oper.quietUpon, go_sem]
 · have : (mute s).dst = none := hd
   rw [this]
   show Q (a.put none undef)
   exact h
theorem wpQuiet_app (ops ops' : Array Oper) (Q : Act -> Prop) (hy : ∀ t, yielded ops' t = yielded ops t) (m : List Oper) : ∀ (l : List Oper) (a : Act), wpQuiet P ops C (fun a' => wpQuiet P ops' C Q m a') l a -> wpQuiet P ops' C Q (l ++ m) a
 | [], a, h => h
 | o :: l, a, h => by
  show (if Region.wanted o (yielded ops' a.tmps) = true then _ else _)
  rw [hy]
  unfold wpQuiet at h
  split
  · rename_i hw
    rw [if_pos hw] at h
    exact Oper.quiet_mono (fun a' h' => wpQuiet_app ops ops' Q hy m l a' h') h
  · rename_i hw
    rw [if_neg hw] at h
    exact wpQuiet_app ops ops' Q hy m l _ h
theorem some_ready {ops : List Oper} (hb : backB ops = true) {listed : Array Bool} (hl : listed.size = ops.length) : ∀ (j : Nat), j < ops.length -> listed.getD j true = false -> Region.ready .any ops.toArray listed ≠ [] := by
 intro j
 induction j using Nat.strongRecOn with
 | _ j ih =>
  intro hj hu he
  obtain ⟨o, ho⟩ : ∃ o, ops[j]? = some o := ⟨_, List.getElem?_eq_getElem hj⟩
  by_cases hall : ∀ e ∈ o.after, Region.binds .any e = true -> listed.getD e.on false = true
  · have : j ∈ Region.ready .any ops.toArray listed := mem_ready.2 ⟨hu, o, by simpa using ho, hall⟩
    rw [he] at this; cases this
  · obtain ⟨e, h1⟩ := Classical.not_forall.1 hall
    obtain ⟨hm, h2⟩ := Classical.not_imp.1 h1
    obtain ⟨hbi, h3⟩ := Classical.not_imp.1 h2
    unfold backB at hb
    rw [List.all_eq_true] at hb
    have h4 := hb j (List.mem_range.2 hj)
    rw [ho] at h4
    simp only [Option.map_some, Option.getD_some] at h4
    have h5 := (Array.all_eq_true_iff_forall_mem.1 h4) e hm
    have hlt : e.on < j := by simpa using h5
    refine ih e.on hlt (by omega) ?_ he
    have hs : e.on < listed.size := by omega
    have : listed.getD e.on false = listed.getD e.on true := by simp [Array.getD, hs]
    rw [<- this]; simpa using h3
theorem all_listed {l : List Oper} {s : Oper} {n : Nat} (hc : coverB s n = true) (hn : l.length = n) {listed : Array Bool} (hr : n ∈ Region.ready .any (l ++ [s]).toArray listed) : Region.ready .any (l ++ [s]).toArray (listed.setIfInBounds n true) = [] := by
 obtain ⟨hu, o, ho, hall⟩ := mem_ready.1 hr
 have hos : o = s := by
  simp only [List.getElem?_toArray] at ho
  rw [List.getElem?_append_right (by omega), hn, Nat.sub_self] at ho
  simpa using ho.symm
 subst hos
 cases he : Region.ready .any (l ++ [o]).toArray (listed.setIfInBounds n true) with
 | nil => rfl
 | cons j r =>
  exfalso
  have hj : j ∈ Region.ready .any (l ++ [o]).toArray (listed.setIfInBounds n true) := by rw [he]; exact List.mem_cons_self
  obtain ⟨hju, oj, hoj, _⟩ := mem_ready.1 hj
  have hjl : j < l.length + 1 := by
   apply Nat.lt_of_not_le; intro hcn
   simp only [List.getElem?_toArray] at hoj
   rw [List.getElem?_eq_none (by simp; omega)] at hoj; cases hoj
  by_cases hjn : j = n
  · subst hjn
    by_cases hsz : j < listed.size
    · simp [hsz] at hju
    · simp [hsz] at hju
  · have h1 : listed.getD j true = false := by rw [getD_set_ne true (fun h => hjn h.symm)] at hju; exact hju
    unfold coverB at hc
    simp only [Bool.and_eq_true] at hc
    have h2 := List.all_eq_true.1 hc.2 j (List.mem_range.2 (by omega))
    rw [Array.any_eq_true'] at h2
    obtain ⟨e, hem, heb⟩ := h2
    simp only [Bool.and_eq_true, beq_iff_eq] at heb
    have h3 := hall e hem heb.1
    rw [heb.2] at h3
    by_cases hsz : j < listed.size
    · have : listed.getD j false = listed.getD j true := by simp [Array.getD, hsz]
      rw [this, h1] at h3; cases h3
    · simp [Array.getD, hsz] at h3
theorem any_last {l : List Oper} {s : Oper} {n : Nat} (hn : l.length = n) (hb : backB (l ++ [s]) = true) (hc : coverB s n = true) {Q : Exit -> Act -> World -> Prop} :
 ∀ (fuel : Nat) (listed : Array Bool) (a : Act) (w : World), C w -> listed.size = n + 1 -> listed.getD n true = false ->
 wpAnyQ P .any (l ++ [mute s]).toArray C (fun a' => ∀ w', C w' -> wpList P (l ++ [s]).toArray Q [s] a' w') fuel listed a -> wpAny P .any (l ++ [s]).toArray Q fuel listed a w := by
 have hlen : (l ++ [s]).length = n + 1 := by simp [hn]
 intro fuel
 induction fuel with
 | zero =>
  intro listed a w hw hsz hu h
  have := h.1
  rw [ready_mute] at this
  exact absurd this (some_ready hb (by omega) n (by omega) hu)
 | succ fuel ih =>
  intro listed a w hw hsz hu h
  refine ⟨fun h0 => absurd h0 (some_ready hb (by omega) n (by omega) hu), fun i hi => ?_⟩
  have h1 := h.2 i (by rw [ready_mute]; exact hi)
  by_cases hin : i = n
  · subst hin
    have hempty := all_listed hc hn hi
    have hcc := hc
    unfold coverB at hcc
    simp only [Bool.and_eq_true, Option.isNone_iff_eq_none] at hcc
    have hls : ((l ++ [s]).toArray)[i]? = some s := by simp [<- hn]
    have hlm : ((l ++ [mute s]).toArray)[i]? = some (mute s) := by simp [<- hn]
    obtain ⟨v, hy, hK⟩ := yieldsIn_of_qOp hlm h1
    have hd : (mute s).dst = none := hcc.1.1
    rw [hd] at hK
    have hQ : ∀ w', C w' -> wpList P (l ++ [s]).toArray Q [s] a w' := by
     have hK' : wpAnyQ P .any (l ++ [mute s]).toArray C (fun a' => ∀ w', C w' -> wpList P (l ++ [s]).toArray Q [s] a' w') fuel (listed.setIfInBounds i true) a := hK
     cases fuel with
     | zero => exact hK'.2
     | succ fuel => exact hK'.1 (by rw [ready_mute]; exact hempty)
    have h2 := hQ w hw
    have hnext : ∀ a' w', Q .normal a' w' -> wpAny P .any (l ++ [s]).toArray Q fuel (listed.setIfInBounds i true) a' w' := by
     intro a' w' hq
     cases fuel with
     | zero => exact ⟨hempty, hq⟩
     | succ fuel => exact ⟨fun _ => hq, fun j hj => by rw [hempty] at hj; cases hj⟩
    refine wpOp_mono hnext ?_
    unfold wpOp
    simp only [hls]
    exact h2
  · have hil : i < l.length := by
     obtain ⟨_, o, ho, _⟩ := mem_ready.1 hi
     apply Nat.lt_of_not_le; intro hcn
     simp only [List.getElem?_toArray] at ho
     rw [List.getElem?_eq_none (by simp; omega)] at ho; cases ho
    have h2 := wpOp_of_qOp (Q' := Q) (K' := wpAny P .any (l ++ [s]).toArray Q fuel (listed.setIfInBounds i true)) hw (fun a' w' hw' hk => ih _ a' w' hw' (by simpa using hsz) (by rw [getD_set_ne true hin]; exact hu) hk) h1
    have e1 : ((l ++ [mute s]).toArray)[i]? = ((l ++ [s]).toArray)[i]? := by
     simp only [List.getElem?_toArray]
     rw [List.getElem?_append_left hil, List.getElem?_append_left hil]
    unfold wpOp at h2 ⊢
    rw [e1] at h2
    simp only [yielded_mute] at h2
    exact h2
theorem wp_region_last {id : Nat} {Q : Exit -> Act -> World -> Prop} {a : Act} {w : World} {L : List Oper} (hm : P.follows .mixedOrders = true) (hB : Region.lexB .any (muteL L).toArray = true) (hL : lastB L = true)
 (h : wpQuiet P L.toArray (fun w' => ∃ n, w' = w.drewN n) (fun a' => ∀ w', (∃ n, w' = w.drewN n) -> wpList P L.toArray Q (lastL L) a' w') L.dropLast a) : (Code.region id L.toArray true).wp P Q a w := by
 unfold lastB at hL
 simp only [Bool.and_eq_true] at hL
 obtain ⟨⟨hne, hb⟩, hc⟩ := hL
 obtain ⟨l, s, rfl, h2, h3, h4⟩ := parted L (by intro h; rw [h] at hne; simp at hne)
 rw [h2] at hB
 rw [h3, h4] at h
 rw [h4] at hc
 have hc : coverB s l.length = true := by simpa using hc
 have hcc := hc
 unfold coverB at hcc
 simp only [Bool.and_eq_true, Option.isNone_iff_eq_none] at hcc
 have hq : wpQuiet P (l ++ [mute s]).toArray (fun w' => ∃ n, w' = w.drewN n) (fun a' => ∀ w', (∃ n, w' = w.drewN n) -> wpList P (l ++ [s]).toArray Q [s] a' w') (l ++ [mute s]) a := by
  refine wpQuiet_app (l ++ [s]).toArray _ _ (fun t => yielded_mute l s t) [mute s] l a ?_
  have mono : ∀ (Q1 Q2 : Act -> Prop), (∀ a, Q1 a -> Q2 a) -> ∀ (m : List Oper) (a : Act), wpQuiet P (l ++ [s]).toArray (fun w' => ∃ n, w' = w.drewN n) Q1 m a -> wpQuiet P (l ++ [s]).toArray (fun w' => ∃ n, w' = w.drewN n) Q2 m a := by
   intro Q1 Q2 h12 m
   induction m with
   | nil => intro a h; exact h12 a h
   | cons o m ihm =>
    intro a h
    unfold wpQuiet at h ⊢
    split
    · rename_i hw; rw [if_pos hw] at h; exact Oper.quiet_mono ihm h
    · rename_i hw; rw [if_neg hw] at h; exact ihm _ h
  exact mono _ _ (fun a' h' => quiet_mute _ _ s hcc.1.1 hcc.1.2 a' h') l a h
 simp only [Region.lexB, Bool.and_eq_true] at hB
 have hlex := wpAnyQ_lex (C := fun w' => ∃ n, w' = w.drewN n) (md := .any) hB.1 (l ++ [mute s]) 0 (Array.replicate (l ++ [mute s]).toArray.size false) a (by simp) (by simpa using hB.2) hq
 refine wp_region_any hm ?_
 have e : ((l ++ [s]).toArray).size = (l ++ [mute s]).length := by simp
 have e2 : (l ++ [mute s]).toArray.size = (l ++ [mute s]).length := by simp
 rw [e]
 rw [e2] at hlex
 exact any_last rfl hb hc _ _ _ _ ⟨1, rfl⟩ (by simp) (by simp [Array.getD]) hlex
end
end Go.Proofs.YtjhididlcdepdaaGreat
namespace Go.Proofs.YtjhididlcdepdaaGreat
open Go.RowKit Fld
def rk (p : Int) (xs ys : List Int) (n j : Nat) : List Int := mk (xs.length + ys.length - 1) (fun i => rw' xs ys n j i % p)
namespace Fld
def DI (p : Int) (xs qs A R : List Int) (m k : Nat) : Prop :=
 Els p A ∧ Els p R ∧ (∀ i, i < k -> co A i = 0) ∧ (∀ i, k + m <= i -> co R i = 0) ∧ Al p (fun i => cv (co A) (co qs) i + co R i) (co xs)
theorem co_rep (n i : Nat) : co (List.replicate n 0) i = 0 := by
 unfold co
 rw [List.getD_eq_getElem?_getD, List.getElem?_replicate]
 split <;> rfl
theorem els_rep {p : Int} (hp : 0 < p) (n : Nat) : Els p (List.replicate n 0) := fun x hx => by rw [List.eq_of_mem_replicate hx]; exact ⟨Int.le_refl 0, hp⟩
theorem DI.start {p : Int} {xs qs : List Int} {n m : Nat} (hp : 0 < p) (hx : Els p xs) (h : (tr xs).length <= n + m) : DI p xs qs (List.replicate n 0) (tr xs) m n :=
 ⟨els_rep hp n, hx.tr hp, fun i _ => co_rep n i, fun i hi => by rw [co_tr]; exact tr_out xs i (by omega), fun i => by
  show (cv (co (List.replicate n 0)) (co qs) i + co (tr xs) i) % p = co xs i % p
  rw [cv_zero_left _ i _ (fun j _ => co_rep n j), Int.zero_add, co_tr]⟩
theorem DI.skip {p : Int} {xs qs A R : List Int} {m k : Nat} (h : DI p xs qs A R m (k + 1)) (h0 : co R (k + m) = 0) : DI p xs qs A R m k :=
 ⟨h.1, h.2.1, fun i hi => h.2.2.1 i (by omega), fun i hi => by
  by_cases he : i = k + m
  · rw [he]; exact h0
  · exact h.2.2.2.1 i (by omega), h.2.2.2.2⟩
theorem neg_mod (p r c q : Int) : (r + sub p 0 c * q) % p = (r - c * q) % p := by
 unfold sub
 rw [Int.add_emod, Int.mul_emod, Int.emod_emod_of_dvd _ (Int.dvd_refl p), <- Int.mul_emod, <- Int.add_emod, Int.sub_mul, Int.zero_mul]
 congr 1; omega
theorem top_gone {p r q iv : Int} (hi : (q * iv) % p = 1 % p) : (r - (r * iv) % p * q) % p = 0 := by
 have e : ((r * iv) % p * q) % p = r % p := by
  rw [Int.mul_emod, Int.emod_emod_of_dvd _ (Int.dvd_refl p), <- Int.mul_emod, Int.mul_assoc, Int.mul_comm iv q, Int.mul_emod, hi, <- Int.mul_emod, Int.mul_one]
 rw [Int.sub_emod, e, Int.sub_self]; rfl
theorem DI.step {p c iv : Int} {xs qs A R : List Int} {m k : Nat} (hp : 0 < p) (hq : qs.length = m + 1) (hi : (co qs m * iv) % p = 1 % p) (hc : c = (co R (k + m) * iv) % p) (hA : k < A.length) (hR : k + m < R.length)
 (h : DI p xs qs A R m (k + 1)) : DI p xs qs (A.set k c) (gr p (sub p 0 c) k qs R qs.length) m k := by
 obtain ⟨h1, h2, h3, h4, h5⟩ := h
 refine ⟨Els.of_co fun i _ => ?_, els_gr hp h2 _, fun i hi' => ?_, fun i hi' => ?_, div_step h5 (d := k) (c := c) (fun i => ?_) (fun i => ?_)⟩
 · rw [co_set _ _ _ _ hA]; split
   · rw [hc]; exact emod_el hp _
   · exact h1.co hp i
 · rw [co_set _ _ _ _ hA, if_neg (by omega)]; exact h3 i (by omega)
 · rw [co_gr]
   by_cases he : i = k + m
   · subst he
     have e : k + m - k = m := by omega
     rw [if_pos (by omega), e, neg_mod, hc]
     exact top_gone hi
   · rw [if_neg (by omega)]; exact h4 i (by omega)
 · rw [co_set _ _ _ _ hA]
   unfold pt
   by_cases he : i = k
   · rw [if_pos he, if_pos he, he, h3 k (by omega), Int.zero_add]
   · rw [if_neg he, if_neg he, Int.add_zero]
 · rw [co_gr]
   by_cases hk : k <= i
   · rw [if_pos hk]
     by_cases hr : i < k + qs.length
     · rw [if_pos (by omega), Int.emod_emod_of_dvd _ (Int.dvd_refl p), neg_mod]
     · rw [if_neg (by omega), co_out qs (i - k) (by omega), Int.mul_zero, Int.sub_zero]
   · rw [if_neg (by omega), if_neg hk, Int.sub_zero]
theorem DI.fin {p : Int} {wd : Bool} {xs qs A R : List Int} {m n : Nat} (hm : Md p wd) (hx : Els p xs) (tq : tr qs = qs) (hq : qs.length = m + 1) (hA : A.length = n) (hn : n = 0 ∨ n + m = (tr xs).length)
 (h : DI p xs qs A R m 0) : Dv p xs qs A (tr R) := by
 have hp : 0 < p := by have := hm.bounds; omega
 obtain ⟨h1, h2, h3, h4, h5⟩ := h
 refine ⟨h1, h2.tr hp, ?_, tr_tr R, ?_, fun i => ?_⟩
 · by_cases hA0 : A = []
   · rw [hA0]; rfl
   apply tr_full
   right
   have hA1 := List.length_pos_iff.2 hA0
   intro h0
   have e := h5 ((n - 1) + m)
   have e1 : cv (co A) (co qs) ((n - 1) + m) = co A (n - 1) * co qs m := cv_top (n := m) (n - 1) (f := co A) (g := co qs) (fun i hi => co_out _ _ (by omega)) (fun i hi => co_out _ _ (by omega))
   rw [hA] at h0
   simp only [e1, h0, Int.zero_mul, Int.zero_add] at e
   rw [h4 _ (by omega), Int.zero_emod] at e
   have hne : tr xs ≠ [] := by intro h; rw [h] at hn; simp at hn; omega
   have e2 := tr_last xs hne
   have e3 : (tr xs).length - 1 = (n - 1) + m := by omega
   rw [e3] at e2
   rw [(hx.co hp _).mod] at e
   exact e2 e.symm
 · rw [tq, hq]
   by_cases hR : tr R = []
   · rw [hR]; simp
   · have := tr_last R hR
     have hR1 := List.length_pos_iff.2 hR
     apply Nat.lt_of_not_le
     intro hc
     exact this (h4 _ (by omega))
 · show (cv (co A) (co qs) i + co (tr R) i) % p = co xs i % p
   rw [co_tr]; exact h5 i
end Fld
theorem inv_one {p a : Int} {wd : Bool} (hm : Md p wd) (ha : El p a) (h0 : a ≠ 0) : (a * inv p a) % p = 1 % p := by
 have h := mul_inv hm a ha h0
 have h1 := one_el hm
 unfold mul at h
 rw [h, Int.emod_eq_of_lt h1.1 h1.2]
theorem Inv_yes3 (f p a : Int) (wd : Bool) (w : World) (h : Fi f p wd) (ha : El p a) (h0 : a ≠ 0) :
 Calls Tryz.prog 175 #[.int .u8 f, .int .u64 a] w fun x w' => x = .returned (.tuple #[.int .u64 (inv p a), .int .i64 0]) ∧ Below w.heap.size w w' := by
 have := Inv_of f a _ 0 w (Div_yes f p 1 a wd w h (one_el h.md) ha (by have := ha.1; omega))
 have e : mul p 1 (inv p a) = inv p a := by
  have h := inv_el (p := p) (a := a) h.pos
  unfold mul; rw [Int.one_mul]; exact Int.emod_eq_of_lt h.1 h.2
 rw [e] at this; exact this
theorem two_set {w wr w4 w5 : World} {bq br gq g nq nr i : Nat} {A R : List Int} {c : Int} {T : TypeId} (hq : wr.ownsRow bq T 1 (.slice (some ⟨gq, 0, none⟩) nq nq) nq (vals A)) (hr : wr.ownsRow br T 1 (.slice (some ⟨g, 0, none⟩) nr nr) nr (vals R)) (hne : gq ≠ g)
 (hB : Below w.heap.size w wr) (hbq : w.heap.size <= gq) (hb4 : Below wr.heap.size wr w4) (hb5 : Below (w4.setCell ⟨gq, i, none⟩ (.int .u64 c)).heap.size (w4.setCell ⟨gq, i, none⟩ (.int .u64 c)) w5) :
 w5.ownsRow bq T 1 (.slice (some ⟨gq, 0, none⟩) nq nq) nq (vals (A.set i c)) ∧ w5.ownsRow br T 1 (.slice (some ⟨g, 0, none⟩) nr nr) nr (vals R) ∧ Below w.heap.size w w5 := by
 have h1 := spoil_step (x := c) (k := i) (own_below hq hb4) (grown_refl w4 (some gq)) (.inl rfl)
 have h2 := (own_below hr hb4).kept h1.2 (.inr (by intro e; cases e; exact hne rfl))
 exact ⟨own_below h1.1 hb5, own_below h2 hb5, Below.next ((Below.next hB hb4).setCell (p := ⟨gq, i, none⟩) hbq _) hb5⟩
end Go.Proofs.YtjhididlcdepdaaGreat
namespace Go.Proofs.YtjhididlcdepdaaGreat
open Go.RowKit Fld
theorem divide_any (f p : Int) (wd : Bool) (v1 v2 : Value) (xs qs : List Int) (m : Nat) (w : World) (h : Fi f p wd) (h1 : Rw w v1 xs) (h2 : Rw w v2 qs) (hx : Els p xs) (hq : Els p qs) (tq : tr qs = qs) (hm : qs.length = m + 1) (hl : xs.length <= 4096) (hl2 : qs.length <= 4096) :
 Calls Tryz.prog 147 #[.int .u8 f, v1, v2] w fun e w' => ∃ vq vr A R b, e = .returned (.tuple #[vq, vr]) ∧ Dv p xs qs A (tr R) ∧ Els p R ∧ R.length <= 4096 ∧
  w'.ownsRow b 64 1 vq A.length (vals A) ∧ w'.ownsRow w.heap.size 64 1 vr R.length (vals R) ∧ (∀ k, vr.ownBlock = some k -> k < b) ∧ w.heap.size <= b ∧ Below w.heap.size w w' := by
 obtain ⟨i0, hi0, hz0, hz1, hz2⟩ := info_parts u64_info
 have hp0 := h.pos
 have ht := hide (Trim_at v1 xs w h1)
 have hnr := tr_len xs
 have hqe := hq.co hp0 m
 have hqn : co qs m ≠ 0 := by have := last_ne tq (by intro e; rw [e] at hm; simp at hm); rw [hm, Nat.add_sub_cancel] at this; exact this
 have hI := hide (fun W => Inv_yes3 f p (co qs m) wd W h hqe hqn)
 have hI1 := hide (inv_one h.md hqe hqn)
 have hie := inv_el (p := p) (a := co qs m) hp0
 have HM := hide (fun W x (hx : El p x) => Mul_yes f p x (inv p (co qs m)) wd W h hx hie)
 have HSb := hide (fun W x (hx : El p x) => Sub_yes f p 0 x wd W h ⟨Int.le_refl 0, hp0⟩ hx)
 obtain ⟨nq, HNQ⟩ : ∃ nq, Hid (nq = (tr xs).length - m) := ⟨_, rfl⟩
 have HFin := hide (fun A R (hA : A.length = nq) (hd : DI p xs qs A R m 0) => hd.fin h.md hx tq hm hA (by have := HNQ.out; omega))
 have HStart := hide (DI.start (qs := qs) (n := nq) (m := m) hp0 hx (by have := HNQ.out; omega))
 have HStep := hide (fun A R k c (hc : c = (co R (k + m) * inv p (co qs m)) % p) (hA : k < A.length) (hR : k + m < R.length) (hd : DI p xs qs A R m (k + 1)) => hd.step hp0 hm hI1.out hc hA hR)
 obtain ⟨a2, c2, rfl, hcap2⟩ := h2.spell
 have HG := hide (fun W g R k c (hce : El p c) (hb : Below w.heap.size w W) (hg : w.heap.size <= g) (nr : Nat) (hO : W.ownsRow w.heap.size 64 1 (.slice (some ⟨g, 0, none⟩) nr nr) nr (vals R)) (hR : Els p R) (hk : k + m < nr) =>
  grow_any f p c wd (.slice a2 qs.length c2) qs R W w.heap.size g k nr nr (nr - k) (nr - k) h hce (h2.1.below hb) hq hO hR (by omega) (by omega) (row_far h2.1 hg))
 have hco : qs.getD m 0 = co qs m := rfl
 obtain ⟨b2, o2, rfl, hbl2, hcl2⟩ : ∃ b o, a2 = some ⟨b, o, none⟩ ∧ b < w.heap.size ∧ w.cell? ⟨b, o + m, none⟩ = some (.int .u64 (co qs m)) := by
  obtain ⟨⟨a, c, he, _, _, hc⟩, _⟩ := h2
  cases he
  obtain ⟨b, o, h3, h4, h5⟩ := hc (by intro e; rw [e] at hm; simp at hm)
  exact ⟨b, o, h3, h4, h5 m (by omega)⟩
 have HSE := hide (fun c => sub_el (p := p) (a := 0) (b := c) hp0)
 have HME := hide (fun x => mul_el (p := p) (a := x) (b := inv p (co qs m)) hp0)
 generalize inv p (co qs m) = iv at *
 generalize co qs m = q0 at *
 obtain ⟨nr, HNR⟩ : ∃ nr, Hid ((tr xs).length = nr) := ⟨_, rfl⟩
 have hnq := HNQ.out
 rw [HNR.out] at ht hnr hnq
 have hm' : (qs.length : Int) = (m : Int) + 1 := by omega
 have HRL : Hid ((tr xs).length = nr) := HNR
 clear h h1 h2 hx hq tq hqe hqn hI1 hie hco HNQ
 have hcase : (nr < m ∧ nq = 0) ∨ (¬ nr < m ∧ nr = nq + m) := by omega
 clear hnq
 rw [hm]
 rw [hm] at hcap2 HG HStep
 rcases hcase with ⟨hlt, hnq⟩ | ⟨hlt, hnq⟩
 · subst hnq
   go_enter Tryz.func147, Tryz.ntmps147
   go_wp2
   go_step3
   go_wp2_with (first
    | (go_at_call 173; refine ht.out.mono ?_; rintro e w1 ⟨g, rfl, hOr, hb1⟩; have hs1 := hb1.size; have hgl := (hOr.lt g rfl).2)
    | (at_make; refine wpList_make_full _ rfl _ _ 36 rfl w1.heap.size 64 i0 (.int .u64 0) 1 Tryz.underlying36 hi0 hz0 hz1 .i64 .i64 _ _ 0 rfl rfl (by omega) (by omega) (by rw [hz2]; omega) (by unfold maxLen; omega) (Nat.le_refl _) ?_; intro w2 hown hgrow; have hOq := own_made hown; have hOr := own_below hOr (below_grown_none hgrow); have hb2 := Below.next hb1 (below_grown_none hgrow); clear hown hgrow; have d2 := (hb2.cell (p := ⟨b2, o2 + m, none⟩) hbl2).trans hcl2)
    | (go_at_call 175; refine (hI.out _).mono ?_; rintro e w3 ⟨rfl, hb⟩; have hOq := own_below hOq hb; have hOr := own_below hOr hb; have hb3 := Below.next hb2 hb; clear hb))
   go_step3
   go_wp2
   go_loopw [11] (fun vi wr => vi = .int .i64 (-1) ∧ wr = w3) (fun _ _ => 0)
   case atStart => exact ⟨rfl, rfl⟩
   case round =>
    obtain ⟨rfl, rfl⟩ := hrel
    go_wp2
    rw [Exit.noGoto_ret]
    go_ret2
    exact ⟨_, _, _, _, w1.heap.size, rfl, HFin.out [] _ rfl HStart.out, HStart.out.2.1, by rw [HRL.out]; omega, hOq, by rw [HRL.out]; exact hOr, fun k hk => by cases hk; exact hgl, hs1, hb3⟩
 · subst hnq
   go_enter Tryz.func147, Tryz.ntmps147
   go_wp2
   go_step3
   go_wp2_with (first
    | (go_at_call 173; refine ht.out.mono ?_; rintro e w1 ⟨g, rfl, hOr, hb1⟩; have hs1 := hb1.size; have hgl := (hOr.lt g rfl).2)
    | (at_make; refine wpList_make_full _ rfl _ _ 36 rfl w1.heap.size 64 i0 (.int .u64 0) 1 Tryz.underlying36 hi0 hz0 hz1 .i64 .i64 _ _ nq rfl rfl (by omega) (by omega) (by rw [hz2]; omega) (by unfold maxLen; omega) (Nat.le_refl _) ?_; intro w2 hown hgrow; have hOq := own_made hown; have hOr := own_below hOr (below_grown_none hgrow); have hb2 := Below.next hb1 (below_grown_none hgrow); clear hown hgrow; have d2 := (hb2.cell (p := ⟨b2, o2 + m, none⟩) hbl2).trans hcl2)
    | (go_at_call 175; refine (hI.out _).mono ?_; rintro e w3 ⟨rfl, hb⟩; have hOq := own_below hOq hb; have hOr := own_below hOr hb; have hb3 := Below.next hb2 hb; clear hb))
   go_step3
   go_wp2
   have hne : w1.heap.size ≠ g := by omega
   have hgw := own_base hOr g rfl
   clear d2 hb1 hb2 ht hI
   go_loopw [11] (fun vi wr => ∃ (k : Nat) (A R : List Int), k <= nq ∧ vi = .int .i64 ((k : Int) - 1) ∧ Hid (DI p xs qs A R m k) ∧ wr.ownsRow w1.heap.size 64 1 (.slice (some ⟨w1.heap.size, 0, none⟩) nq nq) nq (vals A) ∧ wr.ownsRow w.heap.size 64 1 (.slice (some ⟨g, 0, none⟩) (nq + m) (nq + m)) (nq + m) (vals R) ∧ Below w.heap.size w wr) (fun vi _ => (intOf vi + 1).toNat)
   case atStart => exact ⟨nq, _, _, Nat.le_refl _, rfl, HStart, hOq, hOr, hb3⟩
   case round =>
    clear hOq hOr hb3 HStart
    obtain ⟨k, A, R, hk, rfl, HD, hOq, hOr, hB⟩ := hrel
    have hAl := own_len hOq
    have hRl := own_len hOr
    by_cases hpos : 0 < k
    · obtain ⟨k, rfl⟩ : ∃ j, k = j + 1 := ⟨k - 1, by omega⟩
      have ek : (((k + 1 : Nat) : Int) - 1) = (k : Int) := by omega
      rw [ek]
      clear ek
      go_wp2
      go_loopw [11] (fun vi wx => ∃ i : Nat, i <= k ∧ vi = .int .i64 i ∧ Hid (DI p xs qs A R m (i + 1)) ∧ wx = wr) (fun vi _ => (intOf vi).toNat)
      case atStart => exact ⟨k, Nat.le_refl _, rfl, HD, rfl⟩
      case round =>
       clear HD
       obtain ⟨i, hi, rfl, HD, rfl⟩ := hrel
       have hin : i < nq := by omega
       have him : i + m < nq + m := by omega
       have d := own_cell hOr hRl him
       have hco : R.getD (i + m) 0 = co R (i + m) := rfl
       rw [hco] at d
       clear hco
       by_cases hz : co R (i + m) = 0
       · have HD2 := hide (HD.out.skip hz)
         rw [hz] at d
         clear hz HD
         by_cases hi0 : 0 < i
         · obtain ⟨i, rfl⟩ : ∃ j, i = j + 1 := ⟨i - 1, by omega⟩
           go_wp2
           go_roundw
           case rel => exact ⟨i, by omega, by go_num, HD2, by trivial⟩
           case measure => simp [intOf]
         · obtain rfl : i = 0 := by omega
           rw [Nat.zero_add] at d
           go_wp2
           rw [Exit.noGoto_ret]
           go_ret2
           exact ⟨_, _, A, R, w1.heap.size, rfl, HFin.out A R hAl HD2.out, HD2.out.2.1, by omega, by rw [hAl]; exact hOq, by rw [hRl]; exact hOr, fun k hk => by cases hk; exact hgl, hs1, hB⟩
       · have hre := HD.out.2.1.co hp0 (i + m)
         obtain ⟨c, HC⟩ : ∃ c, Hid (c = (co R (i + m) * iv) % p) := ⟨_, rfl⟩
         have hmu := hide (fun W => HM.out W _ hre)
         have hce : El p c := by rw [HC.out]; exact emod_el hp0 _
         have ecm : mul p (co R (i + m)) iv = c := by rw [HC.out]; rfl
         rw [ecm] at hmu
         have HS2 := hide (HStep.out A R i c HC.out (by omega) (by omega) HD.out)
         have hsu := hide (fun W => HSb.out W c hce)
         have hse := HSE.out c
         have hg := hide (fun W hb hO => HG.out W g R i (sub p 0 c) hse hb hgw (nq + m) hO HD.out.2.1 him)
         have hz' : (co R (i + m) == 0) = false := beq_eq_false_iff_ne.2 hz
         have HT2 := hide (fun w4 w5 hb4 hb5 => two_set (w4 := w4) (w5 := w5) (i := i) (c := c) hOq hOr hne hB hs1 hb4 hb5)
         have HQ4 := hide (fun W (hb : Below wr.heap.size wr W) => own_cell (k := i) (own_below hOq hb) hAl hin)
         have HF4 := hide (fun W (hb : Below wr.heap.size wr W) => (own_below hOq hb).frozenAt i)
         clear hz hre ecm HD
         generalize co R (i + m) = r at *
         generalize A.getD i 0 = y at *
         generalize sub p 0 c = s at *
         have HOq := hide hOq
         have HOr := hide hOr
         clear hOq hOr
         go_wp2_with (first
          | (go_at_call 102; refine (hmu.out _).mono ?_; rintro e w4 ⟨rfl, hb4⟩; have q4 := HQ4.out _ hb4; have f4 := HF4.out _ hb4)
          | (go_at_call 176; refine (hsu.out _).mono ?_; rintro e w5 ⟨rfl, hb5⟩; have hT := hide (HT2.out _ _ hb4 hb5))
          | (go_at_call 177; refine (hg.out _ hT.out.2.2 hT.out.2.1).mono ?_; rintro e w6 ⟨rfl, hO6, hG6⟩))
         have R1 := hT.out.1.kept hG6 (.inr (by intro e; cases e; exact hne rfl))
         have R2 := hT.out.2.2.grown hG6 hT.out.2.2.size (fun k hk => by cases hk; exact hgw)
         go_roundw
         case rel => exact ⟨i, _, _, by omega, rfl, HS2, R1, hO6, R2⟩
         case measure => simp [intOf]; omega
    · obtain rfl : k = 0 := by omega
      go_wp2
      rw [Exit.noGoto_ret]
      go_ret2
      exact ⟨_, _, A, R, w1.heap.size, rfl, HFin.out A R hAl HD.out, HD.out.2.1, by omega, by rw [hAl]; exact hOq, by rw [hRl]; exact hOr, fun k hk => by cases hk; exact hgl, hs1, hB⟩
def divE (f : Int) (xs ys : List Int) : Int := if er f xs ys = 0 then (if tr ys = [] then 5 else 0) else er f xs ys
def DvE (f : Int) (xs ys A B : List Int) : Prop := (divE f xs ys ≠ 0 -> A = [] ∧ B = []) ∧ (divE f xs ys = 0 -> Dv (pOf f) xs ys A B)
theorem dv_of_tr {p : Int} {xs ys A B : List Int} (h : Dv p xs (tr ys) A B) : Dv p xs ys A B := by
 obtain ⟨h1, h2, h3, h4, h5, h6⟩ := h
 rw [tr_tr] at h5
 refine ⟨h1, h2, h3, h4, h5, fun i => ?_⟩
 have e : cv (co A) (co ys) i = cv (co A) (co (tr ys)) i := cv_congr i (fun j _ => rfl) (fun j _ => (co_tr ys j).symm)
 show (cv (co A) (co ys) i + co B i) % p = _
 rw [e]; exact h6 i
def Parts (k : FuncId) (args : Array Value) (W : World) (S : List Int -> List Int -> Prop) (e0 : Int) : Prop :=
 Calls Tryz.prog k args W fun e w' => ∃ vq vr A B b, e = .returned (.tuple #[vq, vr, .int .i64 e0]) ∧ S A B ∧ w'.ownsRow b 64 1 vq A.length (vals A) ∧ w'.ownsRow W.heap.size 64 1 vr B.length (vals B) ∧
  (∀ k, vr.ownBlock = some k -> k < b) ∧ W.heap.size <= b ∧ Below W.heap.size W w'
theorem Parts.none {k : FuncId} {args : Array Value} {W : World} {S : List Int -> List Int -> Prop} {e0 : Int} (hS : S [] []) (h : Calls Tryz.prog k args W fun e w' => e = .returned (.tuple #[.slice none 0 0, .slice none 0 0, .int .i64 e0]) ∧ Below W.heap.size W w') : Parts k args W S e0 :=
 h.mono fun e w' ⟨he, hb⟩ => ⟨_, _, [], [], W.heap.size, he, hS, World.ownsRow_nil _ _ _ _, World.ownsRow_nil _ _ _ _, (fun k hk => by cases hk), Nat.le_refl _, hb⟩
theorem pDivMod_any (f : Int) (v1 v2 : Value) (xs ys : List Int) (w : World) (h1 : Rw w v1 xs) (h2 : Rw w v2 ys) : Parts 115 #[.int .u8 f, v1, v2] w (DvE f xs ys) (divE f xs ys) := by
 obtain ⟨a1, c1, rfl, _⟩ := h1.spell
 obtain ⟨a2, c2, rfl, _⟩ := h2.spell
 have hk := hide (fun T => pcheck_two f _ _ xs ys w h1 h2 T)
 by_cases he : er f xs ys = 0
 · obtain ⟨p, wd, h, i1, i2, m1, m2⟩ := er_zero he
   rw [he] at hk
   have ht := hide (fun W (hb : Below w.heap.size w W) => trimmed_any _ _ ys W (h2.below hb))
   have n2 := tr_len ys
   by_cases ez : tr ys = []
   · have hE : divE f xs ys = 5 := by unfold divE; rw [if_pos he, if_pos ez]
     refine Parts.none ⟨fun _ => ⟨rfl, rfl⟩, fun h0 => by rw [hE] at h0; cases h0⟩ ?_
     rw [hE]
     rw [ez] at ht
     clear h1 h2 h hE
     go_enter Tryz.func115, Tryz.ntmps115
     go_wp2_with (first
      | (go_at_call 101; refine (hk.out _).mono ?_; rintro e w1 ⟨rfl, hb⟩)
      | (go_at_call 146; refine (ht.out _ hb).mono ?_; rintro e w2 ⟨rfl, hb2⟩))
     go_ret3
     exact ⟨rfl, Below.next hb hb2⟩
   · have hE : divE f xs ys = 0 := by unfold divE; rw [if_pos he, if_neg ez]
     have hpos := List.length_pos_iff.2 ez
     obtain ⟨m, hm⟩ : ∃ m, (tr ys).length = m + 1 := ⟨(tr ys).length - 1, by omega⟩
     have r2 := hide (fun W (hb : Below w.heap.size w W) => (h2.below hb).take (tr_len ys))
     rw [take_tr_len] at r2
     have hd := hide (fun W (hb : Below w.heap.size w W) => divide_any f p wd _ _ xs (tr ys) m W h (h1.below hb) (r2.out W hb) (els_of i1 h1.words) ((els_of i2 h2.words).tr h.pos) (tr_tr ys) hm m1 (by omega))
     have HR := hide (fun W v R n base (hR : Els p R) (hl : R.length <= 4096) (hO : World.ownsRow W base 64 1 v n (vals R)) => rw_of_own hO (by omega) (els_words hR h.top))
     have HT := hide (fun W ao cap R hr => trimmed_any ao cap R W hr)
     have HS : Hid (∀ A B, Dv p xs (tr ys) A B -> DvE f xs ys A B) := fun A B hv => ⟨fun h0 => absurd hE h0, fun _ => by rw [pOf_eq h]; exact dv_of_tr hv⟩
     rw [hE]
     have bz : (((tr ys).length : Int) == 0) = false := beq_eq_false_iff_ne.2 (by omega)
     clear h1 h2 h r2 hE ez hpos hm
     obtain ⟨k2, HK2⟩ : ∃ k2, Hid ((tr ys).length = k2) := ⟨_, rfl⟩
     rw [HK2.out] at ht hd bz n2
     show Calls _ _ _ _ _
     go_enter Tryz.func115, Tryz.ntmps115
     go_wp2_with fail
     refine (hk.out _).mono ?_; rintro e w1 ⟨rfl, hb⟩
     go_wp2_with fail
     refine (ht.out _ hb).mono ?_; rintro e w2 ⟨rfl, hb2⟩
     have hb3 := Below.next hb hb2
     go_wp2_with fail
     refine (hd.out _ hb3).mono ?_; rintro e w3 ⟨vq, vr, A, R, b, rfl, hv, hR, hRl, hOq, hOr, hbb, hwb, hb4⟩
     have hr := HR.out _ _ _ _ _ hR hRl hOr
     obtain ⟨ao, cap, rfl, _⟩ := hr.spell
     have HO := hide hOr
     have HOq := hide hOq
     clear hOr hOq
     go_wp2_with fail
     refine (HT.out _ _ _ _ hr).mono ?_; rintro e w4 ⟨rfl, hb5⟩
     go_wp2
     go_ret3
     refine ⟨_, _, A, tr R, b, rfl, HS.out _ _ hv, own_below HOq.out hb5, own_mono (own_tr (own_below HO.out hb5)) hb3.size, (fun k hk => hbb k (by cases ao <;> exact hk)), Nat.le_trans hb3.size hwb, Below.next (Below.next hb3 hb4) hb5⟩
 · have ht : (er f xs ys != 0) = true := bne_iff_ne.2 he
   have hE : divE f xs ys = er f xs ys := by unfold divE; rw [if_neg he]
   refine Parts.none ⟨fun _ => ⟨rfl, rfl⟩, fun h0 => by rw [hE] at h0; exact absurd h0 he⟩ ?_
   rw [hE]
   clear h1 h2 he hE
   generalize er f xs ys = e0 at *
   go_enter Tryz.func115, Tryz.ntmps115
   go_wp2_with (go_at_call 101; refine (hk.out _).mono ?_; rintro e w1 ⟨rfl, hb⟩)
   go_ret3
   exact ⟨rfl, hb⟩
namespace Fld
def le (p c : Int) (d : Nat) (qs R : List Int) (j : Nat) : List Int := mk R.length (fun i => if d <= i ∧ i < d + j then sub p (co R i) (mul p c (co qs (i - d))) else co R i)
theorem le_len (p c : Int) (d : Nat) (qs R : List Int) (j : Nat) : (le p c d qs R j).length = R.length := mk_len _ _
theorem co_le (p c : Int) (d : Nat) (qs R : List Int) (j i : Nat) : co (le p c d qs R j) i = if d <= i ∧ i < d + j ∧ i < R.length then sub p (co R i) (mul p c (co qs (i - d))) else co R i := by
 unfold le
 rw [co_mk]
 by_cases h : i < R.length
 · rw [if_pos h]
   by_cases h2 : d <= i ∧ i < d + j
   · rw [if_pos h2, if_pos ⟨h2.1, h2.2, h⟩]
   · rw [if_neg h2, if_neg (fun h3 => h2 ⟨h3.1, h3.2.1⟩)]
 · rw [if_neg h, if_neg (fun h3 => h h3.2.2), co_out _ _ (by omega)]
theorem le_zero (p c : Int) (d : Nat) (qs R : List Int) : le p c d qs R 0 = R := ext_co (le_len _ _ _ _ _ _) (fun i hi => by rw [co_le, if_neg (by omega)])
theorem els_le {p c : Int} (hp : 0 < p) {d : Nat} {qs R : List Int} (hR : Els p R) (j : Nat) : Els p (le p c d qs R j) := Els.of_co (fun i hi => by
 rw [co_le]; split
 · exact sub_el hp
 · exact hR.co hp i)
theorem le_at (p c : Int) (d : Nat) (qs R : List Int) (j : Nat) : co (le p c d qs R j) (d + j) = co R (d + j) := by rw [co_le, if_neg (by omega)]
theorem le_step {p c z : Int} {d j : Nat} {qs R : List Int} (h : d + j < R.length) (hz : z = sub p (co R (d + j)) (mul p c (co qs j))) : (le p c d qs R j).set (d + j) z = le p c d qs R (j + 1) := by
 apply ext_co (by rw [List.length_set, le_len, le_len])
 intro i hi
 rw [co_set _ _ _ _ (by rw [le_len]; exact h), co_le, co_le]
 by_cases he : i = d + j
 · subst he
   have e : d + j - d = j := by omega
   rw [if_pos rfl, if_pos (by omega), e, hz]
 · rw [if_neg he]
   by_cases h2 : d <= i ∧ i < d + j ∧ i < R.length
   · rw [if_pos h2, if_pos (by omega)]
   · rw [if_neg h2, if_neg (by omega)]
def DJ (p : Int) (xs qs A R : List Int) (m : Nat) : Prop := Els p A ∧ Els p R ∧ tr R = R ∧ (∀ i, i + m < R.length -> co A i = 0) ∧ Al p (fun i => cv (co A) (co qs) i + co R i) (co xs)
theorem DJ.start {p : Int} {xs qs : List Int} {n m : Nat} (hp : 0 < p) (hx : Els p xs) : DJ p xs qs (List.replicate n 0) (tr xs) m :=
 ⟨els_rep hp n, hx.tr hp, tr_tr xs, fun i _ => co_rep n i, fun i => by
  show (cv (co (List.replicate n 0)) (co qs) i + co (tr xs) i) % p = co xs i % p
  rw [cv_zero_left _ i _ (fun j _ => co_rep n j), Int.zero_add, co_tr]⟩
theorem sub_mul_mod (p r c q : Int) : sub p r (mul p c q) = (r - c * q) % p := by
 unfold sub mul
 rw [Int.sub_emod, Int.emod_emod_of_dvd _ (Int.dvd_refl p), <- Int.sub_emod]
theorem DJ.step {p c iv : Int} {xs qs A R : List Int} {m d : Nat} (hp : 0 < p) (hq : qs.length = m + 1) (hi : (co qs m * iv) % p = 1 % p) (hc : c = (co R (d + m) * iv) % p) (hA : d < A.length) (hR : R.length = d + m + 1)
 (h : DJ p xs qs A R m) : DJ p xs qs (A.set d c) (tr (le p c d qs R qs.length)) m ∧ (tr (le p c d qs R qs.length)).length < R.length := by
 obtain ⟨h1, h2, h3, h4, h5⟩ := h
 have htop : co (le p c d qs R qs.length) (d + m) = 0 := by
  have e : d + m - d = m := by omega
  rw [co_le, if_pos (by omega), e, sub_mul_mod, hc]
  exact top_gone hi
 have hlen : (tr (le p c d qs R qs.length)).length < R.length := by
  by_cases hn : tr (le p c d qs R qs.length) = []
  · rw [hn, hR]; simp
  · have h6 := tr_last _ hn
    have h7 := List.length_pos_iff.2 hn
    have h8 := tr_len (le p c d qs R qs.length)
    rw [le_len] at h8
    apply Nat.lt_of_not_le
    intro hcn
    have e : (tr (le p c d qs R qs.length)).length - 1 = d + m := by omega
    rw [e] at h6
    exact h6 htop
 refine ⟨⟨Els.of_co fun i _ => ?_, (els_le hp h2 _).tr hp, tr_tr _, fun i hi' => ?_, ?_⟩, hlen⟩
 · rw [co_set _ _ _ _ hA]; split
   · rw [hc]; exact emod_el hp _
   · exact h1.co hp i
 · rw [co_set _ _ _ _ hA, if_neg (by omega)]; exact h4 i (by omega)
 · refine div_step (A' := co (A.set d c)) (R' := co (tr (le p c d qs R qs.length))) h5 (d := d) (c := c) (fun i => ?_) (fun i => ?_)
   · rw [co_set _ _ _ _ hA]
     unfold pt
     by_cases he : i = d
     · rw [if_pos he, if_pos he, he, h4 d (by omega), Int.zero_add]
     · rw [if_neg he, if_neg he, Int.add_zero]
   · rw [co_tr, co_le]
     by_cases hk : d <= i
     · rw [if_pos hk]
       by_cases hr : i < d + qs.length
       · rw [if_pos (by omega), sub_mul_mod, Int.emod_emod_of_dvd _ (Int.dvd_refl p)]
       · rw [if_neg (by omega), co_out qs (i - d) (by omega), Int.mul_zero, Int.sub_zero]
     · rw [if_neg (by omega), if_neg hk, Int.sub_zero]
theorem DJ.fin {p : Int} {xs qs A R : List Int} {m : Nat} (hp : 0 < p) (tq : tr qs = qs) (hq : qs.length = m + 1) (hR : R.length < m + 1) (h : DJ p xs qs A R m) : Dv p xs qs (tr A) R := by
 obtain ⟨h1, h2, h3, h4, h5⟩ := h
 refine ⟨h1.tr hp, h2, tr_tr A, h3, by rw [tq, hq]; exact hR, fun i => ?_⟩
 have e : cv (co (tr A)) (co qs) i = cv (co A) (co qs) i := cv_congr i (fun j _ => co_tr A j) (fun j _ => rfl)
 show (cv (co (tr A)) (co qs) i + co R i) % p = _
 rw [e]; exact h5 i
end Fld
theorem own_other {wr : World} {base g k n : Nat} {v u : Value} {xs : List Value} {T : TypeId} (h : wr.ownsRow base T 1 v n xs) (hne : v.ownBlock ≠ some g) : (wr.setCell ⟨g, k, none⟩ u).ownsRow base T 1 v n xs := by
 refine ⟨h.1, ?_⟩
 rcases h.2 with h1 | ⟨g', cap, cur, rfl, h2, h3, h4⟩
 · exact .inl h1
 · refine .inr ⟨g', cap, cur, rfl, h2, ?_, h4⟩
   rw [Below.heap_setCell wr _ _ _ (fun e => hne (by show some g' = some g; rw [e]))]; exact h3
theorem own_drewN {wr : World} {base n : Nat} {v : Value} {xs : List Value} {T : TypeId} (h : wr.ownsRow base T 1 v n xs) (nq : Nat) : (wr.drewN nq).ownsRow base T 1 v n xs := own_below h (below_drewN (Below.refl _ wr) nq)
theorem own_here {wr : World} {base g k n cap : Nat} {ys : List Int} {z : Int} {T : TypeId} (h : wr.ownsRow base T 1 (.slice (some ⟨g, 0, none⟩) n cap) n (vals ys)) : (wr.setCell ⟨g, k, none⟩ (.int .u64 z)).ownsRow base T 1 (.slice (some ⟨g, 0, none⟩) n cap) n (vals (ys.set k z)) :=
 (spoil_step h (grown_refl wr (some g)) (.inl rfl)).1
def PartsD (k : FuncId) (args : Array Value) (W : World) (S : List Int -> List Int -> Prop) (e0 : Int) : Prop :=
 Calls Tryz.prog k args W fun e w' => ∃ vq vr A B, e = .returned (.tuple #[vq, vr, .int .i64 e0]) ∧ S A B ∧ w'.ownsRow W.heap.size 64 1 vq A.length (vals A) ∧ w'.ownsRow W.heap.size 64 1 vr B.length (vals B) ∧ Below W.heap.size W w'
theorem PartsD.none {k : FuncId} {args : Array Value} {W : World} {S : List Int -> List Int -> Prop} {e0 : Int} (hS : S [] []) (h : Calls Tryz.prog k args W fun e w' => e = .returned (.tuple #[.slice none 0 0, .slice none 0 0, .int .i64 e0]) ∧ Below W.heap.size W w') : PartsD k args W S e0 :=
 h.mono fun e w' ⟨he, hb⟩ => ⟨_, _, [], [], he, hS, World.ownsRow_nil _ _ _ _, World.ownsRow_nil _ _ _ _, hb⟩
theorem dDivMod_any (f : Int) (v1 v2 : Value) (xs ys : List Int) (w : World) (h1 : Rw w v1 xs) (h2 : Rw w v2 ys) : PartsD 99 #[.int .u8 f, v1, v2] w (DvE f xs ys) (divE f xs ys) := by
 have hk := hide (rBad_any f _ _ xs ys w h1 h2)
 by_cases he : er f xs ys = 0
 · obtain ⟨p, wd, h, i1, i2, m1, m2⟩ := er_zero he
   obtain ⟨i0, hi0, hz0, hz1, hz2⟩ := info_parts u64_info
   rw [he] at hk
   have t1 := hide (rTrim_any v1 xs w h1)
   have t2 := hide (fun W (hb : Below w.heap.size w W) => rTrim_any v2 ys W (h2.below hb))
   have n1 := tr_len xs
   have n2 := tr_len ys
   have hx := els_of i1 h1.words
   have X2 := (els_of i2 h2.words).tr h.pos
   have R2 := hide (fun W u n base (hO : World.ownsRow W base 64 1 u n (vals (tr ys))) => rw_of_own hO (by omega) (els_words X2 h.top))
   have hp0 := h.pos
   have hp1 := h.top
   by_cases ez : tr ys = []
   · have hE : divE f xs ys = 5 := by unfold divE; rw [if_pos he, if_pos ez]
     refine PartsD.none ⟨fun _ => ⟨rfl, rfl⟩, fun h0 => by rw [hE] at h0; cases h0⟩ ?_
     rw [hE]
     rw [ez] at t2 R2
     clear h1 h2 h hE hx X2
     go_enter Tryz.func99, Tryz.ntmps99
     go_wp2_with fail
     refine hk.out.mono ?_; rintro e w1 ⟨rfl, hw⟩; rw [hw]; clear hw
     go_wp2_with fail
     refine t1.out.mono ?_; rintro e w1 ⟨u1, rfl, hO1, hb1⟩
     go_wp2_with fail
     refine (t2.out _ hb1).mono ?_; rintro e w2 ⟨u2, rfl, hO2, hb2⟩
     obtain ⟨a2, c2, rfl, _⟩ := (R2.out _ _ _ _ hO2).spell
     clear hO1 hO2
     go_wp2
     go_ret3
     exact ⟨rfl, Below.next hb1 hb2⟩
   have hE : divE f xs ys = 0 := by unfold divE; rw [if_pos he, if_neg ez]
   have HS : Hid (∀ A B, Dv p xs (tr ys) A B -> DvE f xs ys A B) := fun A B hv => ⟨fun h0 => absurd hE h0, fun _ => by rw [pOf_eq h]; exact dv_of_tr hv⟩
   rw [hE]
   obtain ⟨m, hm⟩ : ∃ m, (tr ys).length = m + 1 := ⟨(tr ys).length - 1, by have := List.length_pos_iff.2 ez; omega⟩
   have TQ := tr_tr ys
   have hqe := X2.co hp0 m
   have hqn : co (tr ys) m ≠ 0 := by have := last_ne TQ ez; rw [hm, Nat.add_sub_cancel] at this; exact this
   have hI1 := inv_one h.md hqe hqn
   have hp2 : 2 <= p := by have := h.md.bounds; omega
   have HTu := hide (fun W => rTurned_any p (co (tr ys) m) W hp1 hp2 hqe)
   have hP := hide (fun W => rP_yes f p wd W h)
   have HTi := hide (fun W a b (ha : El p a) (hb : El p b) => rTimes_any p a b W hp1 ha hb.1 (elWord hb hp1).2)
   have HLe := hide (fun W a b (ha : El p a) (hb : El p b) => rLess_any p a b W hp1 ha hb)
   have hie := inv_el (p := p) (a := co (tr ys) m) hp0
   have HStart := hide (DJ.start (qs := tr ys) (n := (tr xs).length + 1) (m := m) hp0 hx)
   have HStep := hide (fun A R d c (hc : c = (co R (d + m) * inv p (co (tr ys) m)) % p) (hA : d < A.length) (hR : R.length = d + m + 1) (hd : DJ p xs (tr ys) A R m) => hd.step hp0 hm hI1 hc hA hR)
   have HFin := hide (fun A R (hR : R.length < m + 1) (hd : DJ p xs (tr ys) A R m) => HS.out _ _ (hd.fin hp0 TQ hm hR))
   rw [hm] at HStep
   have HQ := hide (fun i => X2.co hp0 i)
   have HRT := hide (fun W v R n base (hR : Els p R) (hl : R.length <= 4096) (hO : World.ownsRow W base 64 1 v n (vals R)) => rTrim_any v R W (rw_of_own hO (by omega) (els_words hR hp1)))
   have HRT2 := hide (fun W v R n base (hR : Els p R) (hl : R.length <= 4097) (hO : World.ownsRow W base 64 1 v n (vals R)) => rTrim_any v R W (rw_of_own hO (by omega) (els_words hR hp1)))
   have hm4 : m + 1 <= 4096 := by omega
   have hnx : (tr xs).length <= 4096 := by omega
   clear h1 h2 h hE hx X2 TQ he hI1 HS hqn
   obtain ⟨qs, HQS⟩ : ∃ qs, Hid (tr ys = qs) := ⟨_, rfl⟩
   rw [HQS.out] at t2 R2 hm hqe HTu hie HStart HStep HFin HQ
   obtain ⟨nr, HNR⟩ : ∃ nr, Hid ((tr xs).length = nr) := ⟨_, rfl⟩
   rw [HNR.out] at HStart hnx t1
   generalize inv p (co qs m) = iv at *
   have HT1 := hide t1
   show Calls _ _ _ _ _
   go_enter Tryz.func99, Tryz.ntmps99
   go_wp2_with fail
   refine hk.out.mono ?_; rintro e w1 ⟨rfl, hw⟩; rw [hw]; clear hw
   go_wp2_with fail
   refine t1.out.mono ?_; rintro e w1 ⟨u1, rfl, hO1, hb1⟩
   go_wp2_with fail
   refine (t2.out _ hb1).mono ?_; rintro e w2 ⟨u2, rfl, hO2, hb⟩
   have hb2 := Below.next hb1 hb
   have hw1' := hb1.size
   have h1b : Hid (∀ k, u1.ownBlock = some k -> k < w1.heap.size) := fun k hk => (hO1.lt k hk).2
   have hO1 := own_below hO1 hb
   rw [hm] at hO2
   obtain ⟨b2, c2, rfl, hb2a, hb2b⟩ : ∃ b2 c2, u2 = .slice (some ⟨b2, 0, none⟩) (m + 1) c2 ∧ w1.heap.size <= b2 ∧ b2 < w2.heap.size := by
    rcases hO2.2 with ⟨_, h0⟩ | ⟨b2, c2, cur, he', hbs, hh, _⟩
    · omega
    · exact ⟨b2, c2, he', hbs, by apply Nat.lt_of_not_le; intro hc; rw [Array.getElem?_eq_none hc] at hh; cases hh⟩
   have dq := own_cell (k := m) hO2 hm (by omega)
   have hco : qs.getD m 0 = co qs m := rfl
   rw [hco] at dq
   clear hco hb
   obtain ⟨a1, c1, rfl⟩ : ∃ a1 c1, u1 = .slice a1 nr c1 := by
    rcases hO1.2 with ⟨rfl, h0⟩ | ⟨b1, c1, cur, he', _⟩
    · exact ⟨none, 0, by rw [h0]⟩
    · exact ⟨_, c1, he'⟩
   generalize co qs m = q0 at *
   have mw : IntKind.i64.wrap (m : Int) = (m : Int) := by rw [IntKind.wrap_i64]; omega
   have m0 : (0 : Int) <= (m : Int) := Int.natCast_nonneg _
   have m1' : (m : Int) < (m : Int) + 1 := by omega
   have bz : (((m + 1 : Nat) : Int) == 0) = false := beq_eq_false_iff_ne.2 (by omega)
   have HO1 := hide hO1
   have HO2 := hide hO2
   clear hO1 hO2
   go_wp2_with fail
   go_quiet ((first
    | (go_at_call 70; exact Calls.quiet_of_same (hP.out _))
    | (go_at_call 126; exact Calls.quiet_of_same (HTu.out _))))
   have hb3 := below_drewN hb2 nq
   have HO1 := hide (own_drewN HO1.out nq)
   have HO2 := hide (own_drewN HO2.out nq)
   have hsz : w2.heap.size <= (w2.drewN nq).heap.size := (below_drewN (Below.refl w2.heap.size w2) nq).size
   clear dq mw m1' hb1 hk t1 t2 R2 HTu HT1
   generalize w2.drewN nq = w3 at *
   have hs3 := hb3.size
   go_wp2_with (at_make; refine wpList_make_full _ rfl _ _ 36 rfl w.heap.size 64 i0 (.int .u64 0) 1 Tryz.underlying36 hi0 hz0 hz1 .i64 .i64 _ _ (nr + 1) rfl rfl (by omega) (by omega) (by rw [hz2]; omega) (by unfold maxLen; omega) hs3 ?_; intro w4 hown hgrow; have HOq := hide (own_made hown); have hg4 := below_grown_none hgrow; have hsz4 := hgrow.size; have hblk := hown.lt w3.heap.size rfl; clear hown)
   have hb4 := Below.next hb3 hg4
   have HO1 := hide (own_below HO1.out hg4)
   have HO2 := hide (own_below HO2.out hg4)
   have hw1 : w.heap.size <= w1.heap.size := hw1'
   clear hgrow hg4
   go_loopw [10] (fun vr wr => ∃ (A R : List Int) (ar : Option Addr) (cr : Nat), vr = .slice ar R.length cr ∧ R.length <= nr ∧ Hid (DJ p xs qs A R m) ∧ Hid (∀ k, (Value.slice ar R.length cr).ownBlock = some k -> w.heap.size <= k ∧ (k < w1.heap.size ∨ w3.heap.size < k)) ∧
    Hid (wr.ownsRow w.heap.size 64 1 (.slice ar R.length cr) R.length (vals R)) ∧ Hid (wr.ownsRow w.heap.size 64 1 (.slice (some ⟨w3.heap.size, 0, none⟩) (nr + 1) (nr + 1)) (nr + 1) (vals A)) ∧ Hid (wr.ownsRow w1.heap.size 64 1 (.slice (some ⟨b2, 0, none⟩) (m + 1) c2) (m + 1) (vals qs)) ∧ Below w.heap.size w wr ∧ w3.heap.size < wr.heap.size) (fun vr _ => match vr with | .slice _ n _ => n | _ => 0)
   case atStart => exact ⟨_, tr xs, a1, c1, by rw [HNR.out], by rw [HNR.out]; exact Nat.le_refl _, HStart, (fun k hk => by
    have e1 := h1b.out k (by cases a1 <;> exact hk)
    refine ⟨?_, .inl e1⟩
    have := HO1.out.lt k (by cases a1 <;> exact hk)
    exact this.1), by rw [HNR.out]; exact HO1, HOq, HO2, hb4, hblk.2⟩
   case round =>
    clear HO1 HOq HO2 hb4 HStart
    obtain ⟨A, R, ar, cr, rfl, hRn, HD, HK, HOr, HOq, HO2, hB, hgs⟩ := hrel
    have hAl := own_len HOq.out
    by_cases hge : m + 1 <= R.length
    · obtain ⟨d, hR⟩ : ∃ d, R.length = d + m + 1 := ⟨R.length - (m + 1), by omega⟩
      obtain ⟨g, rfl⟩ : ∃ g, ar = some ⟨g, 0, none⟩ := by
       rcases HOr.out.2 with ⟨_, h0⟩ | ⟨g, cap, cur, he', _⟩
       · omega
       · cases he'; exact ⟨g, rfl⟩
      obtain ⟨hgw, hg1⟩ := HK.out g rfl
      have g1 : g ≠ w3.heap.size := by omega
      have g2 : g ≠ b2 := by omega
      have g3 : w3.heap.size ≠ b2 := by omega
      rw [hR] at HOr ⊢
      have dr := own_cell (k := d + m) HOr.out hR (by omega)
      have dq := own_cell (k := d) HOq.out hAl (by omega)
      have df := HOq.out.frozenAt d
      have hco : R.getD (d + m) 0 = co R (d + m) := rfl
      rw [hco] at dr
      have hre := HD.out.2.1.co hp0 (d + m)
      obtain ⟨c, HC⟩ : ∃ c, Hid (c = (co R (d + m) * iv) % p) := ⟨_, rfl⟩
      have ecm : mul p (co R (d + m)) iv = c := by rw [HC.out]; rfl
      have hce : El p c := by rw [HC.out]; exact emod_el hp0 _
      have hti := hide (fun W => HTi.out W _ _ hre hie)
      rw [ecm] at hti
      have HST := hide (HStep.out A R d c HC.out (by omega) hR HD.out)
      have HRE := hide HD.out.2.1
      clear hco ecm hre HC HD HK hg1 HStep
      generalize hyy : A.getD d 0 = y at *
      generalize co R (d + m) = r at *
      clear hyy
      have d0 : (0 : Int) <= (d : Int) + (m : Int) := by omega
      have d1 : (d : Int) + (m : Int) < (d : Int) + (m : Int) + 1 := by omega
      have dw : IntKind.i64.wrap ((d : Int) + (m : Int)) = (d : Int) + (m : Int) := by rw [IntKind.wrap_i64]; omega
      have hd1 : (d : Int) + (m : Int) + 1 - ((m : Int) + 1) = (d : Int) := by omega
      go_wp2_with fail
      go_quiet ((first
       | (go_at_call 70; exact Calls.quiet_of_same (hP.out _))
       | (go_at_call 71; exact Calls.quiet_of_same (hti.out _))))
      go_wp2
      have IOr := hide (own_other (g := w3.heap.size) (k := d) (u := .int .u64 c) (own_drewN HOr.out nq) (by intro e; cases e; exact g1 rfl))
      have IOq := hide (own_here (k := d) (z := c) (own_drewN HOq.out nq))
      have IO2 := hide (own_other (g := w3.heap.size) (k := d) (u := .int .u64 c) (own_drewN HO2.out nq) (by intro e; cases e; exact g3 rfl))
      have IB := (below_drewN hB nq).setCell (p := ⟨w3.heap.size, d, none⟩) hs3 (.int .u64 c)
      clear dr dq df HOr HOq HO2 dw d0 d1 hti hd1
      go_loopw [15] (fun vj wx => ∃ j : Nat, j <= m + 1 ∧ vj = .int .i64 j ∧ Hid (wx.ownsRow w.heap.size 64 1 (.slice (some ⟨g, 0, none⟩) (d + m + 1) cr) (d + m + 1) (vals (le p c d qs R j))) ∧ Hid (wx.ownsRow w.heap.size 64 1 (.slice (some ⟨w3.heap.size, 0, none⟩) (nr + 1) (nr + 1)) (nr + 1) (vals (A.set d c))) ∧
       Hid (wx.ownsRow w1.heap.size 64 1 (.slice (some ⟨b2, 0, none⟩) (m + 1) c2) (m + 1) (vals qs)) ∧ Below w.heap.size w wx ∧ w3.heap.size < wx.heap.size) (fun vj _ => m + 1 - (intOf vj).toNat)
      case atStart => exact ⟨0, Nat.zero_le _, rfl, by rw [le_zero]; exact IOr, IOq, IO2, IB, by simpa using hgs⟩
      case round =>
       clear IOr IOq IO2 IB hgs hB
       obtain ⟨j, hj, rfl, HOr, HOq, HO2, hB, hgs⟩ := hrel
       by_cases hlj : j < m + 1
       · have hdj : d + j < d + m + 1 := by omega
         have x1 := own_cell (k := d + j) HOr.out (by rw [le_len]; exact hR) hdj
         have x2 := HOr.out.frozenAt (d + j)
         have x3 := own_cell (k := j) HO2.out hm hlj
         have e1 : (le p c d qs R j).getD (d + j) 0 = co R (d + j) := le_at p c d qs R j
         have e2 : qs.getD j 0 = co qs j := rfl
         rw [e1] at x1
         rw [e2] at x3
         have hst := hide (le_step (p := p) (c := c) (z := sub p (co R (d + j)) (mul p c (co qs j))) (d := d) (j := j) (qs := qs) (R := R) (by omega) rfl)
         have ht := hide (fun W => HTi.out W c (co qs j) hce (HQ.out j))
         have hs := hide (fun W => HLe.out W (co R (d + j)) (mul p c (co qs j)) (HRE.out.co hp0 (d + j)) (mul_el hp0))
         clear e1 e2
         generalize co R (d + j) = r1 at *
         generalize co qs j = y1 at *
         generalize mul p c y1 = z1 at *
         generalize sub p r1 z1 = z2 at *
         have d0 : (0 : Int) <= (d : Int) + (j : Int) := by omega
         have d1 : (d : Int) + (j : Int) < (d : Int) + (m : Int) + 1 := by omega
         have j0 : (0 : Int) <= (j : Int) := Int.natCast_nonneg _
         have j1 : (j : Int) < (m : Int) + 1 := by omega
         have dw : IntKind.i64.wrap ((d : Int) + (j : Int)) = (d : Int) + (j : Int) := by rw [IntKind.wrap_i64]; omega
         go_wp2_with fail
         refine wp_region_last (by kernel_rfl) (by kernel_rfl) (by kernel_rfl) ?_
         simp only [List.dropLast]
         repeat (go_big_quiet_step (first
          | (go_at_call 70; exact Calls.quiet_of_same (hP.out _))
          | (go_at_call 71; exact Calls.quiet_of_same (ht.out _))
          | (go_at_call 97; exact Calls.quiet_of_same (hs.out _))))
         refine wpQuiet_nil ?_
         intro _ hw'
         obtain ⟨nq2, hw''⟩ := hw'
         subst hw''
         simp only [lastL]
         go_wp2
         have IOr := hide (own_here (k := d + j) (z := z2) (own_drewN HOr.out nq2))
         rw [hst.out] at IOr
         have IOq := hide (own_other (g := g) (k := d + j) (u := .int .u64 z2) (own_drewN HOq.out nq2) (by intro e; cases e; exact g1 rfl))
         have IO2 := hide (own_other (g := g) (k := d + j) (u := .int .u64 z2) (own_drewN HO2.out nq2) (by intro e; cases e; exact g2 rfl))
         have IB := (below_drewN hB nq2).setCell (p := ⟨g, d + j, none⟩) hgw (.int .u64 z2)
         go_roundw
         case rel => exact ⟨j + 1, by omega, by go_num, IOr, IOq, IO2, IB, by simpa using hgs⟩
         case measure => simp [intOf]; omega
       · obtain rfl : j = m + 1 := by omega
         have hu := hide (HRT.out _ _ _ _ _ (els_le (c := c) (d := d) (qs := qs) hp0 HRE.out (m + 1)) (by rw [le_len]; omega) HOr.out)
         go_wp2_with (go_at_call 127; refine hu.out.mono ?_; rintro e w6 ⟨u6, rfl, hO6, hb6⟩)
         obtain ⟨a6, c6, rfl⟩ : ∃ a6 c6, u6 = .slice a6 (tr (le p c d qs R (m + 1))).length c6 := by
          rcases hO6.2 with ⟨rfl, h0⟩ | ⟨b1, c1, cur, he', _⟩
          · exact ⟨none, 0, by rw [h0]⟩
          · exact ⟨_, c1, he'⟩
         have hlt := HST.out.2
         go_roundw
         case rel => exact ⟨_, _, a6, c6, rfl, by omega, HST.out.1, (fun k hk => by
          have := (hO6.lt k hk).1
          have := hB.size
          exact ⟨by omega, .inr (by omega)⟩), own_mono hO6 hB.size, own_below HOq.out hb6, own_below HO2.out hb6, Below.next hB hb6, Nat.lt_of_lt_of_le hgs hb6.size⟩
         case measure => show (tr (le p c d qs R (m + 1))).length < d + m + 1; omega
    · have hu := hide (HRT2.out _ _ A _ _ HD.out.1 (by omega) HOq.out)
      go_wp2_with (go_at_call 127; refine hu.out.mono ?_; rintro e w5 ⟨u5, rfl, hO5, hb5⟩)
      go_ret3
      exact ⟨_, _, tr A, R, rfl, HFin.out A R (by omega) HD.out, own_mono hO5 hB.size, own_below HOr.out hb5, Below.next hB hb5⟩
 · have ht : (er f xs ys != 0) = true := bne_iff_ne.2 he
   have hE : divE f xs ys = er f xs ys := by unfold divE; rw [if_neg he]
   refine PartsD.none ⟨fun _ => ⟨rfl, rfl⟩, fun h0 => by rw [hE] at h0; exact absurd h0 he⟩ ?_
   rw [hE]
   clear h1 h2 he hE
   generalize er f xs ys = e0 at *
   go_enter Tryz.func99, Tryz.ntmps99
   go_wp2_with (go_at_call 48; refine hk.out.mono ?_; rintro e w1 ⟨rfl, hw⟩; rw [hw]; clear hw)
   go_ret3
   exact ⟨rfl, Below.refl _ _⟩
end Go.Proofs.YtjhididlcdepdaaGreat
namespace Go.Proofs.YtjhididlcdepdaaGreat
open Go.RowKit Fld
namespace Fld
end Fld
theorem mul_facts {f p : Int} {wd : Bool} (h : Fi f p wd) {xs ys : List Int} (hx : Tm p xs) (hy : Tm p ys) (l1 : xs.length <= 4096) (l2 : ys.length <= 4096) (l : xs.length + ys.length <= 4097) :
 mulE f xs ys = 0 ∧ Tm p (mulL f xs ys) ∧ pl p (mulL f xs ys) = qm (pl p xs) (pl p ys) ∧ (mulL f xs ys).length <= 4096 := by
 have he := er_yes h (allIn_of hx.1) (allIn_of hy.1) l1 l2
 have h0 : mulE f xs ys = 0 := by unfold mulE; rw [if_pos he, hx.2, hy.2, if_neg (by omega)]
 have e : mulL f xs ys = prd p xs ys := by unfold mulL; rw [h0, if_pos rfl, pOf_eq h, hx.2, hy.2]
 have hi := (is_prd h.md hx.1 hy.1 hx.2 hy.2).tm
 exact ⟨h0, by rw [e]; exact hi.1, by rw [e]; exact hi.2, mulL_len f xs ys⟩
theorem sub_facts {f p : Int} {wd : Bool} (h : Fi f p wd) {xs ys : List Int} (hx : Els p xs) (hy : Els p ys) (l1 : xs.length <= 4096) (l2 : ys.length <= 4096) :
 er f xs ys = 0 ∧ Tm p (subL f xs ys) ∧ qa (pl p (subL f xs ys)) (pl p ys) = pl p xs := by
 have he := er_yes h (allIn_of hx) (allIn_of hy) l1 l2
 have e : subL f xs ys = tr (sm p (sub p 0 1) xs ys) := by unfold subL; rw [if_pos he, pOf_eq h]
 have hi := (is_sub h.pos xs ys).tm
 refine ⟨he, by rw [e]; exact hi.1, ?_⟩
 rw [e, hi.2]
 show qa (pu p _) (pu p (co ys)) = pu p (co xs)
 rw [qa_pu]; congr 1; funext i; exact Int.sub_add_cancel _ _
def chE (f : Int) (xs ys : List Int) : Int := if er f xs ys = 2 then 2 else if 2048 < xs.length ∨ 2048 < ys.length then 4 else 0
def stE (f : Int) (xs ys : List Int) (s : Int) : Int := if s < 0 then 2 else chE f xs ys
theorem er_four {f : Int} {xs ys : List Int} (h : er f xs ys = 4) : 4096 < xs.length ∨ 4096 < ys.length := by
 unfold er erb at h
 split at h
 · split at h
   · assumption
   · cases h
 · cases h
theorem er_cases (f : Int) (xs ys : List Int) : er f xs ys = 0 ∨ er f xs ys = 2 ∨ er f xs ys = 4 := erb_ne _ _ _ _
theorem chE_ne {f : Int} {xs ys : List Int} (h : er f xs ys ≠ 0) : chE f xs ys = er f xs ys := by
 unfold chE
 rcases er_cases f xs ys with e | e | e
 · exact absurd e h
 · rw [if_pos e, e]
 · rw [if_neg (by omega), e]
   have := er_four e
   rw [if_pos (by omega)]
theorem chE_zero {f : Int} {xs ys : List Int} (h : chE f xs ys = 0) : ∃ p wd, Fi f p wd ∧ allIn p xs = true ∧ allIn p ys = true ∧ xs.length <= 2048 ∧ ys.length <= 2048 := by
 by_cases he : er f xs ys = 0
 · obtain ⟨p, wd, hf, i1, i2, _, _⟩ := er_zero he
   refine ⟨p, wd, hf, i1, i2, ?_⟩
   unfold chE at h
   rw [if_neg (by omega)] at h
   split at h
   · cases h
   · omega
 · rw [chE_ne he] at h; exact absurd h he
theorem chE_yes {f p : Int} {wd : Bool} {xs ys : List Int} (h : Fi f p wd) (h1 : Els p xs) (h2 : Els p ys) (l1 : xs.length <= 2048) (l2 : ys.length <= 2048) : chE f xs ys = 0 := by
 unfold chE
 rw [er_yes h (allIn_of h1) (allIn_of h2) (by omega) (by omega), if_neg (by decide), if_neg (by omega)]
theorem stE_zero {f s : Int} {xs ys : List Int} (h : stE f xs ys s = 0) : 0 <= s ∧ chE f xs ys = 0 := by
 unfold stE at h
 split at h
 · cases h
 · exact ⟨by omega, h⟩
theorem eCheck_any (f : Int) (v1 v2 : Value) (xs ys : List Int) (w : World) (h1 : Rw w v1 xs) (h2 : Rw w v2 ys) :
 Calls Tryz.prog 178 #[.int .u8 f, v1, v2] w fun e w' => e = .returned (.int .i64 (chE f xs ys)) ∧ Below w.heap.size w w' := by
 obtain ⟨a1, c1, rfl, _⟩ := h1.spell
 obtain ⟨a2, c2, rfl, _⟩ := h2.spell
 have hk := hide (pAdd_any f _ _ xs ys w h1 h2)
 unfold Gives at hk
 have l1 := h1.len
 have l2 := h2.len
 clear h1 h2
 by_cases he : er f xs ys = 0
 · have HC : Hid (chE f xs ys = if 2048 < xs.length ∨ 2048 < ys.length then 4 else 0) := by show _ = _; unfold chE; rw [if_neg (by omega)]
   rw [he] at hk
   rw [HC.out]
   clear HC he
   generalize xs.length = n1 at *
   generalize ys.length = n2 at *
   generalize addL f xs ys = zs at *
   by_cases hn : 2048 < n1 ∨ 2048 < n2
   · rw [if_pos hn]
     have hmx : (2048 : Int) < max (n1 : Int) (n2 : Int) := by omega
     go_enter Tryz.func178, Tryz.ntmps178
     go_wp2_with (go_at_call 118; refine hk.out.mono ?_; rintro e w1 ⟨v', rfl, _, hb⟩)
     all_goals (go_ret; exact ⟨rfl, hb⟩)
   · rw [if_neg hn]
     have hmx : ¬ (2048 : Int) < max (n1 : Int) (n2 : Int) := by omega
     go_enter Tryz.func178, Tryz.ntmps178
     go_wp2_with (go_at_call 118; refine hk.out.mono ?_; rintro e w1 ⟨v', rfl, _, hb⟩)
     all_goals (go_ret; exact ⟨rfl, hb⟩)
 · have ht : (er f xs ys != 0) = true := bne_iff_ne.2 he
   rw [chE_ne he]
   clear he
   generalize er f xs ys = e0 at *
   generalize addL f xs ys = zs at *
   go_enter Tryz.func178, Tryz.ntmps178
   go_wp2_with (go_at_call 118; refine hk.out.mono ?_; rintro e w1 ⟨v', rfl, _, hb⟩)
   go_ret
   exact ⟨rfl, hb⟩
theorem eStop_any (f : Int) (v1 v2 : Value) (xs ys : List Int) (s : Int) (w : World) (h1 : Rw w v1 xs) (h2 : Rw w v2 ys) :
 Calls Tryz.prog 149 #[.int .u8 f, v1, v2, .int .i64 s] w fun e w' => e = .returned (.int .i64 (stE f xs ys s)) ∧ Below w.heap.size w w' := by
 have hk := hide (eCheck_any f v1 v2 xs ys w h1 h2)
 unfold stE
 clear h1 h2
 generalize chE f xs ys = e0 at *
 by_cases hs : s < 0
 · rw [if_pos hs]
   go_enter Tryz.func149, Tryz.ntmps149
   go_wp2
   go_ret
   exact ⟨rfl, Below.refl _ _⟩
 · rw [if_neg hs]
   go_enter Tryz.func149, Tryz.ntmps149
   go_wp2_with (go_at_call 178; refine hk.out.mono ?_; rintro e w1 ⟨rfl, hb⟩)
   go_ret
   exact ⟨rfl, hb⟩
theorem less_any (f p : Int) (wd : Bool) (v1 v2 v3 : Value) (xs qs ys : List Int) (w : World) (h : Fi f p wd) (h1 : Rw w v1 xs) (h2 : Rw w v2 qs) (h3 : Rw w v3 ys) (t1 : Tm p xs) (t2 : Tm p qs) (t3 : Tm p ys) (l1 : xs.length <= 4096) (l2 : qs.length <= 4096) (l3 : ys.length <= 4096) (l : qs.length + ys.length <= 4097) :
 Calls Tryz.prog 190 #[.int .u8 f, v1, v2, v3] w fun e w' => ∃ v' zs, e = .returned v' ∧ Rw w' v' zs ∧ Tm p zs ∧ qa (pl p zs) (qm (pl p qs) (pl p ys)) = pl p xs ∧ Below w.heap.size w w' := by
 have hmf := mul_facts h t2 t3 l2 l3 l
 have hm := hide (pMul_any f v2 v3 qs ys w h2 h3)
 unfold Gives at hm
 rw [hmf.1] at hm
 have hsf := sub_facts h t1.1 hmf.2.1.1 l1 hmf.2.2.2
 have HW := hide (mulL_wd f qs ys)
 have HWs := hide (subL_wd f xs (mulL f qs ys))
 have hs := hide (fun W v (hb : Below w.heap.size w W) (hr : Rw W v (mulL f qs ys)) => pSub_any f v1 v xs (mulL f qs ys) W (h1.below hb) hr)
 unfold Gives at hs
 rw [hsf.1] at hs
 have HF := hide (show Tm p (subL f xs (mulL f qs ys)) ∧ qa (pl p (subL f xs (mulL f qs ys))) (qm (pl p qs) (pl p ys)) = pl p xs from ⟨hsf.2.1, by rw [<- hmf.2.2.1]; exact hsf.2.2⟩)
 clear h1 h2 h3 h hmf hsf t1 t2 t3
 generalize subL f xs (mulL f qs ys) = Z at *
 generalize mulL f qs ys = M at *
 go_enter Tryz.func190, Tryz.ntmps190
 go_wp2_with (first
  | (go_at_call 170; refine hm.out.mono ?_; rintro e w1 ⟨u, rfl, hO, hb⟩; have HR := hide (HW.out.row hO); clear hO)
  | (go_at_call 163; refine (hs.out _ _ hb HR.out).mono ?_; rintro e w2 ⟨u2, rfl, hO, hb2⟩; have HR2 := hide (HWs.out.row hO); clear hO))
 go_ret
 exact ⟨_, Z, rfl, HR2.out, HF.out.1, HF.out.2, Below.next hb hb2⟩
theorem Tm.wd {p : Int} {zs : List Int} (h : Tm p zs) (hp : p <= 18446744073709551615) (hl : zs.length <= 17592186043904) : Wd zs := wd_els h.1 hp hl
theorem dv_wd {p : Int} {wd : Bool} (hm : Md p wd) (hp : p <= 18446744073709551615) {xs ys A B : List Int} (hy : Els p ys) (h : Dv p xs ys A B) (l1 : xs.length <= 4096) (l2 : ys.length <= 4096) : Wd A ∧ Wd B := by
 have := h.rg
 have hl := tr_len ys
 refine ⟨wd_els this.1.1 hp ?_, wd_els this.2.1.1 hp (by omega)⟩
 by_cases hn : A = []
 · rw [hn]; simp
 · have := h.len hm hy hn; omega
end Go.Proofs.YtjhididlcdepdaaGreat
namespace Go.Proofs.YtjhididlcdepdaaGreat
open Go.RowKit Fld
def Rr (w : World) (c0 c1 c2 : Value) (X : R3) : Prop := Rw w c0 X.x ∧ Rw w c1 X.u ∧ Rw w c2 X.v
theorem Rr.below {w w' : World} {c0 c1 c2 : Value} {X : R3} (h : Rr w c0 c1 c2 X) (hb : Below w.heap.size w w') : Rr w' c0 c1 c2 X := ⟨h.1.below hb, h.2.1.below hb, h.2.2.below hb⟩
def Th (T : TypeId) (g : Nat) (c0 c1 c2 : Value) (w : World) : Prop := w.heap[g]? = some (.cells #[c0, c1, c2] T (0, 0))
theorem Th.lt {T : TypeId} {g : Nat} {c0 c1 c2 : Value} {w : World} (h : Th T g c0 c1 c2 w) : g < w.heap.size := by
 apply Nat.lt_of_not_le; intro hc; unfold Th at h; rw [Array.getElem?_eq_none hc] at h; cases h
theorem Th.below {T : TypeId} {g : Nat} {c0 c1 c2 : Value} {w w' : World} (h : Th T g c0 c1 c2 w) (hb : Below w.heap.size w w') : Th T g c0 c1 c2 w' := by unfold Th; rw [hb.block g h.lt]; exact h
theorem Th.cell {T : TypeId} {g : Nat} {c0 c1 c2 : Value} {w : World} (h : Th T g c0 c1 c2 w) : w.cell? ⟨g, 0, none⟩ = some c0 ∧ w.cell? ⟨g, 1, none⟩ = some c1 ∧ w.cell? ⟨g, 2, none⟩ = some c2 := by
 refine ⟨?_, ?_, ?_⟩ <;> (rw [cell_of_row w g _ _ _ _ h]; rfl)
theorem Th.free {T : TypeId} {g : Nat} {c0 c1 c2 : Value} {w : World} (h : Th T g c0 c1 c2 w) (k : Nat) : w.frozen? ⟨g, k, none⟩ = false := by
 unfold Th at h; simp [World.frozen?, h]
theorem Th.first (w : World) (c0 c1 c2 : Value) (T : TypeId) : Th T w.heap.size c0 c1 c2 (w.alloc (.cells #[c0, c1, c2] T)) := by
 unfold Th
 have : (w.alloc (.cells #[c0, c1, c2] T)).heap = w.heap.push (.cells #[c0, c1, c2] T) := rfl
 rw [this]; simp
def Sl (v : Value) : Prop := ∃ a n c, v = .slice a n c
theorem Rw.sl {w : World} {v : Value} {xs : List Int} (h : Rw w v xs) : Sl v := by obtain ⟨_, a, n, c, h, _⟩ := h; exact ⟨a, n, c, h⟩
theorem sl_nil : Sl (.slice none 0 0) := ⟨_, _, _, rfl⟩
theorem cell_apart {w : World} {k g i j : Nat} {v : Value} (h : g ≠ k) : (w.setCell ⟨k, i, none⟩ v).cell? ⟨g, j, none⟩ = w.cell? ⟨g, j, none⟩ := by
 have := Below.heap_setCell w ⟨k, i, none⟩ v g h
 simp only [World.cell?]
 rw [this]
def set3 (w : World) (g : Nat) (e0 e1 e2 : Value) : World := ((w.setCell ⟨g, 0, none⟩ e0).setCell ⟨g, 1, none⟩ e1).setCell ⟨g, 2, none⟩ e2
theorem set3_size (w : World) (g : Nat) (e0 e1 e2 : Value) : (set3 w g e0 e1 e2).heap.size = w.heap.size := by unfold set3; simp [World.setCell]
theorem Rw.apart {T : TypeId} {w : World} {v : Value} {xs : List Int} {k : Nat} {c0 c1 c2 e0 e1 e2 : Value} (h : Rw w v xs) (hT : Th T k c0 c1 c2 w) (s0 : Sl c0) (s1 : Sl c1) (s2 : Sl c2) : Rw (set3 w k e0 e1 e2) v xs := by
 obtain ⟨⟨ao, cap, h1, h2, h3, h4⟩, h5⟩ := h
 refine ⟨⟨ao, cap, h1, h2, h3, fun hne => ?_⟩, h5⟩
 obtain ⟨b, off, h6, h7, h8⟩ := h4 hne
 refine ⟨b, off, h6, by rw [set3_size]; exact h7, fun i hi => ?_⟩
 have hbk : b ≠ k := by
  intro e
  subst e
  have h9 := h8 0 (List.length_pos_iff.2 hne)
  rw [cell_of_row w b (off + 0) _ _ _ hT] at h9
  obtain ⟨_, _, _, rfl⟩ := s0
  obtain ⟨_, _, _, rfl⟩ := s1
  obtain ⟨_, _, _, rfl⟩ := s2
  match off, h9 with
  | 0, h9 => simp at h9
  | 1, h9 => simp at h9
  | 2, h9 => simp at h9
  | n + 3, h9 => simp at h9
 unfold set3
 rw [cell_apart hbk, cell_apart hbk, cell_apart hbk]; exact h8 i hi
theorem Rr.apart {T : TypeId} {w : World} {x0 x1 x2 : Value} {X : R3} {k : Nat} {c0 c1 c2 e0 e1 e2 : Value} (h : Rr w x0 x1 x2 X) (hT : Th T k c0 c1 c2 w) (s0 : Sl c0) (s1 : Sl c1) (s2 : Sl c2) : Rr (set3 w k e0 e1 e2) x0 x1 x2 X :=
 ⟨h.1.apart hT s0 s1 s2, h.2.1.apart hT s0 s1 s2, h.2.2.apart hT s0 s1 s2⟩
theorem below_set3 {b g : Nat} {w w' : World} {e0 e1 e2 : Value} (h : Below b w w') (hg : b <= g) : Below b w (set3 w' g e0 e1 e2) := ((h.setCell hg _).setCell hg _).setCell hg _
def FK (T : TypeId) (w : World) (n : Nat) (c0 c1 c2 d0 d1 d2 vq vr : Value) (A B : List Int) (w' : World) : Prop := Th T n c0 c1 c2 w' ∧ Th T (n + 1) d0 d1 d2 w' ∧ Th T (n + 1 + 1) (.slice none 0 0) (.slice none 0 0) (.slice none 0 0) w' ∧ Rw w' vq A ∧ Rw w' vr B ∧ Below w.heap.size w w'
theorem FK.below {T : TypeId} {w : World} {n : Nat} {c0 c1 c2 d0 d1 d2 vq vr : Value} {A B : List Int} {w1 w2 : World} (h : FK T w n c0 c1 c2 d0 d1 d2 vq vr A B w1) (hb : Below w1.heap.size w1 w2) : FK T w n c0 c1 c2 d0 d1 d2 vq vr A B w2 :=
 ⟨h.1.below hb, h.2.1.below hb, h.2.2.1.below hb, h.2.2.2.1.below hb, h.2.2.2.2.1.below hb, Below.next h.2.2.2.2.2 hb⟩
theorem block_set {T : TypeId} {g i : Nat} {cs : Array Value} {z : Nat × Nat} {v : Value} {w : World} (h : w.heap[g]? = some (.cells cs T z)) : (w.setCell ⟨g, i, none⟩ v).heap[g]? = some (.cells (cs.setIfInBounds i v) T z) := by
 simp only [World.setCell, Array.getElem?_modify, if_true, h]; rfl
theorem Th.set {T : TypeId} {g : Nat} {c0 c1 c2 e0 e1 e2 : Value} {w : World} (h : Th T g c0 c1 c2 w) : Th T g e0 e1 e2 (set3 w g e0 e1 e2) := block_set (block_set (block_set h))
theorem Th.apart {T : TypeId} {g k : Nat} {c0 c1 c2 e0 e1 e2 : Value} {w : World} (h : Th T g c0 c1 c2 w) (hne : g ≠ k) : Th T g c0 c1 c2 (set3 w k e0 e1 e2) := by
 unfold Th at h ⊢
 unfold set3
 rw [Below.heap_setCell _ _ _ _ hne, Below.heap_setCell _ _ _ _ hne, Below.heap_setCell _ _ _ _ hne]; exact h
theorem FK.fs {T : TypeId} {w : World} {n : Nat} {c0 c1 c2 d0 d1 d2 vq vr : Value} {A B : List Int} {w' : World} (h : FK T w n c0 c1 c2 d0 d1 d2 vq vr A B w') : w'.cell? ⟨n, 1, none⟩ = some c1 ∧ w'.cell? ⟨n, 2, none⟩ = some c2 ∧ w'.cell? ⟨n + 1, 1, none⟩ = some d1 ∧ w'.cell? ⟨n + 1, 2, none⟩ = some d2 := ⟨h.1.cell.2.1, h.1.cell.2.2, h.2.1.cell.2.1, h.2.1.cell.2.2⟩
theorem FK.fs3 {T : TypeId} {w : World} {n : Nat} {c0 c1 c2 d0 d1 d2 vq vr e0 e1 e2 : Value} {A B : List Int} {w' : World} (h : FK T w n c0 c1 c2 d0 d1 d2 vq vr A B w') : (((w'.setCell ⟨n + 1 + 1, 0, none⟩ e0).setCell ⟨n + 1 + 1, 1, none⟩ e1).setCell ⟨n + 1 + 1, 2, none⟩ e2).cell? ⟨n, 1, none⟩ = some c1 ∧ (((w'.setCell ⟨n + 1 + 1, 0, none⟩ e0).setCell ⟨n + 1 + 1, 1, none⟩ e1).setCell ⟨n + 1 + 1, 2, none⟩ e2).cell? ⟨n, 2, none⟩ = some c2 ∧ (((w'.setCell ⟨n + 1 + 1, 0, none⟩ e0).setCell ⟨n + 1 + 1, 1, none⟩ e1).setCell ⟨n + 1 + 1, 2, none⟩ e2).cell? ⟨n + 1, 1, none⟩ = some d1 ∧ (((w'.setCell ⟨n + 1 + 1, 0, none⟩ e0).setCell ⟨n + 1 + 1, 1, none⟩ e1).setCell ⟨n + 1 + 1, 2, none⟩ e2).cell? ⟨n + 1, 2, none⟩ = some d2 := by
 have h1 : n ≠ n + 1 + 1 := by omega
 have h2 : n + 1 ≠ n + 1 + 1 := by omega
 refine ⟨?_, ?_, ?_, ?_⟩
 · rw [cell_apart h1, cell_apart h1, cell_apart h1]; exact h.fs.1
 · rw [cell_apart h1, cell_apart h1, cell_apart h1]; exact h.fs.2.1
 · rw [cell_apart h2, cell_apart h2, cell_apart h2]; exact h.fs.2.2.1
 · rw [cell_apart h2, cell_apart h2, cell_apart h2]; exact h.fs.2.2.2
theorem in2_lens {p : Int} {wd : Bool} (hm : Md p wd) {a b : List Int} {X Y : R3} (h : In2 p a b X Y) (ha : (tr a).length <= 2048) (hb : (tr b).length <= 2048) : X.x.length <= 2048 ∧ Y.x.length <= 2048 ∧ X.u.length <= 2049 ∧ Y.u.length <= 2049 ∧ X.v.length <= 2049 ∧ Y.v.length <= 2049 ∧
 (∀ q z, Dv p X.x Y.x q z -> q.length <= 2048 ∧ q.length + Y.u.length <= 4097 ∧ q.length + Y.v.length <= 4097) := by
 have h1 := h.nx
 have h2 := h.ny
 have h3 : X.u.length <= 2049 := by rcases h.lu with e | e; (rw [e]; exact Nat.zero_le _); omega
 have h4 : Y.u.length <= 2049 := by rcases h.mu with e | e; (rw [e]; exact Nat.zero_le _); omega
 have h5 : X.v.length <= 2049 := by rcases h.lv with e | e; (rw [e]; exact Nat.zero_le _); omega
 have h6 : Y.v.length <= 2049 := by rcases h.mv with e | e; (rw [e]; exact Nat.zero_le _); omega
 refine ⟨by omega, by omega, h3, h4, h5, h6, fun q z hd => ?_⟩
 have hq : q.length <= 2048 := by
  by_cases hn : q = []
  · rw [hn]; exact Nat.zero_le _
  · have := hd.len hm h.sx.1 hn
    have k := hd.2.2.2.2.1
    omega
 exact ⟨hq, by omega, by omega⟩
theorem following_any (f p : Int) (wd : Bool) (a b : List Int) (X Y : R3) (c0 c1 c2 d0 d1 d2 : Value) (w : World) (h : Fi f p wd) (hi : In2 p a b X Y) (ha : (tr a).length <= 2048) (hb : (tr b).length <= 2048) (hX : Rr w c0 c1 c2 X) (hY : Rr w d0 d1 d2 Y) (hy : Y.x ≠ []) :
 Calls Tryz.prog 179 #[.int .u8 f, .agg #[c0, c1, c2], .agg #[d0, d1, d2]] w fun e w' => ∃ e0 e1 e2 Z, e = .returned (.agg #[e0, e1, e2]) ∧ Rr w' e0 e1 e2 Z ∧ Nx p X Y Z ∧ Below w.heap.size w w' := by
 have hl := in2_lens h.md hi ha hb
 have hE : divE f X.x Y.x = 0 := by
  unfold divE
  rw [er_yes h (allIn_of hi.tx.1) (allIn_of hi.sx.1) (by omega) (by omega), if_pos rfl, hi.sx.2, if_neg hy]
 have HD := hide (fun W (hb : Below w.heap.size w W) => pDivMod_any f _ _ X.x Y.x W (hX.1.below hb) (hY.1.below hb))
 unfold Parts at HD
 rw [hE] at HD
 have HS := hide (fun A B (hs : DvE f X.x Y.x A B) => show Dv p X.x Y.x A B by have := hs.2 hE; rw [pOf_eq h] at this; exact this)
 have HWd := hide (fun A B (hv : Dv p X.x Y.x A B) => dv_wd h.md h.top hi.sx.1 hv (by omega) (by omega))
 have L1 := hide (fun W vq q z (hv : Dv p X.x Y.x q z) (hb : Below w.heap.size w W) (hq : Rw W vq q) => less_any f p wd _ vq _ X.u q Y.u W h (hX.2.1.below hb) hq (hY.2.1.below hb) hi.tu hv.rg.1 hi.su (by omega) (by have := hl.2.2.2.2.2.2 q z hv; omega) (by omega) (by have := hl.2.2.2.2.2.2 q z hv; omega))
 have L2 := hide (fun W vq q z (hv : Dv p X.x Y.x q z) (hb : Below w.heap.size w W) (hq : Rw W vq q) => less_any f p wd _ vq _ X.v q Y.v W h (hX.2.2.below hb) hq (hY.2.2.below hb) hi.tv hv.rg.1 hi.sv (by omega) (by have := hl.2.2.2.2.2.2 q z hv; omega) (by omega) (by have := hl.2.2.2.2.2.2 q z hv; omega))
 clear hX hY hi h hE hl
 go_enter Tryz.func179, Tryz.ntmps179
 go_wp2_with fail
 have hb0 : Below w.heap.size w (((w.alloc (.cells #[c0, c1, c2] 192)).alloc (.cells #[d0, d1, d2] 192)).alloc (.cells #[.slice none 0 0, .slice none 0 0, .slice none 0 0] 192)) := ((Below.refl _ _).alloc (Nat.le_refl _) _).alloc (by simp) _ |>.alloc (by simp; omega) _
 refine (HD.out _ hb0).mono ?_; rintro e w1 ⟨vq, vr, A, B, b', rfl, hS, hOq, hOr, _, _, hb1⟩
 have HV := hide (HS.out A B hS)
 obtain ⟨ar, cr, rfl, _⟩ := ((HWd.out A B HV.out).2.row hOr).spell
 have T1 := ((((Th.first w c0 c1 c2 192).below (alloc_below _ (.cells #[d0, d1, d2] 192))).below (alloc_below _ (.cells #[.slice none 0 0, .slice none 0 0, .slice none 0 0] 192))).below hb1)
 have T2 := (((Th.first (w.alloc (.cells #[c0, c1, c2] 192)) d0 d1 d2 192).below (alloc_below _ (.cells #[.slice none 0 0, .slice none 0 0, .slice none 0 0] 192))).below hb1)
 have T3 := ((Th.first ((w.alloc (.cells #[c0, c1, c2] 192)).alloc (.cells #[d0, d1, d2] 192)) (.slice none 0 0) (.slice none 0 0) (.slice none 0 0) 192).below hb1)
 have e1 : (w.alloc (.cells #[c0, c1, c2] 192)).heap.size = w.heap.size + 1 := by simp
 have e2 : ((w.alloc (.cells #[c0, c1, c2] 192)).alloc (.cells #[d0, d1, d2] 192)).heap.size = w.heap.size + 1 + 1 := by simp
 rw [e1] at T2
 rw [e2] at T3
 have hK0 : Hid (FK 192 w w.heap.size c0 c1 c2 d0 d1 d2 vq (.slice ar B.length cr) A B w1) := ⟨T1, T2, T3, (HWd.out A B HV.out).1.row hOq, (HWd.out A B HV.out).2.row hOr, Below.next hb0 hb1⟩
 clear T1 T2 T3 e1 e2 hOq hOr hb1 hb0
 go_wp2
 have hK := hide (hK0.out.below (Below.refl w1.heap.size w1).drew)
 have hS0 := hide hK.out.fs
 go_region_held3 (fun w' => w'.cell? ⟨w.heap.size, 1, none⟩ = some c1 ∧ w'.cell? ⟨w.heap.size, 2, none⟩ = some c2 ∧ w'.cell? ⟨w.heap.size + 1, 1, none⟩ = some d1 ∧ w'.cell? ⟨w.heap.size + 1, 2, none⟩ = some d2) (first | with_reducible exact hS2.out | with_reducible exact hS1.out | with_reducible exact hS0.out | with_reducible exact hK2.out.fs3) (first
  | (go_at_call 190; refine (L2.out _ vq A B HV.out hK1.out.2.2.2.2.2 hK1.out.2.2.2.1).mono ?_; rintro e w3 ⟨u2, Z2, rfl, hr2, ht2, hz2, hb3⟩; have hK2 := hide (hK1.out.below hb3); have hS2 := hide hK2.out.fs; have q0 := hK2.out.2.2.1.cell; have q1 := q0.1; have q2 := q0.2.1; have q3 := q0.2.2; clear q0; have q4 := hK2.out.2.2.1.free 0; have q5 := hK2.out.2.2.1.free 1; have q6 := hK2.out.2.2.1.free 2; have HU2 := hide (HU.out.below hb3); obtain ⟨x2, y2, rfl, _⟩ := hr2.spell; have HU3 := hide hr2; clear hr2)
  | (go_at_call 190; refine (L1.out _ vq A B HV.out hK.out.2.2.2.2.2 hK.out.2.2.2.1).mono ?_; rintro e w2 ⟨u1, Z1, rfl, hr1, ht1, hz1, hb2⟩; have hK1 := hide (hK.out.below hb2); have hS1 := hide hK1.out.fs; obtain ⟨x1, y1, rfl, _⟩ := hr1.spell; have HU := hide hr1; clear hr1))
 have hT := hK2.out.2.2.1
 have HT := hide (hT.set (e0 := .slice ar B.length cr) (e1 := .slice x1 Z1.length y1) (e2 := .slice x2 Z2.length y2))
 have HB := hide (below_set3 (e0 := .slice ar B.length cr) (e1 := .slice x1 Z1.length y1) (e2 := .slice x2 Z2.length y2) hK2.out.2.2.2.2.2 (show w.heap.size <= w.heap.size + 1 + 1 by omega))
 have HR : Hid (Rr (set3 w3 (w.heap.size + 1 + 1) (.slice ar B.length cr) (.slice x1 Z1.length y1) (.slice x2 Z2.length y2)) (.slice ar B.length cr) (.slice x1 Z1.length y1) (.slice x2 Z2.length y2) ⟨B, Z1, Z2⟩) :=
  Rr.apart ⟨hK2.out.2.2.2.2.1, HU2.out, HU3.out⟩ hT sl_nil sl_nil sl_nil
 clear hT
 have e : ((w3.setCell ⟨w.heap.size + 1 + 1, 0, none⟩ (.slice ar B.length cr)).setCell ⟨w.heap.size + 1 + 1, 1, none⟩ (.slice x1 Z1.length y1)).setCell ⟨w.heap.size + 1 + 1, 2, none⟩ (.slice x2 Z2.length y2) = set3 w3 (w.heap.size + 1 + 1) (.slice ar B.length cr) (.slice x1 Z1.length y1) (.slice x2 Z2.length y2) := rfl
 rw [e]
 clear e q1 q2 q3 q4 q5 q6
 generalize set3 w3 (w.heap.size + 1 + 1) (.slice ar B.length cr) (.slice x1 Z1.length y1) (.slice x2 Z2.length y2) = wF at *
 obtain ⟨g1, g2, g3⟩ := HT.out.cell
 go_wp2
 refine bodyPost_ret (v := .agg #[.slice ar B.length cr, .slice x1 Z1.length y1, .slice x2 Z2.length y2]) ?_ rfl ⟨_, _, _, ⟨B, Z1, Z2⟩, rfl, HR.out, ⟨A, HV.out, ht1, ht2, hz1, hz2⟩, HB.out⟩
 simp [results, Tryz.results179, go_sem, g1, g2, g3]
theorem rw_one (w : World) (T : TypeId) : Rw (w.alloc (.cells #[.int .u64 1] T)) (.slice (some ⟨w.heap.size, 0, none⟩) 1 1) [1] := rw1 w 1 (by decide) T
theorem drew_below (w : World) : Below w.heap.size w w.drew := (Below.refl w.heap.size w).drew
theorem set_two {T : TypeId} {w : World} {g1 g2 : Nat} {o0 o1 o2 p0 p1 p2 e0 e1 e2 d0 d1 d2 : Value} (T1 : Th T g1 o0 o1 o2 w) (T2 : Th T g2 p0 p1 p2 w) (hne : g1 ≠ g2) (s0 : Sl o0) (s1 : Sl o1) (s2 : Sl o2) (t0 : Sl p0) (t1 : Sl p1) (t2 : Sl p2) :
 Th T g1 e0 e1 e2 (set3 (set3 w g1 e0 e1 e2) g2 d0 d1 d2).drew ∧ Th T g2 d0 d1 d2 (set3 (set3 w g1 e0 e1 e2) g2 d0 d1 d2).drew ∧ (∀ g c0 c1 c2, g ≠ g1 -> g ≠ g2 -> Th T g c0 c1 c2 w -> Th T g c0 c1 c2 (set3 (set3 w g1 e0 e1 e2) g2 d0 d1 d2).drew) ∧
  (∀ c0 c1 c2 X, Rr w c0 c1 c2 X -> Rr (set3 (set3 w g1 e0 e1 e2) g2 d0 d1 d2).drew c0 c1 c2 X) ∧ ∀ b w0, Below b w0 w -> b <= g1 -> b <= g2 -> Below b w0 (set3 (set3 w g1 e0 e1 e2) g2 d0 d1 d2).drew :=
 ⟨((T1.set).apart hne).below (drew_below _), ((T2.apart (Ne.symm hne)).set).below (drew_below _), fun g c0 c1 c2 h1 h2 h => ((h.apart h1).apart h2).below (drew_below _),
  fun c0 c1 c2 X h => ((h.apart T1 s0 s1 s2).apart (T2.apart (Ne.symm hne)) t0 t1 t2).below (drew_below _), fun b w0 h h1 h2 => (below_set3 (below_set3 h h1) h2).drew⟩
theorem set_two0 {T : TypeId} {w : World} {g1 g2 : Nat} {o0 o1 o2 p0 p1 p2 e0 e1 e2 d0 d1 d2 : Value} (T1 : Th T g1 o0 o1 o2 w) (T2 : Th T g2 p0 p1 p2 w) (hne : g1 ≠ g2) (s0 : Sl o0) (s1 : Sl o1) (s2 : Sl o2) (t0 : Sl p0) (t1 : Sl p1) (t2 : Sl p2) :
 Th T g1 e0 e1 e2 (set3 (set3 w g1 e0 e1 e2) g2 d0 d1 d2) ∧ Th T g2 d0 d1 d2 (set3 (set3 w g1 e0 e1 e2) g2 d0 d1 d2) ∧ (∀ g c0 c1 c2, g ≠ g1 -> g ≠ g2 -> Th T g c0 c1 c2 w -> Th T g c0 c1 c2 (set3 (set3 w g1 e0 e1 e2) g2 d0 d1 d2)) ∧
  (∀ c0 c1 c2 X, Rr w c0 c1 c2 X -> Rr (set3 (set3 w g1 e0 e1 e2) g2 d0 d1 d2) c0 c1 c2 X) ∧ ∀ b w0, Below b w0 w -> b <= g1 -> b <= g2 -> Below b w0 (set3 (set3 w g1 e0 e1 e2) g2 d0 d1 d2) :=
 ⟨(T1.set).apart hne, (T2.apart (Ne.symm hne)).set, fun g c0 c1 c2 h1 h2 h => (h.apart h1).apart h2,
  fun c0 c1 c2 X h => (h.apart T1 s0 s1 s2).apart (T2.apart (Ne.symm hne)) t0 t1 t2, fun b w0 h h1 h2 => below_set3 (below_set3 h h1) h2⟩
def DK (T : TypeId) (w : World) (g1 g2 g3 : Nat) (c0 c1 c2 d0 d1 d2 : Value) (X Y : R3) (wr : World) : Prop :=
 Th T g1 (.slice none 0 0) (.slice none 0 0) (.slice none 0 0) wr ∧ Th T g2 c0 c1 c2 wr ∧ Th T g3 d0 d1 d2 wr ∧ Rr wr c0 c1 c2 X ∧ Rr wr d0 d1 d2 Y ∧ Below w.heap.size w wr
theorem DK.below {T : TypeId} {w : World} {g1 g2 g3 : Nat} {c0 c1 c2 d0 d1 d2 : Value} {X Y : R3} {w1 w2 : World} (h : DK T w g1 g2 g3 c0 c1 c2 d0 d1 d2 X Y w1) (hb : Below w1.heap.size w1 w2) : DK T w g1 g2 g3 c0 c1 c2 d0 d1 d2 X Y w2 :=
 ⟨h.1.below hb, h.2.1.below hb, h.2.2.1.below hb, h.2.2.2.1.below hb, h.2.2.2.2.1.below hb, Below.next h.2.2.2.2.2 hb⟩
theorem descend_any (f p : Int) (wd : Bool) (va vb : Value) (a b : List Int) (s : Int) (w : World) (h : Fi f p wd) (h1 : Rw w va a) (h2 : Rw w vb b) (ha : Els p a) (hb : Els p b) (la : a.length <= 2048) (lb : b.length <= 2048) (hs : 0 <= s) :
 Calls Tryz.prog 150 #[.int .u8 f, va, vb, .int .i64 s] w fun e w' => ∃ c0 c1 c2 d0 d1 d2 A B, e = .returned (.tuple #[.agg #[c0, c1, c2], .agg #[d0, d1, d2]]) ∧ Rr w' c0 c1 c2 A ∧ Rr w' d0 d1 d2 B ∧ Fnd p s.toNat a b A B ∧ Below w.heap.size w w' := by
 have HT1 := hide (fun W (hb : Below w.heap.size w W) => Trim_any va a W (h1.below hb))
 have HT2 := hide (fun W (hb : Below w.heap.size w W) => Trim_any vb b W (h2.below hb))
 have na := tr_len a
 have nb := tr_len b
 have W1 := hide (wd_els (ha.tr h.pos) h.top (show (tr a).length <= 17592186043904 by omega))
 have W2 := hide (wd_els (hb.tr h.pos) h.top (show (tr b).length <= 17592186043904 by omega))
 have HI0 := hide (In2.start h.md ha hb)
 have HF := hide (fun X Y c0 c1 c2 d0 d1 d2 W hi hX hY hy => following_any f p wd a b X Y c0 c1 c2 d0 d1 d2 W h hi (by omega) (by omega) hX hY hy)
 have HN := hide (fun X Y Z (hi : In2 p a b X Y) (hn : Nx p X Y Z) => hi.next h.md hn)
 clear h h1 h2 ha hb
 go_enter Tryz.func150, Tryz.ntmps150
 go_wp2
 go_step3
 go_wp2_with fail
 have hb0 : Below w.heap.size w ((w.alloc (.cells #[.slice none 0 0, .slice none 0 0, .slice none 0 0] 192)).alloc (.cells #[.slice none 0 0, .slice none 0 0, .slice none 0 0] 192)) := ((Below.refl _ _).alloc (Nat.le_refl _) _).alloc (by simp) _
 refine (HT1.out _ hb0).mono ?_; rintro e w1 ⟨u1, rfl, hO1, hb1⟩
 have T1 := ((Th.first w (.slice none 0 0) (.slice none 0 0) (.slice none 0 0) 192).below (alloc_below _ (.cells #[.slice none 0 0, .slice none 0 0, .slice none 0 0] 192))).below hb1
 have T2 := (Th.first (w.alloc (.cells #[.slice none 0 0, .slice none 0 0, .slice none 0 0] 192)) (.slice none 0 0) (.slice none 0 0) (.slice none 0 0) 192).below hb1
 have e1 : (w.alloc (.cells #[.slice none 0 0, .slice none 0 0, .slice none 0 0] 192)).heap.size = w.heap.size + 1 := by simp
 rw [e1] at T2
 have R1 := W1.out.row hO1
 obtain ⟨a1, k1, rfl, _⟩ := R1.spell
 have B1 := Below.next hb0 hb1
 clear e1 hO1 hb1 hb0
 have hal := alloc_below w1 (.cells #[.int .u64 1] 64)
 have T1' := T1.below hal
 have T2' := T2.below hal
 have RX : Rr (w1.alloc (.cells #[.int .u64 1] 64)) (.slice a1 (tr a).length k1) (.slice (some ⟨w1.heap.size, 0, none⟩) 1 1) (.slice none 0 0) (rwA a) := ⟨R1.below hal, rw_one w1 _, rw0 _⟩
 have B1' := Below.next B1 hal
 obtain ⟨q1, q2, q3⟩ := T2'.cell
 have q4 := T2'.free 0
 have q5 := T2'.free 1
 have q6 := T2'.free 2
 go_wp2_with fail
 have e : ((((w1.alloc (.cells #[.int .u64 1] 64)).setCell ⟨w.heap.size + 1, 0, none⟩ (.slice a1 (tr a).length k1)).setCell ⟨w.heap.size + 1, 1, none⟩ (.slice (some ⟨w1.heap.size, 0, none⟩) 1 1)).setCell ⟨w.heap.size + 1, 2, none⟩ (.slice none 0 0)) = set3 (w1.alloc (.cells #[.int .u64 1] 64)) (w.heap.size + 1) (.slice a1 (tr a).length k1) (.slice (some ⟨w1.heap.size, 0, none⟩) 1 1) (.slice none 0 0) := rfl
 rw [e]
 clear e q1 q2 q3 q4 q5 q6
 have T3 := T1'.apart (e0 := .slice a1 (tr a).length k1) (e1 := .slice (some ⟨w1.heap.size, 0, none⟩) 1 1) (e2 := .slice none 0 0) (show w.heap.size ≠ w.heap.size + 1 by omega)
 have T4 := T2'.set (e0 := .slice a1 (tr a).length k1) (e1 := .slice (some ⟨w1.heap.size, 0, none⟩) 1 1) (e2 := .slice none 0 0)
 have RX2 := RX.apart (e0 := .slice a1 (tr a).length k1) (e1 := .slice (some ⟨w1.heap.size, 0, none⟩) 1 1) (e2 := .slice none 0 0) T2' sl_nil sl_nil sl_nil
 have B2 := below_set3 (e0 := .slice a1 (tr a).length k1) (e1 := .slice (some ⟨w1.heap.size, 0, none⟩) 1 1) (e2 := .slice none 0 0) B1' (show w.heap.size <= w.heap.size + 1 by omega)
 clear T1 T2 T1' T2' RX B1' B1 hal R1
 generalize set3 (w1.alloc (.cells #[.int .u64 1] 64)) (w.heap.size + 1) (.slice a1 (tr a).length k1) (.slice (some ⟨w1.heap.size, 0, none⟩) 1 1) (.slice none 0 0) = wA at *
 refine (HT2.out _ B2).mono ?_; rintro e w2 ⟨u2, rfl, hO2, hb2⟩
 have R2 := W2.out.row hO2
 obtain ⟨a2, k2, rfl, _⟩ := R2.spell
 have hal := alloc_below w2 (.cells #[.int .u64 1] 64)
 have hal2 := alloc_below (w2.alloc (.cells #[.int .u64 1] 64)) (.cells #[.slice a2 (tr b).length k2, .slice none 0 0, .slice (some ⟨w2.heap.size, 0, none⟩) 1 1] 192)
 have T1 := ((T3.below hb2).below hal).below hal2
 have T2 := ((T4.below hb2).below hal).below hal2
 have RX := ((RX2.below hb2).below hal).below hal2
 have TB := Th.first (w2.alloc (.cells #[.int .u64 1] 64)) (.slice a2 (tr b).length k2) (.slice none 0 0) (.slice (some ⟨w2.heap.size, 0, none⟩) 1 1) 192
 have e1 : (w2.alloc (.cells #[.int .u64 1] 64)).heap.size = w2.heap.size + 1 := by simp
 rw [e1] at TB
 have RY : Rr ((w2.alloc (.cells #[.int .u64 1] 64)).alloc (.cells #[.slice a2 (tr b).length k2, .slice none 0 0, .slice (some ⟨w2.heap.size, 0, none⟩) 1 1] 192)) (.slice a2 (tr b).length k2) (.slice none 0 0) (.slice (some ⟨w2.heap.size, 0, none⟩) 1 1) (rwB b) := ⟨(R2.below hal).below hal2, rw0 _, (rw_one w2 _).below hal2⟩
 have B3 := Below.next (Below.next (Below.next B2 hb2) hal) hal2
 have hsz := (Below.next B2 hb2).size
 have hlt := (T4.below hb2).lt
 have HK : Hid (DK 192 w w.heap.size (w.heap.size + 1) (w2.heap.size + 1) _ _ _ _ _ _ (rwA a) (rwB b) _) := ⟨T1, T2, TB, RX, RY, B3⟩
 clear e1 hO2 R2 hb2 T3 T4 RX2 B2 hal hal2 T1 T2 TB RX RY B3
 have hne : w2.heap.size + 1 ≠ w.heap.size + 1 := by omega
 have hne0 : w.heap.size ≠ w2.heap.size + 1 := by omega
 have hgw : w.heap.size <= w2.heap.size + 1 := by omega
 go_wp2_with fail
 generalize ((w2.alloc (.cells #[.int .u64 1] 64)).alloc (.cells #[.slice a2 (tr b).length k2, .slice none 0 0, .slice (some ⟨w2.heap.size, 0, none⟩) 1 1] 192)) = wL at *
 go_step3
 go_wp2
 go_loopw [19] (fun _ wr => ∃ (c0 c1 c2 d0 d1 d2 : Value) (X Y : R3) (n : Nat), Hid (In2 p a b X Y) ∧ Hid (∀ m A B, Ds p s.toNat m X Y A B -> Ds p s.toNat (m + n) (rwA a) (rwB b) A B) ∧ Hid (DK 192 w w.heap.size (w.heap.size + 1) (w2.heap.size + 1) c0 c1 c2 d0 d1 d2 X Y wr)) (fun _ wr => match wr.cell? ⟨w2.heap.size + 1, 0, none⟩ with | some (.slice _ n _) => n | _ => 0)
 case atStart => exact ⟨_, _, _, _, _, _, _, _, 0, HI0, fun m A B h => h, HK⟩
 case round =>
  clear HK HT1 HT2 W1 W2 HI0
  obtain ⟨c0, c1, c2, d0, d1, d2, X, Y, n, HI, HD, HK⟩ := hrel
  obtain ⟨T1, T2, T3, RX, RY, B3⟩ := HK.out
  obtain ⟨x1, y1, rfl, _⟩ := RX.1.spell
  obtain ⟨x2, y2, rfl, _⟩ := RX.2.1.spell
  obtain ⟨x3, y3, rfl, _⟩ := RX.2.2.spell
  obtain ⟨x4, y4, rfl, _⟩ := RY.1.spell
  obtain ⟨x5, y5, rfl, _⟩ := RY.2.1.spell
  obtain ⟨x6, y6, rfl, _⟩ := RY.2.2.spell
  have HG1 := hide (Degree_any _ X.x wr RX.1)
  rw [HI.out.tx.2] at HG1
  have HG2 := hide (fun W hb => Degree_any _ Y.x W (RY.1.below hb))
  rw [HI.out.sx.2] at HG2
  obtain ⟨q1, q2, q3⟩ := T2.cell
  clear T1 T2 T3 RX RY B3
  by_cases hx : X.x.length <= s.toNat
  · have hx1 : (X.x.length : Int) - 1 < s := by omega
    go_wp2_with fail
    refine HG1.out.mono ?_; rintro e w4 ⟨rfl, hb4⟩
    have HK4 := hide (HK.out.below hb4)
    go_wp2
    obtain ⟨T1, T2, T3, RX, RY, B3⟩ := HK4.out
    obtain ⟨q1, q2, q3⟩ := T2.cell
    obtain ⟨q4, q5, q6⟩ := T1.cell
    have f1 := T1.free 0
    have f2 := T1.free 1
    have f3 := T1.free 2
    have f4 := T2.free 0
    have f5 := T2.free 1
    have f6 := T2.free 2
    go_region
    all_goals (
     have E : ((((((w4.setCell ⟨w.heap.size, 0, none⟩ (.slice none 0 0)).setCell ⟨w.heap.size, 1, none⟩ (.slice none 0 0)).setCell ⟨w.heap.size, 2, none⟩ (.slice none 0 0)).setCell ⟨w.heap.size + 1, 0, none⟩ (.slice x1 X.x.length y1)).setCell ⟨w.heap.size + 1, 1, none⟩ (.slice x2 X.u.length y2)).setCell ⟨w.heap.size + 1, 2, none⟩ (.slice x3 X.v.length y3)).drew = (set3 (set3 w4 w.heap.size (.slice none 0 0) (.slice none 0 0) (.slice none 0 0)) (w.heap.size + 1) (.slice x1 X.x.length y1) (.slice x2 X.u.length y2) (.slice x3 X.v.length y3)).drew := rfl
     have F := set_two (e0 := .slice none 0 0) (e1 := .slice none 0 0) (e2 := .slice none 0 0) (d0 := .slice x1 X.x.length y1) (d1 := .slice x2 X.u.length y2) (d2 := .slice x3 X.v.length y3) T1 T2 (by omega) sl_nil sl_nil sl_nil RX.1.sl RX.2.1.sl RX.2.2.sl
     rw [E]
     clear E q1 q2 q3 q4 q5 q6 f1 f2 f3 f4 f5 f6
     generalize (set3 (set3 w4 w.heap.size (.slice none 0 0) (.slice none 0 0) (.slice none 0 0)) (w.heap.size + 1) (.slice x1 X.x.length y1) (.slice x2 X.u.length y2) (.slice x3 X.v.length y3)).drew = wF at F ⊢
     obtain ⟨F1, F2, _, F4, F5⟩ := F
     have FR := hide (F4 _ _ _ _ RX)
     have FN := hide (F4 _ _ _ R3.nil ⟨rw0 _, rw0 _, rw0 _⟩)
     have FB := hide (F5 _ _ B3 (Nat.le_refl _) (by omega))
     clear F4 F5 T1 T2 T3 RX RY B3
     obtain ⟨q1, q2, q3⟩ := F2.cell
     obtain ⟨q4, q5, q6⟩ := F1.cell
     go_wp2
     rw [Exit.noGoto_ret]
     refine bodyPost_ret (v := .tuple #[.agg #[.slice none 0 0, .slice none 0 0, .slice none 0 0], .agg #[.slice x1 X.x.length y1, .slice x2 X.u.length y2, .slice x3 X.v.length y3]]) ?_ rfl ⟨_, _, _, _, _, _, R3.nil, X, rfl, FN.out, FR.out, ⟨_, HD.out 1 _ _ (.inl ⟨hx, rfl, rfl⟩)⟩, FB.out⟩
     simp [results, Tryz.results150, go_sem, q1, q2, q3, q4, q5, q6])
  · have hx1 : ¬ (X.x.length : Int) - 1 < s := by omega
    go_wp2_with fail
    refine HG1.out.mono ?_; rintro e w4 ⟨rfl, hb4⟩
    have HK4 := hide (HK.out.below hb4)
    obtain ⟨q7, q8, q9⟩ := HK4.out.2.2.1.cell
    go_wp2_with fail
    refine (HG2.out _ hb4).mono ?_; rintro e w5 ⟨rfl, hb5⟩
    have HK5 := hide (HK4.out.below hb5)
    clear q1 q2 q3 q7 q8 q9 HG1 HG2
    obtain ⟨T1, T2, T3, RX, RY, B3⟩ := HK5.out
    obtain ⟨q1, q2, q3⟩ := T2.cell
    obtain ⟨q4, q5, q6⟩ := T1.cell
    obtain ⟨q7, q8, q9⟩ := T3.cell
    have f1 := T1.free 0
    have f2 := T1.free 1
    have f3 := T1.free 2
    have f4 := T2.free 0
    have f5 := T2.free 1
    have f6 := T2.free 2
    by_cases hy : Y.x.length <= s.toNat
    · have hy1 : (Y.x.length : Int) - 1 < s := by omega
      go_wp2
      go_region
      all_goals (
       have E : ((((((w5.setCell ⟨w.heap.size, 0, none⟩ (.slice x1 X.x.length y1)).setCell ⟨w.heap.size, 1, none⟩ (.slice x2 X.u.length y2)).setCell ⟨w.heap.size, 2, none⟩ (.slice x3 X.v.length y3)).setCell ⟨w.heap.size + 1, 0, none⟩ (.slice x4 Y.x.length y4)).setCell ⟨w.heap.size + 1, 1, none⟩ (.slice x5 Y.u.length y5)).setCell ⟨w.heap.size + 1, 2, none⟩ (.slice x6 Y.v.length y6)).drew = (set3 (set3 w5 (w.heap.size) (.slice x1 X.x.length y1) (.slice x2 X.u.length y2) (.slice x3 X.v.length y3)) (w.heap.size + 1) (.slice x4 Y.x.length y4) (.slice x5 Y.u.length y5) (.slice x6 Y.v.length y6)).drew := rfl
       have F := set_two (e0 := .slice x1 X.x.length y1) (e1 := .slice x2 X.u.length y2) (e2 := .slice x3 X.v.length y3) (d0 := .slice x4 Y.x.length y4) (d1 := .slice x5 Y.u.length y5) (d2 := .slice x6 Y.v.length y6) T1 T2 (by omega) sl_nil sl_nil sl_nil RX.1.sl RX.2.1.sl RX.2.2.sl
       rw [E]
       clear E q1 q2 q3 q4 q5 q6 q7 q8 q9 f1 f2 f3 f4 f5 f6
       generalize (set3 (set3 w5 (w.heap.size) (.slice x1 X.x.length y1) (.slice x2 X.u.length y2) (.slice x3 X.v.length y3)) (w.heap.size + 1) (.slice x4 Y.x.length y4) (.slice x5 Y.u.length y5) (.slice x6 Y.v.length y6)).drew = w6 at F ⊢
       obtain ⟨F1, F2, _, F4, F5⟩ := F
       have RX := F4 _ _ _ _ RX
       have RY := F4 _ _ _ _ RY
       have B3 := F5 _ _ B3 (Nat.le_refl _) (by omega)
       clear F4 F5 T1 T2 T3
       obtain ⟨q1, q2, q3⟩ := F2.cell
       obtain ⟨q4, q5, q6⟩ := F1.cell
       have f1 := F1.free 0
       have f2 := F1.free 1
       have f3 := F1.free 2
       have f4 := F2.free 0
       have f5 := F2.free 1
       have f6 := F2.free 2
       go_wp2
       go_region
       all_goals (
        have E : ((((((w6.setCell ⟨w.heap.size, 0, none⟩ (.slice x1 X.x.length y1)).setCell ⟨w.heap.size, 1, none⟩ (.slice x2 X.u.length y2)).setCell ⟨w.heap.size, 2, none⟩ (.slice x3 X.v.length y3)).setCell ⟨w.heap.size + 1, 0, none⟩ (.slice x4 Y.x.length y4)).setCell ⟨w.heap.size + 1, 1, none⟩ (.slice x5 Y.u.length y5)).setCell ⟨w.heap.size + 1, 2, none⟩ (.slice x6 Y.v.length y6)).drew = (set3 (set3 w6 (w.heap.size) (.slice x1 X.x.length y1) (.slice x2 X.u.length y2) (.slice x3 X.v.length y3)) (w.heap.size + 1) (.slice x4 Y.x.length y4) (.slice x5 Y.u.length y5) (.slice x6 Y.v.length y6)).drew := rfl
        have F := set_two (e0 := .slice x1 X.x.length y1) (e1 := .slice x2 X.u.length y2) (e2 := .slice x3 X.v.length y3) (d0 := .slice x4 Y.x.length y4) (d1 := .slice x5 Y.u.length y5) (d2 := .slice x6 Y.v.length y6) F1 F2 (by omega) RX.1.sl RX.2.1.sl RX.2.2.sl RY.1.sl RY.2.1.sl RY.2.2.sl
        rw [E]
        clear E q1 q2 q3 q4 q5 q6 f1 f2 f3 f4 f5 f6
        generalize (set3 (set3 w6 (w.heap.size) (.slice x1 X.x.length y1) (.slice x2 X.u.length y2) (.slice x3 X.v.length y3)) (w.heap.size + 1) (.slice x4 Y.x.length y4) (.slice x5 Y.u.length y5) (.slice x6 Y.v.length y6)).drew = wF at F ⊢
        obtain ⟨F1, F2, _, F4, F5⟩ := F
        have FR := hide (F4 _ _ _ _ RY)
        have FN := hide (F4 _ _ _ _ RX)
        have FB := hide (F5 _ _ B3 (Nat.le_refl _) (by omega))
        clear F4 F5 RX RY B3
        obtain ⟨q1, q2, q3⟩ := F2.cell
        obtain ⟨q4, q5, q6⟩ := F1.cell
        go_wp2
        rw [Exit.noGoto_ret]
        refine bodyPost_ret (v := .tuple #[.agg #[.slice x1 X.x.length y1, .slice x2 X.u.length y2, .slice x3 X.v.length y3], .agg #[.slice x4 Y.x.length y4, .slice x5 Y.u.length y5, .slice x6 Y.v.length y6]]) ?_ rfl ⟨_, _, _, _, _, _, X, Y, rfl, FN.out, FR.out, ⟨_, HD.out 1 _ _ (.inr (.inl ⟨by omega, hy, rfl, rfl⟩))⟩, FB.out⟩
        simp [results, Tryz.results150, go_sem, q1, q2, q3, q4, q5, q6]))
    · have hy1 : ¬ (Y.x.length : Int) - 1 < s := by omega
      have hyn : Y.x ≠ [] := fun e0 => hy (by rw [e0]; exact Nat.zero_le _)
      go_wp2
      clear f1 f2 f3 f4 f5 f6 q4 q5 q6
      go_region_with (go_at_call 179; refine (HF.out X Y _ _ _ _ _ _ _ HI.out (RX.below (drew_below _)) (RY.below (drew_below _)) hyn).mono ?_; rintro e w6 ⟨e0, e1, e2, Z, rfl, RZ, hn, hb6⟩; obtain ⟨x7, y7, rfl, _⟩ := RZ.1.spell; obtain ⟨x8, y8, rfl, _⟩ := RZ.2.1.spell; obtain ⟨x9, y9, rfl, _⟩ := RZ.2.2.spell; have HK6 := hide ((HK5.out.below (drew_below _)).below hb6); have r2 := HK6.out.2.1.cell; have r21 := r2.1; have r22 := r2.2.1; have r23 := r2.2.2; clear r2; have r3 := HK6.out.2.2.1.cell; have r31 := r3.1; have r32 := r3.2.1; have r33 := r3.2.2; clear r3; have f1 := HK6.out.2.1.free 0; have f2 := HK6.out.2.1.free 1; have f3 := HK6.out.2.1.free 2; have f4 := HK6.out.2.2.1.free 0; have f5 := HK6.out.2.2.1.free 1; have f6 := HK6.out.2.2.1.free 2)
      all_goals (
       have E : ((((((w6.setCell ⟨w.heap.size + 1, 0, none⟩ (.slice x4 Y.x.length y4)).setCell ⟨w.heap.size + 1, 1, none⟩ (.slice x5 Y.u.length y5)).setCell ⟨w.heap.size + 1, 2, none⟩ (.slice x6 Y.v.length y6)).setCell ⟨w2.heap.size + 1, 0, none⟩ (.slice x7 Z.x.length y7)).setCell ⟨w2.heap.size + 1, 1, none⟩ (.slice x8 Z.u.length y8)).setCell ⟨w2.heap.size + 1, 2, none⟩ (.slice x9 Z.v.length y9)) = (set3 (set3 w6 (w.heap.size + 1) (.slice x4 Y.x.length y4) (.slice x5 Y.u.length y5) (.slice x6 Y.v.length y6)) (w2.heap.size + 1) (.slice x7 Z.x.length y7) (.slice x8 Z.u.length y8) (.slice x9 Z.v.length y9)) := rfl
       clear T1 T2 T3 RX RY B3
       obtain ⟨T1, T2, T3, RX, RY, B3⟩ := HK6.out
       have F := set_two0 (e0 := .slice x4 Y.x.length y4) (e1 := .slice x5 Y.u.length y5) (e2 := .slice x6 Y.v.length y6) (d0 := .slice x7 Z.x.length y7) (d1 := .slice x8 Z.u.length y8) (d2 := .slice x9 Z.v.length y9) T2 T3 (by omega) RX.1.sl RX.2.1.sl RX.2.2.sl RY.1.sl RY.2.1.sl RY.2.2.sl
       rw [E]
       clear E q1 q2 q3 q7 q8 q9 f1 f2 f3 f4 f5 f6 r21 r22 r23 r31 r32 r33
       generalize (set3 (set3 w6 (w.heap.size + 1) (.slice x4 Y.x.length y4) (.slice x5 Y.u.length y5) (.slice x6 Y.v.length y6)) (w2.heap.size + 1) (.slice x7 Z.x.length y7) (.slice x8 Z.u.length y8) (.slice x9 Z.v.length y9)) = w7 at F ⊢
       obtain ⟨F1, F2, F3, F4, F5⟩ := F
       have HK7 : Hid (DK 192 w w.heap.size (w.heap.size + 1) (w2.heap.size + 1) _ _ _ _ _ _ Y Z w7) := ⟨F3 _ _ _ _ (by omega) (by omega) T1, F1, F2, F4 _ _ _ _ RY, F4 _ _ _ _ RZ, F5 _ _ B3 (by omega) (by omega)⟩
       have m1 := HK7.out.2.2.1.cell.1
       have m2 := HK.out.2.2.1.cell.1
       go_wp2
       go_roundw
       case rel => exact ⟨_, _, _, _, _, _, Y, Z, n + 1, HN.out _ _ _ HI.out hn, (fun m A B hd => by
        have := HD.out (m + 1) A B (.inr (.inr ⟨by omega, by omega, Z, hn, hd⟩))
        have e : m + (n + 1) = m + 1 + n := by omega
        rw [e]; exact this), HK7⟩
       case measure =>
        rw [m1, m2]
        obtain ⟨q, hd, _⟩ := hn
        have := hd.2.2.2.2.1
        rw [HI.out.sx.2] at this
        exact this)
def PtE (f : Int) (a b : List Int) (s : Int) (B : R3) : Prop := (stE f a b s ≠ 0 -> B = R3.nil) ∧ (stE f a b s = 0 -> ∃ A, Fnd (pOf f) s.toNat a b A B)
theorem al_two (w : World) (T : TypeId) (c0 c1 c2 d0 d1 d2 : Value) (A B : R3) (RA : Rr w c0 c1 c2 A) (RB : Rr w d0 d1 d2 B) :
 Th T w.heap.size c0 c1 c2 ((w.alloc (.cells #[c0, c1, c2] T)).alloc (.cells #[d0, d1, d2] T)) ∧ Th T (w.heap.size + 1) d0 d1 d2 ((w.alloc (.cells #[c0, c1, c2] T)).alloc (.cells #[d0, d1, d2] T)) ∧
  Rr ((w.alloc (.cells #[c0, c1, c2] T)).alloc (.cells #[d0, d1, d2] T)) c0 c1 c2 A ∧ Rr ((w.alloc (.cells #[c0, c1, c2] T)).alloc (.cells #[d0, d1, d2] T)) d0 d1 d2 B ∧ Below w.heap.size w ((w.alloc (.cells #[c0, c1, c2] T)).alloc (.cells #[d0, d1, d2] T)) := by
 have a1 := alloc_below w (.cells #[c0, c1, c2] T)
 have a2 := alloc_below (w.alloc (.cells #[c0, c1, c2] T)) (.cells #[d0, d1, d2] T)
 have t2 := Th.first (w.alloc (.cells #[c0, c1, c2] T)) d0 d1 d2 T
 have e : (w.alloc (.cells #[c0, c1, c2] T)).heap.size = w.heap.size + 1 := by simp
 rw [e] at t2
 exact ⟨(Th.first w c0 c1 c2 T).below a2, t2, (RA.below a1).below a2, (RB.below a1).below a2, Below.next a1 a2⟩
theorem div_ok {f p : Int} {wd : Bool} (h : Fi f p wd) {xs ys : List Int} (hx : Els p xs) (hy : Tm p ys) (l1 : xs.length <= 4096) (l2 : ys.length <= 4096) : divE f xs ys = if ys = [] then 5 else 0 := by
 unfold divE
 rw [er_yes h (allIn_of hx) (allIn_of hy.1) l1 l2, if_pos rfl, hy.2]
theorem DvE.dv {f p : Int} {wd : Bool} (h : Fi f p wd) {xs ys A B : List Int} (he : divE f xs ys = 0) (hs : DvE f xs ys A B) : Dv p xs ys A B := by have := hs.2 he; rw [pOf_eq h] at this; exact this
theorem rr_nil (w : World) : Rr w (.slice none 0 0) (.slice none 0 0) (.slice none 0 0) R3.nil := ⟨rw0 _, rw0 _, rw0 _⟩
theorem ePartial_any (f : Int) (va vb : Value) (a b : List Int) (s : Int) (w : World) (h1 : Rw w va a) (h2 : Rw w vb b) :
 Calls Tryz.prog 119 #[.int .u8 f, va, vb, .int .i64 s] w fun e w' => ∃ c0 c1 c2 B, e = .returned (.tuple #[c0, c1, c2, .int .i64 (stE f a b s)]) ∧ Rr w' c0 c1 c2 B ∧ PtE f a b s B ∧ Below w.heap.size w w' := by
 have hk := hide (eStop_any f va vb a b s w h1 h2)
 by_cases he : stE f a b s = 0
 · obtain ⟨hs, hc⟩ := stE_zero he
   obtain ⟨p, wd, hf, i1, i2, la, lb⟩ := chE_zero hc
   have hd := hide (fun W (hb : Below w.heap.size w W) => descend_any f p wd va vb a b s W hf (h1.below hb) (h2.below hb) (els_of i1 h1.words) (els_of i2 h2.words) la lb hs)
   have HP : Hid (∀ A B, Fnd p s.toNat a b A B -> PtE f a b s B) := fun A B hv => ⟨fun h0 => absurd he h0, fun _ => ⟨A, by rw [pOf_eq hf]; exact hv⟩⟩
   rw [he]
   rw [he] at hk
   clear h1 h2 hf hc he
   go_enter Tryz.func119, Tryz.ntmps119
   go_wp2_with fail
   refine hk.out.mono ?_; rintro e w1 ⟨rfl, hb1⟩
   go_wp2_with fail
   refine (hd.out _ hb1).mono ?_; rintro e w2 ⟨c0, c1, c2, d0, d1, d2, A, B, rfl, RA, RB, hv, hb2⟩
   obtain ⟨x1, y1, rfl, _⟩ := RA.1.spell
   obtain ⟨x2, y2, rfl, _⟩ := RA.2.1.spell
   obtain ⟨x3, y3, rfl, _⟩ := RA.2.2.spell
   obtain ⟨x4, y4, rfl, _⟩ := RB.1.spell
   obtain ⟨x5, y5, rfl, _⟩ := RB.2.1.spell
   obtain ⟨x6, y6, rfl, _⟩ := RB.2.2.spell
   have hb3 := Below.next hb1 hb2
   have HA := hide (al_two w2 192 _ _ _ _ _ _ A B RA RB)
   clear RA RB
   go_wp2
   generalize ((w2.alloc (.cells #[.slice x1 A.x.length y1, .slice x2 A.u.length y2, .slice x3 A.v.length y3] 192)).alloc (.cells #[.slice x4 B.x.length y4, .slice x5 B.u.length y5, .slice x6 B.v.length y6] 192)) = w3 at HA ⊢
   obtain ⟨T1, T2, RA, RB, hb4⟩ := HA.out
   obtain ⟨q1, q2, q3⟩ := T2.cell
   have HRB := hide RB
   clear T1 T2 RA RB HA
   go_quiet (fail)
   have hb5 := Below.next hb3 hb4
   have hb6 := below_drewN hb5 nq
   have HR := hide (HRB.out.below (below_drewN (Below.refl w3.heap.size w3) nq))
   go_wp2
   refine bodyPost_ret (v := .tuple #[.slice x4 B.x.length y4, .slice x5 B.u.length y5, .slice x6 B.v.length y6, .int .i64 0]) ?_ rfl ⟨_, _, _, B, rfl, HR.out, HP.out _ _ hv, hb6⟩
   simp [results, Tryz.results119, go_sem]
 · have ht : (stE f a b s != 0) = true := bne_iff_ne.2 he
   have HP : Hid (PtE f a b s R3.nil) := ⟨fun _ => rfl, fun h0 => absurd h0 he⟩
   clear h1 h2 he
   generalize stE f a b s = e0 at *
   go_enter Tryz.func119, Tryz.ntmps119
   go_wp2_with (go_at_call 149; refine hk.out.mono ?_; rintro e w1 ⟨rfl, hb⟩)
   refine bodyPost_ret (v := .tuple #[.slice none 0 0, .slice none 0 0, .slice none 0 0, .int .i64 e0]) ?_ rfl ⟨_, _, _, _, rfl, rr_nil _, HP.out, hb⟩
   simp [results, Tryz.results119, go_sem]
end Go.Proofs.YtjhididlcdepdaaGreat
