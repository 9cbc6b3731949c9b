import Derived.Test.YtnapbdoalfbgnaaGreatBunQ
import Derived.Deep.QuietTactic
import Derived.BigQuiet
import Derived.Deep.AppendLies
import Derived.Test.YtnapbdoalfbgnaaGreatRows
set_option linter.unusedVariables false
set_option linter.unusedSimpArgs false
set_option maxRecDepth 100000
set_option maxHeartbeats 4000000
namespace Go.Proofs.YtnapbdoalfbgnaaGreat
open Go.RowKit Fld
theorem dEval_any (f t : Int) (v : Value) (xs : List Int) (w : World) (hc : 0 ≤ t ∧ t ≤ 18446744073709551615) (h1 : Rw w v xs) :
 Calls Tryz.prog 44 #[.int .u8 f, v, .int .u64 t] w fun e w' => e = .returned (.tuple #[.int .u64 (valE f t xs), .int .i64 (er f xs [t])]) ∧ Below w.heap.size w w' := by
 obtain ⟨a1, c1, rfl, _⟩ := h1.spell
 have hk := hide (fun T => rBad_any f _ _ xs [t] _ (h1.below (alloc_below _ _)) (rw1 w t hc T))
 unfold valE
 by_cases he : er f xs [t] = 0
 · obtain ⟨p, wd, h, i1, i2, m1, m2⟩ := er_zero he
   rw [if_pos he, he, pOf_eq h]
   rw [he] at hk
   have hte : El p t := els_of i2 (by simp [hc]) t (List.mem_singleton.2 rfl)
   have hp0 := h.pos
   have hp1 := h.top
   have hp2 : 1 < p := by have := h.md.bounds; omega
   have hP := hide (fun W => rP_yes f p wd W h)
   have HX := hide (els_of i1 h1.words)
   have H0 := hide (px_zero hp2 t)
   have H1 := hide (lw_zero p t xs)
   have t0 := hte.1
   have t1 := hc.2
   have HL : Hid (lw p t xs xs.length = vl p t xs) := rfl
   rw [← HL.out]
   obtain ⟨⟨a, c, hv, _, _, hcell⟩, _⟩ := h1
   cases hv
   clear h i1 i2 he HL
   go_enter Tryz.func44, Tryz.ntmps44
   go_wp2_with (go_at_call 63; refine (hk.out _).mono ?_; rintro e w1 ⟨rfl, hw⟩; rw [hw]; clear hw)
   go_loopw [9, 10, 11] (fun vs vp vi wr => ∃ k : Nat, k ≤ xs.length ∧ vi = .int .i64 k ∧ vs = .int .u64 (lw p t xs k) ∧ vp = .int .u64 (px p t k) ∧ Below w.heap.size w wr) (fun _ _ vi _ => xs.length - (intOf vi).toNat)
   case atStart => exact ⟨0, Nat.zero_le _, rfl, by rw [H1.out], by rw [H0.out], alloc_below _ _⟩
   case round =>
    obtain ⟨k, hkl, rfl, rfl, rfl, hB⟩ := hrel
    by_cases hlt : k < xs.length
    · obtain ⟨b, o, rfl, hbl, hcl⟩ := hcell (by intro h; rw [h] at hlt; simp at hlt)
      have d1 := (hB.cell (p := ⟨b, o + k, none⟩) hbl).trans (hcl k hlt)
      have HS := hide (lw_step p t xs k)
      have HQ := hide (px_step p t k)
      have e1 := lw_el hp0 t xs k
      have e2 := px_el hp0 t k
      have e3 := HX.out.co hp0 k
      have sm' := mul_el (a := co xs k) (b := px p t k) hp0
      have hco : xs.getD k 0 = co xs k := rfl
      rw [hco] at d1
      have k0 : (0 : Int) ≤ (k : Int) := Int.natCast_nonneg _
      have k1 : (k : Int) < (xs.length : Int) := by omega
      clear hco hcl hcell HX
      generalize co xs k = x at *
      generalize hs : lw p t xs k = s at *
      generalize hq : px p t k = q at *
      have sa := hide (fun W => rSum_any p s (mul p x q) W hp1 e1 sm')
      have sx := hide (fun W => rTimes_any p x q W hp1 e3 e2.1 (elWord e2 hp1).2)
      have st := hide (fun W => rTimes_any p q t W hp1 e2 t0 t1)
      rw [HS.out] at sa
      rw [HQ.out] at st
      clear e1 e2 e3 sm' hs hq HS HQ
      obtain ⟨s2, HS2⟩ : ∃ s2, Hid (lw p t xs (k + 1) = s2) := ⟨_, rfl⟩
      obtain ⟨q2, HQ2⟩ : ∃ q2, Hid (px p t (k + 1) = q2) := ⟨_, rfl⟩
      rw [HS2.out] at sa
      rw [HQ2.out] at st
      generalize mul p x q = z at *
      go_wp2_with fail
      go_quiet ((first
       | (go_at_call 43; exact Calls.quiet_of_same (hP.out _))
       | (go_at_call 66; exact Calls.quiet_of_same (sx.out _))
       | (go_at_call 65; exact Calls.quiet_of_same (sa.out _))))
      have hW2 := below_drewN hB nq
      clear hB d1
      go_wp2_with (first
       | (go_at_call 43; refine (hP.out _).mono ?_; rintro e w1 ⟨rfl, hw⟩; rw [hw]; clear hw)
       | (go_at_call 66; refine (st.out _).mono ?_; rintro e w1 ⟨rfl, hw⟩; rw [hw]; clear hw))
      go_roundw
      case rel => exact ⟨k + 1, by omega, by go_num, by rw [HS2.out], by rw [HQ2.out], hW2⟩
      case measure => simp [intOf]; omega
    · obtain rfl : k = xs.length := by omega
      clear hcell
      go_wp2
      go_ret2
      exact ⟨rfl, hB⟩
 · have ht : (er f xs [t] != 0) = true := bne_iff_ne.2 he
   rw [if_neg he]
   clear h1 he
   generalize er f xs [t] = e0 at *
   go_enter Tryz.func44, Tryz.ntmps44
   go_wp2_with (go_at_call 63; refine (hk.out _).mono ?_; rintro e w1 ⟨rfl, hw⟩; rw [hw]; clear hw)
   go_ret2
   exact ⟨rfl, alloc_below _ _⟩
end Go.Proofs.YtnapbdoalfbgnaaGreat
namespace Go.Proofs.YtnapbdoalfbgnaaGreat
def mute (s : Oper) : Oper := { s with op := .move (.const undef) }
def muteL : List Oper → List Oper
 | [] => []
 | [s] => [mute s]
 | o :: o2 :: r => o :: muteL (o2 :: r)
def lastL : List Oper → List Oper
 | [] => []
 | [s] => [s]
 | _ :: o2 :: r => lastL (o2 :: r)
theorem parted : ∀ (L : List Oper), L ≠ [] → ∃ l s, L = l ++ [s] ∧ muteL L = l ++ [mute s] ∧ L.dropLast = l ∧ lastL L = [s]
 | [], h => absurd rfl h
 | [s], _ => ⟨[], s, rfl, rfl, rfl, rfl⟩
 | o :: o2 :: r, _ => by
  obtain ⟨l, s, h1, h2, h3, h4⟩ := parted (o2 :: r) (List.cons_ne_nil _ _)
  refine ⟨o :: l, s, by rw [h1]; rfl, ?_, ?_, ?_⟩
  · show o :: muteL (o2 :: r) = _; rw [h2]; rfl
  · show o :: (o2 :: r).dropLast = _; rw [h3]
  · show lastL (o2 :: r) = _; rw [h4]
def backB (L : List Oper) : Bool := (List.range L.length).all fun i => (L[i]?.map fun o => o.after.all fun e => decide (e.on < i)).getD true
def coverB (s : Oper) (n : Nat) : Bool := s.dst.isNone && s.guard.isNone && (List.range n).all fun i => s.after.any fun e => Region.binds .any e && e.on == i
def lastB (L : List Oper) : Bool := !L.isEmpty && backB L && ((lastL L).all fun s => coverB s (L.length - 1))
section
variable {P : Program} {C : World → Prop}
theorem yielded_mute (l : List Oper) (s : Oper) (tmps : Array Value) : yielded (l ++ [mute s]).toArray tmps = yielded (l ++ [s]).toArray tmps := by
 funext j
 unfold yielded
 have : (((l ++ [mute s]).toArray)[j]?).bind (·.dst) = (((l ++ [s]).toArray)[j]?).bind (·.dst) := by
  simp only [List.getElem?_toArray]
  by_cases h : j < l.length
  · rw [List.getElem?_append_left h, List.getElem?_append_left h]
  · rw [List.getElem?_append_right (by omega), List.getElem?_append_right (by omega)]
    cases h2 : j - l.length with
    | zero => rfl
    | succ k => rfl
 rw [this]
theorem ready_mute (l : List Oper) (s : Oper) (listed : Array Bool) : Region.ready .any (l ++ [mute s]).toArray listed = Region.ready .any (l ++ [s]).toArray listed := by
 unfold Region.ready
 have hs : ((l ++ [mute s]).toArray).size = ((l ++ [s]).toArray).size := by simp
 rw [hs]
 apply List.filter_congr
 intro j _
 congr 1
 simp only [List.getElem?_toArray]
 by_cases h : j < l.length
 · rw [List.getElem?_append_left h, List.getElem?_append_left h]
 · rw [List.getElem?_append_right (by omega), List.getElem?_append_right (by omega)]
   cases h2 : j - l.length with
   | zero => rfl
   | succ k => rfl
theorem quiet_mute (ops : Array Oper) (Q : Act → Prop) (s : Oper) (hd : s.dst = none) (hg : s.guard = none) (a : Act) (h : Q a) : wpQuiet P ops C Q [mute s] a := by
 have hw : Region.wanted (mute s) (yielded ops a.tmps) = true := by
  have : (mute s).guard = none := hg
  simp [Region.wanted, this]
 show (if Region.wanted (mute s) (yielded ops a.tmps) = true then _ else _)
 rw [if_pos hw]
 refine ⟨undef, fun w hw => ?_, ?_⟩
 · unfold Oper.quietAt
   show Oper.quietUpon P C w undef ((execOp a.eval (mute s)).run P w)
   simp [mute, execOp, Oper.quietUpon, go_sem]
 · have : (mute s).dst = none := hd
   rw [this]
   show Q (a.put none undef)
   exact h
theorem wpQuiet_app (ops ops' : Array Oper) (Q : Act → Prop) (hy : ∀ t, yielded ops' t = yielded ops t) (m : List Oper) : ∀ (l : List Oper) (a : Act), wpQuiet P ops C (fun a' => wpQuiet P ops' C Q m a') l a → wpQuiet P ops' C Q (l ++ m) a
 | [], a, h => h
 | o :: l, a, h => by
  show (if Region.wanted o (yielded ops' a.tmps) = true then _ else _)
  rw [hy]
  unfold wpQuiet at h
  split
  · rename_i hw
    rw [if_pos hw] at h
    exact Oper.quiet_mono (fun a' h' => wpQuiet_app ops ops' Q hy m l a' h') h
  · rename_i hw
    rw [if_neg hw] at h
    exact wpQuiet_app ops ops' Q hy m l _ h
theorem some_ready {ops : List Oper} (hb : backB ops = true) {listed : Array Bool} (hl : listed.size = ops.length) : ∀ (j : Nat), j < ops.length → listed.getD j true = false → Region.ready .any ops.toArray listed ≠ [] := by
 intro j
 induction j using Nat.strongRecOn with
 | _ j ih =>
  intro hj hu he
  obtain ⟨o, ho⟩ : ∃ o, ops[j]? = some o := ⟨_, List.getElem?_eq_getElem hj⟩
  by_cases hall : ∀ e ∈ o.after, Region.binds .any e = true → listed.getD e.on false = true
  · have : j ∈ Region.ready .any ops.toArray listed := mem_ready.2 ⟨hu, o, by simpa using ho, hall⟩
    rw [he] at this; cases this
  · obtain ⟨e, h1⟩ := Classical.not_forall.1 hall
    obtain ⟨hm, h2⟩ := Classical.not_imp.1 h1
    obtain ⟨hbi, h3⟩ := Classical.not_imp.1 h2
    unfold backB at hb
    rw [List.all_eq_true] at hb
    have h4 := hb j (List.mem_range.2 hj)
    rw [ho] at h4
    simp only [Option.map_some, Option.getD_some] at h4
    have h5 := (Array.all_eq_true_iff_forall_mem.1 h4) e hm
    have hlt : e.on < j := by simpa using h5
    refine ih e.on hlt (by omega) ?_ he
    have hs : e.on < listed.size := by omega
    have : listed.getD e.on false = listed.getD e.on true := by simp [Array.getD, hs]
    rw [← this]; simpa using h3
theorem all_listed {l : List Oper} {s : Oper} {n : Nat} (hc : coverB s n = true) (hn : l.length = n) {listed : Array Bool} (hr : n ∈ Region.ready .any (l ++ [s]).toArray listed) : Region.ready .any (l ++ [s]).toArray (listed.setIfInBounds n true) = [] := by
 obtain ⟨hu, o, ho, hall⟩ := mem_ready.1 hr
 have hos : o = s := by
  simp only [List.getElem?_toArray] at ho
  rw [List.getElem?_append_right (by omega), hn, Nat.sub_self] at ho
  simpa using ho.symm
 subst hos
 cases he : Region.ready .any (l ++ [o]).toArray (listed.setIfInBounds n true) with
 | nil => rfl
 | cons j r =>
  exfalso
  have hj : j ∈ Region.ready .any (l ++ [o]).toArray (listed.setIfInBounds n true) := by rw [he]; exact List.mem_cons_self
  obtain ⟨hju, oj, hoj, _⟩ := mem_ready.1 hj
  have hjl : j < l.length + 1 := by
   apply Nat.lt_of_not_le; intro hcn
   simp only [List.getElem?_toArray] at hoj
   rw [List.getElem?_eq_none (by simp; omega)] at hoj; cases hoj
  by_cases hjn : j = n
  · subst hjn
    by_cases hsz : j < listed.size
    · simp [hsz] at hju
    · simp [hsz] at hju
  · have h1 : listed.getD j true = false := by rw [getD_set_ne true (fun h => hjn h.symm)] at hju; exact hju
    unfold coverB at hc
    simp only [Bool.and_eq_true] at hc
    have h2 := List.all_eq_true.1 hc.2 j (List.mem_range.2 (by omega))
    rw [Array.any_eq_true'] at h2
    obtain ⟨e, hem, heb⟩ := h2
    simp only [Bool.and_eq_true, beq_iff_eq] at heb
    have h3 := hall e hem heb.1
    rw [heb.2] at h3
    by_cases hsz : j < listed.size
    · have : listed.getD j false = listed.getD j true := by simp [Array.getD, hsz]
      rw [this, h1] at h3; cases h3
    · simp [Array.getD, hsz] at h3
theorem any_last {l : List Oper} {s : Oper} {n : Nat} (hn : l.length = n) (hb : backB (l ++ [s]) = true) (hc : coverB s n = true) {Q : Exit → Act → World → Prop} :
 ∀ (fuel : Nat) (listed : Array Bool) (a : Act) (w : World), C w → listed.size = n + 1 → listed.getD n true = false →
 wpAnyQ P .any (l ++ [mute s]).toArray C (fun a' => ∀ w', C w' → wpList P (l ++ [s]).toArray Q [s] a' w') fuel listed a → wpAny P .any (l ++ [s]).toArray Q fuel listed a w := by
 have hlen : (l ++ [s]).length = n + 1 := by simp [hn]
 intro fuel
 induction fuel with
 | zero =>
  intro listed a w hw hsz hu h
  have := h.1
  rw [ready_mute] at this
  exact absurd this (some_ready hb (by omega) n (by omega) hu)
 | succ fuel ih =>
  intro listed a w hw hsz hu h
  refine ⟨fun h0 => absurd h0 (some_ready hb (by omega) n (by omega) hu), fun i hi => ?_⟩
  have h1 := h.2 i (by rw [ready_mute]; exact hi)
  by_cases hin : i = n
  · subst hin
    have hempty := all_listed hc hn hi
    have hcc := hc
    unfold coverB at hcc
    simp only [Bool.and_eq_true, Option.isNone_iff_eq_none] at hcc
    have hls : ((l ++ [s]).toArray)[i]? = some s := by simp [← hn]
    have hlm : ((l ++ [mute s]).toArray)[i]? = some (mute s) := by simp [← hn]
    obtain ⟨v, hy, hK⟩ := yieldsIn_of_qOp hlm h1
    have hd : (mute s).dst = none := hcc.1.1
    rw [hd] at hK
    have hQ : ∀ w', C w' → wpList P (l ++ [s]).toArray Q [s] a w' := by
     have hK' : wpAnyQ P .any (l ++ [mute s]).toArray C (fun a' => ∀ w', C w' → wpList P (l ++ [s]).toArray Q [s] a' w') fuel (listed.setIfInBounds i true) a := hK
     cases fuel with
     | zero => exact hK'.2
     | succ fuel => exact hK'.1 (by rw [ready_mute]; exact hempty)
    have h2 := hQ w hw
    have hnext : ∀ a' w', Q .normal a' w' → wpAny P .any (l ++ [s]).toArray Q fuel (listed.setIfInBounds i true) a' w' := by
     intro a' w' hq
     cases fuel with
     | zero => exact ⟨hempty, hq⟩
     | succ fuel => exact ⟨fun _ => hq, fun j hj => by rw [hempty] at hj; cases hj⟩
    refine wpOp_mono hnext ?_
    unfold wpOp
    simp only [hls]
    exact h2
  · have hil : i < l.length := by
     obtain ⟨_, o, ho, _⟩ := mem_ready.1 hi
     apply Nat.lt_of_not_le; intro hcn
     simp only [List.getElem?_toArray] at ho
     rw [List.getElem?_eq_none (by simp; omega)] at ho; cases ho
    have h2 := wpOp_of_qOp (Q' := Q) (K' := wpAny P .any (l ++ [s]).toArray Q fuel (listed.setIfInBounds i true)) hw (fun a' w' hw' hk => ih _ a' w' hw' (by simpa using hsz) (by rw [getD_set_ne true hin]; exact hu) hk) h1
    have e1 : ((l ++ [mute s]).toArray)[i]? = ((l ++ [s]).toArray)[i]? := by
     simp only [List.getElem?_toArray]
     rw [List.getElem?_append_left hil, List.getElem?_append_left hil]
    unfold wpOp at h2 ⊢
    rw [e1] at h2
    simp only [yielded_mute] at h2
    exact h2
theorem wp_region_last {id : Nat} {Q : Exit → Act → World → Prop} {a : Act} {w : World} {L : List Oper} (hm : P.follows .mixedOrders = true) (hB : Region.lexB .any (muteL L).toArray = true) (hL : lastB L = true)
 (h : wpQuiet P L.toArray (fun w' => ∃ n, w' = w.drewN n) (fun a' => ∀ w', (∃ n, w' = w.drewN n) → wpList P L.toArray Q (lastL L) a' w') L.dropLast a) : (Code.region id L.toArray true).wp P Q a w := by
 unfold lastB at hL
 simp only [Bool.and_eq_true] at hL
 obtain ⟨⟨hne, hb⟩, hc⟩ := hL
 obtain ⟨l, s, rfl, h2, h3, h4⟩ := parted L (by intro h; rw [h] at hne; simp at hne)
 rw [h2] at hB
 rw [h3, h4] at h
 rw [h4] at hc
 have hc : coverB s l.length = true := by simpa using hc
 have hcc := hc
 unfold coverB at hcc
 simp only [Bool.and_eq_true, Option.isNone_iff_eq_none] at hcc
 have hq : wpQuiet P (l ++ [mute s]).toArray (fun w' => ∃ n, w' = w.drewN n) (fun a' => ∀ w', (∃ n, w' = w.drewN n) → wpList P (l ++ [s]).toArray Q [s] a' w') (l ++ [mute s]) a := by
  refine wpQuiet_app (l ++ [s]).toArray _ _ (fun t => yielded_mute l s t) [mute s] l a ?_
  have mono : ∀ (Q1 Q2 : Act → Prop), (∀ a, Q1 a → Q2 a) → ∀ (m : List Oper) (a : Act), wpQuiet P (l ++ [s]).toArray (fun w' => ∃ n, w' = w.drewN n) Q1 m a → wpQuiet P (l ++ [s]).toArray (fun w' => ∃ n, w' = w.drewN n) Q2 m a := by
   intro Q1 Q2 h12 m
   induction m with
   | nil => intro a h; exact h12 a h
   | cons o m ihm =>
    intro a h
    unfold wpQuiet at h ⊢
    split
    · rename_i hw; rw [if_pos hw] at h; exact Oper.quiet_mono ihm h
    · rename_i hw; rw [if_neg hw] at h; exact ihm _ h
  exact mono _ _ (fun a' h' => quiet_mute _ _ s hcc.1.1 hcc.1.2 a' h') l a h
 simp only [Region.lexB, Bool.and_eq_true] at hB
 have hlex := wpAnyQ_lex (C := fun w' => ∃ n, w' = w.drewN n) (md := .any) hB.1 (l ++ [mute s]) 0 (Array.replicate (l ++ [mute s]).toArray.size false) a (by simp) (by simpa using hB.2) hq
 refine wp_region_any hm ?_
 have e : ((l ++ [s]).toArray).size = (l ++ [mute s]).length := by simp
 have e2 : (l ++ [mute s]).toArray.size = (l ++ [mute s]).length := by simp
 rw [e]
 rw [e2] at hlex
 exact any_last rfl hb hc _ _ _ _ ⟨1, rfl⟩ (by simp) (by simp [Array.getD]) hlex
end
end Go.Proofs.YtnapbdoalfbgnaaGreat
namespace Go.Proofs.YtnapbdoalfbgnaaGreat
open Go.RowKit Fld
def rk (p : Int) (xs ys : List Int) (n j : Nat) : List Int := mk (xs.length + ys.length - 1) (fun i => rw' xs ys n j i % p)
theorem rk_len (p : Int) (xs ys : List Int) (n j : Nat) : (rk p xs ys n j).length = xs.length + ys.length - 1 := mk_len _ _
theorem els_rk {p : Int} (hp : 0 < p) (xs ys : List Int) (n j : Nat) : Els p (rk p xs ys n j) := els_mk_mod hp _ _
theorem rk_start (p : Int) (xs ys : List Int) (n : Nat) : rk p xs ys n 0 = pk p xs ys n := by unfold rk pk; congr 1; funext i; rw [rw_start]
theorem rk_end (p : Int) (xs ys : List Int) (n : Nat) : rk p xs ys n ys.length = pk p xs ys (n + 1) := by unfold rk pk; congr 1; funext i; rw [rw_end]
theorem rk_step {p : Int} {xs ys : List Int} {n j : Nat} (h : n + j < xs.length + ys.length - 1) : (rk p xs ys n j).set (n + j) (add p (co (rk p xs ys n j) (n + j)) (mul p (co xs n) (co ys j))) = rk p xs ys n (j + 1) := by
 apply ext_co (by rw [List.length_set, rk_len, rk_len])
 intro i hi
 rw [List.length_set, rk_len] at hi
 rw [co_set _ _ _ _ (by rw [rk_len]; exact h)]
 unfold rk
 rw [co_mk, co_mk, co_mk, if_pos hi, if_pos hi, if_pos h, rw_step]
 by_cases he : i = n + j
 · subst he
   rw [if_pos rfl, if_pos rfl]
   unfold add mul
   rw [Int.add_emod, Int.emod_emod_of_dvd _ (Int.dvd_refl p), Int.emod_emod_of_dvd _ (Int.dvd_refl p), ← Int.add_emod]
 · rw [if_neg he, if_neg he]
theorem store_step {w2 wr : World} {base g n cap k : Nat} {ys : List Int} {z : Int} {T : TypeId} (hO : wr.ownsRow base T 1 (.slice (some ⟨g, 0, none⟩) n cap) n (vals ys)) (hB : Below w2.heap.size w2 wr) (hg : w2.heap.size ≤ g) (nq : Nat) :
 ((wr.drewN nq).setCell ⟨g, k, none⟩ (.int .u64 z)).ownsRow base T 1 (.slice (some ⟨g, 0, none⟩) n cap) n (vals (ys.set k z)) ∧ Below w2.heap.size w2 ((wr.drewN nq).setCell ⟨g, k, none⟩ (.int .u64 z)) :=
 ⟨(spoil_step (own_below hO (below_drewN (Below.refl _ wr) nq)) (grown_refl _ _) (.inl rfl)).1, (below_drewN hB nq).setCell (p := ⟨g, k, none⟩) hg _⟩
theorem dMul_any (f : Int) (v1 v2 : Value) (xs ys : List Int) (w : World) (h1 : Rw w v1 xs) (h2 : Rw w v2 ys) : Gives 34 #[.int .u8 f, v1, v2] w (mulL f xs ys) (mulE f xs ys) := by
 have hk := hide (fun W (hb : Below w.heap.size w W) => rBad_any f _ _ xs ys W (h1.below hb) (h2.below hb))
 by_cases he : er f xs ys = 0
 · obtain ⟨p, wd, h, i1, i2, m1, m2⟩ := er_zero he
   obtain ⟨i0, hi0, hz0, hz1, hz2⟩ := info_parts u64_info
   rw [he] at hk
   have t1 := hide (fun W (hb : Below w.heap.size w W) => rTrim_any _ xs W (h1.below hb))
   have t2 := hide (fun W (hb : Below w.heap.size w W) => rTrim_any _ ys W (h2.below hb))
   have n1 := tr_len xs
   have n2 := tr_len ys
   have X1 := (els_of i1 h1.words).tr h.pos
   have X2 := (els_of i2 h2.words).tr h.pos
   have Y1 := tr_tr xs
   have Y2 := tr_tr ys
   have R1 := hide (fun W u n base (hO : World.ownsRow W base 42 1 u n (vals (tr xs))) => rw_of_own hO (by omega) (els_words X1 h.top))
   have R2 := hide (fun W u n base (hO : World.ownsRow W base 42 1 u n (vals (tr ys))) => rw_of_own hO (by omega) (els_words X2 h.top))
   have HME : Hid (mulE f xs ys = if 4096 < (tr xs).length + (tr ys).length - 1 then 4 else 0) := by show _ = _; unfold mulE; rw [if_pos he]
   have HML : Hid (mulL f xs ys = if mulE f xs ys = 0 then prd p (tr xs) (tr ys) else []) := by show _ = _; unfold mulL; rw [pOf_eq h]
   rw [HML.out, HME.out]
   clear h1 h2 he HME HML
   generalize tr xs = zs at *
   generalize tr ys = us at *
   by_cases ez : zs = []
   · subst ez
     have HG : Hid (prd p [] us = []) := by show _ = _; unfold prd; rw [if_pos (.inl rfl)]
     have hn : ¬ 4096 < ([] : List Int).length + us.length - 1 := by simp; omega
     rw [if_neg hn, if_pos rfl, HG.out]
     apply Gives.none
     clear hn HG
     go_enter Tryz.func34, Tryz.ntmps34
     go_wp2_with fail
     refine (hk.out _ (Below.refl _ _)).mono ?_; rintro e w1 ⟨rfl, hw⟩; rw [hw]; clear hw
     go_wp2_with fail
     refine (t1.out _ (Below.refl _ _)).mono ?_; rintro e w1 ⟨u1, rfl, hO1, hb1⟩
     obtain ⟨a1, c1, rfl, _⟩ := (R1.out _ _ _ _ hO1).spell
     go_wp2_with fail
     refine (t2.out _ hb1).mono ?_; rintro e w2 ⟨u2, rfl, hO2, hb2⟩
     obtain ⟨a2, c2, rfl, _⟩ := (R2.out _ _ _ _ hO2).spell
     clear hO1 hO2
     go_wp2
     go_ret2
     exact ⟨rfl, Below.next hb1 hb2⟩
   by_cases eu : us = []
   · subst eu
     have pz := List.length_pos_iff.2 ez
     have bz : ((zs.length : Int) == 0) = false := beq_eq_false_iff_ne.2 (by omega)
     have HG : Hid (prd p zs [] = []) := by show _ = _; unfold prd; rw [if_pos (.inr rfl)]
     have hn : ¬ 4096 < zs.length + ([] : List Int).length - 1 := by simp; omega
     rw [if_neg hn, if_pos rfl, HG.out]
     apply Gives.none
     clear hn HG ez
     go_enter Tryz.func34, Tryz.ntmps34
     go_wp2_with fail
     refine (hk.out _ (Below.refl _ _)).mono ?_; rintro e w1 ⟨rfl, hw⟩; rw [hw]; clear hw
     go_wp2_with fail
     refine (t1.out _ (Below.refl _ _)).mono ?_; rintro e w1 ⟨u1, rfl, hO1, hb1⟩
     obtain ⟨a1, c1, rfl, _⟩ := (R1.out _ _ _ _ hO1).spell
     go_wp2_with fail
     refine (t2.out _ hb1).mono ?_; rintro e w2 ⟨u2, rfl, hO2, hb2⟩
     obtain ⟨a2, c2, rfl, _⟩ := (R2.out _ _ _ _ hO2).spell
     clear hO1 hO2
     go_wp2
     go_ret2
     exact ⟨rfl, Below.next hb1 hb2⟩
   have pz := List.length_pos_iff.2 ez
   have pu := List.length_pos_iff.2 eu
   have bz : ((zs.length : Int) == 0) = false := beq_eq_false_iff_ne.2 (by omega)
   have bu : ((us.length : Int) == 0) = false := beq_eq_false_iff_ne.2 (by omega)
   by_cases hm : 4096 < zs.length + us.length - 1
   · rw [if_pos hm, if_neg (by decide)]
     apply Gives.none
     clear ez eu
     go_enter Tryz.func34, Tryz.ntmps34
     go_wp2_with fail
     refine (hk.out _ (Below.refl _ _)).mono ?_; rintro e w1 ⟨rfl, hw⟩; rw [hw]; clear hw
     go_wp2_with fail
     refine (t1.out _ (Below.refl _ _)).mono ?_; rintro e w1 ⟨u1, rfl, hO1, hb1⟩
     obtain ⟨a1, c1, rfl, _⟩ := (R1.out _ _ _ _ hO1).spell
     go_wp2_with fail
     refine (t2.out _ hb1).mono ?_; rintro e w2 ⟨u2, rfl, hO2, hb2⟩
     obtain ⟨a2, c2, rfl, _⟩ := (R2.out _ _ _ _ hO2).spell
     clear hO1 hO2
     go_wp2
     go_ret2
     exact ⟨rfl, Below.next hb1 hb2⟩
   rw [if_neg hm, if_pos rfl]
   obtain ⟨N, HN⟩ : ∃ N, Hid (N = zs.length + us.length - 1) := ⟨_, rfl⟩
   have hN1 : N + 1 = zs.length + us.length := by have := HN.out; omega
   have hN2 : N ≤ 4096 := by have := HN.out; omega
   have HAL := hide (pk_all (p := p) ez eu)
   have HZ := hide (pk_zero p zs us)
   rw [← HN.out] at HZ
   have HLen : Hid ((prd p zs us).length = N) := by show _ = _; rw [prd_len p zs us ez eu, HN.out]
   have HTR : Hid (tr (prd p zs us) = prd p zs us) := (is_prd h.md X1 X2 Y1 Y2).2.1
   have HST := hide (fun n => rk_start p zs us n)
   have HEN := hide (fun n => rk_end p zs us n)
   have HSP := hide (fun n j (h : n + j < N) => rk_step (p := p) (xs := zs) (ys := us) (n := n) (j := j) (by rw [← HN.out]; exact h))
   have hp0 := h.pos
   have hp1 := h.top
   have hP := hide (fun W => rP_yes f p wd W h)
   have HSum := hide (fun W n j => rSum_any p (co (rk p zs us n j) (n + j)) (mul p (co zs n) (co us j)) W h.top ((els_rk h.pos zs us n j).co h.pos _) (mul_el h.pos))
   have HTim := hide (fun W n j => rTimes_any p (co zs n) (co us j) W h.top (X1.co h.pos n) (X2.co h.pos j).1 (elWord (X2.co h.pos j) h.top).2)
   have HPW := hide (els_words (els_prd h.pos zs us) h.top)
   have HKL : Hid (∀ n j, (rk p zs us n j).length = N) := fun n j => by rw [rk_len]; exact HN.out.symm
   clear ez eu h X1 X2 Y1 Y2 i1 i2 HN
   show Calls _ _ _ _ _
   go_enter Tryz.func34, Tryz.ntmps34
   go_wp2_with fail
   refine (hk.out _ (Below.refl _ _)).mono ?_; rintro e w1 ⟨rfl, hw⟩; rw [hw]; clear hw
   go_wp2_with fail
   refine (t1.out _ (Below.refl _ _)).mono ?_; rintro e w1 ⟨u1, rfl, hO1, hb1⟩
   have r1 := R1.out _ _ _ _ hO1
   go_wp2_with fail
   refine (t2.out _ hb1).mono ?_; rintro e w2 ⟨u2, rfl, hO2, hb2⟩
   have r1 := r1.below hb2
   have r2 := R2.out _ _ _ _ hO2
   have hB2 := Below.next hb1 hb2
   clear hO1 hO2 hb1 hb2 t1 t2 hk R1 R2
   obtain ⟨⟨a1, c1, rfl, _, _, hc1⟩, _⟩ := r1
   obtain ⟨⟨a2, c2, rfl, _, _, hc2⟩, _⟩ := r2
   have hs2 := hB2.size
   go_wp2_with (at_make; refine wpList_make_full _ rfl _ _ 22 rfl w.heap.size 42 i0 (.int .u64 0) 1 Tryz.underlying22 hi0 hz0 hz1 .i64 .i64 _ _ N rfl rfl (by omega) (by omega) (by rw [hz2]; omega) (by unfold maxLen; omega) hs2 ?_; intro w3 hown hgrow; have hO := own_made hown; have hB3 := below_grown_none hgrow; have hG3 := hgrow.size; clear hown)
   rw [← HZ.out] at hO
   clear hgrow
   go_loopw [10] (fun vk wr => ∃ k : Nat, k ≤ zs.length ∧ vk = .int .i64 k ∧ wr.ownsRow w.heap.size 42 1 (.slice (some ⟨w2.heap.size, 0, none⟩) N N) N (vals (pk p zs us k)) ∧ Below w2.heap.size w2 wr) (fun vk _ => zs.length - (intOf vk).toNat)
   case atStart => exact ⟨0, Nat.zero_le _, rfl, hO, hB3⟩
   case round =>
    clear hO hB3
    obtain ⟨k, hk, rfl, hO, hB⟩ := hrel
    by_cases hlt : k < zs.length
    · obtain ⟨b1, o1, rfl, hbl1, hcl1⟩ := hc1 (by intro h; rw [h] at hlt; simp at hlt)
      obtain ⟨b2, o2, rfl, hbl2, hcl2⟩ := hc2 (by intro h; rw [h] at pu; simp at pu)
      rw [← HST.out k] at hO
      go_wp2_with fail
      go_loopw [11] (fun vj wr => ∃ j : Nat, j ≤ us.length ∧ vj = .int .i64 j ∧ wr.ownsRow w.heap.size 42 1 (.slice (some ⟨w2.heap.size, 0, none⟩) N N) N (vals (rk p zs us k j)) ∧ Below w2.heap.size w2 wr) (fun vj _ => us.length - (intOf vj).toNat)
      case atStart => exact ⟨0, Nat.zero_le _, rfl, hO, hB⟩
      case round =>
       clear hO hB
       obtain ⟨j, hj, rfl, hO, hB⟩ := hrel
       by_cases hlj : j < us.length
       · have d1 := (hB.cell (p := ⟨b1, o1 + k, none⟩) hbl1).trans (hcl1 k hlt)
         have d2 := (hB.cell (p := ⟨b2, o2 + j, none⟩) hbl2).trans (hcl2 j hlj)
         have hkj : k + j < N := by omega
         have d3 := own_cell hO (HKL.out k j) hkj
         have d4 := hO.frozenAt (k + j)
         have hs := hide (fun W => HSum.out W k j)
         have ht := hide (fun W => HTim.out W k j)
         have hp := hide (HSP.out k j hkj)
         have e1 : zs.getD k 0 = co zs k := rfl
         have e2 : us.getD j 0 = co us j := rfl
         have e3 : (rk p zs us k j).getD (k + j) 0 = co (rk p zs us k j) (k + j) := rfl
         rw [e1] at d1
         rw [e2] at d2
         rw [e3] at d3
         clear e1 e2 e3 hcl1 hcl2 hc1 hc2
         generalize hz : co (rk p zs us k j) (k + j) = z at *
         generalize co zs k = x at *
         generalize co us j = y at *
         generalize hq : mul p x y = q at *
         generalize hr : add p z q = r at *
         have k0 : (0 : Int) ≤ (k : Int) := Int.natCast_nonneg _
         have j0 : (0 : Int) ≤ (j : Int) := Int.natCast_nonneg _
         have k1 : (k : Int) < (zs.length : Int) := by omega
         have j1 : (j : Int) < (us.length : Int) := by omega
         have kj0 : (0 : Int) ≤ (k : Int) + (j : Int) := by omega
         have kj1 : (k : Int) + (j : Int) < (N : Int) := by omega
         clear hq hr hz HSum HTim HSP
         have HO := hide hO
         clear hO
         go_wp2_with fail
         refine wp_region_last (by kernel_rfl) (by kernel_rfl) (by kernel_rfl) ?_
         simp only [List.dropLast]
         repeat (go_big_quiet_step (first
          | (go_at_call 43; exact Calls.quiet_of_same (hP.out _))
          | (go_at_call 66; exact Calls.quiet_of_same (ht.out _))
          | (go_at_call 65; exact Calls.quiet_of_same (hs.out _))))
         refine wpQuiet_nil ?_
         intro _ hw'
         obtain ⟨nq, hw''⟩ := hw'
         subst hw''
         simp only [lastL]
         go_wp2
         have R := hide (store_step (z := r) (k := k + j) HO.out hB (Nat.le_refl _) nq)
         rw [hp.out] at R
         go_roundw
         case rel => exact ⟨j + 1, by omega, by go_num, R.out.1, R.out.2⟩
         case measure => simp [intOf]; omega
       · obtain rfl : j = us.length := by omega
         rw [HEN.out k] at hO
         clear hc1 hc2 hcl1 hcl2
         go_wp2
         go_roundw
         case rel => exact ⟨k + 1, by omega, by go_num, hO, hB⟩
         case measure => simp [intOf]; omega
    · obtain rfl : k = zs.length := by omega
      rw [HAL.out] at hO
      have ht := hide (rTrim_any _ _ _ (rw_of_own hO (by rw [HLen.out]; omega) HPW.out))
      rw [HTR.out] at ht
      clear hc1 hc2
      go_wp2_with (go_at_call 64; refine ht.out.mono ?_; rintro e w5 ⟨v', rfl, hO5, hb5⟩)
      go_ret2
      have hB5 := hB2.trans (hB.mono hs2)
      exact ⟨_, rfl, own_mono hO5 hB5.size, Below.next hB5 hb5⟩
 · have ht : (er f xs ys != 0) = true := bne_iff_ne.2 he
   have HE : Hid (mulE f xs ys = er f xs ys) := by show _ = _; unfold mulE; rw [if_neg he]
   have HL : Hid (mulL f xs ys = []) := by show _ = _; unfold mulL; rw [HE.out, if_neg he]
   rw [HE.out, HL.out]
   clear h1 h2 he HE HL
   generalize er f xs ys = e0 at *
   apply Gives.none
   go_enter Tryz.func34, Tryz.ntmps34
   go_wp2_with (go_at_call 63; refine (hk.out _ (Below.refl _ _)).mono ?_; rintro e w1 ⟨rfl, hw⟩; rw [hw]; clear hw)
   go_ret2
   exact ⟨rfl, Below.refl _ _⟩
end Go.Proofs.YtnapbdoalfbgnaaGreat
