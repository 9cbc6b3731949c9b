/- Texts laid together: PriA, PriB. -/
import Derived.Test.YtpbfgcepmbpkdaaGreatBShrA
import Derived.Test.YtpbfgcepmbpkdaaGreatBunHA
namespace Go.Proofs.YtpbfgcepmbpkdaaGreat.Shr
open Go.Proofs.YtpbfgcepmbpkdaaGreat.Fld
set_option linter.unusedVariables false

theorem co_left {a b : List Int} {i : Nat} (h : i < a.length) : co (a ++ b) i = co a i := by
  rw [co_at (by rw [List.length_append]; omega), co_at h, List.getElem_append_left h]
theorem co_right {a b : List Int} {i : Nat} (h : i < b.length) : co (a ++ b) (a.length + i) = co b i := by
  rw [co_at (by rw [List.length_append]; omega), co_at h, List.getElem_append_right (by omega)]
  congr 1; omega
theorem thr_app {p : Int} {a b ya yb T : List Int} (la : ya.length = a.length) (lb : yb.length = b.length) : Thr p (a ++ b) (ya ++ yb) T ↔ Tm p T ∧ T.length ≤ a.length + b.length ∧ (∀ i, i < a.length → vl p (co a i) T = co ya i) ∧ (∀ i, i < b.length → vl p (co b i) T = co yb i) := by
  unfold Thr
  rw [List.length_append]
  constructor
  · rintro ⟨h1, h2, h3⟩
    refine ⟨h1, h2, fun i hi => ?_, fun i hi => ?_⟩
    · have := h3 i (by omega)
      rwa [co_left hi, co_left (by omega)] at this
    · have := h3 (a.length + i) (by omega)
      rw [co_right hi, ← la, co_right (by omega)] at this
      exact this
  · rintro ⟨h1, h2, h3, h4⟩
    refine ⟨h1, h2, fun i hi => ?_⟩
    by_cases c : i < a.length
    · rw [co_left c, co_left (by omega)]; exact h3 i c
    · obtain ⟨k, rfl⟩ : ∃ k, i = a.length + k := ⟨i - a.length, by omega⟩
      have := h4 k (by omega)
      rw [co_right (by omega), ← la, co_right (by omega)]
      exact this
/-- The polynomial through the other data and the kept shares, at a place. -/
def twp (p : Int) (zs ts fx : List Int) (da pa ot : List (List Int)) (t : Nat) : List Int := tp p (zs ++ fx) (col ot t ++ fx.map (fun x => vl p x (py p (zs ++ ts) (da ++ pa) t))) (zs ++ fx).length
/-- The twin. -/
def twin (p : Int) (zs ts fx : List Int) (w : Nat) (da pa ot : List (List Int)) : List (List Int) := ts.map (fun z => mk w (fun t => vl p z (twp p zs ts fx da pa ot t)))
theorem twin_len (p : Int) (zs ts fx : List Int) (w : Nat) (da pa ot : List (List Int)) : (twin p zs ts fx w da pa ot).length = ts.length := List.length_map ..
theorem twin_at {p : Int} {zs ts fx : List Int} {w : Nat} {da pa ot : List (List Int)} {i : Nat} (h : i < (twin p zs ts fx w da pa ot).length) (hi : i < ts.length) : (twin p zs ts fx w da pa ot)[i] = mk w (fun t => vl p ts[i] (twp p zs ts fx da pa ot t)) := List.getElem_map ..
theorem twin_wide {p : Int} {zs ts fx : List Int} {w : Nat} {da pa ot : List (List Int)} : ∀ b ∈ twin p zs ts fx w da pa ot, b.length = w := fun b hb => by
  obtain ⟨z, _, rfl⟩ := List.mem_map.1 hb
  exact mk_len _ _
theorem twin_els {p : Int} (hp : 0 < p) {zs ts fx : List Int} {w : Nat} {da pa ot : List (List Int)} : ∀ b ∈ twin p zs ts fx w da pa ot, Els p b := fun b hb => by
  obtain ⟨z, _, rfl⟩ := List.mem_map.1 hb
  exact Els.mk _ (fun _ _ => vl_el hp _ _)
theorem els_app {p : Int} {a b : List Int} (ha : Els p a) (hb : Els p b) : Els p (a ++ b) := fun x hx => (List.mem_append.1 hx).elim (ha x) (hb x)
theorem bl_app {p : Int} {a b : List (List Int)} (ha : ∀ l ∈ a, Els p l) (hb : ∀ l ∈ b, Els p l) : ∀ l ∈ a ++ b, Els p l := fun x hx => (List.mem_append.1 hx).elim (ha x) (hb x)
/-- What the points are: of data, of pads, of workers; all unlike, as many pads as workers. -/
structure Pts (p : Int) (zs ts fx : List Int) : Prop where
  ez : Els p zs
  et : Els p ts
  ef : Els p fx
  n1 : (zs ++ ts).Nodup
  n2 : (zs ++ fx).Nodup
  len : fx.length = ts.length
theorem twp_thr {p : Int} {wd : Bool} (hm : Md p wd) {zs ts fx : List Int} (h : Pts p zs ts fx) {da pa ot : List (List Int)} (ho : ∀ l ∈ ot, Els p l) (lo : ot.length = zs.length) (t : Nat) : Tm p (twp p zs ts fx da pa ot t) ∧ (twp p zs ts fx da pa ot t).length ≤ zs.length + fx.length ∧ (∀ i, i < zs.length → vl p (co zs i) (twp p zs ts fx da pa ot t) = co (col ot t) i) ∧ (∀ i, i < fx.length → vl p (co fx i) (twp p zs ts fx da pa ot t) = vl p (co fx i) (py p (zs ++ ts) (da ++ pa) t)) := by
  have hp : 0 < p := by have := hm.bounds; omega
  have hf : Els p (fx.map (fun x => vl p x (py p (zs ++ ts) (da ++ pa) t))) := fun y hy => by
    obtain ⟨x, _, rfl⟩ := List.mem_map.1 hy
    exact vl_el hp _ _
  have := (thr_app (by rw [col_len, lo]) (List.length_map ..)).1 (tp_thr hm (els_app h.ez h.ef) (els_app (col_els hp ho t) hf) h.n2)
  refine ⟨this.1, this.2.1, this.2.2.1, fun i hi => ?_⟩
  have e := this.2.2.2 i hi
  rw [co_at (xs := fx.map _) (by rw [List.length_map]; exact hi), List.getElem_map, ← co_at hi] at e
  exact e
/-- The other data's polynomials with the twin. -/
theorem twin_py {p : Int} {wd : Bool} (hm : Md p wd) {zs ts fx : List Int} (h : Pts p zs ts fx) {w : Nat} {da pa ot : List (List Int)} (ho : ∀ l ∈ ot, Els p l) (lo : ot.length = zs.length) {t : Nat} (ht : t < w) : py p (zs ++ ts) (ot ++ twin p zs ts fx w da pa ot) t = twp p zs ts fx da pa ot t := by
  have hp : 0 < p := by have := hm.bounds; omega
  obtain ⟨a1, a2, a3, a4⟩ := twp_thr hm h (da := da) (pa := pa) ho lo t
  have hT := py_thr hm (els_app h.ez h.et) h.n1 (bl_app ho (twin_els hp (zs := zs) (ts := ts) (fx := fx) (w := w) (da := da) (pa := pa) (ot := ot))) t
  refine Thr.only hm (els_app h.ez h.et) h.n1 hT ?_
  rw [col_app]
  refine (thr_app (by rw [col_len, lo]) (by rw [col_len, twin_len])).2 ⟨a1, by rw [← h.len]; exact a2, a3, fun i hi => ?_⟩
  rw [col_at (by rw [twin_len]; exact hi)]
  rw [twin_at (by rw [twin_len]; exact hi) hi, co_mk, if_pos ht, co_at hi]
/-- The workers see the same. -/
theorem twin_same {p : Int} {wd : Bool} (hm : Md p wd) {zs ts fx : List Int} (h : Pts p zs ts fx) {w : Nat} {da pa ot : List (List Int)} (ho : ∀ l ∈ ot, Els p l) (lo : ot.length = zs.length) {x : Int} (hx : x ∈ fx) : shr p (zs ++ ts) w (ot ++ twin p zs ts fx w da pa ot) x = shr p (zs ++ ts) w (da ++ pa) x := by
  refine ext_co (by rw [shr_len, shr_len]) (fun t ht => ?_)
  rw [shr_len] at ht
  rw [shr_at ht, shr_at ht, twin_py hm h ho lo ht]
  obtain ⟨i, hi, rfl⟩ := List.mem_iff_getElem.1 hx
  have := (twp_thr hm h (da := da) (pa := pa) ho lo t).2.2.2 i hi
  rwa [co_at hi] at this
end Go.Proofs.YtpbfgcepmbpkdaaGreat.Shr

namespace Go.Proofs.YtpbfgcepmbpkdaaGreat
open Go.RowKit Fld Pln Shr
set_option linter.unusedVariables false
set_option linter.unusedSimpArgs false

/-- Unlike elements that lie all in a list are not more than it has. -/
theorem sub_len : ∀ (l m : List Int), l.Nodup → (∀ x ∈ l, x ∈ m) → l.length ≤ m.length
  | [], _, _, _ => Nat.zero_le _
  | x :: l, m, hn, hs => by
    obtain ⟨h1, h2⟩ := List.nodup_cons.1 hn
    have hx := hs x (List.mem_cons_self ..)
    have h3 := List.length_erase_of_mem hx
    have h4 := List.length_pos_of_mem hx
    have := sub_len l (m.erase x) h2 (fun y hy => (List.mem_erase_of_ne (fun e : y = x => h1 (e ▸ hy))).2 (hs y (List.mem_cons_of_mem _ hy)))
    rw [List.length_cons]; omega

/-- Which error workers have, with what is wrong already. -/
def pwE (p : Pn) (who : List Int) (e : Int) : Int := if e ≠ 2 ∧ whoB p.n who = true then (if e = 0 then (if (who.length : Int) ≤ p.t then (if who.Nodup then 0 else 6) else 3) else e) else 2
/-- Which error data, pads and other data have. -/
def otE (p : Pn) (dl pl ol : List (List Int)) : Int := if bkE p dl pl [] = 0 ∨ bkE p ol pl [] = 2 then bkE p ol pl [] else bkE p dl pl []
def twE (p : Pn) (who : List Int) (dl pl ol : List (List Int)) : Int := pwE p who (otE p dl pl ol)
def seE (p : Pn) (who : List Int) (dl pl : List (List Int)) : Int := pwE p who (bkE p dl pl [])
def wyE (p : Pn) (who : List Int) : Int := pwE p who (if mayP p then 0 else 2)
/-- The workers that are not named, of the first so many numbers. -/
def oth (who : List Int) (i : Nat) : List Int := (pts 0 i).filter (fun x => !who.contains x)
theorem oth_zero (who : List Int) : oth who 0 = [] := rfl
theorem oth_yes {who : List Int} {i : Nat} (h : who.contains (i : Int) = true) : oth who (i + 1) = oth who i := by
  unfold oth
  rw [pts_succ, List.filter_append, Int.zero_add, List.filter_cons_of_neg (by rw [h]; simp), List.filter_nil, List.append_nil]
theorem oth_no {who : List Int} {i : Nat} (h : who.contains (i : Int) = false) : oth who (i + 1) = oth who i ++ [(i : Int)] := by
  unfold oth
  rw [pts_succ, List.filter_append, Int.zero_add, List.filter_cons_of_pos (by rw [h]; rfl), List.filter_nil]
theorem oth_mem {who : List Int} {i : Nat} {x : Int} (h : x ∈ oth who i) : (0 ≤ x ∧ x < i) ∧ x ∉ who := by
  unfold oth at h
  obtain ⟨h1, h2⟩ := List.mem_filter.1 h
  have := pts_mem.1 h1
  refine ⟨by omega, fun hc => ?_⟩
  rw [List.contains_iff_mem.2 hc] at h2
  cases h2
theorem oth_nodup (who : List Int) (i : Nat) : (oth who i).Nodup := (pts_nodup 0 i).filter _
/-- Enough of them are not named. -/
theorem oth_len (who : List Int) (i : Nat) : i ≤ (oth who i).length + who.length := by
  have h1 : ((pts 0 i).filter (fun x => who.contains x)).length ≤ who.length := sub_len _ _ ((pts_nodup 0 i).filter _) (fun x hx => List.contains_iff_mem.1 (List.mem_filter.1 hx).2)
  have h2 : ∀ l : List Int, l.length = (l.filter (fun x => who.contains x)).length + (l.filter (fun x => !who.contains x)).length := fun l => by
    induction l with
    | nil => rfl
    | cons x l ih =>
      cases h : who.contains x
      · rw [List.filter_cons_of_neg (by rw [h]; simp), List.filter_cons_of_pos (by rw [h]; rfl), List.length_cons, List.length_cons]; omega
      · rw [List.filter_cons_of_pos (p := fun x => who.contains x) h, List.filter_cons_of_neg (by rw [h]; simp), List.length_cons, List.length_cons]; omega
  have h3 := h2 (pts 0 i)
  rw [pts_len] at h3
  unfold oth
  omega
theorem oth_pre (who : List Int) (i k : Nat) : ∃ l, oth who (i + k) = oth who i ++ l := by
  unfold oth
  exact ⟨_, by rw [pts_add, List.filter_append]⟩
/-- The numbers of T workers: those that are named, and the first others. -/
def fxN (who : List Int) (t : Nat) : List Int := who ++ (oth who t).take (t - who.length)
/-- Where the loop ends. -/
theorem fx_end {who : List Int} {t i : Nat} (h : who.length + (oth who i).length = t) (hi : i ≤ t) : who ++ oth who i = fxN who t := by
  obtain ⟨k, rfl⟩ : ∃ k, t = i + k := ⟨t - i, by omega⟩
  obtain ⟨l, hl⟩ := oth_pre who i k
  unfold fxN
  rw [hl, List.take_append_of_le_length (by omega), List.take_of_length_le (by omega)]
theorem fx_more {who : List Int} {t i : Nat} (h : who.length + (oth who i).length < t) : i < t := by
  have := oth_len who i; omega
theorem fxN_len {who : List Int} {t : Nat} (h : who.length ≤ t) : (fxN who t).length = t := by
  have := oth_len who t
  unfold fxN
  rw [List.length_append, List.length_take]; omega
theorem fxN_nodup {who : List Int} (hn : who.Nodup) (t : Nat) : (fxN who t).Nodup := by
  unfold fxN
  refine List.nodup_append.2 ⟨hn, (oth_nodup who t).sublist (List.take_sublist ..), fun a ha b hb e => ?_⟩
  exact (oth_mem (List.mem_of_mem_take hb)).2 (e ▸ ha)
theorem fxN_mem {who : List Int} {n : Int} (hw : ∀ x ∈ who, 0 ≤ x ∧ x < n) {t : Nat} {x : Int} (h : x ∈ fxN who t) : 0 ≤ x ∧ (x < n ∨ x < t) := by
  unfold fxN at h
  rcases List.mem_append.1 h with h | h
  · have := hw x h; omega
  · have := (oth_mem (List.mem_of_mem_take h)).1; omega
/-- The points of T workers. -/
def fxL (p : Pn) (who : List Int) : List Int := (fxN who p.t.toNat).map (fun x => p.k + p.t + x)
/-- What is answered. -/
def twL (p : Pn) (who : List Int) (dl pl ol : List (List Int)) : List (List Int) := if twE p who dl pl ol = 0 then twin (pOf p.f) (pts 0 p.k.toNat) (pts p.k p.t.toNat) (fxL p who) p.w.toNat dl pl ol else []
def seL (p : Pn) (who : List Int) (dl pl : List (List Int)) : List (List Int) := if seE p who dl pl = 0 then who.map (fun i => (allL p dl pl).getD i.toNat []) else []
def wyV (p : Pn) (who : List Int) : Int := if wyE p who = 0 then p.w * (p.t - who.length) else 0

theorem pw_zero {p : Pn} {who : List Int} {e : Int} : pwE p who e = 0 ↔ e = 0 ∧ (∀ x ∈ who, 0 ≤ x ∧ x < p.n) ∧ (who.length : Int) ≤ p.t ∧ who.Nodup := by
  unfold pwE
  constructor
  · intro h
    split at h
    · rename_i h1
      split at h
      · rename_i h2
        split at h
        · rename_i h3
          split at h
          · rename_i h4; exact ⟨h2, whoB_iff.1 h1.2, h3, h4⟩
          · cases h
        · cases h
      · rename_i h2; exact absurd h h2
    · cases h
  · rintro ⟨rfl, h1, h2, h3⟩
    rw [if_pos ⟨by decide, whoB_iff.2 h1⟩, if_pos rfl, if_pos h2, if_pos h3]
theorem ot_zero {p : Pn} {dl pl ol : List (List Int)} : otE p dl pl ol = 0 ↔ bkE p dl pl [] = 0 ∧ bkE p ol pl [] = 0 := by
  unfold otE
  constructor
  · intro h
    split at h
    · rename_i h1
      refine ⟨?_, h⟩
      rcases h1 with h1 | h1
      · exact h1
      · rw [h] at h1; cases h1
    · rename_i h1; exact absurd (Or.inl h) h1
  · rintro ⟨h1, h2⟩
    rw [if_pos (Or.inl h1)]; exact h2
theorem tw_zero {p : Pn} {who : List Int} {dl pl ol : List (List Int)} : twE p who dl pl ol = 0 ↔ (bkE p dl pl [] = 0 ∧ bkE p ol pl [] = 0) ∧ (∀ x ∈ who, 0 ≤ x ∧ x < p.n) ∧ (who.length : Int) ≤ p.t ∧ who.Nodup := by
  unfold twE; rw [pw_zero, ot_zero]
theorem se_zero {p : Pn} {who : List Int} {dl pl : List (List Int)} : seE p who dl pl = 0 ↔ bkE p dl pl [] = 0 ∧ (∀ x ∈ who, 0 ≤ x ∧ x < p.n) ∧ (who.length : Int) ≤ p.t ∧ who.Nodup := by
  unfold seE; rw [pw_zero]
/-- The points. -/
theorem fx_pts {p : Pn} {who : List Int} (hm : mayP p = true) {q : Int} {wd : Bool} (hf : Fi p.f q wd) (hw : ∀ x ∈ who, 0 ≤ x ∧ x < p.n) (hl : (who.length : Int) ≤ p.t) (hn : who.Nodup) : Pts q (pts 0 p.k.toNat) (pts p.k p.t.toNat) (fxL p who) := by
  obtain ⟨⟨n0, n1⟩, ⟨k0, k1⟩, ⟨t0, t1⟩, _⟩ := may_facts hm
  have hx : ∀ x ∈ fxL p who, p.k + p.t ≤ x ∧ x < 200 := fun x hx => by
    obtain ⟨y, hy, rfl⟩ := List.mem_map.1 hx
    have := fxN_mem hw hy; omega
  refine ⟨pts_els hf (by omega) (by omega), pts_els hf (by omega) (by omega), fun x h => pts_els hf (a := 0) (n := 200) (by omega) (by omega) x (pts_mem.2 (by have := hx x h; omega)), by rw [inn_app hm]; exact (inn_facts hm hf).2.1, ?_, by unfold fxL; rw [List.length_map, fxN_len (by omega), pts_len]⟩
  refine List.nodup_append.2 ⟨pts_nodup _ _, ?_, fun a ha b hb e => ?_⟩
  · unfold fxL List.Nodup
    rw [List.pairwise_map]
    exact List.Pairwise.imp (fun {a b} h e => h (by omega)) (fxN_nodup hn _)
  · have := pts_mem.1 ha; have := hx b hb; omega

end Go.Proofs.YtpbfgcepmbpkdaaGreat

