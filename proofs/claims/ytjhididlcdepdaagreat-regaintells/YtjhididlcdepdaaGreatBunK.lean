import Derived.Test.YtjhididlcdepdaaGreatBEvlB
import Derived.Test.YtjhididlcdepdaaGreatBMemB
set_option linter.unusedVariables false
set_option linter.unusedSimpArgs false
set_option maxRecDepth 100000
set_option maxHeartbeats 4000000
namespace Go.Proofs.YtjhididlcdepdaaGreat
open Go.RowKit Fld Slp
def ahd (d e : Int) : Int := if d = 0 ∨ (e ≠ 0 ∧ e < d) then e else d
theorem ahd_fold : ∀ (es : List Int) (d : Int), (∀ e ∈ es, e = 0 ∨ e = 2 ∨ e = 3) -> (d = 0 ∨ d = 2 ∨ d = 3 ∨ d = 4) -> es.foldl ahd d = if d = 2 ∨ 2 ∈ es then 2 else if d = 3 ∨ 3 ∈ es then 3 else d
 | [], d, _, hd => by
  rcases hd with rfl | rfl | rfl | rfl <;> simp
 | e :: es, d, he, hd => by
  have h0 := he e (by simp)
  rw [List.foldl_cons, ahd_fold es (ahd d e) (fun x hx => he x (List.mem_cons_of_mem _ hx)) (by unfold ahd; split <;> omega)]
  by_cases h2 : (2 : Int) ∈ es
  · simp [h2]
  · by_cases h3 : (3 : Int) ∈ es
    · rcases hd with rfl | rfl | rfl | rfl <;> rcases h0 with rfl | rfl | rfl <;> simp [ahd, h2, h3]
    · rcases hd with rfl | rfl | rfl | rfl <;> rcases h0 with rfl | rfl | rfl <;> simp [ahd, h2, h3]
def erK (f : Int) (q : Pr) (e0 : Int) (xss : List (List Int)) (k : Nat) : Int := ((xss.take k).map (rwE f q)).foldl ahd e0
theorem erK_next (f : Int) (q : Pr) (e0 : Int) {xss : List (List Int)} {k : Nat} (h : k < xss.length) : erK f q e0 xss (k + 1) = ahd (erK f q e0 xss k) (rwE f q (xss.getD k [])) := by
 unfold erK
 rw [List.take_succ_eq_append_getElem h, List.map_append, List.foldl_append, List.getD_eq_getElem?_getD, List.getElem?_eq_getElem h]; rfl
def maR (f : Int) (q : Pr) (xss : List (List Int)) : Int := if 2 ∈ xss.map (rwE f q) then 2 else if 3 ∈ xss.map (rwE f q) then 3 else 0
def maE (f : Int) (q : Pr) (xss : List (List Int)) : Int := if (mayB q && inF f []) = true then (if maR f q xss = 0 then (if 4096 < xss.length then 4 else 0) else maR f q xss) else 2
def maL (f : Int) (q : Pr) (xss : List (List Int)) : List (List Int) := if maE f q xss = 0 then xss.map (rnO (Rf f) q) else []
theorem es_in (f : Int) (q : Pr) (xss : List (List Int)) : ∀ e ∈ xss.map (rwE f q), e = 0 ∨ e = 2 ∨ e = 3 := fun e he => by
 obtain ⟨xs, _, rfl⟩ := List.mem_map.1 he
 exact rwE_one f q xs
theorem erK_all (f : Int) (q : Pr) (e0 : Int) (xss : List (List Int)) : erK f q e0 xss xss.length = (xss.map (rwE f q)).foldl ahd e0 := by unfold erK; rw [List.take_length]
theorem erK_doc (f : Int) (q : Pr) (xss : List (List Int)) (hg : (mayB q && inF f []) = true) : erK f q 0 xss xss.length = maR f q xss := by
 rw [erK_all, ahd_fold _ _ (es_in f q xss) (by simp)]
 unfold maR
 by_cases h2 : (2 : Int) ∈ xss.map (rwE f q)
 · rw [if_pos (.inr h2), if_pos h2]
 · by_cases h3 : (3 : Int) ∈ xss.map (rwE f q)
   · rw [if_neg (by simp [h2]), if_pos (.inr h3), if_neg h2, if_pos h3]
   · rw [if_neg (by simp [h2]), if_neg (by simp [h3]), if_neg h2, if_neg h3]
theorem erK_two (f : Int) (q : Pr) (xss : List (List Int)) (k : Nat) : erK f q 2 xss k = 2 := by
 unfold erK
 rw [ahd_fold _ _ (fun e he => by obtain ⟨xs, _, rfl⟩ := List.mem_map.1 he; exact rwE_one f q xs) (by simp), if_pos (.inl rfl)]
theorem maE_zero {f : Int} {q : Pr} {xss : List (List Int)} (h : maE f q xss = 0) : mayB q = true ∧ xss.length <= 4096 ∧ ∀ xs ∈ xss, rwE f q xs = 0 := by
 unfold maE at h
 split at h
 · rename_i hg
   rw [Bool.and_eq_true] at hg
   split at h
   · rename_i hr
     split at h
     · cases h
     · refine ⟨hg.1, by omega, fun xs hx => ?_⟩
       have hm : rwE f q xs ∈ xss.map (rwE f q) := List.mem_map.2 ⟨xs, hx, rfl⟩
       unfold maR at hr
       rcases rwE_one f q xs with h0 | h0 | h0
       · exact h0
       · rw [h0] at hm; rw [if_pos hm] at hr; cases hr
       · rw [h0] at hm
         split at hr
         · cases hr
         · first | (rw [if_pos hm] at hr; cases hr) | cases hr
   · rename_i hr; exact absurd h hr
 · cases h
def grK (xss : List (List Int)) (k : Nat) : Int := (xss.take k).foldl (fun m xs => max m (((tr xs).length : Int) - 1)) (-1)
def topK (xss : List (List Int)) (k : Nat) : Nat := (xss.take k).foldl (fun m xs => max m ((tr xs).length - 1)) 0
def top (xss : List (List Int)) : Nat := topK xss xss.length
theorem grK_next {xss : List (List Int)} {k : Nat} (h : k < xss.length) : grK xss (k + 1) = max (grK xss k) (((tr (xss.getD k [])).length : Int) - 1) := by
 unfold grK
 rw [List.take_succ_eq_append_getElem h, List.foldl_append, List.getD_eq_getElem?_getD, List.getElem?_eq_getElem h]; rfl
theorem topK_next {xss : List (List Int)} {k : Nat} (h : k < xss.length) : topK xss (k + 1) = max (topK xss k) ((tr (xss.getD k [])).length - 1) := by
 unfold topK
 rw [List.take_succ_eq_append_getElem h, List.foldl_append, List.getD_eq_getElem?_getD, List.getElem?_eq_getElem h]; rfl
theorem gr_top (xss : List (List Int)) : ∀ k, k <= xss.length -> (topK xss k : Int) = max (grK xss k) 0 ∧ -1 <= grK xss k
 | 0, _ => ⟨by show (0 : Int) = max (-1) 0; decide, by show (-1 : Int) <= -1; decide⟩
 | k + 1, h => by
  obtain ⟨h1, h2⟩ := gr_top xss k (by omega)
  rw [grK_next (by omega), topK_next (by omega)]
  omega
theorem gr_le (xss : List (List Int)) (B : Int) (hB : -1 <= B) : ∀ k, k <= xss.length -> (∀ i, i < k -> ((tr (xss.getD i [])).length : Int) - 1 <= B) -> grK xss k <= B
 | 0, _, _ => by simpa [grK] using hB
 | k + 1, h, hi => by
  have h1 := gr_le xss B hB k (by omega) (fun i hi' => hi i (by omega))
  have h2 := hi k (by omega)
  rw [grK_next (by omega)]; omega
theorem top_ge (xss : List (List Int)) : ∀ k, k <= xss.length -> ∀ i, i < k -> (tr (xss.getD i [])).length - 1 <= topK xss k
 | 0, _, i, h => by omega
 | k + 1, hk, i, h => by
  rw [topK_next (by omega)]
  by_cases e : i = k
  · subst e; omega
  · have := top_ge xss k (by omega) i (by omega); omega
def lgB (xss : List (List Int)) : Bool := xss.any (fun xs => decide (4096 < xs.length))
def cpE (f : Int) (q : Pr) (xss : List (List Int)) : Int := if xss.all (inF f) = true then (if (xss.length : Int) = q.inp then (if lgB xss = true then 4 else if ofE q = 0 then (if 4096 <= ofV q * (top xss : Int) then 4 else 0) else ofE q) else 3) else 2
def coE (f : Int) (q : Pr) (xss : List (List Int)) : Int := if (mayB q && inF f []) = true then cpE f q xss else 2
def coL (f : Int) (q : Pr) (xss : List (List Int)) : List (List Int) := if coE f q xss = 0 then rnO (Rt f) (trP q) (xss.map tr) else []
theorem of_le {q : Pr} (h : ofE q = 0) : 0 <= ofV q ∧ ofV q <= 1024 ∧ ofV q = (dgO q : Int) := by
 unfold ofV
 rw [if_pos h]
 have h1 := cpO_cap q
 unfold ofE at h
 split at h
 · split at h
   · cases h
   · rename_i hc
     have : cpO q <= 1025 := by rw [h1]; unfold cap9; omega
     unfold cap9 at h1
     omega
 · cases h
theorem lg_no {xss : List (List Int)} (h : lgB xss = false) : ∀ xs ∈ xss, xs.length <= 4096 := fun xs hx => by
 unfold lgB at h
 have := List.any_eq_false.1 h xs hx
 simp at this
 exact this
theorem lg_all {xss : List (List Int)} (h : ∀ i, i < xss.length -> (xss.getD i []).length <= 4096) : lgB xss = false := by
 unfold lgB
 rw [List.any_eq_false]
 intro xs hx
 obtain ⟨i, hi, rfl⟩ := List.mem_iff_getElem.1 hx
 have := h i hi
 rw [List.getD_eq_getElem?_getD, List.getElem?_eq_getElem hi] at this
 simpa using this
theorem cpE_zero {f : Int} {q : Pr} {xss : List (List Int)} (hm : mayB q = true) (h : cpE f q xss = 0) : xss.all (inF f) = true ∧ (xss.length : Int) = q.inp ∧ (∀ xs ∈ xss, xs.length <= 4096) ∧ ofE q = 0 ∧ dgO q * top xss <= 4095 := by
 unfold cpE at h
 split at h
 · rename_i h1
   split at h
   · rename_i h2
     split at h
     · cases h
     · rename_i h3
       have h3' : lgB xss = false := by simpa using h3
       split at h
       · rename_i h4
         split at h
         · cases h
         · rename_i h5
           refine ⟨h1, h2, lg_no h3', h4, ?_⟩
           have := (of_le h4).2.2
           rw [this] at h5
           have h6 : ((dgO q * top xss : Nat) : Int) < 4096 := by rw [Int.natCast_mul]; omega
           omega
       · rename_i h4; exact absurd h h4
   · cases h
 · cases h
theorem ev_lenF {t : Int} {xs : List Int} {N : Nat} (h : xs.length <= N) : ev t N (co xs) = ev t xs.length (co xs) := by
 obtain ⟨m, rfl⟩ : ∃ m, N = xs.length + m := ⟨N - xs.length, by omega⟩
 exact ev_more t xs.length m (co xs) (fun i hi => co_out _ _ hi)
theorem vlF_tr (p t : Int) (xs : List Int) : vl p t (tr xs) = vl p t xs := by
 unfold vl
 rw [<- ev_lenF (t := t) (tr_len xs)]
 congr 1
 exact ev_congr t xs.length (fun i _ => co_tr xs i)
theorem vlF_add {p t : Int} {xs ys zs : List Int} (h : Is p zs (fun i => co xs i + co ys i)) : vl p t zs = add p (vl p t xs) (vl p t ys) := by
 rw [vl_is (N := max xs.length ys.length) h.2.2 (fun i hi => by show co xs i + co ys i = 0; rw [co_out xs i (by omega), co_out ys i (by omega)]; rfl)]
 rw [ev_add t _ (co xs) (co ys), ev_lenF (xs := xs) (N := max xs.length ys.length) (by omega), ev_lenF (xs := ys) (N := max xs.length ys.length) (by omega)]
 unfold add vl
 rw [Int.add_emod]
theorem vlF_sub {p t : Int} {xs ys zs : List Int} (h : Is p zs (fun i => co xs i - co ys i)) : vl p t zs = sub p (vl p t xs) (vl p t ys) := by
 rw [vl_is (N := max xs.length ys.length) h.2.2 (fun i hi => by show co xs i - co ys i = 0; rw [co_out xs i (by omega), co_out ys i (by omega)]; rfl)]
 have e : ev t (max xs.length ys.length) (fun i => co xs i - co ys i) = ev t (max xs.length ys.length) (co xs) - ev t (max xs.length ys.length) (co ys) := by
  have h1 := ev_add t (max xs.length ys.length) (co xs) (fun i => (-1) * co ys i)
  rw [ev_smul] at h1
  rw [ev_congr t _ (g := fun i => co xs i + (-1) * co ys i) (fun i _ => by omega), h1]
  omega
 rw [e, ev_lenF (xs := xs) (N := max xs.length ys.length) (by omega), ev_lenF (xs := ys) (N := max xs.length ys.length) (by omega)]
 unfold sub vl
 rw [Int.sub_emod]
theorem vlF_mul {p t : Int} {xs ys zs : List Int} (h : Is p zs (cv (co xs) (co ys))) : vl p t zs = mul p (vl p t xs) (vl p t ys) := by
 rw [vl_is (N := xs.length + ys.length) h.2.2 (fun i hi => cv_end (m := xs.length) (n := ys.length) i (fun j hj => co_out _ _ hj) (fun j hj => co_out _ _ hj) (by omega))]
 rw [ev_mul t (co ys) ys.length (fun i hi => co_out _ _ hi) xs.length (co xs) (fun i hi => co_out _ _ hi)]
 unfold mul vl
 rw [Int.mul_emod]
theorem vlF_one (p t c : Int) : vl p t (tr [c % p]) = c % p := by
 rw [vlF_tr]
 unfold vl
 have : ev t [c % p].length (co [c % p]) = c % p := by
  show co [c % p] 0 + t * 0 = _
  rw [Int.mul_zero, Int.add_zero]; rfl
 rw [this, Int.emod_emod_of_dvd _ (Int.dvd_refl p)]
def Tq (p : Int) (x : List Int) : Prop := Els p x ∧ tr x = x
theorem tq_add {p : Int} (hp : 0 < p) (x y : List Int) : Tq p (tr (sm p 1 x y)) ∧ (tr (sm p 1 x y)).length - 1 <= max (x.length - 1) (y.length - 1) := by
 have h := is_add hp x y
 refine ⟨⟨h.1, h.2.1⟩, ?_⟩
 have := tr_len (sm p 1 x y)
 rw [sm_len] at this
 omega
theorem tq_sub {p : Int} (hp : 0 < p) (x y : List Int) : Tq p (tr (sm p (sub p 0 1) x y)) ∧ (tr (sm p (sub p 0 1) x y)).length - 1 <= max (x.length - 1) (y.length - 1) := by
 have h := is_sub hp x y
 refine ⟨⟨h.1, h.2.1⟩, ?_⟩
 have := tr_len (sm p (sub p 0 1) x y)
 rw [sm_len] at this
 omega
theorem tq_mul {p : Int} {wd : Bool} (hm : Md p wd) (hp : 0 < p) {x y : List Int} (hx : Tq p x) (hy : Tq p y) : Tq p (prd p (tr x) (tr y)) ∧ (prd p (tr x) (tr y)).length - 1 <= (x.length - 1) + (y.length - 1) := by
 rw [hx.2, hy.2]
 have h := is_prd hm hx.1 hy.1 hx.2 hy.2
 refine ⟨⟨h.1, h.2.1⟩, ?_⟩
 by_cases h1 : x = []
 · unfold prd; rw [if_pos (.inl h1)]; simp
 · by_cases h2 : y = []
   · unfold prd; rw [if_pos (.inr h2)]; simp
   · rw [prd_len p x y h1 h2]
     have := List.length_pos_iff.2 h1
     have := List.length_pos_iff.2 h2
     omega
theorem out_vl {f p : Int} {wd : Bool} (h : Fi f p wd) (t : Int) (q : Pr) (xss : List (List Int)) (hx : ∀ x ∈ xss, Tq p x) : (rnO (Ru f) q xss).map (vl p t) = rnO (Rf f) q (xss.map (vl p t)) := by
 have hp := h.pos
 refine rn_out (Ru f) (Rf f) (Tq p) (vl p t) ⟨els_nil p, rfl⟩ (fun x y hx hy => ?_) (fun x y hx hy => ?_) (fun x y hx hy => ?_) (fun c => ?_) ?_ q xss hx
 · show Tq p (tr (sm (pOf f) 1 x y)) ∧ vl p t (tr (sm (pOf f) 1 x y)) = add (pOf f) (vl p t x) (vl p t y)
   rw [pOf_eq h]
   exact ⟨(tq_add hp x y).1, vlF_add (is_add hp x y)⟩
 · show Tq p (tr (sm (pOf f) (sub (pOf f) 0 1) x y)) ∧ vl p t (tr (sm (pOf f) (sub (pOf f) 0 1) x y)) = sub (pOf f) (vl p t x) (vl p t y)
   rw [pOf_eq h]
   exact ⟨(tq_sub hp x y).1, vlF_sub (is_sub hp x y)⟩
 · show Tq p (prd (pOf f) (tr x) (tr y)) ∧ vl p t (prd (pOf f) (tr x) (tr y)) = mul (pOf f) (vl p t x) (vl p t y)
   rw [pOf_eq h]
   refine ⟨(tq_mul h.md hp hx hy).1, ?_⟩
   have := is_prd h.md (hx.1.tr hp) (hy.1.tr hp) (tr_tr x) (tr_tr y)
   rw [vlF_mul this, vlF_tr, vlF_tr]
 · show Tq p (tr [c % pOf f]) ∧ vl p t (tr [c % pOf f]) = c % pOf f
   rw [pOf_eq h]
   exact ⟨⟨(els_one hp c).tr hp, tr_tr _⟩, vlF_one p t c⟩
 · show vl p t [] = 0
   unfold vl; exact Int.zero_emod p
theorem one_len (p c : Int) : (tr [c % p]).length - 1 = 0 := by have := tr_len [c % p]; simp at this; omega
theorem lim_tq {p : Int} (hp : 0 < p) {xss : List (List Int)} (hx : ∀ x ∈ xss, Lim p x) : ∀ x ∈ xss.map tr, Tq p x := fun x h => by
 obtain ⟨y, hy, rfl⟩ := List.mem_map.1 h
 exact ⟨(hx y hy).1.tr hp, tr_tr y⟩
theorem getD_map_tr (xss : List (List Int)) (v : Nat) : (xss.map tr).getD v [] = tr (xss.getD v []) := by
 rw [List.getD_eq_getElem?_getD, List.getElem?_map, List.getD_eq_getElem?_getD]
 cases xss[v]? with
 | none => rfl
 | some x => rfl
theorem co_free {f p : Int} {wd : Bool} (h : Fi f p wd) {q : Pr} {xss : List (List Int)} (hm : mayB q = true) (hl : (xss.length : Int) = q.inp) (hx : ∀ x ∈ xss, Lim p x) (hd : dgO q * top xss <= 4095) :
 rns (Rt f) (trP q) (xss.map tr) = rns (Ru f) (trP q) (xss.map tr) ∧ ∀ v ∈ (trP q).outs, ((rns (Ru f) (trP q) (xss.map tr)).getD v.toNat []).length - 1 <= dgO q * top xss := by
 have hp := h.pos
 have hmt := tr_may hm
 obtain ⟨⟨j0, j1, _, _⟩, _, _⟩ := mayB_iff.1 hm
 have hxt := lim_tq hp hx
 have hin : (trP q).inp = q.inp := rfl
 have hrl : (xss.map tr).length = (List.replicate (trP q).inp.toNat 1).length := by rw [List.length_map, List.length_replicate, hin]; omega
 have hP : ∀ v, Tq p ((xss.map tr).getD v []) := fun v => by
  rw [List.getD_eq_getElem?_getD]
  cases e : (xss.map tr)[v]? with
  | none => exact ⟨els_nil p, rfl⟩
  | some x => exact hxt x (List.mem_of_getElem? e)
 have hF : ∀ v, ((xss.map tr).getD v []).length - 1 <= (List.replicate (trP q).inp.toNat 1).getD v 0 * top xss := fun v => by
  by_cases hv : v < xss.length
  · rw [getD_map_tr, List.getD_eq_getElem?_getD (l := List.replicate _ _), List.getElem?_replicate, if_pos (by rw [hin]; omega)]
    show _ <= 1 * top xss
    rw [Nat.one_mul]
    exact top_ge xss xss.length (Nat.le_refl _) v hv
  · rw [List.getD_eq_getElem?_getD, List.getElem?_eq_none (by rw [List.length_map]; omega)]; simp
 have ad : ∀ x y, Tq p x -> Tq p y -> Tq p ((Ru f).ad x y) ∧ ((Ru f).ad x y).length - 1 <= max (x.length - 1) (y.length - 1) := fun x y _ _ => by
  show Tq p (tr (sm (pOf f) 1 x y)) ∧ (tr (sm (pOf f) 1 x y)).length - 1 <= _
  rw [pOf_eq h]; exact tq_add hp x y
 have su : ∀ x y, Tq p x -> Tq p y -> Tq p ((Ru f).su x y) ∧ ((Ru f).su x y).length - 1 <= max (x.length - 1) (y.length - 1) := fun x y _ _ => by
  show Tq p (tr (sm (pOf f) (sub (pOf f) 0 1) x y)) ∧ (tr (sm (pOf f) (sub (pOf f) 0 1) x y)).length - 1 <= _
  rw [pOf_eq h]; exact tq_sub hp x y
 have mu : ∀ x y, Tq p x -> Tq p y -> Tq p ((Ru f).mu x y) ∧ ((Ru f).mu x y).length - 1 <= (x.length - 1) + (y.length - 1) := fun x y hx hy => by
  show Tq p (prd (pOf f) (tr x) (tr y)) ∧ (prd (pOf f) (tr x) (tr y)).length - 1 <= _
  rw [pOf_eq h]; exact tq_mul h.md hp hx hy
 have cs : ∀ c, Tq p ((Ru f).cs c) ∧ ((Ru f).cs c).length - 1 = 0 := fun c => by
  show Tq p (tr [c % pOf f]) ∧ (tr [c % pOf f]).length - 1 = 0
  rw [pOf_eq h]; exact ⟨⟨(els_one hp c).tr hp, tr_tr _⟩, one_len p c⟩
 have hdw : ∀ u, (wtd (trP q)).getD u false = true -> (dgs (trP q)).getD u 0 <= dgO q := fun u hu => by
  have := wt_deg hmt u hu
  rw [tr_out hm] at this; exact this
 have limy : ∀ {x : List Int}, Tq p x -> x.length - 1 <= 4095 -> Lim p x := fun hx hl => ⟨hx.1, by omega⟩
 refine ⟨?_, fun v hv => ?_⟩
 · have := rn_same (Rt f) (Ru f) (Tq p) (fun x => x.length - 1) (top xss) 4095 rfl (fun c => rfl) (fun x y hx hy h1 h2 => ?_) (fun x y hx hy h1 => ?_) ⟨els_nil p, rfl⟩ rfl ad su mu cs (trP q).ops (xss.map tr) (List.replicate (trP q).inp.toNat 1) (op_kinds hmt) hrl hP hF (fun i hi => ?_) (trP q).ops.length (Nat.le_refl _)
   · rw [List.take_length] at this; exact this
   · have e := lim_er h (limy hx h1) (limy hy h2)
     constructor
     · show addL f x y = _; unfold addL; rw [if_pos e]; rfl
     · show subL f x y = _; unfold subL; rw [if_pos e]; rfl
   · have e := lim_er h (limy hx (by omega)) (limy hy (by omega))
     show mulL f x y = prd (pOf f) (tr x) (tr y)
     have e2 : mulE f x y = 0 := by
      unfold mulE
      rw [if_pos e, hx.2, hy.2, if_neg]
      have h1' : x.length - 1 + (y.length - 1) <= 4095 := h1
      have l1 := (limy hx (by omega)).2
      have l2 := (limy hy (by omega)).2
      omega
     unfold mulL
     rw [if_pos e2]
   · have hw := tr_all hm hi
     have h1 := hdw _ hw
     rw [List.length_replicate]
     have h2 : (dgL id (List.replicate (trP q).inp.toNat 1) (trP q).ops).getD ((trP q).inp.toNat + i) 0 = (dgs (trP q)).getD ((trP q).inp.toNat + i) 0 := rfl
     rw [h2]
     exact Nat.le_trans (Nat.mul_le_mul_right _ h1) hd
 · have key := rn_deg (Ru f) (Tq p) (fun x => x.length - 1) (top xss) ⟨els_nil p, rfl⟩ rfl ad su mu cs (trP q).ops (xss.map tr) (List.replicate (trP q).inp.toNat 1) (op_kinds hmt) hrl hP hF v.toNat
   have h1 := hdw _ (wt_out hmt hv)
   exact Nat.le_trans key.2 (Nat.mul_le_mul_right _ h1)
theorem meets_facts {f : Int} {q : Pr} {xss : List (List Int)} {p : Int} {wd : Bool} (h : Fi f p wd) (hm : mayB q = true) (he : cpE f q xss = 0) (hx : ∀ x ∈ xss, Lim p x) (hco : coL f q xss = rnO (Rt f) (trP q) (xss.map tr)) (t : Int) :
 (coL f q xss).length = q.outs.length ∧ (coL f q xss).map (vl p t) = rnO (Rf f) q (xss.map (vl p t)) ∧ ∀ zs ∈ coL f q xss, zs.length - 1 <= dgO q * top xss := by
 obtain ⟨hin, hl, _, _, hd⟩ := cpE_zero hm he
 obtain ⟨h1, h2⟩ := co_free h hm hl hx hd
 obtain ⟨⟨j0, j1, _, _⟩, _, _⟩ := mayB_iff.1 hm
 have e : coL f q xss = rnO (Ru f) (trP q) (xss.map tr) := by
  rw [hco]; unfold rnO; rw [h1]; rfl
 refine ⟨by rw [e, rnO_len]; show ((q.outs).map _).length = _; simp, ?_, fun zs hz => ?_⟩
 · rw [e, out_vl h t (trP q) (xss.map tr) (lim_tq h.pos hx), List.map_map]
   have : (vl p t ∘ tr) = vl p t := funext fun xs => vlF_tr p t xs
   rw [this]
   exact tr_run (Rf f) hm _ (by rw [List.length_map]; omega)
 · rw [e] at hz
   obtain ⟨v, hv, rfl⟩ := List.mem_map.1 hz
   exact h2 v hv
end Go.Proofs.YtjhididlcdepdaaGreat
