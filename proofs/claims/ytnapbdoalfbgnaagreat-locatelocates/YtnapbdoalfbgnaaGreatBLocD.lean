import Derived.Test.YtnapbdoalfbgnaaGreatBIntA
set_option linter.unusedVariables false
set_option linter.unusedSimpArgs false
set_option maxRecDepth 100000
set_option maxHeartbeats 4000000
namespace Go.Proofs.YtnapbdoalfbgnaaGreat.Fld
def Crs (p : Int) (X Y : R3) : Prop := qm (pl p X.u) (pl p Y.v) = qa (qm (pl p Y.u) (pl p X.v)) (pl p [1]) ∨ qm (pl p Y.u) (pl p X.v) = qa (qm (pl p X.u) (pl p Y.v)) (pl p [1])
theorem crs_eq {p : Int} {zu zv yu yv q : Pl p} {xu xv : Pl p} (eu : qa zu (qm q yu) = xu) (ev : qa zv (qm q yv) = xv) : qm xu yv = qa (qm zu yv) (qm q (qm yu yv)) ∧ qm yu xv = qa (qm yu zv) (qm q (qm yu yv)) := by
 rw [← eu, ← ev]
 constructor
 · rw [qa_qm, qm_assoc]
 · rw [qm_qa, qm_left]
theorem Crs.next {p : Int} {X Y Z : R3} (h : Crs p X Y) (k : Nx p X Y Z) : Crs p Y Z := by
 obtain ⟨q, hd, ku, kv, eu, ev⟩ := k
 obtain ⟨h1, h2⟩ := crs_eq eu ev
 rcases h with h | h
 · right
   rw [h1, h2, qa_assoc, qa_comm (qm (pl p q) _), ← qa_assoc] at h
   exact qa_cancel h
 · left
   rw [h1, h2, qa_assoc, qa_comm (qm (pl p q) _), ← qa_assoc] at h
   exact qa_cancel h
theorem Ds.crs {p : Int} {stop : Nat} : ∀ (n : Nat) {X Y A B : R3}, Crs p X Y → Ds p stop n X Y A B → stop < X.x.length → Crs p A B := by
 intro n
 induction n with
 | zero => intro X Y A B _ h; exact absurd h id
 | succ n ih =>
  intro X Y A B hi h hs
  rcases h with ⟨h1, rfl, rfl⟩ | ⟨h1, h2, rfl, rfl⟩ | ⟨h1, h2, Z, hz, h3⟩
  · omega
  · exact hi
  · exact ih (hi.next hz) h3 h2
theorem Fnd.crs {p : Int} {stop : Nat} {a b : List Int} {A B : R3} (h : Fnd p stop a b A B) (hs : stop < (tr a).length) : Crs p A B := by
 obtain ⟨n, h⟩ := h
 refine Ds.crs n (.inl ?_) h hs
 show qm (pl p [1]) (pl p [1]) = qa (qm (pl p []) (pl p [])) (pl p [1])
 rw [pl_one_mul, pl_nil_left, pl_nil_add]
theorem take_off {p : Int} {x b k l : Pl p} (h : qa x (qm b k) = qm b l) : x = qm (qa l (qm (pl p (neg1 p)) k)) b := by
 have e := neg_cancel (qm b k)
 have e2 : qa (qa x (qm b k)) (qm (pl p (neg1 p)) (qm b k)) = x := by rw [qa_assoc, e, pl_add_nil]
 rw [h] at e2
 rw [← e2, qa_qm, qm_comm l b, qm_comm (qm (pl p (neg1 p)) k) b, qm_left b]
theorem Crs.dd {p : Int} {A B : R3} (h : Crs p A B) {W H : List Int} (e : qm (pl p B.u) (pl p W) = qm (pl p B.v) (pl p H)) : Dd p B.v W := by
 rcases h with h | h
 · have e1 : qm (pl p W) (qm (pl p A.u) (pl p B.v)) = qa (pl p W) (qm (pl p B.v) (qm (pl p H) (pl p A.v))) := by
    rw [h, qm_qa, pl_mul_one, qa_comm, ← qm_assoc (pl p W), qm_comm (pl p W), e, qm_assoc]
   rw [← qm_assoc, qm_comm (qm (pl p W) (pl p A.u)), qm_comm (pl p W) (pl p A.u)] at e1
   have e2 := take_off (p := p) (x := pl p W) (b := pl p B.v) (k := qm (pl p H) (pl p A.v)) (l := qm (pl p A.u) (pl p W)) e1.symm
   exact ⟨sm p 1 (prd p A.u W) (prd p (neg1 p) (prd p H A.v)), by rw [pl_add, pl_mul, pl_mul, pl_mul]; exact e2⟩
 · have e1 : qm (pl p W) (qm (pl p B.u) (pl p A.v)) = qa (pl p W) (qm (pl p B.v) (qm (pl p A.u) (pl p W))) := by
    rw [h, qm_qa, pl_mul_one, qa_comm, qm_left (pl p W), qm_comm (pl p W), qm_left (pl p A.u)]
   rw [← qm_assoc, qm_comm (pl p W), e, qm_assoc] at e1
   have e2 := take_off (p := p) (x := pl p W) (b := pl p B.v) (k := qm (pl p A.u) (pl p W)) (l := qm (pl p H) (pl p A.v)) e1.symm
   exact ⟨sm p 1 (prd p H A.v) (prd p (neg1 p) (prd p A.u W)), by rw [pl_add, pl_mul, pl_mul, pl_mul]; exact e2⟩
theorem fac_away {p : Int} {wd : Bool} (hm : Md p wd) {z a b : List Int} (hz : Tm p z) (hne : z ≠ []) (h : qm (pl p z) (pl p a) = qm (pl p z) (pl p b)) : pl p a = pl p b := by
 have hp : 0 < p := by have := hm.bounds; omega
 have hd := nz_tm hp (sm p 1 a (prd p (neg1 p) b))
 rw [pl_add, pl_mul] at hd
 have h0 : pl p (prd p z (nz p (sm p 1 a (prd p (neg1 p) b)))) = pl p [] := by
  rw [pl_mul, hd.2, qm_qa, qm_left, h, neg_cancel]
 have hpr := (is_prd hm hz.1 hd.1.1 hz.2 hd.1.2).tm
 have h1 := hpr.1.only hp (Tm.nil p) h0
 have h2 : nz p (sm p 1 a (prd p (neg1 p) b)) = [] := Classical.byContradiction fun e => by
  have := prd_len p z _ hne e
  rw [h1] at this
  have := List.length_pos_iff.2 hne
  have := List.length_pos_iff.2 e
  simp at *
  omega
 have h3 := hd.2
 rw [h2] at h3
 have h4 : qa (qa (pl p a) (qm (pl p (neg1 p)) (pl p b))) (pl p b) = pl p a := by rw [qa_assoc, qa_comm (qm (pl p (neg1 p)) _), neg_cancel, pl_add_nil]
 rw [← h3, pl_nil_add] at h4
 exact h4.symm
theorem roots_zr {p : Int} {wd : Bool} (hm : Md p wd) : ∀ (xs P : List Int), Els p xs → xs.Nodup → (∀ x ∈ xs, vl p x P = 0) → ∃ H : List Int, pl p P = qm (zr p xs) (pl p H) := by
 have hp : 0 < p := by have := hm.bounds; omega
 intro xs
 induction xs with
 | nil => intro P _ _ _; exact ⟨P, (pl_one_mul _).symm⟩
 | cons x xs ih =>
  intro P hx hn h0
  have hq := fac_out (t := x) hp (h0 x List.mem_cons_self)
  have hxs := List.nodup_cons.1 hn
  obtain ⟨H, hH⟩ := ih (sq p x P) (fun y hy => hx y (List.mem_cons_of_mem _ hy)) hxs.2 (fun y hy => by
   have e := vl_mul (p := p) (t := y) (zs := P) (xs := fac p x) (ys := sq p x P) hq.2
   rw [h0 y (List.mem_cons_of_mem _ hy), vl_fac, Int.mul_comm] at e
   have hyx : y ≠ x := fun e => hxs.1 (by rw [← e]; exact hy)
   have := no_div hm _ _ (by rw [Int.emod_emod_of_dvd _ (Int.dvd_refl p)]; exact ne_mod (hx y (List.mem_cons_of_mem _ hy)) (hx x List.mem_cons_self) hyx) e.symm
   rwa [(vl_el hp y _).mod] at this)
  exact ⟨H, by show _ = qm (qm (pl p (fac p x)) (zr p xs)) (pl p H); rw [hq.2, hH, qm_assoc]⟩
theorem row_at {p : Int} {wd : Bool} (hm : Md p wd) {stop : Nat} {xs ys T : List Int} {A B : R3} (hx : Els p xs) (hT : Thr p xs ys T) (hF : Fnd p stop (zl p xs) T A B) {i : Nat} (hi : i < xs.length) : vl p (co xs i) B.x = (co ys i * vl p (co xs i) B.v) % p := by
 have hp : 0 < p := by have := hm.bounds; omega
 have hmade := hF.made hm (zl_facts hm xs).1.1 hT.1.1
 have e1 := vl_add (p := p) (t := co xs i) (zs := B.x) (xs := prd p B.u (zl p xs)) (ys := prd p B.v T) (by rw [pl_mul, pl_mul]; exact hmade.1)
 rw [vl_mul (p := p) (t := co xs i) (pl_mul p B.u (zl p xs)), vl_mul (p := p) (t := co xs i) (pl_mul p B.v T), (zl_root hm (hx.co hp i) hx).2 (by rw [co_at hi]; exact List.getElem_mem hi), hT.2.2 i hi] at e1
 rw [e1, Int.mul_zero, Int.zero_emod, Int.zero_add, Int.emod_emod_of_dvd _ (Int.dvd_refl p), Int.mul_comm]
theorem row_ne {p : Int} {wd : Bool} (hm : Md p wd) {stop : Nat} {xs ys T : List Int} {A B : R3} (hx : Els p xs) (h2 : stop ≤ xs.length) (hT : Thr p xs ys T) (hF : Fnd p stop (zl p xs) T A B) : B.v ≠ [] ∧ Tm p B.x ∧ Tm p B.v ∧ B.x.length ≤ stop ∧ B.v.length + stop ≤ xs.length + 1 ∧ Crs p A B := by
 have hp : 0 < p := by have := hm.bounds; omega
 obtain ⟨z1, z2, z3⟩ := zl_facts hm xs
 have zt : tr (zl p xs) = zl p xs := z1.2
 have hc := hF.case hm z1.1 hT.1.1
 rw [zt, z3] at hc
 have hcr := hF.crs (by rw [zt, z3]; omega)
 rcases hc with ⟨c, _⟩ | ⟨hi, c1, c2, c3⟩
 · omega
 have hmade := (hF.made hm z1.1 hT.1.1)
 have hv : B.v ≠ [] := fun e => by
  have hu : B.u ≠ [] := hmade.2.2.1.resolve_right (fun h => h e)
  have hb := hmade.1
  rw [e, pl_nil_left, pl_add_nil] at hb
  have hz : zl p xs ≠ [] := fun e' => by rw [e'] at z3; cases z3
  have hpr := (is_prd hm hi.su.1 z1.1 hi.su.2 z1.2).tm
  have : B.x = prd p B.u (zl p xs) := hi.sx.only hp hpr.1 (hb.trans (pl_mul p _ _).symm)
  rw [this, prd_len p _ _ hu hz, z3] at c3
  have := List.length_pos_iff.2 hu
  omega
 have hvl := (hF.vlen hm z1.1 hT.1.1 (by rw [zt]; intro e; rw [e] at z3; cases z3)).resolve_right hv
 rw [zt, z3] at hvl
 exact ⟨hv, hi.sx, hi.sv, c3, hvl, hcr⟩
theorem Dec.tells {p : Int} {wd : Bool} (hm : Md p wd) {D w stop : Nat} {xs ys P T : List Int} {A B : R3} (hx : Els p xs) (hn : xs.Nodup) (h1 : D + w ≤ stop) (h2 : stop + w ≤ xs.length) (hT : Thr p xs ys T) (hP : Dec p D w xs ys P) (hF : Fnd p stop (zl p xs) T A B) :
 Dv p B.x B.v P [] ∧ B.v.length ≤ w + 1 ∧ ∀ i, i < xs.length → (vl p (co xs i) B.v = 0 ↔ vl p (co xs i) P ≠ co ys i) := by
 have hp : 0 < p := by have := hm.bounds; omega
 obtain ⟨hv, hdv⟩ := hP.row hm hx hn h1 h2 hT hF
 obtain ⟨_, tx, tv, l1, l2, hcr⟩ := row_ne hm hx (by omega) hT hF
 obtain ⟨z1, z2, z3⟩ := zl_facts hm xs
 have hzne : zl p xs ≠ [] := fun e' => by rw [e'] at z3; cases z3
 have hpr := hdv.rg.2.2.2
 rw [pl_add_nil] at hpr
 have hmade := (hF.made hm z1.1 hT.1.1).1
 have hsub := sub_places xs (fun i => decide (vl p (co xs i) P ≠ co ys i))
 obtain ⟨o1, o2, o3⟩ := zl_facts hm ((offp p P xs ys).map (co xs))
 have hoE : Els p ((offp p P xs ys).map (co xs)) := fun x hx' => hx x (hsub.subset hx')
 obtain ⟨H, hH⟩ := roots_zr hm xs (prd p (zl p ((offp p P xs ys).map (co xs))) (sm p 1 P (prd p (neg1 p) T))) hx hn (fun x hx' => by
  obtain ⟨i, hi, rfl⟩ := List.mem_iff_getElem.1 hx'
  rw [← co_at hi, vl_mul (p := p) (t := co xs i) (pl_mul p _ _)]
  by_cases e : vl p (co xs i) P = co ys i
  · rw [vl_add (p := p) (t := co xs i) (pl_add p _ _), vl_mul (p := p) (t := co xs i) (pl_mul p (neg1 p) T), e, hT.2.2 i hi]
    have hn1 : vl p (co xs i) (neg1 p) = p - 1 := by
     rw [show neg1 p = [p - 1] from rfl, vl_one]; exact Int.emod_eq_of_lt (by have := hm.bounds; omega) (by omega)
    rw [hn1]
    have : (co ys i + (p - 1) * co ys i % p) % p = 0 := by
     rw [Int.add_emod, Int.emod_emod_of_dvd _ (Int.dvd_refl p), ← Int.add_emod, Int.sub_mul, Int.one_mul, show co ys i + (p * co ys i - co ys i) = p * co ys i by omega, Int.mul_emod_right]
    rw [this, Int.mul_zero, Int.zero_emod]
  · rw [(zl_root hm (hx.co hp i) hoE).2 (List.mem_map.2 ⟨i, offp_mem.2 ⟨hi, e⟩, rfl⟩), Int.zero_mul, Int.zero_emod])
 rw [pl_mul, pl_add, pl_mul, ← z2] at hH
 have key1 : qm (pl p B.u) (pl p (zl p ((offp p P xs ys).map (co xs)))) = qm (pl p B.v) (pl p H) := by
  have e0 : qa (qm (pl p B.v) (qa (pl p P) (qm (pl p (neg1 p)) (pl p T)))) (pl p []) = qm (pl p B.u) (pl p (zl p xs)) := by
   rw [pl_add_nil, qm_qa, qm_comm (pl p B.v) (pl p P), hpr, hmade, qa_assoc, qm_left (pl p B.v), neg_cancel, pl_add_nil]
  rw [pl_add_nil] at e0
  rw [← pl_mul, ← pl_mul]
  refine fac_away hm z1 hzne ?_
  rw [pl_mul, pl_mul, ← qm_assoc, qm_comm (pl p (zl p xs)) (pl p B.u), ← e0, qm_left (pl p (zl p xs)), ← hH, qm_assoc, qm_comm (qa (pl p P) _)]
 have hdd := hcr.dd key1
 have hone : zl p ((offp p P xs ys).map (co xs)) ≠ [] := fun e => by rw [e] at o3; cases o3
 have hlen := Dd.len hm tv o1 hdd hone
 rw [o3, List.length_map] at hlen
 refine ⟨hdv, by have := hP.2.2; omega, fun i hi => ⟨fun h0 e => ?_, fun e => ?_⟩⟩
 · obtain ⟨k, hk⟩ := hdd
   have h3 := vl_mul (p := p) (t := co xs i) hk
   rw [h0, Int.mul_zero, Int.zero_emod] at h3
   obtain ⟨j, hj, hji⟩ := List.mem_map.1 ((zl_root hm (hx.co hp i) hoE).1 h3)
   obtain ⟨hj1, hj2⟩ := offp_mem.1 hj
   have : j = i := nodup_inj hn hj1 hi (by rw [← co_at hj1, ← co_at hi]; exact hji)
   rw [this] at hj2
   exact hj2 e
 · have h3 := row_at hm hx hT hF hi
   have h4 := vl_mul (p := p) (t := co xs i) hpr.symm
   rw [h3] at h4
   apply Classical.byContradiction
   intro h0
   have h5 : ((vl p (co xs i) P - co ys i) * vl p (co xs i) B.v) % p = 0 := by rw [Int.sub_mul, Int.sub_emod, ← h4, Int.sub_self, Int.zero_emod]
   have h6 := no_div hm _ _ (by rw [(vl_el hp _ _).mod]; exact h0) h5
   have h7 := vl_el hp (co xs i) P
   have h8 : El p (co ys i) := by rw [← hT.2.2 i hi]; exact vl_el hp _ _
   exact ne_mod h7 h8 e h6
theorem Dec.of_row {p : Int} {wd : Bool} (hm : Md p wd) {D w stop : Nat} {xs ys P T : List Int} {A B : R3} (hx : Els p xs) (hn : xs.Nodup) (h2 : stop ≤ xs.length) (hT : Thr p xs ys T) (hF : Fnd p stop (zl p xs) T A B) (hdv : Dv p B.x B.v P []) (l1 : P.length ≤ D) (l2 : B.v.length ≤ w + 1) : Dec p D w xs ys P := by
 have hp : 0 < p := by have := hm.bounds; omega
 obtain ⟨hv, tx, tv, _, _, _⟩ := row_ne hm hx h2 hT hF
 have hpr := hdv.rg.2.2.2
 rw [pl_add_nil] at hpr
 refine ⟨hdv.rg.1, l1, ?_⟩
 apply Classical.byContradiction
 intro hc
 have hsub := sub_places xs (fun i => decide (vl p (co xs i) P ≠ co ys i))
 refine hv (roots_zero hm ((offp p P xs ys).map (co xs)) _ (fun x hx' => hx x (hsub.subset hx')) (hsub.nodup hn) tv (by rw [List.length_map]; omega) (fun x hx' => ?_))
 obtain ⟨i, hi, rfl⟩ := List.mem_map.1 hx'
 obtain ⟨hi1, e⟩ := offp_mem.1 hi
 have h3 := row_at hm hx hT hF hi1
 have h4 := vl_mul (p := p) (t := co xs i) hpr.symm
 rw [h3] at h4
 apply Classical.byContradiction
 intro h0
 have h5 : ((vl p (co xs i) P - co ys i) * vl p (co xs i) B.v) % p = 0 := by rw [Int.sub_mul, Int.sub_emod, ← h4, Int.sub_self, Int.zero_emod]
 have h6 := no_div hm _ _ (by rw [(vl_el hp _ _).mod]; exact h0) h5
 have h7 := vl_el hp (co xs i) P
 have h8 : El p (co ys i) := by rw [← hT.2.2 i hi1]; exact vl_el hp _ _
 exact ne_mod h7 h8 e h6
end Go.Proofs.YtnapbdoalfbgnaaGreat.Fld
