import Derived.Test.YtnapbdoalfbgnaaGreatBunP
set_option linter.unusedVariables false
set_option linter.unusedSimpArgs false
set_option maxRecDepth 100000
set_option maxHeartbeats 4000000
namespace Go.Proofs.YtnapbdoalfbgnaaGreat.Fld
def sr (p : Int) : Setoid (Nat → Int) := ⟨Al p, ⟨Al.refl p, Al.symm, Al.trans⟩⟩
def Pl (p : Int) : Type := Quotient (sr p)
def pu (p : Int) (f : Nat → Int) : Pl p := Quotient.mk (sr p) f
theorem pu_eq {p : Int} {f g : Nat → Int} (h : Al p f g) : pu p f = pu p g := Quotient.sound (s := sr p) h
theorem pu_al {p : Int} {f g : Nat → Int} (h : pu p f = pu p g) : Al p f g := Quotient.exact (s := sr p) h
def qa {p : Int} (x y : Pl p) : Pl p := Quotient.lift₂ (s₁ := sr p) (s₂ := sr p) (fun f g => pu p (fun i => f i + g i)) (fun _ _ _ _ h k => pu_eq (Al.add h k)) x y
def qm {p : Int} (x y : Pl p) : Pl p := Quotient.lift₂ (s₁ := sr p) (s₂ := sr p) (fun f g => pu p (cv f g)) (fun _ _ _ _ h k => pu_eq (Al.cv h k)) x y
theorem qa_pu {p : Int} (f g : Nat → Int) : qa (pu p f) (pu p g) = pu p (fun i => f i + g i) := rfl
theorem qm_pu {p : Int} (f g : Nat → Int) : qm (pu p f) (pu p g) = pu p (cv f g) := rfl
theorem pu_all {p : Int} (x : Pl p) : ∃ f, x = pu p f := Quotient.inductionOn (s := sr p) x (fun f => ⟨f, rfl⟩)
theorem qa_comm {p : Int} (x y : Pl p) : qa x y = qa y x := by
 obtain ⟨f, rfl⟩ := pu_all x
 obtain ⟨g, rfl⟩ := pu_all y
 rw [qa_pu, qa_pu]; congr 1; funext i; exact Int.add_comm _ _
theorem qa_assoc {p : Int} (x y z : Pl p) : qa (qa x y) z = qa x (qa y z) := by
 obtain ⟨f, rfl⟩ := pu_all x
 obtain ⟨g, rfl⟩ := pu_all y
 obtain ⟨h, rfl⟩ := pu_all z
 rw [qa_pu, qa_pu, qa_pu, qa_pu]; congr 1; funext i; exact Int.add_assoc _ _ _
theorem qa_left {p : Int} (x y z : Pl p) : qa x (qa y z) = qa y (qa x z) := by rw [← qa_assoc, qa_comm x y, qa_assoc]
theorem qa_cancel {p : Int} {x y z : Pl p} (h : qa x z = qa y z) : x = y := by
 obtain ⟨f, rfl⟩ := pu_all x
 obtain ⟨g, rfl⟩ := pu_all y
 obtain ⟨k, rfl⟩ := pu_all z
 rw [qa_pu, qa_pu] at h
 refine pu_eq ?_
 have := Al.sub (pu_al h) (Al.refl p k)
 intro i
 have e := this i
 simp only [Int.add_sub_cancel] at e
 exact e
theorem qm_comm {p : Int} (x y : Pl p) : qm x y = qm y x := by
 obtain ⟨f, rfl⟩ := pu_all x
 obtain ⟨g, rfl⟩ := pu_all y
 rw [qm_pu, qm_pu]; congr 1; funext i; exact cv_comm i f g
theorem qm_assoc {p : Int} (x y z : Pl p) : qm (qm x y) z = qm x (qm y z) := by
 obtain ⟨f, rfl⟩ := pu_all x
 obtain ⟨g, rfl⟩ := pu_all y
 obtain ⟨h, rfl⟩ := pu_all z
 rw [qm_pu, qm_pu, qm_pu, qm_pu]; congr 1; funext i; exact cv_assoc h i f g
theorem qm_left {p : Int} (x y z : Pl p) : qm x (qm y z) = qm y (qm x z) := by rw [← qm_assoc, qm_comm x y, qm_assoc]
theorem qm_qa {p : Int} (x y z : Pl p) : qm x (qa y z) = qa (qm x y) (qm x z) := by
 obtain ⟨f, rfl⟩ := pu_all x
 obtain ⟨g, rfl⟩ := pu_all y
 obtain ⟨h, rfl⟩ := pu_all z
 rw [qa_pu, qm_pu, qm_pu, qm_pu, qa_pu]; congr 1; funext i; exact cv_add_right g h i f
theorem qa_qm {p : Int} (x y z : Pl p) : qm (qa x y) z = qa (qm x z) (qm y z) := by rw [qm_comm, qm_qa, qm_comm z x, qm_comm z y]
def pl (p : Int) (xs : List Int) : Pl p := pu p (co xs)
theorem pl_nil_left {p : Int} (x : Pl p) : qm (pl p []) x = pl p [] := by
 obtain ⟨f, rfl⟩ := pu_all x
 show qm (pu p (co [])) (pu p f) = _
 rw [qm_pu]; exact pu_eq (fun i => by rw [cv_zero_left f i (co []) (fun j _ => rfl)]; rfl)
theorem pl_nil_right {p : Int} (x : Pl p) : qm x (pl p []) = pl p [] := by rw [qm_comm]; exact pl_nil_left x
theorem pl_nil_add {p : Int} (x : Pl p) : qa (pl p []) x = x := by
 obtain ⟨f, rfl⟩ := pu_all x
 show qa (pu p (co [])) (pu p f) = _
 rw [qa_pu]; congr 1; funext i; exact Int.zero_add _
theorem pl_add_nil {p : Int} (x : Pl p) : qa x (pl p []) = x := by rw [qa_comm]; exact pl_nil_add x
theorem pl_one_mul {p : Int} (x : Pl p) : qm (pl p [1]) x = x := by
 obtain ⟨f, rfl⟩ := pu_all x
 show qm (pu p (co [1])) (pu p f) = _
 rw [qm_pu]; congr 1; funext i; rw [cv_single]; exact Int.one_mul _
theorem pl_mul_one {p : Int} (x : Pl p) : qm x (pl p [1]) = x := by rw [qm_comm]; exact pl_one_mul x
theorem pl_add (p : Int) (xs ys : List Int) : pl p (sm p 1 xs ys) = qa (pl p xs) (pl p ys) := pu_eq ((al_sm p 1 xs ys).trans (fun i => by show (co xs i + 1 * co ys i) % p = (co xs i + co ys i) % p; rw [Int.one_mul]))
theorem pl_mul (p : Int) (xs ys : List Int) : pl p (prd p xs ys) = qm (pl p xs) (pl p ys) := pu_eq (al_prd p xs ys)
theorem pl_tr (p : Int) (xs : List Int) : pl p (tr xs) = pl p xs := by unfold pl; congr 1; funext i; exact co_tr xs i
theorem pl_two (p c d : Int) : pl p [(c * d) % p] = qm (pl p [c]) (pl p [d]) := pu_eq (fun i => by
 rw [cv_single]
 cases i with
 | zero => show ((c * d) % p) % p = (c * d) % p; exact Int.emod_emod_of_dvd _ (Int.dvd_refl p)
 | succ i => show (0 : Int) % p = (c * 0) % p; rw [Int.mul_zero])
def Tm (p : Int) (xs : List Int) : Prop := Els p xs ∧ tr xs = xs
theorem Tm.only {p : Int} (hp : 0 < p) {xs ys : List Int} (hx : Tm p xs) (hy : Tm p ys) (h : pl p xs = pl p ys) : xs = ys := by
 have := Al.eq hp hx.1 hy.1 (pu_al h)
 rw [hx.2, hy.2] at this; exact this
theorem Tm.nil (p : Int) : Tm p [] := ⟨(fun x hx => by cases hx), rfl⟩
theorem Tm.tr {p : Int} (hp : 0 < p) {xs : List Int} (h : Els p xs) : Tm p (tr xs) := ⟨h.tr hp, tr_tr xs⟩
theorem Tm.single {p c : Int} (h : El p c) (hc : c ≠ 0) : Tm p [c] := ⟨fun x hx => by rw [List.mem_singleton.1 hx]; exact h, tr_full (.inr hc)⟩
theorem Is.tm {p : Int} {zs : List Int} {F : Nat → Int} (h : Is p zs F) : Tm p zs ∧ pl p zs = pu p F := ⟨⟨h.1, h.2.1⟩, pu_eq h.2.2⟩
theorem Dv.rg {p : Int} {xs ys a b : List Int} (h : Dv p xs ys a b) : Tm p a ∧ Tm p b ∧ b.length < (tr ys).length ∧ qa (qm (pl p a) (pl p ys)) (pl p b) = pl p xs := ⟨⟨h.1, h.2.2.1⟩, ⟨h.2.1, h.2.2.2.1⟩, h.2.2.2.2.1, pu_eq h.2.2.2.2.2⟩
theorem Dv.of {p : Int} {xs ys a b : List Int} (h1 : Tm p a) (h2 : Tm p b) (h3 : b.length < (tr ys).length) (h4 : qa (qm (pl p a) (pl p ys)) (pl p b) = pl p xs) : Dv p xs ys a b := ⟨h1.1, h2.1, h1.2, h2.2, h3, pu_al h4⟩
def nz (p : Int) (xs : List Int) : List Int := tr (mk xs.length (fun i => co xs i % p))
theorem nz_tm {p : Int} (hp : 0 < p) (xs : List Int) : Tm p (nz p xs) ∧ pl p (nz p xs) = pl p xs := (is_mk (F := co xs) hp (N := xs.length) (fun i hi => by rw [co_out _ _ hi]; exact Int.zero_emod p)).tm
theorem prod_len {p : Int} {wd : Bool} (hm : Md p wd) {xs ks hs : List Int} (hx : Tm p xs) (hk : Tm p ks) (hh : Tm p hs) (h : pl p xs = qm (pl p ks) (pl p hs)) (hne : xs ≠ []) : ks ≠ [] ∧ hs ≠ [] ∧ xs.length + 1 = ks.length + hs.length := by
 have hp : 0 < p := by have := hm.bounds; omega
 have h1 := (is_prd hm hk.1 hh.1 hk.2 hh.2).tm
 have h2 : xs = prd p ks hs := hx.only hp h1.1 (h.trans h1.2.symm)
 have k1 : ks ≠ [] := fun e => hne (by rw [h2]; unfold prd; rw [if_pos (.inl e)])
 have k2 : hs ≠ [] := fun e => hne (by rw [h2]; unfold prd; rw [if_pos (.inr e)])
 refine ⟨k1, k2, ?_⟩
 have := prd_len p ks hs k1 k2
 have a1 := List.length_pos_iff.2 k1
 rw [← h2] at this; omega
theorem rest_len {p : Int} (hp : 0 < p) {zs qs ys xs : List Int} (hz : Tm p zs) (h : qa (pl p zs) (qm (pl p qs) (pl p ys)) = pl p xs) {N : Nat} (h1 : xs.length ≤ N) (h2 : qs = [] ∨ ys = [] ∨ qs.length + ys.length ≤ N + 1) : zs.length ≤ N := by
 apply Nat.le_of_not_lt
 intro hN
 have hne : zs ≠ [] := fun e => by rw [e] at hN; simp at hN
 have hl := last_ne hz.2 hne
 have e : (co zs (zs.length - 1) + cv (co qs) (co ys) (zs.length - 1)) % p = co xs (zs.length - 1) % p := pu_al h (zs.length - 1)
 have hc : cv (co qs) (co ys) (zs.length - 1) = 0 := by
  rcases h2 with rfl | rfl | h2
  · exact cv_zero_left _ _ _ (fun j _ => rfl)
  · rw [cv_comm]; exact cv_zero_left _ _ _ (fun j _ => rfl)
  · exact cv_end _ (fun j hj => co_out qs j hj) (fun j hj => co_out ys j hj) (by omega)
 rw [hc, co_out xs _ (by omega), Int.add_zero, Int.zero_emod, (hz.1.co hp _).mod] at e
 exact hl e
def Dd (p : Int) (hs xs : List Int) : Prop := ∃ ks : List Int, pl p xs = qm (pl p ks) (pl p hs)
theorem Dd.sum {p : Int} {h a b u v x : List Int} (ha : Dd p h a) (hb : Dd p h b) (hx : pl p x = qa (qm (pl p u) (pl p a)) (qm (pl p v) (pl p b))) : Dd p h x := by
 obtain ⟨k, hk⟩ := ha
 obtain ⟨l, hl⟩ := hb
 exact ⟨sm p 1 (prd p u k) (prd p v l), by rw [pl_add, pl_mul, pl_mul, hx, hk, hl, qa_qm, qm_assoc, qm_assoc]⟩
theorem Dd.same {p : Int} {h a b : List Int} (ha : Dd p h a) (e : pl p a = pl p b) : Dd p h b := by
 obtain ⟨k, hk⟩ := ha
 exact ⟨k, by rw [← e]; exact hk⟩
theorem Dd.dv {p : Int} {x y q r h : List Int} (hd : Dv p x y q r) (hy : Dd p h y) (hr : Dd p h r) : Dd p h x :=
 Dd.sum hy hr (u := q) (v := [1]) (by rw [pl_one_mul]; exact hd.rg.2.2.2.symm)
def neg1 (p : Int) : List Int := [p - 1]
theorem neg_cancel {p : Int} (x : Pl p) : qa x (qm (pl p (neg1 p)) x) = pl p [] := by
 obtain ⟨f, rfl⟩ := pu_all x
 show qa (pu p f) (qm (pu p (co [p - 1])) (pu p f)) = pu p (co [])
 rw [qm_pu, qa_pu]
 refine pu_eq fun i => ?_
 show (f i + cv (co [p - 1]) f i) % p = (0 : Int) % p
 have e : f i + (p - 1) * f i = p * f i := by rw [Int.sub_mul]; omega
 rw [cv_single, e, Int.mul_emod_right, Int.zero_emod]
theorem Dd.dv' {p : Int} {x y q r h : List Int} (hd : Dv p x y q r) (hx : Dd p h x) (hy : Dd p h y) : Dd p h r :=
 Dd.sum hx hy (u := [1]) (v := prd p (neg1 p) q) (by
  rw [pl_one_mul, pl_mul, qm_assoc, ← hd.rg.2.2.2, qa_comm (qm (pl p q) (pl p y)), qa_assoc, neg_cancel, pl_add_nil])
theorem Dd.len {p : Int} {wd : Bool} (hm : Md p wd) {h x : List Int} (hh : Tm p h) (hx : Tm p x) (hd : Dd p h x) (hne : x ≠ []) : h ≠ [] ∧ h.length ≤ x.length := by
 have hp : 0 < p := by have := hm.bounds; omega
 obtain ⟨k, hk⟩ := hd
 have hn := nz_tm hp k
 have := prod_len hm hx hn.1 hh (by rw [hn.2]; exact hk) hne
 have k1 := List.length_pos_iff.2 this.1
 exact ⟨this.2.1, by omega⟩
def Cm (p : Int) (a b x y : List Int) : Prop := ∀ h, (Dd p h x ∧ Dd p h y) ↔ (Dd p h a ∧ Dd p h b)
theorem Cm.start (p : Int) (a b : List Int) : Cm p a b (tr a) (tr b) := fun h => ⟨fun ⟨h1, h2⟩ => ⟨h1.same (pl_tr p a), h2.same (pl_tr p b)⟩, fun ⟨h1, h2⟩ => ⟨h1.same (pl_tr p a).symm, h2.same (pl_tr p b).symm⟩⟩
theorem Cm.next {p : Int} {a b x y q r : List Int} (h : Cm p a b x y) (hd : Dv p x y q r) : Cm p a b y r := fun k => ⟨fun ⟨h1, h2⟩ => (h k).1 ⟨Dd.dv hd h1 h2, h1⟩, fun hk => by
 obtain ⟨h1, h2⟩ := (h k).2 hk
 exact ⟨h2, Dd.dv' hd h1 h2⟩⟩
end Go.Proofs.YtnapbdoalfbgnaaGreat.Fld
namespace Go.Proofs.YtnapbdoalfbgnaaGreat.Fld
structure R3 where
 x : List Int
 u : List Int
 v : List Int
def R3.nil : R3 := ⟨[], [], []⟩
theorem R3.ext' {X Y : R3} (h1 : X.x = Y.x) (h2 : X.u = Y.u) (h3 : X.v = Y.v) : X = Y := by
 cases X; cases Y; cases h1; cases h2; cases h3; rfl
def Nx (p : Int) (X Y Z : R3) : Prop := ∃ q, Dv p X.x Y.x q Z.x ∧ Tm p Z.u ∧ Tm p Z.v ∧ qa (pl p Z.u) (qm (pl p q) (pl p Y.u)) = pl p X.u ∧ qa (pl p Z.v) (qm (pl p q) (pl p Y.v)) = pl p X.v
theorem Nx.only {p : Int} {wd : Bool} (hm : Md p wd) {X Y Z W : R3} (hy : Els p Y.x) (h : Nx p X Y Z) (k : Nx p X Y W) : Z = W := by
 have hp : 0 < p := by have := hm.bounds; omega
 obtain ⟨q, hd, tu, tv, eu, ev⟩ := h
 obtain ⟨r, kd, su, sv, fu, fv⟩ := k
 obtain ⟨rfl, e⟩ := hd.only hm hy kd
 exact R3.ext' e (tu.only hp su (qa_cancel (eu.trans fu.symm))) (tv.only hp sv (qa_cancel (ev.trans fv.symm)))
structure In2 (p : Int) (a b : List Int) (X Y : R3) : Prop where
 tx : Tm p X.x
 tu : Tm p X.u
 tv : Tm p X.v
 sx : Tm p Y.x
 su : Tm p Y.u
 sv : Tm p Y.v
 bx : pl p X.x = qa (qm (pl p X.u) (pl p a)) (qm (pl p X.v) (pl p b))
 by' : pl p Y.x = qa (qm (pl p Y.u) (pl p a)) (qm (pl p Y.v) (pl p b))
 det : qm (pl p X.u) (pl p Y.v) ≠ qm (pl p Y.u) (pl p X.v)
 lu : X.u = [] ∨ X.u.length + Y.x.length ≤ (tr b).length + 1
 mu : Y.u = [] ∨ Y.u.length + X.x.length ≤ (tr b).length + 1
 lv : X.v = [] ∨ X.v.length + Y.x.length ≤ (tr a).length + 1
 mv : Y.v = [] ∨ Y.v.length + X.x.length ≤ (tr a).length + 1
 nx : X.x.length ≤ max (tr a).length (tr b).length
 ny : Y.x.length ≤ max (tr a).length (tr b).length
 com : Cm p a b X.x Y.x
def rwA (a : List Int) : R3 := ⟨tr a, [1], []⟩
def rwB (b : List Int) : R3 := ⟨tr b, [], [1]⟩
theorem one_tm {p : Int} {wd : Bool} (hm : Md p wd) : Tm p [1] := Tm.single ⟨by decide, by have := hm.bounds; omega⟩ (by decide)
theorem one_ne {p : Int} {wd : Bool} (hm : Md p wd) : pl p [1] ≠ pl p [] := fun e => by
 have hp : 0 < p := by have := hm.bounds; omega
 have := (one_tm hm).only hp (Tm.nil p) e
 simp at this
theorem In2.start {p : Int} {wd : Bool} (hm : Md p wd) {a b : List Int} (ha : Els p a) (hb : Els p b) : In2 p a b (rwA a) (rwB b) := by
 have hp : 0 < p := by have := hm.bounds; omega
 refine ⟨Tm.tr hp ha, one_tm hm, Tm.nil p, Tm.tr hp hb, Tm.nil p, one_tm hm, ?_, ?_, ?_, .inr ?_, .inl rfl, .inl rfl, .inr ?_, ?_, ?_, Cm.start p a b⟩
 · show pl p (tr a) = qa (qm (pl p [1]) (pl p a)) (qm (pl p []) (pl p b))
   rw [pl_tr, pl_one_mul, pl_nil_left, pl_add_nil]
 · show pl p (tr b) = qa (qm (pl p []) (pl p a)) (qm (pl p [1]) (pl p b))
   rw [pl_tr, pl_one_mul, pl_nil_left, pl_nil_add]
 · show qm (pl p [1]) (pl p [1]) ≠ qm (pl p []) (pl p [])
   rw [pl_one_mul, pl_nil_left]; exact one_ne hm
 · show [1].length + (tr b).length ≤ _
   rw [List.length_singleton]; omega
 · show [1].length + (tr a).length ≤ _
   rw [List.length_singleton]; omega
 · show (tr a).length ≤ _; omega
 · show (tr b).length ≤ _; omega
theorem new_len {p : Int} {wd : Bool} (hm : Md p wd) {x y q z u w n : List Int} {K : Nat} (hd : Dv p x y q z) (hy : Tm p y) (hn : Tm p n) (hn2 : qa (pl p n) (qm (pl p q) (pl p w)) = pl p u) (l : u = [] ∨ u.length + y.length ≤ K) (m : w = [] ∨ w.length + x.length ≤ K) :
 n = [] ∨ n.length + y.length ≤ K := by
 have hp : 0 < p := by have := hm.bounds; omega
 by_cases hw : q = [] ∨ w = []
 · have h1 := rest_len hp hn hn2 (N := u.length) (Nat.le_refl _) (by rcases hw with h | h; exact .inl h; exact .inr (.inl h))
   rcases l with l | l
   · left; rw [l] at h1; exact List.length_eq_zero_iff.1 (by simpa using h1)
   · right; omega
 · have hq : q ≠ [] := fun e => hw (.inl e)
   have hw' : w ≠ [] := fun e => hw (.inr e)
   have hql := hd.len hm hy.1 hq
   rw [hy.2] at hql
   have q1 := List.length_pos_iff.2 hq
   have w1 := List.length_pos_iff.2 hw'
   have m' : w.length + x.length ≤ K := by rcases m with m | m; exact absurd m hw'; exact m
   have y1 : 0 < y.length := by have := hd.2.2.2.2.1; rw [hy.2] at this; omega
   have h1 := rest_len hp hn hn2 (N := K - y.length) (by rcases l with l | l; (rw [l]; exact Nat.zero_le _); omega) (.inr (.inr (by omega)))
   right; omega
theorem rem_len {p : Int} {wd : Bool} (hm : Md p wd) {x y q z : List Int} (hd : Dv p x y q z) (hy : Tm p y) : z.length ≤ x.length := by
 have hp : 0 < p := by have := hm.bounds; omega
 by_cases hq : q = []
 · exact rest_len hp hd.rg.2.1 (by rw [qa_comm]; exact hd.rg.2.2.2) (Nat.le_refl _) (.inl hq)
 · have hql := hd.len hm hy.1 hq
   have q1 := List.length_pos_iff.2 hq
   have := hd.2.2.2.2.1
   omega
theorem In2.next {p : Int} {wd : Bool} (hm : Md p wd) {a b : List Int} {X Y Z : R3} (h : In2 p a b X Y) (k : Nx p X Y Z) : In2 p a b Y Z := by
 have hp : 0 < p := by have := hm.bounds; omega
 obtain ⟨q, hd, ku, kv, eu, ev⟩ := k
 have hrl := rem_len hm hd h.sx
 have hzl : Z.x.length < Y.x.length := by have := hd.2.2.2.2.1; rw [h.sx.2] at this; exact this
 refine ⟨h.sx, h.su, h.sv, hd.rg.2.1, ku, kv, h.by', ?_, ?_, ?_, new_len hm hd h.sx ku eu h.lu h.mu, ?_, new_len hm hd h.sx kv ev h.lv h.mv, h.ny, Nat.le_trans hrl h.nx, h.com.next hd⟩
 · refine qa_cancel (z := qm (pl p q) (pl p Y.x)) ?_
   rw [qa_comm, hd.rg.2.2.2, h.bx, h.by', ← eu, ← ev, qa_qm, qa_qm, qm_qa, qm_assoc, qm_assoc, qa_assoc, qa_assoc]
   congr 1
   rw [qa_left]
 · intro e
   apply h.det
   rw [← eu, ← ev, qa_qm, qm_qa, ← e, qm_assoc, qm_left]
 · rcases h.mu with m | m
   · exact .inl m
   · right; omega
 · rcases h.mv with m | m
   · exact .inl m
   · right; omega
def Ds (p : Int) (stop : Nat) : Nat → R3 → R3 → R3 → R3 → Prop
 | 0, _, _, _, _ => False
 | n + 1, X, Y, A, B => (X.x.length ≤ stop ∧ A = R3.nil ∧ B = X) ∨ (stop < X.x.length ∧ Y.x.length ≤ stop ∧ A = X ∧ B = Y) ∨ (stop < X.x.length ∧ stop < Y.x.length ∧ ∃ Z, Nx p X Y Z ∧ Ds p stop n Y Z A B)
theorem Ds.found {p : Int} {wd : Bool} (hm : Md p wd) {stop : Nat} {a b : List Int} : ∀ (n : Nat) {X Y A B : R3}, In2 p a b X Y → Ds p stop n X Y A B → stop < X.x.length → In2 p a b A B ∧ stop < A.x.length ∧ B.x.length ≤ stop := by
 intro n
 induction n with
 | zero => intro X Y A B _ h; exact absurd h id
 | succ n ih =>
  intro X Y A B hi h hs
  rcases h with ⟨h1, rfl, rfl⟩ | ⟨h1, h2, rfl, rfl⟩ | ⟨h1, h2, Z, hz, h3⟩
  · omega
  · exact ⟨hi, h1, h2⟩
  · exact ih (hi.next hm hz) h3 h2
def Fnd (p : Int) (stop : Nat) (a b : List Int) (A B : R3) : Prop := ∃ n, Ds p stop n (rwA a) (rwB b) A B
theorem Fnd.case {p : Int} {wd : Bool} (hm : Md p wd) {stop : Nat} {a b : List Int} {A B : R3} (ha : Els p a) (hb : Els p b) (h : Fnd p stop a b A B) :
 ((tr a).length ≤ stop ∧ A = R3.nil ∧ B = rwA a) ∨ (In2 p a b A B ∧ stop < (tr a).length ∧ stop < A.x.length ∧ B.x.length ≤ stop) := by
 obtain ⟨n, h⟩ := h
 by_cases hs : stop < (tr a).length
 · have := Ds.found hm n (In2.start hm ha hb) h hs
   exact .inr ⟨this.1, hs, this.2.1, this.2.2⟩
 · cases n with
   | zero => exact absurd h id
   | succ n =>
    rcases h with ⟨h1, rfl, rfl⟩ | ⟨h1, _⟩ | ⟨h1, _⟩
    · exact .inl ⟨h1, rfl, rfl⟩
    · exact absurd h1 hs
    · exact absurd h1 hs
theorem Fnd.made {p : Int} {wd : Bool} (hm : Md p wd) {stop : Nat} {a b : List Int} {A B : R3} (ha : Els p a) (hb : Els p b) (h : Fnd p stop a b A B) :
 pl p B.x = qa (qm (pl p B.u) (pl p a)) (qm (pl p B.v) (pl p b)) ∧ B.x.length ≤ stop ∧ (B.u ≠ [] ∨ B.v ≠ []) ∧ B.x.length ≤ max (tr a).length (tr b).length ∧ B.u.length ≤ (tr b).length + 1 ∧ B.v.length ≤ (tr a).length + 1 := by
 rcases h.case hm ha hb with ⟨h1, rfl, rfl⟩ | ⟨hi, _, h1, h2⟩
 · have := (In2.start hm ha hb).bx
   refine ⟨this, h1, .inl (by show [1] ≠ []; simp), ?_, ?_, ?_⟩
   · show (tr a).length ≤ _; omega
   · show [1].length ≤ _; rw [List.length_singleton]; omega
   · show [].length ≤ _; rw [List.length_nil]; omega
 · refine ⟨hi.by', h2, ?_, hi.ny, ?_, ?_⟩
   · by_cases e : B.u = []
     · right; intro e2
       apply hi.det
       rw [e, e2, pl_nil_right, pl_nil_left]
     · exact .inl e
   · rcases hi.mu with m | m
     · rw [m]; exact Nat.zero_le _
     · omega
   · rcases hi.mv with m | m
     · rw [m]; exact Nat.zero_le _
     · omega
theorem Fnd.vlen {p : Int} {wd : Bool} (hm : Md p wd) {stop : Nat} {a b : List Int} {A B : R3} (ha : Els p a) (hb : Els p b) (h : Fnd p stop a b A B) (hne : tr a ≠ []) : B.v.length + stop ≤ (tr a).length ∨ B.v = [] := by
 rcases h.case hm ha hb with ⟨h1, rfl, rfl⟩ | ⟨hi, hs, h1, h2⟩
 · exact .inr rfl
 · rcases hi.mv with m | m
   · exact .inr m
   · left; omega
end Go.Proofs.YtnapbdoalfbgnaaGreat.Fld
namespace Go.Proofs.YtnapbdoalfbgnaaGreat.Fld
def fac (p x : Int) : List Int := [sub p 0 x, 1]
theorem fac_tm {p x : Int} {wd : Bool} (hm : Md p wd) : Tm p (fac p x) := by
 have hb := hm.bounds
 refine ⟨fun y hy => ?_, tr_full (.inr (show (1 : Int) ≠ 0 by decide))⟩
 have : y = sub p 0 x ∨ y = 1 := by simpa [fac] using hy
 rcases this with rfl | rfl
 · exact emod_el (by omega) _
 · exact ⟨by decide, by omega⟩
def zr (p : Int) : List Int → Pl p
 | [] => pl p [1]
 | x :: xs => qm (pl p (fac p x)) (zr p xs)
theorem zr_append (p : Int) (xs ys : List Int) : zr p (xs ++ ys) = qm (zr p xs) (zr p ys) := by
 induction xs with
 | nil => show zr p ys = qm (pl p [1]) (zr p ys); rw [pl_one_mul]
 | cons x xs ih => show qm (pl p (fac p x)) (zr p (xs ++ ys)) = qm (qm (pl p (fac p x)) (zr p xs)) (zr p ys); rw [ih, qm_assoc]
theorem zr_snoc (p : Int) (xs : List Int) (x : Int) : zr p (xs ++ [x]) = qm (zr p xs) (pl p (fac p x)) := by
 rw [zr_append]
 show qm (zr p xs) (qm (pl p (fac p x)) (pl p [1])) = _
 rw [pl_mul_one]
def zl (p : Int) : List Int → List Int
 | [] => [1]
 | x :: xs => prd p (fac p x) (zl p xs)
theorem zl_facts {p : Int} {wd : Bool} (hm : Md p wd) (xs : List Int) : Tm p (zl p xs) ∧ pl p (zl p xs) = zr p xs ∧ (zl p xs).length = xs.length + 1 := by
 induction xs with
 | nil =>
  have hb := hm.bounds
  exact ⟨Tm.single ⟨by decide, by omega⟩ (by decide), rfl, rfl⟩
 | cons x xs ih =>
  have hf := fac_tm (x := x) hm
  have hi := (is_prd hm hf.1 ih.1.1 hf.2 ih.1.2).tm
  refine ⟨hi.1, ?_, ?_⟩
  · show pl p (prd p (fac p x) (zl p xs)) = qm (pl p (fac p x)) (zr p xs)
    rw [pl_mul, ih.2.1]
  · show (prd p (fac p x) (zl p xs)).length = _
    rw [prd_len p _ _ (by simp [fac]) (fun e => by rw [e] at ih; simp at ih), ih.2.2]
    simp [fac]; omega
theorem zl_only {p : Int} {wd : Bool} (hm : Md p wd) {xs zs : List Int} (hz : Tm p zs) (h : pl p zs = zr p xs) : zs = zl p xs := by
 have hp : 0 < p := by have := hm.bounds; omega
 exact hz.only hp (zl_facts hm xs).1 (h.trans (zl_facts hm xs).2.1.symm)
theorem zl_top {p : Int} {wd : Bool} (hm : Md p wd) (xs : List Int) : co (zl p xs) xs.length = 1 := by
 have hp : 0 < p := by have := hm.bounds; omega
 have hb := hm.bounds
 have e1 : (1 : Int) % p = 1 := Int.emod_eq_of_lt (by omega) (by omega)
 induction xs with
 | nil => rfl
 | cons x xs ih =>
  have h1 := zl_facts hm xs
  have h2 := zl_facts hm (x :: xs)
  have e : co (zl p (x :: xs)) (1 + xs.length) % p = cv (co (fac p x)) (co (zl p xs)) (1 + xs.length) % p := pu_al (show pl p (zl p (x :: xs)) = qm (pl p (fac p x)) (pl p (zl p xs)) by rw [h2.2.1, h1.2.1]; rfl) (1 + xs.length)
  rw [cv_top (n := xs.length) 1 (fun i hi => co_out _ _ (by simp [fac]; omega)) (fun i hi => co_out _ _ (by rw [h1.2.2]; omega)), ih] at e
  have e2 : co (fac p x) 1 = 1 := rfl
  rw [e2, Int.mul_one, e1, (h2.1.1.co hp _).mod] at e
  show co (zl p (x :: xs)) (xs.length + 1) = 1
  rw [Nat.add_comm]; exact e
theorem vl_mul {p t : Int} {xs ys zs : List Int} (h : pl p zs = qm (pl p xs) (pl p ys)) : vl p t zs = (vl p t xs * vl p t ys) % p := by
 have h1 : vl p t zs = ev t (xs.length + ys.length) (cv (co xs) (co ys)) % p := vl_is (pu_al (show pu p (co zs) = pu p (cv (co xs) (co ys)) from h)) (fun i hi => cv_end i (fun j hj => co_out xs j hj) (fun j hj => co_out ys j hj) (by omega))
 rw [h1, ev_mul t (co ys) ys.length (fun i hi => co_out _ _ hi) xs.length (co xs) (fun i hi => co_out _ _ hi), Int.mul_emod]; rfl
theorem vl_add {p t : Int} {xs ys zs : List Int} (h : pl p zs = qa (pl p xs) (pl p ys)) : vl p t zs = (vl p t xs + vl p t ys) % p := by
 have h1 : vl p t zs = ev t (xs.length + ys.length) (fun i => co xs i + co ys i) % p := vl_is (pu_al (show pu p (co zs) = pu p (fun i => co xs i + co ys i) from h)) (fun i hi => by show co xs i + co ys i = 0; rw [co_out xs i (by omega), co_out ys i (by omega)]; rfl)
 rw [h1, ev_add t _ (co xs) (co ys), ev_more t xs.length ys.length (co xs) (fun i hi => co_out _ _ hi), Nat.add_comm, ev_more t ys.length xs.length (co ys) (fun i hi => co_out _ _ hi), Int.add_emod]; rfl
theorem vl_fac {p t x : Int} : vl p t (fac p x) = (t - x) % p := by
 show (sub p 0 x + t * (1 + t * 0)) % p = _
 unfold sub
 rw [Int.mul_zero, Int.add_zero, Int.mul_one, Int.add_emod, Int.emod_emod_of_dvd _ (Int.dvd_refl p), ← Int.add_emod]
 congr 1; omega
theorem zl_root {p t : Int} {wd : Bool} (hm : Md p wd) (ht : El p t) {xs : List Int} (hx : Els p xs) : vl p t (zl p xs) = 0 ↔ t ∈ xs := by
 have hb := hm.bounds
 induction xs with
 | nil =>
  constructor
  · intro h
    have e : vl p t [1] = 1 := by
     show (1 + t * 0) % p = 1
     rw [Int.mul_zero]; exact Int.emod_eq_of_lt (by decide) (by omega)
    exact absurd ((show vl p t [1] = 0 from h).symm.trans e) (by decide)
  · intro h; cases h
 | cons x xs ih =>
  have hxe := hx x List.mem_cons_self
  have ih := ih (fun y hy => hx y (List.mem_cons_of_mem _ hy))
  have e : vl p t (zl p (x :: xs)) = ((t - x) % p * vl p t (zl p xs)) % p := by
   have := vl_mul (p := p) (t := t) (zs := zl p (x :: xs)) (xs := fac p x) (ys := zl p xs) (by show pl p (prd p (fac p x) (zl p xs)) = _; rw [pl_mul])
   rw [this, vl_fac]
  have ev0 : vl p t (zl p xs) % p = vl p t (zl p xs) := (vl_el (by omega) t (zl p xs)).mod
  constructor
  · intro h
    rw [h] at e
    by_cases h0 : vl p t (zl p xs) = 0
    · exact List.mem_cons_of_mem _ (ih.1 h0)
    · have := no_div hm _ _ (by rw [ev0]; exact h0) e.symm
      rw [Int.emod_emod_of_dvd _ (Int.dvd_refl p)] at this
      have : t = x := by
       have h1 := ht.1; have h2 := ht.2; have h3 := hxe.1; have h4 := hxe.2
       have h5 := Int.emod_emod_of_dvd (t - x) (Int.dvd_refl p)
       by_cases hge : 0 ≤ t - x
       · rw [Int.emod_eq_of_lt hge (by omega)] at this; omega
       · have h6 : (t - x + p) % p = 0 := by rw [Int.add_emod_right]; exact this
         rw [Int.emod_eq_of_lt (by omega) (by omega)] at h6; omega
      rw [this]; exact List.mem_cons_self
  · intro h
    rw [e]
    rcases List.mem_cons.1 h with rfl | h
    · rw [Int.sub_self, Int.zero_emod, Int.zero_mul]; exact Int.zero_emod p
    · rw [ih.2 h, Int.mul_zero]; exact Int.zero_emod p
theorem rem_vl {p t : Int} {P M Q R : List Int} (h : Dv p P M Q R) (h0 : vl p t M = 0) : vl p t P = vl p t R := by
 have e := h.rg.2.2.2
 have h1 := vl_add (p := p) (t := t) (zs := P) (xs := prd p Q M) (ys := R) (by rw [pl_mul, e])
 have h2 := vl_mul (p := p) (t := t) (zs := prd p Q M) (xs := Q) (ys := M) (pl_mul p Q M)
 rw [h1, h2, h0, Int.mul_zero, Int.zero_emod, Int.zero_add]
 unfold vl
 exact Int.emod_emod_of_dvd _ (Int.dvd_refl p)
theorem rem_fac {p x : Int} {wd : Bool} (hm : Md p wd) (hx : El p x) {P Q R : List Int} (h : Dv p P (fac p x) Q R) : R = tr [vl p x P] := by
 have hp : 0 < p := by have := hm.bounds; omega
 have hl := h.rg.2.2.1
 rw [(fac_tm hm).2] at hl
 have hl : R.length < 2 := hl
 have hv := rem_vl (t := x) h (by rw [vl_fac, Int.sub_self]; exact Int.zero_emod p)
 have ht := h.rg.2.1
 match R, hl, ht, hv with
 | [], _, _, hv => rw [hv]; rfl
 | [r], _, ht, hv =>
  have hr := ht.1 r (List.mem_singleton.2 rfl)
  have e : vl p x [r] = r := by
   show (r + x * 0) % p = r
   rw [Int.mul_zero, Int.add_zero]; exact hr.mod
  rw [hv, e]; exact ht.2.symm
 | _ :: _ :: _, hl, _, _ => simp at hl; omega
def ck (xs : List Int) (s i : Nat) : List Int := (xs.drop (i * s)).take s
theorem ck_two (xs : List Int) (s i : Nat) : ck xs (2 * s) i = ck xs s (2 * i) ++ ck xs s (2 * i + 1) := by
 unfold ck
 have e1 : 2 * i * s = i * (2 * s) := by rw [Nat.mul_comm 2 i, Nat.mul_assoc]
 have e2 : (2 * i + 1) * s = i * (2 * s) + s := by rw [Nat.add_mul, e1, Nat.one_mul]
 rw [e1, e2, Nat.two_mul, List.take_add, List.drop_drop]
theorem ck_out (xs : List Int) (s i : Nat) (h : xs.length ≤ i * s) : ck xs s i = [] := by
 unfold ck; rw [List.drop_eq_nil_of_le h]; simp
theorem ck_one (xs : List Int) (i : Nat) (h : i < xs.length) : ck xs 1 i = [xs.getD i 0] := by
 unfold ck
 rw [Nat.mul_one]
 have : xs.drop i = xs[i] :: xs.drop (i + 1) := List.drop_eq_getElem_cons h
 rw [this, List.getD_eq_getElem?_getD, List.getElem?_eq_getElem h]; rfl
theorem ck_all (xs : List Int) (s : Nat) (h : xs.length ≤ s) : ck xs s 0 = xs := by
 unfold ck; rw [Nat.zero_mul, List.drop_zero, List.take_of_length_le h]
def cn (n s : Nat) : Nat := (n + (s - 1)) / s
theorem cn_lt {n s i : Nat} (hs : 0 < s) : i < cn n s ↔ i * s < n := by
 unfold cn
 rw [Nat.lt_iff_add_one_le, Nat.le_div_iff_mul_le hs, Nat.add_mul, Nat.one_mul]; omega
theorem zl_two {p : Int} {wd : Bool} (hm : Md p wd) (xs : List Int) (s i : Nat) : prd p (zl p (ck xs s (2 * i))) (zl p (ck xs s (2 * i + 1))) = zl p (ck xs (2 * s) i) := by
 have h1 := zl_facts hm (ck xs s (2 * i))
 have h2 := zl_facts hm (ck xs s (2 * i + 1))
 have hi := (is_prd hm h1.1.1 h2.1.1 h1.1.2 h2.1.2).tm
 exact zl_only hm hi.1 (by rw [pl_mul, h1.2.1, h2.2.1, ck_two, zr_append])
theorem zl_left {p : Int} (xs : List Int) (s i : Nat) (h : xs.length ≤ (2 * i + 1) * s) : zl p (ck xs (2 * s) i) = zl p (ck xs s (2 * i)) := by
 rw [ck_two, ck_out xs s (2 * i + 1) h, List.append_nil]
def sf (F : Nat → Int) : Nat → Int := fun i => ((i : Int) + 1) * F (i + 1)
theorem sf_cv (g : Nat → Int) (k : Nat) : ∀ f : Nat → Int, sf (cv f g) k = cv (sf f) g k + cv f (sf g) k := by
 induction k with
 | zero =>
  intro f
  show ((0 : Nat) + 1 : Int) * (f 0 * g 1 + f 1 * g 0) = (((0 : Nat) + 1 : Int) * f 1) * g 0 + f 0 * (((0 : Nat) + 1 : Int) * g 1)
  simp; omega
 | succ k ih =>
  intro f
  have ih' : ((k : Int) + 1) * cv (fun i => f (i + 1)) g (k + 1) = cv (sf fun i => f (i + 1)) g k + cv (fun i => f (i + 1)) (sf g) k := ih (fun i => f (i + 1))
  have hE : cv (sf f) g (k + 1) = cv (fun i => f (i + 1)) g (k + 1) + cv (sf fun i => f (i + 1)) g k := by
   have h1 : cv (sf f) g (k + 1) = cv (fun i => f (i + 1) + (i : Int) * f (i + 1)) g (k + 1) := cv_congr _ (fun i _ => by show ((i : Int) + 1) * f (i + 1) = _; rw [Int.add_mul, Int.one_mul]; omega) (fun i _ => rfl)
   rw [h1, cv_add_left g (k + 1) (fun i => f (i + 1)) (fun i => (i : Int) * f (i + 1))]
   congr 1
   show ((0 : Nat) : Int) * f 1 * g (k + 1) + cv (fun i => ((i + 1 : Nat) : Int) * f (i + 1 + 1)) g k = cv (sf fun i => f (i + 1)) g k
   have h2 : cv (fun i => ((i + 1 : Nat) : Int) * f (i + 1 + 1)) g k = cv (sf fun i => f (i + 1)) g k := cv_congr _ (fun i _ => by show ((i + 1 : Nat) : Int) * f (i + 1 + 1) = ((i : Int) + 1) * f (i + 1 + 1); congr 1) (fun i _ => rfl)
   rw [h2]; simp
  rw [hE]
  show ((k + 1 : Nat) + 1 : Int) * (f 0 * g (k + 1 + 1) + cv (fun i => f (i + 1)) g (k + 1)) = cv (fun i => f (i + 1)) g (k + 1) + cv (sf fun i => f (i + 1)) g k + (f 0 * (((k + 1 : Nat) + 1 : Int) * g (k + 1 + 1)) + cv (fun i => f (i + 1)) (sf g) k)
  have e3 : (((k + 1 : Nat) : Int) + 1) * (f 0 * g (k + 1 + 1)) = f 0 * ((((k + 1 : Nat) : Int) + 1) * g (k + 1 + 1)) := by rw [← Int.mul_assoc, Int.mul_comm _ (f 0), Int.mul_assoc]
  have e4 : (((k + 1 : Nat) : Int) + 1) * cv (fun i => f (i + 1)) g (k + 1) = cv (fun i => f (i + 1)) g (k + 1) + ((k : Int) + 1) * cv (fun i => f (i + 1)) g (k + 1) := by
   have : (((k + 1 : Nat) : Int) + 1) = 1 + ((k : Int) + 1) := by omega
   rw [this, Int.add_mul, Int.one_mul]
  rw [Int.mul_add, e3, e4, ih']; omega
theorem al_sf {p : Int} {F G : Nat → Int} (h : Al p F G) : Al p (sf F) (sf G) := fun i => by
 show (((i : Int) + 1) * F (i + 1)) % p = (((i : Int) + 1) * G (i + 1)) % p
 rw [Int.mul_emod, h (i + 1), ← Int.mul_emod]
def slp (p : Int) (xs : List Int) : List Int := tr (mk (xs.length - 1) (fun i => (((i : Int) + 1) * co xs (i + 1)) % p))
theorem is_slp {p : Int} (hp : 0 < p) (xs : List Int) : Is p (slp p xs) (sf (co xs)) := is_mk (F := sf (co xs)) hp (fun i hi => by
 show (((i : Int) + 1) * co xs (i + 1)) % p = 0
 rw [co_out xs (i + 1) (by omega), Int.mul_zero]; exact Int.zero_emod p)
theorem slp_mul {p : Int} (hp : 0 < p) {xs ys zs : List Int} (h : pl p zs = qm (pl p xs) (pl p ys)) : pl p (slp p zs) = qa (qm (pl p (slp p xs)) (pl p ys)) (qm (pl p xs) (pl p (slp p ys))) := by
 have h1 : Al p (co zs) (cv (co xs) (co ys)) := pu_al (show pu p (co zs) = pu p (cv (co xs) (co ys)) from h)
 rw [(is_slp hp zs).tm.2, (is_slp hp xs).tm.2, (is_slp hp ys).tm.2]
 show pu p (sf (co zs)) = pu p (fun i => cv (sf (co xs)) (co ys) i + cv (co xs) (sf (co ys)) i)
 exact pu_eq ((al_sf h1).trans (fun i => by rw [sf_cv]))
end Go.Proofs.YtnapbdoalfbgnaaGreat.Fld
