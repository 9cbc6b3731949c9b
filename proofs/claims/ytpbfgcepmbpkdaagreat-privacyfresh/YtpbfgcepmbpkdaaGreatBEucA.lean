/-
  Polynomials by a prime as a ring: functions alike by p are one; which divides which; what the greatest common divisor and the inverse by a modulus are, and that they are the only ones.
-/
import Derived.Test.YtpbfgcepmbpkdaaGreatBunP
namespace Go.Proofs.YtpbfgcepmbpkdaaGreat.Fld
set_option linter.unusedVariables false

def sr (p : Int) : Setoid (Nat → Int) := ⟨Al p, ⟨Al.refl p, Al.symm, Al.trans⟩⟩
def Pl (p : Int) : Type := Quotient (sr p)
def pu (p : Int) (f : Nat → Int) : Pl p := Quotient.mk (sr p) f
theorem pu_eq {p : Int} {f g : Nat → Int} (h : Al p f g) : pu p f = pu p g := Quotient.sound (s := sr p) h
theorem pu_al {p : Int} {f g : Nat → Int} (h : pu p f = pu p g) : Al p f g := Quotient.exact (s := sr p) h
def qa {p : Int} (x y : Pl p) : Pl p := Quotient.lift₂ (s₁ := sr p) (s₂ := sr p) (fun f g => pu p (fun i => f i + g i)) (fun _ _ _ _ h k => pu_eq (Al.add h k)) x y
def qm {p : Int} (x y : Pl p) : Pl p := Quotient.lift₂ (s₁ := sr p) (s₂ := sr p) (fun f g => pu p (cv f g)) (fun _ _ _ _ h k => pu_eq (Al.cv h k)) x y
theorem qa_pu {p : Int} (f g : Nat → Int) : qa (pu p f) (pu p g) = pu p (fun i => f i + g i) := rfl
theorem qm_pu {p : Int} (f g : Nat → Int) : qm (pu p f) (pu p g) = pu p (cv f g) := rfl
theorem pu_all {p : Int} (x : Pl p) : ∃ f, x = pu p f := Quotient.inductionOn (s := sr p) x (fun f => ⟨f, rfl⟩)
theorem qa_comm {p : Int} (x y : Pl p) : qa x y = qa y x := by
  obtain ⟨f, rfl⟩ := pu_all x
  obtain ⟨g, rfl⟩ := pu_all y
  rw [qa_pu, qa_pu]; congr 1; funext i; exact Int.add_comm _ _
theorem qa_assoc {p : Int} (x y z : Pl p) : qa (qa x y) z = qa x (qa y z) := by
  obtain ⟨f, rfl⟩ := pu_all x
  obtain ⟨g, rfl⟩ := pu_all y
  obtain ⟨h, rfl⟩ := pu_all z
  rw [qa_pu, qa_pu, qa_pu, qa_pu]; congr 1; funext i; exact Int.add_assoc _ _ _
theorem qm_comm {p : Int} (x y : Pl p) : qm x y = qm y x := by
  obtain ⟨f, rfl⟩ := pu_all x
  obtain ⟨g, rfl⟩ := pu_all y
  rw [qm_pu, qm_pu]; congr 1; funext i; exact cv_comm i f g
theorem qm_assoc {p : Int} (x y z : Pl p) : qm (qm x y) z = qm x (qm y z) := by
  obtain ⟨f, rfl⟩ := pu_all x
  obtain ⟨g, rfl⟩ := pu_all y
  obtain ⟨h, rfl⟩ := pu_all z
  rw [qm_pu, qm_pu, qm_pu, qm_pu]; congr 1; funext i; exact cv_assoc h i f g
theorem qm_left {p : Int} (x y z : Pl p) : qm x (qm y z) = qm y (qm x z) := by rw [← qm_assoc, qm_comm x y, qm_assoc]
theorem qm_qa {p : Int} (x y z : Pl p) : qm x (qa y z) = qa (qm x y) (qm x z) := by
  obtain ⟨f, rfl⟩ := pu_all x
  obtain ⟨g, rfl⟩ := pu_all y
  obtain ⟨h, rfl⟩ := pu_all z
  rw [qa_pu, qm_pu, qm_pu, qm_pu, qa_pu]; congr 1; funext i; exact cv_add_right g h i f
theorem qa_qm {p : Int} (x y z : Pl p) : qm (qa x y) z = qa (qm x z) (qm y z) := by rw [qm_comm, qm_qa, qm_comm z x, qm_comm z y]

def pl (p : Int) (xs : List Int) : Pl p := pu p (co xs)
theorem pl_nil_left {p : Int} (x : Pl p) : qm (pl p []) x = pl p [] := by
  obtain ⟨f, rfl⟩ := pu_all x
  show qm (pu p (co [])) (pu p f) = _
  rw [qm_pu]; exact pu_eq (fun i => by rw [cv_zero_left f i (co []) (fun j _ => rfl)]; rfl)
theorem pl_nil_add {p : Int} (x : Pl p) : qa (pl p []) x = x := by
  obtain ⟨f, rfl⟩ := pu_all x
  show qa (pu p (co [])) (pu p f) = _
  rw [qa_pu]; congr 1; funext i; exact Int.zero_add _
theorem pl_add_nil {p : Int} (x : Pl p) : qa x (pl p []) = x := by rw [qa_comm]; exact pl_nil_add x
theorem pl_one_mul {p : Int} (x : Pl p) : qm (pl p [1]) x = x := by
  obtain ⟨f, rfl⟩ := pu_all x
  show qm (pu p (co [1])) (pu p f) = _
  rw [qm_pu]; congr 1; funext i; rw [cv_single]; exact Int.one_mul _
theorem pl_mul_one {p : Int} (x : Pl p) : qm x (pl p [1]) = x := by rw [qm_comm]; exact pl_one_mul x
theorem pl_add (p : Int) (xs ys : List Int) : pl p (sm p 1 xs ys) = qa (pl p xs) (pl p ys) := pu_eq ((al_sm p 1 xs ys).trans (fun i => by show (co xs i + 1 * co ys i) % p = (co xs i + co ys i) % p; rw [Int.one_mul]))
theorem pl_mul (p : Int) (xs ys : List Int) : pl p (prd p xs ys) = qm (pl p xs) (pl p ys) := pu_eq (al_prd p xs ys)
theorem pl_tr (p : Int) (xs : List Int) : pl p (tr xs) = pl p xs := by unfold pl; congr 1; funext i; exact co_tr xs i
theorem pl_two (p c d : Int) : pl p [(c * d) % p] = qm (pl p [c]) (pl p [d]) := pu_eq (fun i => by
  rw [cv_single]
  cases i with
  | zero => show ((c * d) % p) % p = (c * d) % p; exact Int.emod_emod_of_dvd _ (Int.dvd_refl p)
  | succ i => show (0 : Int) % p = (c * 0) % p; rw [Int.mul_zero])

/-- A trimmed list of elements. -/
def Tm (p : Int) (xs : List Int) : Prop := Els p xs ∧ tr xs = xs
theorem Tm.only {p : Int} (hp : 0 < p) {xs ys : List Int} (hx : Tm p xs) (hy : Tm p ys) (h : pl p xs = pl p ys) : xs = ys := by
  have := Al.eq hp hx.1 hy.1 (pu_al h)
  rw [hx.2, hy.2] at this; exact this
theorem Tm.nil (p : Int) : Tm p [] := ⟨(fun x hx => by cases hx), rfl⟩
theorem Tm.tr {p : Int} (hp : 0 < p) {xs : List Int} (h : Els p xs) : Tm p (tr xs) := ⟨h.tr hp, tr_tr xs⟩
theorem Tm.single {p c : Int} (h : El p c) (hc : c ≠ 0) : Tm p [c] := ⟨fun x hx => by rw [List.mem_singleton.1 hx]; exact h, tr_full (.inr hc)⟩
theorem Is.tm {p : Int} {zs : List Int} {F : Nat → Int} (h : Is p zs F) : Tm p zs ∧ pl p zs = pu p F := ⟨⟨h.1, h.2.1⟩, pu_eq h.2.2⟩
theorem Tm.is {p : Int} {zs : List Int} {F : Nat → Int} (h : Tm p zs) (k : pl p zs = pu p F) : Is p zs F := ⟨h.1, h.2, pu_al k⟩
theorem Dv.rg {p : Int} {xs ys a b : List Int} (h : Dv p xs ys a b) : Tm p a ∧ Tm p b ∧ b.length < (tr ys).length ∧ qa (qm (pl p a) (pl p ys)) (pl p b) = pl p xs := ⟨⟨h.1, h.2.2.1⟩, ⟨h.2.1, h.2.2.2.1⟩, h.2.2.2.2.1, pu_eq h.2.2.2.2.2⟩
theorem Dv.of {p : Int} {xs ys a b : List Int} (h1 : Tm p a) (h2 : Tm p b) (h3 : b.length < (tr ys).length) (h4 : qa (qm (pl p a) (pl p ys)) (pl p b) = pl p xs) : Dv p xs ys a b := ⟨h1.1, h2.1, h1.2, h2.2, h3, pu_al h4⟩
/-- Any list, as a trimmed list of elements. -/
def nz (p : Int) (xs : List Int) : List Int := tr (mk xs.length (fun i => co xs i % p))
theorem nz_tm {p : Int} (hp : 0 < p) (xs : List Int) : Tm p (nz p xs) ∧ pl p (nz p xs) = pl p xs := (is_mk (F := co xs) hp (N := xs.length) (fun i hi => by rw [co_out _ _ hi]; exact Int.zero_emod p)).tm
/-- Of a product: the lists' lengths. -/
theorem prod_len {p : Int} {wd : Bool} (hm : Md p wd) {xs ks hs : List Int} (hx : Tm p xs) (hk : Tm p ks) (hh : Tm p hs) (h : pl p xs = qm (pl p ks) (pl p hs)) (hne : xs ≠ []) : ks ≠ [] ∧ hs ≠ [] ∧ xs.length + 1 = ks.length + hs.length := by
  have hp : 0 < p := by have := hm.bounds; omega
  have h1 := (is_prd hm hk.1 hh.1 hk.2 hh.2).tm
  have h2 : xs = prd p ks hs := hx.only hp h1.1 (h.trans h1.2.symm)
  have k1 : ks ≠ [] := fun e => hne (by rw [h2]; unfold prd; rw [if_pos (.inl e)])
  have k2 : hs ≠ [] := fun e => hne (by rw [h2]; unfold prd; rw [if_pos (.inr e)])
  refine ⟨k1, k2, ?_⟩
  have := prd_len p ks hs k1 k2
  have a1 := List.length_pos_iff.2 k1
  rw [← h2] at this; omega
/-- h divides x. -/
def Dd (p : Int) (hs xs : List Int) : Prop := ∃ ks : List Int, pl p xs = qm (pl p ks) (pl p hs)
theorem Dd.refl (p : Int) (xs : List Int) : Dd p xs xs := ⟨[1], (pl_one_mul _).symm⟩
theorem Dd.nil (p : Int) (xs : List Int) : Dd p xs [] := ⟨[], (pl_nil_left _).symm⟩
theorem Dd.trans {p : Int} {a b c : List Int} (h : Dd p a b) (k : Dd p b c) : Dd p a c := by
  obtain ⟨x, hx⟩ := h
  obtain ⟨y, hy⟩ := k
  exact ⟨prd p y x, by rw [pl_mul, qm_assoc, ← hx, hy]⟩
theorem Dd.sum {p : Int} {h a b u v x : List Int} (ha : Dd p h a) (hb : Dd p h b) (hx : pl p x = qa (qm (pl p u) (pl p a)) (qm (pl p v) (pl p b))) : Dd p h x := by
  obtain ⟨k, hk⟩ := ha
  obtain ⟨l, hl⟩ := hb
  exact ⟨sm p 1 (prd p u k) (prd p v l), by rw [pl_add, pl_mul, pl_mul, hx, hk, hl, qa_qm, qm_assoc, qm_assoc]⟩
theorem Dd.same {p : Int} {h a b : List Int} (ha : Dd p h a) (e : pl p a = pl p b) : Dd p h b := by
  obtain ⟨k, hk⟩ := ha
  exact ⟨k, by rw [← e]; exact hk⟩
theorem Dd.dv {p : Int} {x y q r h : List Int} (hd : Dv p x y q r) (hy : Dd p h y) (hr : Dd p h r) : Dd p h x :=
  Dd.sum hy hr (u := q) (v := [1]) (by rw [pl_one_mul]; exact hd.rg.2.2.2.symm)
def neg1 (p : Int) : List Int := [p - 1]
theorem neg_cancel {p : Int} (x : Pl p) : qa x (qm (pl p (neg1 p)) x) = pl p [] := by
  obtain ⟨f, rfl⟩ := pu_all x
  show qa (pu p f) (qm (pu p (co [p - 1])) (pu p f)) = pu p (co [])
  rw [qm_pu, qa_pu]
  refine pu_eq fun i => ?_
  show (f i + cv (co [p - 1]) f i) % p = (0 : Int) % p
  have e : f i + (p - 1) * f i = p * f i := by rw [Int.sub_mul]; omega
  rw [cv_single, e, Int.mul_emod_right, Int.zero_emod]
theorem Dd.dv' {p : Int} {x y q r h : List Int} (hd : Dv p x y q r) (hx : Dd p h x) (hy : Dd p h y) : Dd p h r :=
  Dd.sum hx hy (u := [1]) (v := prd p (neg1 p) q) (by
    rw [pl_one_mul, pl_mul, qm_assoc, ← hd.rg.2.2.2, qa_comm (qm (pl p q) (pl p y)), qa_assoc, neg_cancel, pl_add_nil])
/-- A divisor has no higher degree. -/
theorem Dd.len {p : Int} {wd : Bool} (hm : Md p wd) {h x : List Int} (hh : Tm p h) (hx : Tm p x) (hd : Dd p h x) (hne : x ≠ []) : h ≠ [] ∧ h.length ≤ x.length := by
  have hp : 0 < p := by have := hm.bounds; omega
  obtain ⟨k, hk⟩ := hd
  have hn := nz_tm hp k
  have := prod_len hm hx hn.1 hh (by rw [hn.2]; exact hk) hne
  have k1 := List.length_pos_iff.2 this.1
  exact ⟨this.2.1, by omega⟩
/-- What is divided leaves nothing. -/
theorem Dd.rest {p : Int} {wd : Bool} (hm : Md p wd) {x y q r : List Int} (hy : Els p y) (hd : Dv p x y q r) (h : Dd p y x) : r = [] := by
  have hp : 0 < p := by have := hm.bounds; omega
  obtain ⟨k, hk⟩ := h
  have hn := nz_tm hp k
  have := Dv.only hm hy hd (Dv.of hn.1 (Tm.nil p) (by have := hd.2.2.2.2.1; rw [List.length_nil]; omega) (by rw [pl_add_nil, hn.2]; exact hk.symm))
  exact this.2
theorem Dv.dd {p : Int} {x y q : List Int} (hd : Dv p x y q []) : Dd p y x := ⟨q, by rw [← hd.rg.2.2.2, pl_add_nil]⟩

/-- Divided by its highest coefficient. -/
def Mon (p : Int) (r g : List Int) : Prop := (r = [] ∧ g = []) ∨ (r ≠ [] ∧ Tm p g ∧ g.length = r.length ∧ co g (g.length - 1) = 1 ∧ ∃ c t : Int, (c * t) % p = 1 % p ∧ pl p g = qm (pl p [c]) (pl p r) ∧ pl p r = qm (pl p [t]) (pl p g))
theorem Mon.dd {p : Int} {r g : List Int} (h : Mon p r g) : Dd p g r ∧ Dd p r g := by
  rcases h with ⟨rfl, rfl⟩ | ⟨_, _, _, _, c, t, _, h1, h2⟩
  · exact ⟨Dd.refl _ _, Dd.refl _ _⟩
  · exact ⟨⟨_, h2⟩, ⟨_, h1⟩⟩
theorem Mon.tm {p : Int} {r g : List Int} (h : Mon p r g) : Tm p g := by
  rcases h with ⟨rfl, rfl⟩ | ⟨_, h, _⟩
  · exact Tm.nil p
  · exact h
theorem Mon.top {p : Int} {r g : List Int} (h : Mon p r g) : g = [] ∨ co g (g.length - 1) = 1 := by
  rcases h with ⟨rfl, rfl⟩ | ⟨_, _, _, h, _⟩
  · exact .inl rfl
  · exact .inr h
theorem Mon.len {p : Int} {r g : List Int} (h : Mon p r g) : g.length = r.length := by
  rcases h with ⟨rfl, rfl⟩ | ⟨_, _, h, _⟩
  · rfl
  · exact h
/-- Of two that divide one another, with the highest coefficient 1, there is one. -/
theorem mon_only {p : Int} {wd : Bool} (hm : Md p wd) {g k : List Int} (hg : Tm p g) (hk : Tm p k) (tg : g = [] ∨ co g (g.length - 1) = 1) (tk : k = [] ∨ co k (k.length - 1) = 1) (h1 : Dd p g k) (h2 : Dd p k g) : g = k := by
  have hp : 0 < p := by have := hm.bounds; omega
  by_cases eg : g = []
  · by_cases ek : k = []
    · rw [eg, ek]
    · exact absurd eg (Dd.len hm hg hk h1 ek).1
  by_cases ek : k = []
  · exact absurd ek (Dd.len hm hk hg h2 eg).1
  have l1 := (Dd.len hm hg hk h1 ek).2
  have l2 := (Dd.len hm hk hg h2 eg).2
  have hl : g.length = k.length := by omega
  obtain ⟨x, hx⟩ := h1
  have hn := nz_tm hp x
  have hx' : pl p k = qm (pl p (nz p x)) (pl p g) := by rw [hn.2]; exact hx
  have hpl := prod_len hm hk hn.1 hg hx' ek
  obtain ⟨c, hc⟩ : ∃ c, nz p x = [c] := by
    have : (nz p x).length = 1 := by omega
    exact List.length_eq_one_iff.1 this
  rw [hc] at hx' hn
  have e : co k (k.length - 1) % p = cv (co [c]) (co g) (k.length - 1) % p := pu_al hx' (k.length - 1)
  rw [cv_single, ← hl] at e
  rcases tg with tg | tg
  · exact absurd tg eg
  rcases tk with tk | tk
  · exact absurd tk ek
  rw [← hl] at tk
  rw [tg, tk, Int.mul_one] at e
  have hce := hn.1.1 c (List.mem_singleton.2 rfl)
  have hb := hm.bounds
  have e1 : (1 : Int) % p = 1 := Int.emod_eq_of_lt (by omega) (by omega)
  rw [hce.mod, e1] at e
  rw [← e, pl_one_mul] at hx'
  exact (hk.only hp hg hx').symm

/-- The greatest common divisor. -/
def Gc (p : Int) (a b g : List Int) : Prop := Tm p g ∧ (g = [] ∨ co g (g.length - 1) = 1) ∧ Dd p g a ∧ Dd p g b ∧ ∀ h, Dd p h a → Dd p h b → Dd p h g
theorem Gc.only {p : Int} {wd : Bool} (hm : Md p wd) {a b g k : List Int} (hg : Gc p a b g) (hk : Gc p a b k) : g = k :=
  mon_only hm hg.1 hk.1 hg.2.1 hk.2.1 (hk.2.2.2.2 g hg.2.2.1 hg.2.2.2.1) (hg.2.2.2.2 k hk.2.2.1 hk.2.2.2.1)
/-- Two have the same common divisors as two others. -/
def Cm (p : Int) (a b x y : List Int) : Prop := ∀ h, (Dd p h x ∧ Dd p h y) ↔ (Dd p h a ∧ Dd p h b)
theorem Cm.start (p : Int) (a b : List Int) : Cm p a b (tr a) (tr b) := fun h => ⟨fun ⟨h1, h2⟩ => ⟨h1.same (pl_tr p a), h2.same (pl_tr p b)⟩, fun ⟨h1, h2⟩ => ⟨h1.same (pl_tr p a).symm, h2.same (pl_tr p b).symm⟩⟩
theorem Cm.next {p : Int} {a b x y q r : List Int} (h : Cm p a b x y) (hd : Dv p x y q r) : Cm p a b y r := fun k => ⟨fun ⟨h1, h2⟩ => (h k).1 ⟨Dd.dv hd h1 h2, h1⟩, fun hk => by
  obtain ⟨h1, h2⟩ := (h k).2 hk
  exact ⟨h2, Dd.dv' hd h1 h2⟩⟩
/-- The inverse by a modulus, or that there is none. -/
def Mo (p : Int) (a m i : List Int) (ok : Bool) : Prop :=
  (ok = true ∧ Tm p i ∧ i.length < (tr m).length ∧ ∃ s t : List Int, qa (qm (pl p i) (pl p a)) (qm (pl p s) (pl p m)) = qa (pl p [1]) (qm (pl p t) (pl p m))) ∨
  (ok = false ∧ i = [] ∧ ∃ h, Tm p h ∧ 2 ≤ h.length ∧ Dd p h a ∧ Dd p h m)
theorem Mo.not {p : Int} {wd : Bool} (hm : Md p wd) {a m i h s t : List Int} (e : qa (qm (pl p i) (pl p a)) (qm (pl p s) (pl p m)) = qa (pl p [1]) (qm (pl p t) (pl p m))) (hh : Tm p h) (h2 : 2 ≤ h.length) (ha : Dd p h a) (hb : Dd p h m) : False := by
  have hb' := hm.bounds
  have h1 : Dd p h [1] := by
    obtain ⟨k, hk⟩ := ha
    obtain ⟨l, hl⟩ := hb
    refine ⟨sm p 1 (sm p 1 (prd p i k) (prd p s l)) (prd p (neg1 p) (prd p t l)), ?_⟩
    rw [pl_add, pl_add, pl_mul, pl_mul, pl_mul, pl_mul, qa_qm, qa_qm, qm_assoc, qm_assoc, qm_assoc, qm_assoc, ← hk, ← hl, e, qa_assoc, neg_cancel, pl_add_nil]
  have := Dd.len hm hh (Tm.single (p := p) (c := 1) ⟨by omega, by omega⟩ (by omega)) h1 (by simp)
  simp at this
  omega
theorem Mo.only {p : Int} {wd : Bool} (hm : Md p wd) {a m i j : List Int} {x y : Bool} (hme : Els p m) (h : Mo p a m i x) (k : Mo p a m j y) : i = j ∧ x = y := by
  rcases h with ⟨rfl, hi, li, s1, t1, e1⟩ | ⟨rfl, rfl, h, hh, h2, ha, hb⟩
  · rcases k with ⟨rfl, hj, lj, s2, t2, e2⟩ | ⟨rfl, rfl, h, hh, h2, ha, hb⟩
    · refine ⟨?_, rfl⟩
      have hp : 0 < p := by have := hm.bounds; omega
      have E1 : qa (pl p i) (qm (pl p (sm p 1 (prd p i t2) (prd p j s1))) (pl p m)) = qa (pl p j) (qm (pl p (sm p 1 (prd p j t1) (prd p i s2))) (pl p m)) := by
        have A1 : qa (pl p i) (qm (qm (pl p i) (pl p t2)) (pl p m)) = qa (qm (qm (pl p i) (pl p j)) (pl p a)) (qm (qm (pl p i) (pl p s2)) (pl p m)) := by
          have : qm (pl p i) (qa (pl p [1]) (qm (pl p t2) (pl p m))) = qm (pl p i) (qa (qm (pl p j) (pl p a)) (qm (pl p s2) (pl p m))) := by rw [e2]
          rw [qm_qa, qm_qa, pl_mul_one, ← qm_assoc, ← qm_assoc, ← qm_assoc] at this; exact this
        have A2 : qa (pl p j) (qm (qm (pl p j) (pl p t1)) (pl p m)) = qa (qm (qm (pl p i) (pl p j)) (pl p a)) (qm (qm (pl p j) (pl p s1)) (pl p m)) := by
          have : qm (pl p j) (qa (pl p [1]) (qm (pl p t1) (pl p m))) = qm (pl p j) (qa (qm (pl p i) (pl p a)) (qm (pl p s1) (pl p m))) := by rw [e1]
          rw [qm_qa, qm_qa, pl_mul_one, ← qm_assoc, ← qm_assoc, ← qm_assoc, qm_comm (pl p j) (pl p i)] at this; exact this
        rw [pl_add, pl_add, pl_mul, pl_mul, pl_mul, pl_mul, qa_qm, qa_qm, ← qa_assoc, ← qa_assoc, A1, A2, qa_assoc, qa_assoc, qa_comm (qm (qm (pl p i) (pl p s2)) (pl p m))]
      have n1 := nz_tm hp (sm p 1 (prd p i t2) (prd p j s1))
      have n2 := nz_tm hp (sm p 1 (prd p j t1) (prd p i s2))
      rw [← n1.2, ← n2.2] at E1
      have X := sm p 1 (prd p (nz p (sm p 1 (prd p i t2) (prd p j s1))) m) i
      have D1 : Dv p (sm p 1 (prd p (nz p (sm p 1 (prd p i t2) (prd p j s1))) m) i) m _ i := Dv.of n1.1 hi li (by rw [pl_add, pl_mul])
      have D2 : Dv p (sm p 1 (prd p (nz p (sm p 1 (prd p i t2) (prd p j s1))) m) i) m _ j := Dv.of n2.1 hj lj (by rw [pl_add, pl_mul, qa_comm, ← E1, qa_comm])
      exact (D1.only hm hme D2).2
    · exact absurd (Mo.not hm e1 hh h2 ha hb) id
  · rcases k with ⟨rfl, hj, lj, s2, t2, e2⟩ | ⟨rfl, rfl, _⟩
    · exact absurd (Mo.not hm e2 hh h2 ha hb) id
    · exact ⟨rfl, rfl⟩

end Go.Proofs.YtpbfgcepmbpkdaaGreat.Fld
