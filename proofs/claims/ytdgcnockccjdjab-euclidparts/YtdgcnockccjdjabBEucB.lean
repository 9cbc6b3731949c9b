/-
  Euclid's rows: the row behind two others, what two rows side by side keep, the row that is found.
-/
import Derived.Test.YtdgcnockccjdjabBEucA
namespace Go.Proofs.Ytdgcnockccjdjab.Fld
set_option linter.unusedVariables false

/-- A row: the first entry, and what it is made of. -/
structure R3 where
  x : List Int
  u : List Int
  v : List Int
def R3.nil : R3 := ⟨[], [], []⟩
theorem R3.ext' {X Y : R3} (h1 : X.x = Y.x) (h2 : X.u = Y.u) (h3 : X.v = Y.v) : X = Y := by
  cases X; cases Y; cases h1; cases h2; cases h3; rfl
/-- The row behind two others. -/
def Nx (p : Int) (X Y Z : R3) : Prop := ∃ q, Dv p X.x Y.x q Z.x ∧ Tm p Z.u ∧ Tm p Z.v ∧ qa (pl p Z.u) (qm (pl p q) (pl p Y.u)) = pl p X.u ∧ qa (pl p Z.v) (qm (pl p q) (pl p Y.v)) = pl p X.v
theorem Nx.only {p : Int} {wd : Bool} (hm : Md p wd) {X Y Z W : R3} (hy : Els p Y.x) (h : Nx p X Y Z) (k : Nx p X Y W) : Z = W := by
  have hp : 0 < p := by have := hm.bounds; omega
  obtain ⟨q, hd, tu, tv, eu, ev⟩ := h
  obtain ⟨r, kd, su, sv, fu, fv⟩ := k
  obtain ⟨rfl, e⟩ := hd.only hm hy kd
  exact R3.ext' e (tu.only hp su (qa_cancel (eu.trans fu.symm))) (tv.only hp sv (qa_cancel (ev.trans fv.symm)))

/-- What two rows side by side keep. -/
structure In2 (p : Int) (a b : List Int) (X Y : R3) : Prop where
  tx : Tm p X.x
  tu : Tm p X.u
  tv : Tm p X.v
  sx : Tm p Y.x
  su : Tm p Y.u
  sv : Tm p Y.v
  bx : pl p X.x = qa (qm (pl p X.u) (pl p a)) (qm (pl p X.v) (pl p b))
  by' : pl p Y.x = qa (qm (pl p Y.u) (pl p a)) (qm (pl p Y.v) (pl p b))
  det : qm (pl p X.u) (pl p Y.v) ≠ qm (pl p Y.u) (pl p X.v)
  lu : X.u = [] ∨ X.u.length + Y.x.length ≤ (tr b).length + 1
  mu : Y.u = [] ∨ Y.u.length + X.x.length ≤ (tr b).length + 1
  lv : X.v = [] ∨ X.v.length + Y.x.length ≤ (tr a).length + 1
  mv : Y.v = [] ∨ Y.v.length + X.x.length ≤ (tr a).length + 1
  nx : X.x.length ≤ max (tr a).length (tr b).length
  ny : Y.x.length ≤ max (tr a).length (tr b).length
  com : Cm p a b X.x Y.x

def rwA (a : List Int) : R3 := ⟨tr a, [1], []⟩
def rwB (b : List Int) : R3 := ⟨tr b, [], [1]⟩
theorem one_tm {p : Int} {wd : Bool} (hm : Md p wd) : Tm p [1] := Tm.single ⟨by decide, by have := hm.bounds; omega⟩ (by decide)
theorem one_ne {p : Int} {wd : Bool} (hm : Md p wd) : pl p [1] ≠ pl p [] := fun e => by
  have hp : 0 < p := by have := hm.bounds; omega
  have := (one_tm hm).only hp (Tm.nil p) e
  simp at this
theorem In2.start {p : Int} {wd : Bool} (hm : Md p wd) {a b : List Int} (ha : Els p a) (hb : Els p b) : In2 p a b (rwA a) (rwB b) := by
  have hp : 0 < p := by have := hm.bounds; omega
  refine ⟨Tm.tr hp ha, one_tm hm, Tm.nil p, Tm.tr hp hb, Tm.nil p, one_tm hm, ?_, ?_, ?_, .inr ?_, .inl rfl, .inl rfl, .inr ?_, ?_, ?_, Cm.start p a b⟩
  · show pl p (tr a) = qa (qm (pl p [1]) (pl p a)) (qm (pl p []) (pl p b))
    rw [pl_tr, pl_one_mul, pl_nil_left, pl_add_nil]
  · show pl p (tr b) = qa (qm (pl p []) (pl p a)) (qm (pl p [1]) (pl p b))
    rw [pl_tr, pl_one_mul, pl_nil_left, pl_nil_add]
  · show qm (pl p [1]) (pl p [1]) ≠ qm (pl p []) (pl p [])
    rw [pl_one_mul, pl_nil_left]; exact one_ne hm
  · show [1].length + (tr b).length ≤ _
    rw [List.length_singleton]; omega
  · show [1].length + (tr a).length ≤ _
    rw [List.length_singleton]; omega
  · show (tr a).length ≤ _; omega
  · show (tr b).length ≤ _; omega

theorem new_len {p : Int} {wd : Bool} (hm : Md p wd) {x y q z u w n : List Int} {K : Nat} (hd : Dv p x y q z) (hy : Tm p y) (hn : Tm p n) (hn2 : qa (pl p n) (qm (pl p q) (pl p w)) = pl p u) (l : u = [] ∨ u.length + y.length ≤ K) (m : w = [] ∨ w.length + x.length ≤ K) :
    n = [] ∨ n.length + y.length ≤ K := by
  have hp : 0 < p := by have := hm.bounds; omega
  by_cases hw : q = [] ∨ w = []
  · have h1 := rest_len hp hn hn2 (N := u.length) (Nat.le_refl _) (by rcases hw with h | h; exact .inl h; exact .inr (.inl h))
    rcases l with l | l
    · left; rw [l] at h1; exact List.length_eq_zero_iff.1 (by simpa using h1)
    · right; omega
  · have hq : q ≠ [] := fun e => hw (.inl e)
    have hw' : w ≠ [] := fun e => hw (.inr e)
    have hql := hd.len hm hy.1 hq
    rw [hy.2] at hql
    have q1 := List.length_pos_iff.2 hq
    have w1 := List.length_pos_iff.2 hw'
    have m' : w.length + x.length ≤ K := by rcases m with m | m; exact absurd m hw'; exact m
    have y1 : 0 < y.length := by have := hd.2.2.2.2.1; rw [hy.2] at this; omega
    have h1 := rest_len hp hn hn2 (N := K - y.length) (by rcases l with l | l; (rw [l]; exact Nat.zero_le _); omega) (.inr (.inr (by omega)))
    right; omega
theorem rem_len {p : Int} {wd : Bool} (hm : Md p wd) {x y q z : List Int} (hd : Dv p x y q z) (hy : Tm p y) : z.length ≤ x.length := by
  have hp : 0 < p := by have := hm.bounds; omega
  by_cases hq : q = []
  · exact rest_len hp hd.rg.2.1 (by rw [qa_comm]; exact hd.rg.2.2.2) (Nat.le_refl _) (.inl hq)
  · have hql := hd.len hm hy.1 hq
    have q1 := List.length_pos_iff.2 hq
    have := hd.2.2.2.2.1
    omega
theorem In2.next {p : Int} {wd : Bool} (hm : Md p wd) {a b : List Int} {X Y Z : R3} (h : In2 p a b X Y) (k : Nx p X Y Z) : In2 p a b Y Z := by
  have hp : 0 < p := by have := hm.bounds; omega
  obtain ⟨q, hd, ku, kv, eu, ev⟩ := k
  have hrl := rem_len hm hd h.sx
  have hzl : Z.x.length < Y.x.length := by have := hd.2.2.2.2.1; rw [h.sx.2] at this; exact this
  refine ⟨h.sx, h.su, h.sv, hd.rg.2.1, ku, kv, h.by', ?_, ?_, ?_, new_len hm hd h.sx ku eu h.lu h.mu, ?_, new_len hm hd h.sx kv ev h.lv h.mv, h.ny, Nat.le_trans hrl h.nx, h.com.next hd⟩
  · refine qa_cancel (z := qm (pl p q) (pl p Y.x)) ?_
    rw [qa_comm, hd.rg.2.2.2, h.bx, h.by', ← eu, ← ev, qa_qm, qa_qm, qm_qa, qm_assoc, qm_assoc, qa_assoc, qa_assoc]
    congr 1
    rw [qa_left]
  · intro e
    apply h.det
    rw [← eu, ← ev, qa_qm, qm_qa, ← e, qm_assoc, qm_left]
  · rcases h.mu with m | m
    · exact .inl m
    · right; omega
  · rcases h.mv with m | m
    · exact .inl m
    · right; omega

/-- The row that is found from two on, and the one ahead of it. -/
def Ds (p : Int) (stop : Nat) : Nat → R3 → R3 → R3 → R3 → Prop
  | 0, _, _, _, _ => False
  | n + 1, X, Y, A, B => (X.x.length ≤ stop ∧ A = R3.nil ∧ B = X) ∨ (stop < X.x.length ∧ Y.x.length ≤ stop ∧ A = X ∧ B = Y) ∨ (stop < X.x.length ∧ stop < Y.x.length ∧ ∃ Z, Nx p X Y Z ∧ Ds p stop n Y Z A B)
theorem Ds.only {p : Int} {wd : Bool} (hm : Md p wd) {stop : Nat} {a b : List Int} : ∀ (n m : Nat) {X Y A B C D : R3}, In2 p a b X Y → Ds p stop n X Y A B → Ds p stop m X Y C D → A = C ∧ B = D := by
  intro n
  induction n with
  | zero => intro m X Y A B C D _ h; exact absurd h id
  | succ n ih =>
    intro m X Y A B C D hi h k
    cases m with
    | zero => exact absurd k id
    | succ m =>
      rcases h with ⟨h1, rfl, rfl⟩ | ⟨h1, h2, rfl, rfl⟩ | ⟨h1, h2, Z, hz, h3⟩ <;> rcases k with ⟨k1, rfl, rfl⟩ | ⟨k1, k2, rfl, rfl⟩ | ⟨k1, k2, W, kz, k3⟩
      · exact ⟨rfl, rfl⟩
      · omega
      · omega
      · omega
      · exact ⟨rfl, rfl⟩
      · omega
      · omega
      · omega
      · obtain rfl := hz.only hm hi.sx.1 kz
        exact ih m (hi.next hm hz) h3 k3
/-- Behind a first row that is not yet it: what is found keeps what rows keep. -/
theorem Ds.found {p : Int} {wd : Bool} (hm : Md p wd) {stop : Nat} {a b : List Int} : ∀ (n : Nat) {X Y A B : R3}, In2 p a b X Y → Ds p stop n X Y A B → stop < X.x.length → In2 p a b A B ∧ stop < A.x.length ∧ B.x.length ≤ stop := by
  intro n
  induction n with
  | zero => intro X Y A B _ h; exact absurd h id
  | succ n ih =>
    intro X Y A B hi h hs
    rcases h with ⟨h1, rfl, rfl⟩ | ⟨h1, h2, rfl, rfl⟩ | ⟨h1, h2, Z, hz, h3⟩
    · omega
    · exact ⟨hi, h1, h2⟩
    · exact ih (hi.next hm hz) h3 h2
/-- Partial's answer. -/
def Fnd (p : Int) (stop : Nat) (a b : List Int) (A B : R3) : Prop := ∃ n, Ds p stop n (rwA a) (rwB b) A B
theorem Fnd.only {p : Int} {wd : Bool} (hm : Md p wd) {stop : Nat} {a b : List Int} {A B C D : R3} (ha : Els p a) (hb : Els p b) (h : Fnd p stop a b A B) (k : Fnd p stop a b C D) : A = C ∧ B = D := by
  obtain ⟨n, h⟩ := h
  obtain ⟨m, k⟩ := k
  exact Ds.only hm n m (In2.start hm ha hb) h k
/-- The first row, or one that another stands ahead of. -/
theorem Fnd.case {p : Int} {wd : Bool} (hm : Md p wd) {stop : Nat} {a b : List Int} {A B : R3} (ha : Els p a) (hb : Els p b) (h : Fnd p stop a b A B) :
    ((tr a).length ≤ stop ∧ A = R3.nil ∧ B = rwA a) ∨ (In2 p a b A B ∧ stop < (tr a).length ∧ stop < A.x.length ∧ B.x.length ≤ stop) := by
  obtain ⟨n, h⟩ := h
  by_cases hs : stop < (tr a).length
  · have := Ds.found hm n (In2.start hm ha hb) h hs
    exact .inr ⟨this.1, hs, this.2.1, this.2.2⟩
  · cases n with
    | zero => exact absurd h id
    | succ n =>
      rcases h with ⟨h1, rfl, rfl⟩ | ⟨h1, _⟩ | ⟨h1, _⟩
      · exact .inl ⟨h1, rfl, rfl⟩
      · exact absurd h1 hs
      · exact absurd h1 hs
theorem Fnd.tm {p : Int} {wd : Bool} (hm : Md p wd) {stop : Nat} {a b : List Int} {A B : R3} (ha : Els p a) (hb : Els p b) (h : Fnd p stop a b A B) : Tm p B.x ∧ Tm p B.u ∧ Tm p B.v ∧ Tm p A.x := by
  have hp : 0 < p := by have := hm.bounds; omega
  rcases h.case hm ha hb with ⟨_, rfl, rfl⟩ | ⟨hi, _⟩
  · exact ⟨Tm.tr hp ha, one_tm hm, Tm.nil p, Tm.nil p⟩
  · exact ⟨hi.sx, hi.su, hi.sv, hi.tx⟩
/-- What it is made of, and that it is made of something; lengths. -/
theorem Fnd.made {p : Int} {wd : Bool} (hm : Md p wd) {stop : Nat} {a b : List Int} {A B : R3} (ha : Els p a) (hb : Els p b) (h : Fnd p stop a b A B) :
    pl p B.x = qa (qm (pl p B.u) (pl p a)) (qm (pl p B.v) (pl p b)) ∧ B.x.length ≤ stop ∧ (B.u ≠ [] ∨ B.v ≠ []) ∧ B.x.length ≤ max (tr a).length (tr b).length ∧ B.u.length ≤ (tr b).length + 1 ∧ B.v.length ≤ (tr a).length + 1 := by
  rcases h.case hm ha hb with ⟨h1, rfl, rfl⟩ | ⟨hi, _, h1, h2⟩
  · have := (In2.start hm ha hb).bx
    refine ⟨this, h1, .inl (by show [1] ≠ []; simp), ?_, ?_, ?_⟩
    · show (tr a).length ≤ _; omega
    · show [1].length ≤ _; rw [List.length_singleton]; omega
    · show [].length ≤ _; rw [List.length_nil]; omega
  · refine ⟨hi.by', h2, ?_, hi.ny, ?_, ?_⟩
    · by_cases e : B.u = []
      · right; intro e2
        apply hi.det
        rw [e, e2, pl_nil_right, pl_nil_left]
      · exact .inl e
    · rcases hi.mu with m | m
      · rw [m]; exact Nat.zero_le _
      · omega
    · rcases hi.mv with m | m
      · rw [m]; exact Nat.zero_le _
      · omega
/-- v is shorter than the first polynomial, where a row of more than an element stands ahead. -/
theorem Fnd.vlen {p : Int} {wd : Bool} (hm : Md p wd) {stop : Nat} {a b : List Int} {A B : R3} (ha : Els p a) (hb : Els p b) (h : Fnd p stop a b A B) (hne : tr a ≠ []) : B.v.length + stop ≤ (tr a).length ∨ B.v = [] := by
  rcases h.case hm ha hb with ⟨h1, rfl, rfl⟩ | ⟨hi, hs, h1, h2⟩
  · exact .inr rfl
  · rcases hi.mv with m | m
    · exact .inr m
    · left; omega
/-- The row ahead of the last one is the greatest common divisor. -/
theorem Fnd.gc {p : Int} {wd : Bool} (hm : Md p wd) {a b g : List Int} {A B : R3} (ha : Els p a) (hb : Els p b) (h : Fnd p 0 a b A B) (hne : tr a ≠ []) (hg : Mon p A.x g) : Gc p a b g := by
  rcases h.case hm ha hb with ⟨h1, _⟩ | ⟨hi, hs, h1, h2⟩
  · exact absurd (List.length_eq_zero_iff.1 (Nat.le_zero.1 h1)) hne
  · have e : B.x = [] := List.length_eq_zero_iff.1 (Nat.le_zero.1 h2)
    have := hi.com
    rw [e] at this
    exact this.gc hg
theorem Gc.swap {p : Int} {a b g : List Int} (h : Gc p a b g) : Gc p b a g := ⟨h.1, h.2.1, h.2.2.2.1, h.2.2.1, fun k h1 h2 => h.2.2.2.2 k h2 h1⟩
theorem Gc.zero {p : Int} {a b : List Int} (ha : tr a = []) (hb : tr b = []) : Gc p a b [] :=
  ⟨Tm.nil p, .inl rfl, (Dd.nil p []).same (by rw [← pl_tr p a, ha]), (Dd.nil p []).same (by rw [← pl_tr p b, hb]), fun h _ _ => Dd.nil p h⟩
/-- The inverse out of the row that is found at an element. -/
theorem Fnd.mo {p : Int} {wd : Bool} (hm : Md p wd) {m a i : List Int} {A B : R3} (hm' : Els p m) (ha : Els p a) (h : Fnd p 1 m a A B) (hne : tr m ≠ []) :
    (B.x = [] → Mo p a m [] false) ∧ (∀ (c d : Int), B.x = [c] → (d * c) % p = 1 % p → Tm p i → pl p i = qm (pl p [d]) (pl p B.v) → Mo p a m i true) := by
  have hp : 0 < p := by have := hm.bounds; omega
  have hmade := (h.made hm hm' ha).1
  have hvl := h.vlen hm hm' ha hne
  have hml := List.length_pos_iff.2 hne
  constructor
  · intro e
    rcases h.case hm hm' ha with ⟨h1, rfl, rfl⟩ | ⟨hi, hs, h1, h2⟩
    · exact absurd e hne
    · refine .inr ⟨rfl, rfl, A.x, hi.tx, by omega, ?_⟩
      have := (hi.com A.x).1 ⟨Dd.refl _ _, by rw [e]; exact Dd.nil _ _⟩
      exact ⟨this.2, this.1⟩
  · intro c d e hc ti hi
    refine .inl ⟨rfl, ti, ?_, prd p [d] B.u, [], ?_⟩
    · have : i.length ≤ B.v.length := by
        by_cases hn : i = []
        · rw [hn]; exact Nat.zero_le _
        · have htd : d % p ≠ 0 := fun e0 => by
            have hb := hm.bounds
            rw [Int.mul_emod, e0, Int.zero_mul, Int.zero_emod, Int.emod_eq_of_lt (by omega) (by omega)] at hc
            exact absurd hc (by decide)
          have h2 := nz_tm hp [d]
          have h3 := prod_len hm ti h2.1 (h.tm hm hm' ha).2.2.1 (by rw [h2.2]; exact hi) hn
          have h4 := nz_len p [d]
          rw [List.length_singleton] at h4
          omega
      rcases hvl with hvl | hvl
      · omega
      · rw [hvl, List.length_nil] at this; omega
    · rw [pl_nil_left, pl_add_nil, hi, pl_mul, qm_assoc, qm_assoc, ← qm_qa, qa_comm, ← hmade, e, ← pl_two]
      congr 2
      rw [hc]
      have hb := hm.bounds
      exact Int.emod_eq_of_lt (by omega) (by omega)

/-- Ratio's answer, out of the row. -/
def Ra (p : Int) (r v n d : List Int) (ok : Bool) : Prop := (ok = true ∧ v ≠ [] ∧ Dv p r v n [] ∧ Mon p v d) ∨ (ok = false ∧ n = [] ∧ d = [] ∧ (v = [] ∨ ∃ q t, Dv p r v q t ∧ t ≠ []))
theorem Mon.only {p : Int} {wd : Bool} (hm : Md p wd) {r g k : List Int} (h : Mon p r g) (h' : Mon p r k) : g = k :=
  mon_only hm h.tm h'.tm h.top h'.top (h.dd.1.trans h'.dd.2) (h'.dd.1.trans h.dd.2)
theorem Ra.only {p : Int} {wd : Bool} (hm : Md p wd) {r v n d k l : List Int} {x y : Bool} (hv : Els p v) (h : Ra p r v n d x) (h' : Ra p r v k l y) : n = k ∧ d = l ∧ x = y := by
  rcases h with ⟨rfl, h1, h2, h3⟩ | ⟨rfl, rfl, rfl, h1⟩ <;> rcases h' with ⟨rfl, k1, k2, k3⟩ | ⟨rfl, rfl, rfl, k1⟩
  · exact ⟨(h2.only hm hv k2).1, h3.only hm k3, rfl⟩
  · rcases k1 with k1 | ⟨q, t, k1, k2⟩
    · exact absurd k1 h1
    · exact absurd (h2.only hm hv k1).2.symm k2
  · rcases h1 with h1 | ⟨q, t, h1, h2⟩
    · exact absurd h1 k1
    · exact absurd (h1.only hm hv k2).2 h2
  · exact ⟨rfl, rfl, rfl⟩
/-- Where there is a ratio: n times d, and g times d, by m. -/
theorem Ra.parts {p : Int} {m g u r v n d : List Int} (h : Ra p r v n d true) (hb : pl p r = qa (qm (pl p u) (pl p m)) (qm (pl p v) (pl p g))) :
    ∃ s : List Int, qm (pl p n) (pl p d) = qa (qm (pl p s) (pl p m)) (qm (pl p g) (pl p d)) := by
  rcases h with ⟨_, h1, h2, h3⟩ | ⟨h0, _⟩
  · rcases h3 with ⟨h3, _⟩ | ⟨_, _, _, _, c, t, _, h4, _⟩
    · exact absurd h3 h1
    · refine ⟨prd p [c] u, ?_⟩
      have e := h2.rg.2.2.2
      rw [pl_add_nil] at e
      rw [h4, qm_left, e, hb, pl_mul, qm_qa, qm_assoc, qm_left (pl p g), qm_comm (pl p g)]
  · exact absurd h0 (by decide)

end Go.Proofs.Ytdgcnockccjdjab.Fld
