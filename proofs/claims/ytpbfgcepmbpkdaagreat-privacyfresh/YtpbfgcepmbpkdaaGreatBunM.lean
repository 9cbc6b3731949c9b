/- Texts laid together: LmA, SlwA, MemA. -/
import Derived.Test.YtpbfgcepmbpkdaaGreatBunQ
import Derived.Test.YtpbfgcepmbpkdaaGreatBunS
import Derived.BigQuiet
import Derived.Maps.AppendAt
import Derived.RangeFuncSeq
import Derived.Lib.OthersKept
import Derived.Lib.AppendZeros
import Derived.Laws.OwnMore
namespace Go.Proofs.YtpbfgcepmbpkdaaGreat
open Go.RowKit
set_option linter.unusedVariables false

/-- Elements x, each written as the sz cells f x. -/
def Lm {α : Type} (f : α → List Value) (sz : Nat) (w : World) (v : Value) (xs : List α) : Prop :=
  ∃ ao cap, v = .slice ao xs.length cap ∧ (xs.length ≤ cap ∧ xs.length ≤ 140737488500000 ∧ (ao = none → cap = 0)) ∧
    (xs ≠ [] → ∃ b off, ao = some ⟨b, off, none⟩ ∧ b < w.heap.size ∧ ∀ i x, xs[i]? = some x → ∀ j u, (f x)[j]? = some u → w.cell? ⟨b, off + (i * sz + j), none⟩ = some u)
theorem Lm.below {α : Type} {f : α → List Value} {sz : Nat} {w w' : World} {v : Value} {xs : List α} (h : Lm f sz w v xs) (hb : Below w.heap.size w w') : Lm f sz w' v xs := by
  obtain ⟨ao, cap, rfl, h1, h3⟩ := h
  refine ⟨ao, cap, rfl, h1, fun hne => ?_⟩
  obtain ⟨b, off, rfl, hbl, hc⟩ := h3 hne
  exact ⟨b, off, rfl, Nat.lt_of_lt_of_le hbl hb.size, fun i x hx j u hu => (hb.cell (p := ⟨b, off + (i * sz + j), none⟩) hbl).trans (hc i x hx j u hu)⟩
theorem Lm.spell {α : Type} {f : α → List Value} {sz : Nat} {w : World} {v : Value} {xs : List α} (h : Lm f sz w v xs) : ∃ ao cap, v = .slice ao xs.length cap ∧ xs.length ≤ cap := by
  obtain ⟨ao, cap, h1, h2, _⟩ := h; exact ⟨ao, cap, h1, h2.1⟩
theorem Lm.len {α : Type} {f : α → List Value} {sz : Nat} {w : World} {v : Value} {xs : List α} (h : Lm f sz w v xs) : xs.length ≤ 140737488500000 := by
  obtain ⟨_, _, _, h, _⟩ := h; exact h.2.1
theorem Lm.none_ {α : Type} {f : α → List Value} {sz : Nat} {w : World} {n cap : Nat} {xs : List α} (h : Lm f sz w (.slice none n cap) xs) : n = 0 ∧ cap = 0 ∧ xs = [] := by
  obtain ⟨ao, cap', h1, h2, h4⟩ := h
  cases h1
  have : xs = [] := by
    apply Classical.byContradiction; intro hne
    obtain ⟨b, off, h5, _⟩ := h4 hne; cases h5
  exact ⟨by rw [this]; rfl, h2.2.2 rfl, this⟩
theorem Lm.form {α : Type} {f : α → List Value} {sz : Nat} {w : World} {v : Value} {xs : List α} (h : Lm f sz w v xs) (h0 : 0 < xs.length) : ∃ b off cap, v = .slice (some ⟨b, off, none⟩) xs.length cap ∧ xs.length ≤ cap ∧ b < w.heap.size := by
  obtain ⟨ao, cap, rfl, h1, h3⟩ := h
  obtain ⟨b, off, rfl, hb, _⟩ := h3 (by intro h; rw [h] at h0; simp at h0)
  exact ⟨b, off, cap, rfl, h1.1, hb⟩
/-- A cell of an element, at the list's own spelling. -/
theorem Lm.at_ {α : Type} {f : α → List Value} {sz : Nat} {w : World} {b off n cap : Nat} {xs : List α} (h : Lm f sz w (.slice (some ⟨b, off, none⟩) n cap) xs) {i j : Nat} {x : α} {u : Value} (hx : xs[i]? = some x) (hu : (f x)[j]? = some u) : b < w.heap.size ∧ w.cell? ⟨b, off + (i * sz + j), none⟩ = some u := by
  obtain ⟨ao, cap', h1, h2, h4⟩ := h
  cases h1
  obtain ⟨b', off', h5, hb, hc⟩ := h4 (by intro h; rw [h] at hx; simp at hx)
  cases h5
  exact ⟨hb, hc i x hx j u hu⟩
theorem lm_nil {α : Type} (f : α → List Value) (sz : Nat) (w : World) : Lm f sz w (.slice none 0 0) [] := ⟨none, 0, rfl, ⟨Nat.le_refl _, by simp, fun _ => rfl⟩, fun h => absurd rfl h⟩
theorem flat_get {α : Type} (f : α → List Value) (sz : Nat) (hf : ∀ x, (f x).length = sz) : ∀ (xs : List α) (i : Nat) (x : α) (j : Nat), xs[i]? = some x → j < sz → (xs.flatMap f)[i * sz + j]? = (f x)[j]?
  | [], i, x, j, hx, _ => by simp at hx
  | y :: xs, 0, x, j, hx, hj => by
    have : y = x := by simpa using hx
    subst this
    rw [List.flatMap_cons, Nat.zero_mul, Nat.zero_add, List.getElem?_append_left (by rw [hf]; exact hj)]
  | y :: xs, i + 1, x, j, hx, hj => by
    have h2 : xs[i]? = some x := by simpa using hx
    rw [List.flatMap_cons, List.getElem?_append_right (by rw [hf, Nat.add_mul]; omega), hf, ← flat_get f sz hf xs i x j h2 hj]
    congr 1
    rw [Nat.add_mul]; omega
theorem flat_len {α : Type} (f : α → List Value) (sz : Nat) (hf : ∀ x, (f x).length = sz) (xs : List α) : (xs.flatMap f).length = xs.length * sz := by
  induction xs with
  | nil => simp
  | cons x xs ih => rw [List.flatMap_cons, List.length_append, hf, ih, List.length_cons, Nat.add_mul]; omega
/-- A list that the call itself has made reads as a list. -/
theorem lm_of_own {α : Type} {f : α → List Value} {sz : Nat} (hf : ∀ x, (f x).length = sz) (hs : 0 < sz) {w : World} {base n : Nat} {v : Value} {xs : List α} {T : TypeId} (h : w.ownsRow base T sz v n (xs.flatMap f)) (hl : xs.length ≤ 140737488500000) : Lm f sz w v xs := by
  have hn : xs.length = n := by
    have := h.1
    rw [flat_len f sz hf] at this
    exact Nat.eq_of_mul_eq_mul_right hs this
  subst hn
  rcases h.2 with ⟨rfl, h0⟩ | ⟨g, cap, cur, rfl, hbs, hh, h1, h2, h3, h4⟩
  · exact ⟨none, 0, by rw [h0], ⟨by omega, hl, fun _ => rfl⟩, fun hne => absurd (List.length_eq_zero_iff.1 h0) hne⟩
  · refine ⟨_, cap, rfl, ⟨h1, hl, fun h => by cases h⟩, fun hne => ⟨g, 0, rfl, ?_, fun i x hx j u hu => ?_⟩⟩
    · apply Nat.lt_of_not_le; intro hc; rw [Array.getElem?_eq_none hc] at hh; cases hh
    · have hi : i < xs.length := (List.getElem?_eq_some_iff.1 hx).1
      have hj : j < sz := by rw [← hf x]; exact (List.getElem?_eq_some_iff.1 hu).1
      have hlt : i * sz + j < xs.length * sz := by
        have := Nat.mul_le_mul_right sz (show i + 1 ≤ xs.length by omega)
        rw [Nat.add_mul, Nat.one_mul] at this
        omega
      rw [cell_of_row w g (0 + (i * sz + j)) cur T (0, 0) hh, Nat.zero_add]
      have e1 : cur[i * sz + j]? = cur.toList[i * sz + j]? := by simp
      have e2 : cur.toList[i * sz + j]? = (xs.flatMap f)[i * sz + j]? := by rw [← h4, List.getElem?_take_of_lt hlt]
      rw [e1, e2, flat_get f sz hf xs i x j hx hj, hu]
/-- What an append of them lays down. -/
theorem Lm.news {α : Type} {f : α → List Value} {sz : Nat} (hf : ∀ x, (f x).length = sz) (hs : 0 < sz) {w : World} {ad : Addr} {n cap : Nat} {xs : List α} (h : Lm f sz w (.slice (some ad) n cap) xs) : ∀ j u, (xs.flatMap f)[j]? = some u → w.cell? (ad.add j) = some u := by
  intro k u hk
  have hkl : k < xs.length * sz := by rw [← flat_len f sz hf xs]; exact (List.getElem?_eq_some_iff.1 hk).1
  have hi : k / sz < xs.length := Nat.div_lt_of_lt_mul (by rw [Nat.mul_comm]; exact hkl)
  have hj : k % sz < sz := Nat.mod_lt _ hs
  have hkk : k / sz * sz + k % sz = k := by rw [Nat.mul_comm]; exact Nat.div_add_mod k sz
  obtain ⟨ao, cap', h1, h2, h4⟩ := h
  cases h1
  obtain ⟨b, off, h5, hb, hc⟩ := h4 (by intro h; rw [h] at hi; simp at hi)
  cases h5
  have hadd : (⟨b, off, none⟩ : Addr).add k = ⟨b, off + k, none⟩ := by unfold Addr.add; split <;> simp_all
  have hx : xs[k / sz]? = some xs[k / sz] := List.getElem?_eq_getElem hi
  have hg := flat_get f sz hf xs (k / sz) _ (k % sz) hx hj
  rw [hkk, hk] at hg
  have := hc (k / sz) _ hx (k % sz) u hg.symm
  rw [hkk] at this
  rw [hadd]; exact this

/-- Integers of the kind int. -/
def iw (x : Int) : List Value := [.int .i64 x]
theorem iw_len (x : Int) : (iw x).length = 1 := rfl
/-- Whether all are of the kind int. -/
def Iw (xs : List Int) : Prop := ∀ x ∈ xs, -9223372036854775808 ≤ x ∧ x ≤ 9223372036854775807

end Go.Proofs.YtpbfgcepmbpkdaaGreat

namespace Go.Proofs.YtpbfgcepmbpkdaaGreat
open Go.RowKit Fld Slp
set_option linter.unusedVariables false
set_option linter.unusedSimpArgs false

/-- A step as it lies in memory. -/
def opw (o : O4) : List Value := [.int .u8 o.k, .int .i64 o.a, .int .i64 o.b, .int .u64 o.c]
/-- A step's numbers are of their kinds. -/
def Ok4 (o : O4) : Prop := (0 ≤ o.k ∧ o.k ≤ 255) ∧ (-9223372036854775808 ≤ o.a ∧ o.a ≤ 9223372036854775807) ∧ (-9223372036854775808 ≤ o.b ∧ o.b ≤ 9223372036854775807) ∧ (0 ≤ o.c ∧ o.c ≤ 18446744073709551615)
def opv (o : O4) : Value := .agg #[.int .u8 o.k, .int .i64 o.a, .int .i64 o.b, .int .u64 o.c]

/-- A program in memory, for reading. -/
structure Pm (w : World) (v : Value) (p : Pr) : Prop where
  form : ∃ vo vu, v = .agg #[.int .i64 p.inp, vo, vu] ∧ Lm opw 4 w vo p.ops ∧ Lm iw 1 w vu p.outs
  inb : -9223372036854775808 ≤ p.inp ∧ p.inp ≤ 9223372036854775807
  okb : ∀ o ∈ p.ops, Ok4 o
  oub : Iw p.outs
theorem Pm.below {w w' : World} {v : Value} {p : Pr} (h : Pm w v p) (hb : Below w.heap.size w w') : Pm w' v p := by
  obtain ⟨vo, vu, rfl, h1, h2⟩ := h.form
  exact ⟨⟨vo, vu, rfl, h1.below hb, h2.below hb⟩, h.inb, h.okb, h.oub⟩
/-- A step's cells, and a number's, as the walk spells them. -/
theorem Lm.op {w wr : World} {b off n cap j : Nat} {os : List O4} (h : Lm opw 4 w (.slice (some ⟨b, off, none⟩) n cap) os) (hb : Below w.heap.size w wr) (hj : j < os.length) :
    wr.cell? ⟨b, off + j * 4, none⟩ = some (.int .u8 os[j].k) ∧ wr.cell? ⟨b, off + j * 4 + 1, none⟩ = some (.int .i64 os[j].a) ∧ wr.cell? ⟨b, off + j * 4 + 2, none⟩ = some (.int .i64 os[j].b) ∧ wr.cell? ⟨b, off + j * 4 + 3, none⟩ = some (.int .u64 os[j].c) := by
  have hx : os[j]? = some os[j] := List.getElem?_eq_getElem hj
  have key : ∀ i u, (opw os[j])[i]? = some u → wr.cell? ⟨b, off + (j * 4 + i), none⟩ = some u := fun i u hu => by
    obtain ⟨hbl, hc⟩ := h.at_ hx hu
    exact (hb.cell (p := ⟨b, off + (j * 4 + i), none⟩) hbl).trans hc
  exact ⟨key 0 _ rfl, key 1 _ rfl, key 2 _ rfl, key 3 _ rfl⟩
theorem Lm.int {w wr : World} {b off n cap j : Nat} {xs : List Int} (h : Lm iw 1 w (.slice (some ⟨b, off, none⟩) n cap) xs) (hb : Below w.heap.size w wr) (hj : j < xs.length) : wr.cell? ⟨b, off + j, none⟩ = some (.int .i64 xs[j]) := by
  have hx : xs[j]? = some xs[j] := List.getElem?_eq_getElem hj
  obtain ⟨hbl, hc⟩ := h.at_ hx (j := 0) (u := .int .i64 xs[j]) rfl
  have := (hb.cell (p := ⟨b, off + (j * 1 + 0), none⟩) hbl).trans hc
  rwa [Nat.mul_one, Nat.add_zero] at this
/-- A program laid out as the value of a parameter. -/
def pmv (p : Pr) (ao au : Option Addr) (co cu : Nat) : Array Value := #[.int .i64 p.inp, .slice ao p.ops.length co, .slice au p.outs.length cu]
end Go.Proofs.YtpbfgcepmbpkdaaGreat

namespace Go.Proofs.YtpbfgcepmbpkdaaGreat
open Go.RowKit Fld Slp
set_option linter.unusedVariables false
set_option linter.unusedSimpArgs false

/-- A row that a call made has its slice's form. -/
theorem own_slice {w : World} {b n s : Nat} {T : TypeId} {v : Value} {xs : List Value} (h : w.ownsRow b T s v n xs) : ∃ a c, v = .slice a n c := by
  rcases h.2 with ⟨rfl, h0⟩ | ⟨g, cap, cur, rfl, _⟩
  · exact ⟨_, _, by rw [h0]⟩
  · exact ⟨_, _, rfl⟩

theorem int_info : (Tryz.prog.info? 3).map (fun i => (i.zero, i.size, i.bytes)) = some (some (.int .i64 0), 1, 8) := by kernel_rfl

theorem own_nil (w : World) (b s : Nat) (T : TypeId) : w.ownsRow b T s (.slice none 0 0) 0 [] := ⟨by simp, .inl ⟨rfl, rfl⟩⟩

end Go.Proofs.YtpbfgcepmbpkdaaGreat

