import Derived.Lib.ItoaNum
import Derived.Test.YtipobchbnjgenaaGreatBunQ
import Derived.RangeFuncSeq
import Derived.Lib.AppendZeros
set_option linter.unusedVariables false
set_option linter.unusedSimpArgs false
set_option maxRecDepth 100000
set_option maxHeartbeats 4000000
namespace Go.Proofs.YtipobchbnjgenaaGreat.Slp
end Go.Proofs.YtipobchbnjgenaaGreat.Slp
namespace Go.Proofs.YtipobchbnjgenaaGreat.Slp
structure O4 where
 k : Int
 a : Int
 b : Int
 c : Int
structure Pr where
 inp : Int
 ops : List O4
 outs : List Int
def opM (o : O4) (own : Int) : Bool :=
 if o.k = 1 ∨ o.k = 2 ∨ o.k = 3 then decide (0 <= o.a ∧ o.a < own ∧ 0 <= o.b ∧ o.b < own ∧ o.c = 0) else if o.k = 4 then decide (o.a = 0 ∧ o.b = 0) else false
def opsM (inp : Int) : Nat -> List O4 -> Bool
 | _, [] => true
 | i, o :: os => opM o (inp + i) && opsM inp (i + 1) os
def outM (inp : Int) (n : Nat) (outs : List Int) : Bool := outs.all (fun v => decide (0 <= v ∧ v < inp + n))
def mayB (p : Pr) : Bool := decide (0 <= p.inp ∧ p.inp <= 64 ∧ p.ops.length <= 256 ∧ p.outs.length <= 64) && (opsM p.inp 0 p.ops && outM p.inp p.ops.length p.outs)
theorem mayB_iff {p : Pr} : mayB p = true ↔ (0 <= p.inp ∧ p.inp <= 64 ∧ p.ops.length <= 256 ∧ p.outs.length <= 64) ∧ opsM p.inp 0 p.ops = true ∧ outM p.inp p.ops.length p.outs = true := by
 unfold mayB
 rw [Bool.and_eq_true, Bool.and_eq_true, decide_eq_true_iff]
end Go.Proofs.YtipobchbnjgenaaGreat.Slp
namespace Go.Proofs.YtipobchbnjgenaaGreat.Slp
theorem opsM_get (inp : Int) : ∀ (os : List O4) (i j : Nat) (hj : j < os.length), opsM inp i os = true -> opM os[j] (inp + ((i + j : Nat) : Int)) = true
 | [], i, j, hj, _ => by simp at hj
 | o :: os, i, j, hj, h => by
  have h' : (opM o (inp + i) && opsM inp (i + 1) os) = true := h
  rw [Bool.and_eq_true] at h'
  cases j with
  | zero => exact h'.1
  | succ j =>
   have := opsM_get inp os (i + 1) j (by simpa using hj) h'.2
   rw [show i + (j + 1) = i + 1 + j by omega]; exact this
def hand (n : Nat) : Pr := ⟨n, [], (List.range n).map (fun j : Nat => (j : Int))⟩
end Go.Proofs.YtipobchbnjgenaaGreat.Slp
namespace Go.Proofs.YtipobchbnjgenaaGreat
open Go.RowKit
def Lm {α : Type} (f : α -> List Value) (sz : Nat) (w : World) (v : Value) (xs : List α) : Prop :=
 ∃ ao cap, v = .slice ao xs.length cap ∧ (xs.length <= cap ∧ xs.length <= 140737488500000 ∧ (ao = none -> cap = 0)) ∧
  (xs ≠ [] -> ∃ b off, ao = some ⟨b, off, none⟩ ∧ b < w.heap.size ∧ ∀ i x, xs[i]? = some x -> ∀ j u, (f x)[j]? = some u -> w.cell? ⟨b, off + (i * sz + j), none⟩ = some u)
theorem Lm.below {α : Type} {f : α -> List Value} {sz : Nat} {w w' : World} {v : Value} {xs : List α} (h : Lm f sz w v xs) (hb : Below w.heap.size w w') : Lm f sz w' v xs := by
 obtain ⟨ao, cap, rfl, h1, h3⟩ := h
 refine ⟨ao, cap, rfl, h1, fun hne => ?_⟩
 obtain ⟨b, off, rfl, hbl, hc⟩ := h3 hne
 exact ⟨b, off, rfl, Nat.lt_of_lt_of_le hbl hb.size, fun i x hx j u hu => (hb.cell (p := ⟨b, off + (i * sz + j), none⟩) hbl).trans (hc i x hx j u hu)⟩
theorem Lm.spell {α : Type} {f : α -> List Value} {sz : Nat} {w : World} {v : Value} {xs : List α} (h : Lm f sz w v xs) : ∃ ao cap, v = .slice ao xs.length cap ∧ xs.length <= cap := by
 obtain ⟨ao, cap, h1, h2, _⟩ := h; exact ⟨ao, cap, h1, h2.1⟩
theorem Lm.len {α : Type} {f : α -> List Value} {sz : Nat} {w : World} {v : Value} {xs : List α} (h : Lm f sz w v xs) : xs.length <= 140737488500000 := by
 obtain ⟨_, _, _, h, _⟩ := h; exact h.2.1
theorem Lm.none_ {α : Type} {f : α -> List Value} {sz : Nat} {w : World} {n cap : Nat} {xs : List α} (h : Lm f sz w (.slice none n cap) xs) : n = 0 ∧ cap = 0 ∧ xs = [] := by
 obtain ⟨ao, cap', h1, h2, h4⟩ := h
 cases h1
 have : xs = [] := by
  apply Classical.byContradiction; intro hne
  obtain ⟨b, off, h5, _⟩ := h4 hne; cases h5
 exact ⟨by rw [this]; rfl, h2.2.2 rfl, this⟩
theorem Lm.form {α : Type} {f : α -> List Value} {sz : Nat} {w : World} {v : Value} {xs : List α} (h : Lm f sz w v xs) (h0 : 0 < xs.length) : ∃ b off cap, v = .slice (some ⟨b, off, none⟩) xs.length cap ∧ xs.length <= cap ∧ b < w.heap.size := by
 obtain ⟨ao, cap, rfl, h1, h3⟩ := h
 obtain ⟨b, off, rfl, hb, _⟩ := h3 (by intro h; rw [h] at h0; simp at h0)
 exact ⟨b, off, cap, rfl, h1.1, hb⟩
theorem Lm.at_ {α : Type} {f : α -> List Value} {sz : Nat} {w : World} {b off n cap : Nat} {xs : List α} (h : Lm f sz w (.slice (some ⟨b, off, none⟩) n cap) xs) {i j : Nat} {x : α} {u : Value} (hx : xs[i]? = some x) (hu : (f x)[j]? = some u) : b < w.heap.size ∧ w.cell? ⟨b, off + (i * sz + j), none⟩ = some u := by
 obtain ⟨ao, cap', h1, h2, h4⟩ := h
 cases h1
 obtain ⟨b', off', h5, hb, hc⟩ := h4 (by intro h; rw [h] at hx; simp at hx)
 cases h5
 exact ⟨hb, hc i x hx j u hu⟩
theorem lm_nil {α : Type} (f : α -> List Value) (sz : Nat) (w : World) : Lm f sz w (.slice none 0 0) [] := ⟨none, 0, rfl, ⟨Nat.le_refl _, by simp, fun _ => rfl⟩, fun h => absurd rfl h⟩
theorem flat_get {α : Type} (f : α -> List Value) (sz : Nat) (hf : ∀ x, (f x).length = sz) : ∀ (xs : List α) (i : Nat) (x : α) (j : Nat), xs[i]? = some x -> j < sz -> (xs.flatMap f)[i * sz + j]? = (f x)[j]?
 | [], i, x, j, hx, _ => by simp at hx
 | y :: xs, 0, x, j, hx, hj => by
  have : y = x := by simpa using hx
  subst this
  rw [List.flatMap_cons, Nat.zero_mul, Nat.zero_add, List.getElem?_append_left (by rw [hf]; exact hj)]
 | y :: xs, i + 1, x, j, hx, hj => by
  have h2 : xs[i]? = some x := by simpa using hx
  rw [List.flatMap_cons, List.getElem?_append_right (by rw [hf, Nat.add_mul]; omega), hf, <- flat_get f sz hf xs i x j h2 hj]
  congr 1
  rw [Nat.add_mul]; omega
theorem flat_len {α : Type} (f : α -> List Value) (sz : Nat) (hf : ∀ x, (f x).length = sz) (xs : List α) : (xs.flatMap f).length = xs.length * sz := by
 induction xs with
 | nil => simp
 | cons x xs ih => rw [List.flatMap_cons, List.length_append, hf, ih, List.length_cons, Nat.add_mul]; omega
theorem lm_of_own {α : Type} {f : α -> List Value} {sz : Nat} (hf : ∀ x, (f x).length = sz) (hs : 0 < sz) {w : World} {base n : Nat} {v : Value} {xs : List α} {T : TypeId} (h : w.ownsRow base T sz v n (xs.flatMap f)) (hl : xs.length <= 140737488500000) : Lm f sz w v xs := by
 have hn : xs.length = n := by
  have := h.1
  rw [flat_len f sz hf] at this
  exact Nat.eq_of_mul_eq_mul_right hs this
 subst hn
 rcases h.2 with ⟨rfl, h0⟩ | ⟨g, cap, cur, rfl, hbs, hh, h1, h2, h3, h4⟩
 · exact ⟨none, 0, by rw [h0], ⟨by omega, hl, fun _ => rfl⟩, fun hne => absurd (List.length_eq_zero_iff.1 h0) hne⟩
 · refine ⟨_, cap, rfl, ⟨h1, hl, fun h => by cases h⟩, fun hne => ⟨g, 0, rfl, ?_, fun i x hx j u hu => ?_⟩⟩
   · apply Nat.lt_of_not_le; intro hc; rw [Array.getElem?_eq_none hc] at hh; cases hh
   · have hi : i < xs.length := (List.getElem?_eq_some_iff.1 hx).1
     have hj : j < sz := by rw [<- hf x]; exact (List.getElem?_eq_some_iff.1 hu).1
     have hlt : i * sz + j < xs.length * sz := by
      have := Nat.mul_le_mul_right sz (show i + 1 <= xs.length by omega)
      rw [Nat.add_mul, Nat.one_mul] at this
      omega
     rw [cell_of_row w g (0 + (i * sz + j)) cur T (0, 0) hh, Nat.zero_add]
     have e1 : cur[i * sz + j]? = cur.toList[i * sz + j]? := by simp
     have e2 : cur.toList[i * sz + j]? = (xs.flatMap f)[i * sz + j]? := by rw [<- h4, List.getElem?_take_of_lt hlt]
     rw [e1, e2, flat_get f sz hf xs i x j hx hj, hu]
theorem Lm.news {α : Type} {f : α -> List Value} {sz : Nat} (hf : ∀ x, (f x).length = sz) (hs : 0 < sz) {w : World} {ad : Addr} {n cap : Nat} {xs : List α} (h : Lm f sz w (.slice (some ad) n cap) xs) : ∀ j u, (xs.flatMap f)[j]? = some u -> w.cell? (ad.add j) = some u := by
 intro k u hk
 have hkl : k < xs.length * sz := by rw [<- flat_len f sz hf xs]; exact (List.getElem?_eq_some_iff.1 hk).1
 have hi : k / sz < xs.length := Nat.div_lt_of_lt_mul (by rw [Nat.mul_comm]; exact hkl)
 have hj : k % sz < sz := Nat.mod_lt _ hs
 have hkk : k / sz * sz + k % sz = k := by rw [Nat.mul_comm]; exact Nat.div_add_mod k sz
 obtain ⟨ao, cap', h1, h2, h4⟩ := h
 cases h1
 obtain ⟨b, off, h5, hb, hc⟩ := h4 (by intro h; rw [h] at hi; simp at hi)
 cases h5
 have hadd : (⟨b, off, none⟩ : Addr).add k = ⟨b, off + k, none⟩ := by unfold Addr.add; split <;> simp_all
 have hx : xs[k / sz]? = some xs[k / sz] := List.getElem?_eq_getElem hi
 have hg := flat_get f sz hf xs (k / sz) _ (k % sz) hx hj
 rw [hkk, hk] at hg
 have := hc (k / sz) _ hx (k % sz) u hg.symm
 rw [hkk] at this
 rw [hadd]; exact this
def iw (x : Int) : List Value := [.int .i64 x]
theorem iw_len (x : Int) : (iw x).length = 1 := rfl
def Iw (xs : List Int) : Prop := ∀ x ∈ xs, -9223372036854775808 <= x ∧ x <= 9223372036854775807
end Go.Proofs.YtipobchbnjgenaaGreat
namespace Go.Proofs.YtipobchbnjgenaaGreat
open Go.RowKit Fld Slp
def opw (o : O4) : List Value := [.int .u8 o.k, .int .i64 o.a, .int .i64 o.b, .int .u64 o.c]
theorem opw_len (o : O4) : (opw o).length = 4 := rfl
def Ok4 (o : O4) : Prop := (0 <= o.k ∧ o.k <= 255) ∧ (-9223372036854775808 <= o.a ∧ o.a <= 9223372036854775807) ∧ (-9223372036854775808 <= o.b ∧ o.b <= 9223372036854775807) ∧ (0 <= o.c ∧ o.c <= 18446744073709551615)
def opv (o : O4) : Value := .agg #[.int .u8 o.k, .int .i64 o.a, .int .i64 o.b, .int .u64 o.c]
theorem sIsValue (v n : Int) (w : World) : Calls Tryz.prog 186 #[.int .i64 v, .int .i64 n] w fun e w' => e = .returned (.bool (decide (0 <= v ∧ v < n))) ∧ w' = w := by
 by_cases h1 : 0 <= v <;> by_cases h2 : v < n
 all_goals
  go_enter Tryz.func186, Tryz.ntmps186
  go_wp2
  go_ret
  simp [h1, h2]
theorem sMayBeStep (o : O4) (own : Int) (w : World) : Calls Tryz.prog 185 #[opv o, .int .i64 own] w fun e w' => e = .returned (.bool (opM o own)) ∧ Below w.heap.size w w' := by
 obtain ⟨k, a, b, c⟩ := o
 unfold opv
 go_enter Tryz.func185, Tryz.ntmps185
 go_wp2_with (first
  | (go_at_call 186; refine (sIsValue _ _ _).mono ?_; rintro e w1 ⟨rfl, rfl⟩))
 all_goals
  go_ret
  refine ⟨?_, alloc_below _ _⟩
  simp_all [opM]
  try first | rfl | (intros; omega)
structure Pm (w : World) (v : Value) (p : Pr) : Prop where
 form : ∃ vo vu, v = .agg #[.int .i64 p.inp, vo, vu] ∧ Lm opw 4 w vo p.ops ∧ Lm iw 1 w vu p.outs
 inb : -9223372036854775808 <= p.inp ∧ p.inp <= 9223372036854775807
 okb : ∀ o ∈ p.ops, Ok4 o
 oub : Iw p.outs
theorem Pm.below {w w' : World} {v : Value} {p : Pr} (h : Pm w v p) (hb : Below w.heap.size w w') : Pm w' v p := by
 obtain ⟨vo, vu, rfl, h1, h2⟩ := h.form
 exact ⟨⟨vo, vu, rfl, h1.below hb, h2.below hb⟩, h.inb, h.okb, h.oub⟩
theorem Lm.op {w wr : World} {b off n cap j : Nat} {os : List O4} (h : Lm opw 4 w (.slice (some ⟨b, off, none⟩) n cap) os) (hb : Below w.heap.size w wr) (hj : j < os.length) :
 wr.cell? ⟨b, off + j * 4, none⟩ = some (.int .u8 os[j].k) ∧ wr.cell? ⟨b, off + j * 4 + 1, none⟩ = some (.int .i64 os[j].a) ∧ wr.cell? ⟨b, off + j * 4 + 2, none⟩ = some (.int .i64 os[j].b) ∧ wr.cell? ⟨b, off + j * 4 + 3, none⟩ = some (.int .u64 os[j].c) := by
 have hx : os[j]? = some os[j] := List.getElem?_eq_getElem hj
 have key : ∀ i u, (opw os[j])[i]? = some u -> wr.cell? ⟨b, off + (j * 4 + i), none⟩ = some u := fun i u hu => by
  obtain ⟨hbl, hc⟩ := h.at_ hx hu
  exact (hb.cell (p := ⟨b, off + (j * 4 + i), none⟩) hbl).trans hc
 exact ⟨key 0 _ rfl, key 1 _ rfl, key 2 _ rfl, key 3 _ rfl⟩
theorem Lm.int {w wr : World} {b off n cap j : Nat} {xs : List Int} (h : Lm iw 1 w (.slice (some ⟨b, off, none⟩) n cap) xs) (hb : Below w.heap.size w wr) (hj : j < xs.length) : wr.cell? ⟨b, off + j, none⟩ = some (.int .i64 xs[j]) := by
 have hx : xs[j]? = some xs[j] := List.getElem?_eq_getElem hj
 obtain ⟨hbl, hc⟩ := h.at_ hx (j := 0) (u := .int .i64 xs[j]) rfl
 have := (hb.cell (p := ⟨b, off + (j * 1 + 0), none⟩) hbl).trans hc
 rwa [Nat.mul_one, Nat.add_zero] at this
theorem opsM_no {inp : Int} : ∀ (os : List O4) (i j : Nat) (hj : j < os.length), opM os[j] (inp + ((i + j : Nat) : Int)) = false -> opsM inp i os = false
 | [], i, j, hj, _ => by simp at hj
 | o :: os, i, j, hj, h => by
  show (opM o (inp + i) && opsM inp (i + 1) os) = false
  cases j with
  | zero => have h' : opM o (inp + ((i + 0 : Nat) : Int)) = false := h; rw [Nat.add_zero] at h'; rw [h']; rfl
  | succ j =>
   rw [opsM_no os (i + 1) j (by simpa using hj) (by rw [show i + 1 + j = i + (j + 1) by omega]; exact h)]; simp
theorem opsM_all {inp : Int} : ∀ (os : List O4) (i : Nat), (∀ j (hj : j < os.length), opM os[j] (inp + ((i + j : Nat) : Int)) = true) -> opsM inp i os = true
 | [], i, _ => rfl
 | o :: os, i, h => by
  show (opM o (inp + i) && opsM inp (i + 1) os) = true
  rw [Bool.and_eq_true]
  refine ⟨by have := h 0 (by simp); simpa using this, opsM_all os (i + 1) (fun j hj => ?_)⟩
  have := h (j + 1) (by simpa using hj)
  rw [show i + 1 + j = i + (j + 1) by omega]; exact this
theorem mayB_no {p : Pr} (h : ¬ (0 <= p.inp ∧ p.inp <= 64 ∧ p.ops.length <= 256 ∧ p.outs.length <= 64)) : mayB p = false := by
 unfold mayB; rw [decide_eq_false h]; rfl
theorem mayB_ops {p : Pr} (h : opsM p.inp 0 p.ops = false) : mayB p = false := by unfold mayB; rw [h]; simp
theorem mayB_outs {p : Pr} (h : outM p.inp p.ops.length p.outs = false) : mayB p = false := by unfold mayB; rw [h]; simp
theorem outM_no {inp : Int} {n : Nat} {outs : List Int} {j : Nat} (hj : j < outs.length) (h : ¬ (0 <= outs[j] ∧ outs[j] < inp + n)) : outM inp n outs = false := by
 cases hc : outM inp n outs with
 | false => rfl
 | true => exact absurd (of_decide_eq_true (List.all_eq_true.1 hc _ (List.getElem_mem hj))) h
theorem outM_all {inp : Int} {n : Nat} {outs : List Int} (h : ∀ j (hj : j < outs.length), 0 <= outs[j] ∧ outs[j] < inp + n) : outM inp n outs = true := by
 unfold outM
 rw [List.all_eq_true]
 intro v hv
 obtain ⟨j, hj, rfl⟩ := List.mem_iff_getElem.1 hv
 exact decide_eq_true (h j hj)
theorem sMay (v : Value) (p : Pr) (w : World) (h : Pm w v p) : Calls Tryz.prog 160 #[v] w fun e w' => e = .returned (.bool (mayB p)) ∧ Below w.heap.size w w' := by
 obtain ⟨vo, vu, rfl, h1, h2⟩ := h.form
 have HK := hide h
 by_cases hc : 0 <= p.inp ∧ p.inp <= 64 ∧ p.ops.length <= 256 ∧ p.outs.length <= 64
 · obtain ⟨c1, c2, c3, c4⟩ := hc
   obtain ⟨ao, co, rfl, ho⟩ := h1.spell
   obtain ⟨au, cu, rfl, hu⟩ := h2.spell
   go_enter Tryz.func160, Tryz.ntmps160
   go_wp2
   have hB0 := alloc_below w (.cells #[.int .i64 p.inp, .slice ao p.ops.length co, .slice au p.outs.length cu] 28)
   have hL0 := (Lm.below h1 hB0)
   have hU0 := (Lm.below h2 hB0)
   have p0 : (w.alloc (.cells #[.int .i64 p.inp, .slice ao p.ops.length co, .slice au p.outs.length cu] 28)).cell? ⟨w.heap.size, 0, none⟩ = some (.int .i64 p.inp) := by simp [go_sem]
   have p1 : (w.alloc (.cells #[.int .i64 p.inp, .slice ao p.ops.length co, .slice au p.outs.length cu] 28)).cell? ⟨w.heap.size, 1, none⟩ = some (.slice ao p.ops.length co) := by simp [go_sem]
   have p2 : (w.alloc (.cells #[.int .i64 p.inp, .slice ao p.ops.length co, .slice au p.outs.length cu] 28)).cell? ⟨w.heap.size, 2, none⟩ = some (.slice au p.outs.length cu) := by simp [go_sem]
   have hs0 : w.heap.size + 1 = (w.alloc (.cells #[.int .i64 p.inp, .slice ao p.ops.length co, .slice au p.outs.length cu] 28)).heap.size := by simp
   generalize (w.alloc (.cells #[.int .i64 p.inp, .slice ao p.ops.length co, .slice au p.outs.length cu] 28)) = w0 at *
   clear h1 h2 h
   go_loopw [30] (fun vi wr => ∃ j : Nat, j <= p.ops.length ∧ vi = .int .i64 j ∧ Below w0.heap.size w0 wr ∧ (∀ i (hi : i < p.ops.length), i < j -> opM p.ops[i] (p.inp + ((0 + i : Nat) : Int)) = true)) (fun vi _ => p.ops.length - (intOf vi).toNat)
   case atStart => exact ⟨0, Nat.zero_le _, rfl, Below.refl _ _, fun i _ hi => by omega⟩
   case round =>
    obtain ⟨j, hj, rfl, hBr, hall⟩ := hrel
    by_cases hlt : j < p.ops.length
    · obtain ⟨b, off, co', hv, _, hbl⟩ := hL0.form (by omega)
      cases hv
      obtain ⟨ca, cb, cc, cd⟩ := hL0.op hBr hlt
      have q0 := (hBr.cell (p := ⟨w.heap.size, 0, none⟩) (by rw [<- hs0]; exact Nat.lt_succ_self _)).trans p0
      have q1 : ∀ o : Obj, (wr.alloc o).cell? ⟨w.heap.size, 0, none⟩ = some (.int .i64 p.inp) := fun o => ((alloc_below wr o).cell (p := ⟨w.heap.size, 0, none⟩) (cell_in q0)).trans q0
      have HA := hide hall
      have hwr : w0.heap.size <= wr.heap.size := hBr.size
      clear hall
      cases hm : opM p.ops[j] (p.inp + (j : Int)) with
      | true =>
       have HM := hide hm
       clear hm
       go_wp2_with (first
        | (go_at_call 185; refine (sMayBeStep p.ops[j] _ _).mono ?_; rintro e w1 ⟨rfl, hb1⟩; rw [HM.out]))
       go_roundw
       case rel =>
        refine ⟨j + 1, by omega, by go_num, hBr.trans (((alloc_below wr _).trans (hb1.mono (by simp))).mono hwr), fun i hi hlt' => ?_⟩
        rcases Nat.lt_or_ge i j with h | h
        · exact HA.out i hi h
        · obtain rfl : i = j := by omega
          rw [Nat.zero_add]; exact HM.out
       case measure => simp [intOf]; omega
      | false =>
       have HM := hide hm
       clear hm
       go_wp2_with (first
        | (go_at_call 185; refine (sMayBeStep p.ops[j] _ _).mono ?_; rintro e w1 ⟨rfl, hb1⟩; rw [HM.out]))
       go_ret
       refine ⟨?_, hB0.trans ((hBr.trans (((alloc_below wr _).trans (hb1.mono (by simp))).mono hwr)).mono (by omega))⟩
       rw [mayB_ops (opsM_no p.ops 0 j hlt (by rw [Nat.zero_add]; exact HM.out))]; rfl
    · obtain rfl : j = p.ops.length := by omega
      have HA : Hid (opsM p.inp 0 p.ops = true) := opsM_all p.ops 0 (fun i hi => hall i hi hi)
      clear hall hlt
      have q1 := (hBr.cell (p := ⟨w.heap.size, 1, none⟩) (by rw [<- hs0]; exact Nat.lt_succ_self _)).trans p1
      have q2 := (hBr.cell (p := ⟨w.heap.size, 2, none⟩) (by rw [<- hs0]; exact Nat.lt_succ_self _)).trans p2
      have q0 := (hBr.cell (p := ⟨w.heap.size, 0, none⟩) (by rw [<- hs0]; exact Nat.lt_succ_self _)).trans p0
      go_wp2
      go_loop [46] (fun vi => ∃ j : Nat, j <= p.outs.length ∧ vi = .int .i64 j ∧ (∀ i (hi : i < p.outs.length), i < j -> 0 <= p.outs[i] ∧ p.outs[i] < p.inp + p.ops.length)) (fun vi => p.outs.length - (intOf vi).toNat)
      case atStart => exact ⟨0, Nat.zero_le _, rfl, fun i _ hi => by omega⟩
      case round =>
       obtain ⟨j, hj, rfl, hall⟩ := hrel
       by_cases hlt : j < p.outs.length
       · obtain ⟨b, off, cu', hv, _, hbl⟩ := hU0.form (by omega)
         cases hv
         have ca := hU0.int hBr hlt
         have HB := hide hall
         clear hall
         by_cases hm : 0 <= p.outs[j] ∧ p.outs[j] < p.inp + p.ops.length
         · have HM := hide hm
           have HD : Hid (decide (0 <= p.outs[j] ∧ p.outs[j] < p.inp + p.ops.length) = true) := decide_eq_true hm
           clear hm
           go_wp2_with (first
            | (go_at_call 186; refine (sIsValue _ _ _).mono ?_; rintro e w1 ⟨rfl, rfl⟩; rw [HD.out]))
           go_round
           case rel =>
            refine ⟨j + 1, by omega, by go_num, fun i hi hlt' => ?_⟩
            rcases Nat.lt_or_ge i j with h | h
            · exact HB.out i hi h
            · obtain rfl : i = j := by omega
              exact HM.out
           case measure => simp [intOf]; omega
         · have HM := hide hm
           have HD : Hid (decide (0 <= p.outs[j] ∧ p.outs[j] < p.inp + p.ops.length) = false) := decide_eq_false hm
           clear hm
           go_wp2_with (first
            | (go_at_call 186; refine (sIsValue _ _ _).mono ?_; rintro e w1 ⟨rfl, rfl⟩; rw [HD.out]))
           go_ret
           refine ⟨?_, hB0.trans (hBr.mono (by omega))⟩
           rw [mayB_outs (outM_no hlt HM.out)]; rfl
       · obtain rfl : j = p.outs.length := by omega
         go_wp2
         go_ret
         refine ⟨?_, hB0.trans (hBr.mono (by omega))⟩
         rw [mayB_iff.2 ⟨⟨c1, c2, c3, c4⟩, HA.out, outM_all (fun i hi => hall i hi hi)⟩]; rfl
 · rw [mayB_no hc]
   obtain ⟨ao, co, rfl, ho⟩ := h1.spell
   obtain ⟨au, cu, rfl, hu⟩ := h2.spell
   clear h1 h2 HK h
   obtain ⟨inp, ops, outs⟩ := p
   dsimp only at *
   generalize ops.length = no at *
   generalize outs.length = nu at *
   by_cases c1 : inp < 0
   · go_enter Tryz.func160, Tryz.ntmps160
     go_wp2
     go_ret
     exact ⟨rfl, alloc_below _ _⟩
   by_cases c2 : 64 < inp
   · go_enter Tryz.func160, Tryz.ntmps160
     go_wp2
     go_ret
     exact ⟨rfl, alloc_below _ _⟩
   by_cases c3 : 256 < (no : Int)
   · go_enter Tryz.func160, Tryz.ntmps160
     go_wp2
     go_ret
     exact ⟨rfl, alloc_below _ _⟩
   have c4 : 64 < (nu : Int) := by omega
   clear hc
   go_enter Tryz.func160, Tryz.ntmps160
   go_wp2
   go_ret
   exact ⟨rfl, alloc_below _ _⟩
theorem below_own {w w' : World} (hb : Below w.heap.size w w') : w.grownBy w' none := ⟨hb.os, hb.tape, hb.output, hb.size, fun j hj _ => hb.block j hj⟩
theorem own_slice {w : World} {b n s : Nat} {T : TypeId} {v : Value} {xs : List Value} (h : w.ownsRow b T s v n xs) : ∃ a c, v = .slice a n c := by
 rcases h.2 with ⟨rfl, h0⟩ | ⟨g, cap, cur, rfl, _⟩
 · exact ⟨_, _, by rw [h0]⟩
 · exact ⟨_, _, rfl⟩
theorem set3_grown (W : World) (g : Nat) (a b c : Value) : W.grownBy (((W.setCell ⟨g, 0, none⟩ a).setCell ⟨g, 1, none⟩ b).setCell ⟨g, 2, none⟩ c) (some g) :=
 ⟨rfl, rfl, rfl, by simp [World.setCell], fun j _ hj => by
  have h : j ≠ g := fun e => hj (by rw [e])
  rw [Below.heap_setCell _ _ _ j h, Below.heap_setCell _ _ _ j h, Below.heap_setCell _ _ _ j h]⟩
theorem load_prog {w : World} {b : Nat} {k a c : Value} {T : TypeId} {fz : Nat × Nat} (h : w.heap[b]? = some (.cells #[k, a, c] T fz)) : (loadVar 28 ⟨b, 0, none⟩).run Tryz.prog w = .ok (.agg #[k, a, c]) w := by
 have e0 : w.cell? ⟨b, 0, none⟩ = some k := by rw [Lib.cell_of_heap h]; rfl
 have e1 : w.cell? ⟨b, 1, none⟩ = some a := by rw [Lib.cell_of_heap h]; rfl
 have e2 : w.cell? ⟨b, 2, none⟩ = some c := by rw [Lib.cell_of_heap h]; rfl
 simp [go_sem, e0, e1, e2]
theorem cell3 {W : World} {b : Nat} {x y z : Value} {T : TypeId} {fz : Nat × Nat} (h : W.heap[b]? = some (.cells #[x, y, z] T fz)) : W.cell? ⟨b, 0, none⟩ = some x ∧ W.cell? ⟨b, 1, none⟩ = some y ∧ W.cell? ⟨b, 2, none⟩ = some z :=
 ⟨by rw [Lib.cell_of_heap h]; rfl, by rw [Lib.cell_of_heap h]; rfl, by rw [Lib.cell_of_heap h]; rfl⟩
theorem alloc2 (w : World) (A B : Obj) : ((w.alloc A).alloc B).heap[w.heap.size]? = some A ∧ ((w.alloc A).alloc B).heap[w.heap.size + 1]? = some B ∧ Below w.heap.size w ((w.alloc A).alloc B) := by
 have b1 := alloc_below w A
 have n1 := heap_alloc_new w A
 have z1 : (w.alloc A).heap.size = w.heap.size + 1 := by simp
 generalize w.alloc A = w1 at *
 have b2 := alloc_below w1 B
 have n2 := heap_alloc_new w1 B
 rw [z1] at n2
 exact ⟨(b2.block _ (by omega)).trans n1, n2, Below.next b1 b2⟩
theorem alloc3 (w : World) (A B C : Obj) : (((w.alloc A).alloc B).alloc C).heap[w.heap.size]? = some A ∧ (((w.alloc A).alloc B).alloc C).heap[w.heap.size + 1]? = some B ∧ (((w.alloc A).alloc B).alloc C).heap[w.heap.size + 1 + 1]? = some C ∧ Below w.heap.size w (((w.alloc A).alloc B).alloc C) := by
 have b1 := alloc_below w A
 have n1 := heap_alloc_new w A
 have z1 : (w.alloc A).heap.size = w.heap.size + 1 := by simp
 generalize w.alloc A = w1 at *
 have b2 := alloc_below w1 B
 have n2 := heap_alloc_new w1 B
 have z2 : (w1.alloc B).heap.size = w1.heap.size + 1 := by simp
 generalize w1.alloc B = w2 at *
 have b3 := alloc_below w2 C
 have n3 := heap_alloc_new w2 C
 rw [z1] at n2
 rw [z2, z1] at n3
 exact ⟨((b3.block _ (by omega)).trans ((b2.block _ (by omega)).trans n1)), (b3.block _ (by omega)).trans n2, n3, Below.next b1 (Below.next b2 b3)⟩
theorem int_info : (Tryz.prog.info? 3).map (fun i => (i.zero, i.size, i.bytes)) = some (some (.int .i64 0), 1, 8) := by kernel_rfl
theorem op_info : (Tryz.prog.info? 85).map (fun i => (i.zero, i.size, i.bytes)) = some (some (.agg #[.int .u8 0, .int .i64 0, .int .i64 0, .int .u64 0]), 4, 32) := by kernel_rfl
theorem own_not {W : World} {base s n b : Nat} {T T' : TypeId} {v : Value} {xs : List Value} {cs : Array Value} {fz : Nat × Nat} (h : W.ownsRow base T s v n xs) (hb : W.heap[b]? = some (.cells cs T' fz)) (hT : T' ≠ T) : v.ownBlock ≠ some b := by
 rcases h.2 with ⟨rfl, _⟩ | ⟨g, cap, cur, rfl, _, hgb, _⟩
 · simp [Value.ownBlock]
 · intro e
   have e1 : g = b := by simpa [Value.ownBlock] using e
   rw [e1] at hgb
   have := hb.symm.trans hgb
   simp at this
   exact hT this.2.1
theorem own_blk {W : World} {base s n g : Nat} {T : TypeId} {v : Value} {xs : List Value} (h : W.ownsRow base T s v n xs) (hg : v.ownBlock = some g) : ∃ cs, W.heap[g]? = some (.cells cs T (0, 0)) := by
 rcases h.2 with ⟨rfl, _⟩ | ⟨g1, cap, cur, rfl, _, hgb, _⟩
 · simp [Value.ownBlock] at hg
 · have e1 : g1 = g := by simpa [Value.ownBlock] using hg
   exact ⟨_, by rw [<- e1]; exact hgb⟩
theorem own_nil (w : World) (b s : Nat) (T : TypeId) : w.ownsRow b T s (.slice none 0 0) 0 [] := ⟨by simp, .inl ⟨rfl, rfl⟩⟩
end Go.Proofs.YtipobchbnjgenaaGreat
namespace Go.Proofs.YtipobchbnjgenaaGreat
open Go.RowKit
theorem add_atO (b off i : Nat) : (⟨b, off, none⟩ : Addr).add i = ⟨b, off + i, none⟩ := by unfold Addr.add; split <;> simp_all
theorem own_setn {W : World} {base g n cap k sz : Nat} {T : TypeId} {xs : List Value} (h : W.ownsRow base T sz (.slice (some ⟨g, 0, none⟩) n cap) n xs) (u : Value) : (W.setCell ⟨g, k, none⟩ u).ownsRow base T sz (.slice (some ⟨g, 0, none⟩) n cap) n (xs.set k u) := by
 refine ⟨by rw [List.length_set]; exact h.1, ?_⟩
 rcases h.2 with ⟨e, _⟩ | ⟨g', cap', cur, e, h2, h3, h4, h5, h6, h7⟩
 · cases e
 · cases e
   refine .inr ⟨g, cap, cur.setIfInBounds k u, rfl, h2, set_blk h3 k u, h4, h5, by rw [Array.size_setIfInBounds]; exact h6, ?_⟩
   rw [Array.toList_setIfInBounds, <- h7, List.take_set]
theorem own_frz {W : World} {base g n cap sz : Nat} {T : TypeId} {xs : List Value} (h : W.ownsRow base T sz (.slice (some ⟨g, 0, none⟩) n cap) n xs) (k : Nat) : W.frozen? ⟨g, k, none⟩ = false := h.frozenAt k
theorem own_atO {W : World} {base g n cap sz : Nat} {T : TypeId} {xs : List Value} (h : W.ownsRow base T sz (.slice (some ⟨g, 0, none⟩) n cap) n xs) {k : Nat} {u : Value} (hu : xs[k]? = some u) : W.cell? ⟨g, k, none⟩ = some u := by
 have := h.cells (g := g) rfl k u hu
 rw [add_atO, Nat.zero_add] at this; exact this
theorem own_short {W : World} {base g n cap sz m : Nat} {T : TypeId} {xs : List Value} (h : W.ownsRow base T sz (.slice (some ⟨g, 0, none⟩) n cap) n xs) (hm : m <= n) : W.ownsRow base T sz (.slice (some ⟨g, 0, none⟩) m cap) m (xs.take (m * sz)) := by
 have h1 := h.1
 have hle : m * sz <= n * sz := Nat.mul_le_mul_right _ hm
 refine ⟨by rw [List.length_take]; omega, ?_⟩
 rcases h.2 with ⟨e, _⟩ | ⟨g', cap', cur, e, h2, h3, h4, h5, h6, h7⟩
 · cases e
 · cases e
   refine .inr ⟨g, cap, cur, rfl, h2, h3, by omega, h5, h6, ?_⟩
   rw [<- h7, List.take_take]; congr 1; omega
theorem own_spellO {W : World} {base n sz : Nat} {T : TypeId} {v : Value} {xs : List Value} (h : W.ownsRow base T sz v n xs) : ∃ ao cap, v = .slice ao n cap ∧ n <= cap ∧ (0 < n -> ∃ g, ao = some ⟨g, 0, none⟩ ∧ base <= g ∧ g < W.heap.size) := by
 rcases h.2 with ⟨rfl, rfl⟩ | ⟨g, cap, cur, rfl, h2, h3, h4, _⟩
 · exact ⟨none, 0, rfl, Nat.le_refl _, fun h => absurd h (by omega)⟩
 · exact ⟨_, _, rfl, h4, fun _ => ⟨g, rfl, h2, (Array.getElem?_eq_some_iff.1 h3).1⟩⟩
theorem run_copy_rows {P : Program} (w : World) (dT sT ty elem : TypeId) (g o dLen dCap sz : Nat) (a : Addr) (sLen sCap : Nat) (cur : Array Value) (t : TypeId) (cs : List Value)
 (hu : P.underlying dT = some (.slice elem)) (hs : (P.info? elem).map (·.size) = some sz)
 (hg : w.heap[g]? = some (.cells cur t (0, 0))) (n : Nat) (hn0 : n = Nat.min sLen dLen) (hn : cs.length = n * sz)
 (hsrc : ∀ j v, cs[j]? = some v -> w.cell? (a.add j) = some v) (hfit : o + cs.length <= cur.size) (h1 : ∀ v ∈ cs, v.oneCell' = true) :
 (Builtin.copy_ #[dT, sT] ty #[.slice (some ⟨g, o, none⟩) dLen dCap, .slice (some a) sLen sCap]).run P w =
  .ok (goInt n) (w.setRow g (cur.toList.take o ++ cs ++ cur.toList.drop (o + cs.length)).toArray) := by
 have hl := run_loadCells_list (P := P) w a cs hsrc
 have hst := run_storeCells_at P g o t cs 0 cur w hg (by simpa using hfit) h1
 subst hn0
 cases hq : P.info? elem with
 | none => simp [hq] at hs
 | some i =>
  have hi : i.size = sz := by simpa [hq] using hs
  simp [Builtin.copy_, run_underlying hu, Builtin.lenOf, Builtin.firstCells, sizeOf, typeInfo, hq, hi, <- hn, hl, hst]
theorem flat_splice {α : Type} (f : α -> List Value) (sz : Nat) (hf : ∀ x, (f x).length = sz) (xs : List α) (o k n : Nat) (ho : o + n <= xs.length) (hk : k + n <= xs.length) :
 (xs.flatMap f).take (o * sz) ++ (((xs.flatMap f).drop (k * sz)).take (n * sz) ++ (xs.flatMap f).drop ((o + n) * sz)) = (xs.take o ++ ((xs.drop k).take n ++ xs.drop (o + n))).flatMap f := by
 have ht : ∀ (ys : List α) (m : Nat), (ys.flatMap f).take (m * sz) = (ys.take m).flatMap f := by
  intro ys
  induction ys with
  | nil => intro m; simp
  | cons y ys ih =>
   intro m
   cases m with
   | zero => simp
   | succ m => rw [List.flatMap_cons, List.take_succ_cons, List.flatMap_cons, List.take_append, hf, <- ih m, List.take_of_length_le (by rw [hf, Nat.add_mul]; omega)]; congr 2; rw [Nat.add_mul]; omega
 have hd : ∀ (ys : List α) (m : Nat), (ys.flatMap f).drop (m * sz) = (ys.drop m).flatMap f := by
  intro ys
  induction ys with
  | nil => intro m; simp
  | cons y ys ih =>
   intro m
   cases m with
   | zero => simp
   | succ m => rw [List.flatMap_cons, List.drop_succ_cons, List.drop_append, hf, <- ih m, List.drop_of_length_le (by rw [hf, Nat.add_mul]; omega), List.nil_append]; congr 1; rw [Nat.add_mul]; omega
 rw [ht, hd, ht, hd, List.flatMap_append, List.flatMap_append]
theorem flat_take {α : Type} (f : α -> List Value) (sz : Nat) (hf : ∀ x, (f x).length = sz) (xs : List α) (m : Nat) (hm : m <= xs.length) : (xs.flatMap f).take (m * sz) = (xs.take m).flatMap f := by
 have := flat_splice f sz hf xs m xs.length 0 (by omega) (by omega)
 simp only [Nat.zero_mul, List.take_zero, List.nil_append, Nat.add_zero] at this
 have h2 := congrArg (List.take (m * sz)) this
 rw [List.take_append_of_le_length (by rw [List.length_take, flat_len f sz hf]; have := Nat.mul_le_mul_right sz hm; omega), List.take_take, Nat.min_self] at h2
 rw [h2, List.flatMap_append, List.take_append_of_le_length (by rw [flat_len f sz hf, List.length_take]; rw [Nat.min_eq_left hm]; exact Nat.le_refl _), List.take_of_length_le (by rw [flat_len f sz hf, List.length_take, Nat.min_eq_left hm]; exact Nat.le_refl _)]
theorem take_over {β : Type} (A B L : List β) (m N : Nat) (hm : A.length + B.length = m) (h : m <= N) : (A ++ B ++ L.drop m).take N = A ++ (B ++ (L.take N).drop m) := by
 rw [List.drop_take, List.append_assoc, List.take_append, List.take_of_length_le (l := A) (by omega), List.take_append, List.take_of_length_le (l := B) (by omega)]
 congr 3
 omega
theorem run_copy_in {α : Type} {f : α -> List Value} {sz : Nat} (hf : ∀ x, (f x).length = sz) (h1 : ∀ x, ∀ v ∈ f x, v.oneCell' = true) {P : Program} {w : World} (dT ty elem : TypeId) (hu : P.underlying dT = some (.slice elem)) (hs : (P.info? elem).map (·.size) = some sz)
 {base g len cap : Nat} {T : TypeId} {xs : List α} (h : w.ownsRow base T sz (.slice (some ⟨g, 0, none⟩) len cap) len (xs.flatMap f)) (hlen : xs.length = len)
 (o k n dLen dCap sLen sCap : Nat) (hn : n = Nat.min sLen dLen) (ho : o + n <= len) (hk : k + n <= len) :
 ∃ w', (Builtin.copy_ #[dT, dT] ty #[.slice (some ⟨g, o * sz, none⟩) dLen dCap, .slice (some ⟨g, k * sz, none⟩) sLen sCap]).run P w = .ok (goInt n) w' ∧
  w'.ownsRow base T sz (.slice (some ⟨g, 0, none⟩) len cap) len ((xs.take o ++ ((xs.drop k).take n ++ xs.drop (o + n))).flatMap f) ∧ w.grownBy w' (some g) := by
 subst hlen
 have hF := flat_len f sz hf xs
 have e1 : k * sz + n * sz <= xs.length * sz := by rw [<- Nat.add_mul]; exact Nat.mul_le_mul_right _ hk
 have e2 : o * sz + n * sz <= xs.length * sz := by rw [<- Nat.add_mul]; exact Nat.mul_le_mul_right _ ho
 have hcl : (((xs.flatMap f).drop (k * sz)).take (n * sz)).length = n * sz := by rw [List.length_take, List.length_drop]; omega
 have hfs := flat_splice f sz hf xs o k n ho hk
 have hfl := flat_len f sz hf (xs.take o ++ ((xs.drop k).take n ++ xs.drop (o + n)))
 have hll : (xs.take o ++ ((xs.drop k).take n ++ xs.drop (o + n))).length = xs.length := by simp; omega
 rw [hll] at hfl
 rcases h.2 with ⟨e, _⟩ | ⟨g', cap', cur, e, h2, h3, h4, h5, h6, h7⟩
 · cases e
 · cases e
   have hcs : xs.length * sz <= cur.size := by rw [h6]; exact Nat.mul_le_mul_right _ h4
   have hr := run_copy_rows (P := P) w dT dT ty elem g (o * sz) dLen dCap sz ⟨g, k * sz, none⟩ sLen sCap cur T (((xs.flatMap f).drop (k * sz)).take (n * sz)) hu hs h3 n hn hcl (fun j v hj => by
    have hjl : j < n * sz := by rw [<- hcl]; exact (List.getElem?_eq_some_iff.1 hj).1
    rw [add_atO]
    rw [List.getElem?_take_of_lt hjl, List.getElem?_drop] at hj
    exact own_atO h hj) (by rw [hcl]; omega) (fun v hv => by
    have hv2 := List.mem_of_mem_drop (List.mem_of_mem_take hv)
    obtain ⟨x, _, hx⟩ := List.mem_flatMap.1 hv2
    exact h1 x v hx)
   refine ⟨_, hr, ⟨hfl, .inr ⟨g, cap, _, rfl, h2, setRow_heap w g cur _ T _ h3, h4, h5, ?_, ?_⟩⟩, ⟨rfl, rfl, rfl, by simp [World.setRow], fun q _ hq => setRow_other w g q _ (fun e => hq (by rw [e]))⟩⟩
   · simp only [List.size_toArray, List.length_append, List.length_drop, hcl, List.length_take, Array.length_toList]
     omega
   · rw [hcl, <- hfs, <- h7]
     have e3 : (cur.toList.take (xs.length * sz)).take (o * sz) = cur.toList.take (o * sz) := by rw [List.take_take]; congr 1; omega
     rw [e3]
     have hlt : ((cur.toList.take (xs.length * sz)).drop (k * sz)).take (n * sz) = (cur.toList.drop (k * sz)).take (n * sz) := by
      rw [List.drop_take, List.take_take]; congr 1; omega
     have l1 : (cur.toList.take (o * sz)).length = o * sz := by rw [List.length_take, Array.length_toList]; omega
     have l2 : ((cur.toList.drop (k * sz)).take (n * sz)).length = n * sz := by rw [List.length_take, List.length_drop, Array.length_toList]; omega
     have em : (o + n) * sz = o * sz + n * sz := Nat.add_mul _ _ _
     rw [hlt, em]
     exact take_over _ _ _ _ _ (by rw [l1, l2]) e2
abbrev Bv (w : World) (g : Nat) (r : Option Nat) (j : Nat) : Prop := j < w.heap.size ∧ j ≠ g ∧ r ≠ some j
structure Mv (w w' : World) (g : Nat) (v v' : Value) : Prop where
 kq : Kq (Bv w g v.ownBlock) w w'
 new : ∀ j, v'.ownBlock = some j -> v.ownBlock = some j ∨ w.heap.size <= j
theorem Mv.refl (w : World) (g : Nat) (v : Value) : Mv w w g v v := ⟨Kq.refl _ w, fun j h => .inl h⟩
theorem Mv.of_below {w w' : World} (g : Nat) (v : Value) (h : Below w.heap.size w w') : Mv w w' g v v := ⟨Below.kq h (fun j hj => hj.1), fun j h => .inl h⟩
theorem Mv.trans {a b c : World} {g : Nat} {u v x : Value} (h : Mv a b g u v) (k : Mv b c g v x) : Mv a c g u x := by
 have hs := h.kq.size
 refine ⟨h.kq.trans (k.kq.mono (fun j hj => ⟨by have := hj.1; omega, hj.2.1, fun e => ?_⟩)), fun j hj => ?_⟩
 · rcases h.new j e with h1 | h1
   · exact hj.2.2 h1
   · have := hj.1; omega
 · rcases k.new j hj with h1 | h1
   · exact h.new j h1
   · exact .inr (by omega)
theorem Mv.next {a b c : World} {g : Nat} {u v : Value} (h : Mv a b g u v) (k : Below b.heap.size b c) : Mv a c g u v := h.trans (Mv.of_below g v k)
theorem Mv.after {a b c : World} {g : Nat} {u v : Value} (h : Below a.heap.size a b) (k : Mv b c g u v) : Mv a c g u v := (Mv.of_below g u h).trans k
theorem Mv.below {w w' : World} {g base : Nat} {v v' : Value} (h : Mv w w' g v v') (hw : base <= w.heap.size) (hg : base <= g) (hv : ∀ j, v.ownBlock = some j -> base <= j) : Below base w w' :=
 h.kq.below (fun j hj => ⟨by omega, by omega, fun e => by have := hv j e; omega⟩)
theorem Mv.block {w w' : World} {g j : Nat} {v v' : Value} (h : Mv w w' g v v') (h1 : j < w.heap.size) (h2 : j ≠ g) (h3 : v.ownBlock ≠ some j) : w'.heap[j]? = w.heap[j]? := h.kq.block j ⟨h1, h2, h3⟩
theorem mv_set (w : World) (g k : Nat) (u v : Value) : Mv w (w.setCell ⟨g, k, none⟩ u) g v v := ⟨⟨rfl, rfl, rfl, by simp, fun j hj => Below.heap_setCell _ _ _ j hj.2.1⟩, fun j h => .inl h⟩
theorem mv_grown {w w' : World} {base e size n m : Nat} {v v' : Value} {xs ys : List Value} (g : Nat) (h : w.grownBy w' v.ownBlock) (hO : w.ownsRow base e size v n xs) (hN : w'.ownsRow base e size v' m ys) (hat : ∀ j, v'.ownBlock = some j -> v.ownBlock = some j ∨ w.heap.size <= j) : Mv w w' g v v' :=
 ⟨⟨h.os, h.tape, h.output, h.size, fun j hj => h.block j hj.1 (fun e => hj.2.2 e.symm)⟩, hat⟩
theorem Mv.set_new {w w' : World} {g b : Nat} {v v' : Value} (h : Mv w w' g v v') (hb : w.heap.size <= b) (k : Nat) (u : Value) : Mv w (w'.setCell ⟨b, k, none⟩ u) g v v' :=
 ⟨⟨h.kq.os, h.kq.tape, h.kq.output, by have := h.kq.size; simp; omega, fun j hj => (Below.heap_setCell _ _ _ j (by have := hj.1; show j ≠ b; omega)).trans (h.kq.block j hj)⟩, h.new⟩
theorem own_kindO {w : World} {b1 b2 s1 s2 n1 n2 : Nat} {T1 T2 : TypeId} {v1 v2 : Value} {x1 x2 : List Value} (h1 : w.ownsRow b1 T1 s1 v1 n1 x1) (h2 : w.ownsRow b2 T2 s2 v2 n2 x2) (hT : T1 ≠ T2) (g : Nat) (hg : v1.ownBlock = some g) : v2.ownBlock ≠ some g := by
 intro hc
 rcases h1.2 with ⟨rfl, _⟩ | ⟨g1, c1, u1, rfl, _, k1, _⟩
 · simp [Value.ownBlock] at hg
 · rcases h2.2 with ⟨rfl, _⟩ | ⟨g2, c2, u2, rfl, _, k2, _⟩
   · simp [Value.ownBlock] at hc
   · simp [Value.ownBlock] at hg hc
     subst hg hc
     rw [k1] at k2
     simp at k2
     exact hT k2.2
theorem own_notO {W : World} {base s n b : Nat} {T T' : TypeId} {v : Value} {xs : List Value} {cs : Array Value} {fz : Nat × Nat} (h : W.ownsRow base T s v n xs) (hb : W.heap[b]? = some (.cells cs T' fz)) (hT : T' ≠ T) : v.ownBlock ≠ some b := by
 rcases h.2 with ⟨rfl, _⟩ | ⟨g, cap, cur, rfl, _, hgb, _⟩
 · simp [Value.ownBlock]
 · intro e
   have e1 : g = b := by simpa [Value.ownBlock] using e
   rw [e1] at hgb
   have := hb.symm.trans hgb
   simp at this
   exact hT this.2.1
theorem app_runO {ops : Array Oper} {rest : List Oper} {o : Oper} {a : Act} {w w' : World} {Q : Exit -> Act -> World -> Prop} (hg : o.guard = none) (s x : Operand) (t : TypeId)
 (ho : o.op = .call { callee := .builtin .append, args := #[s, x], argTypes := #[t, t] }) (u vb v : Value) (hs : a.eval s = u) (hx : a.eval x = vb)
 (hr : (Builtin.append_ #[t, t] o.type #[u, vb]).run Tryz.prog w = .ok v w')
 (h : wpList Tryz.prog ops Q rest (a.put o.dst v) w') : wpList Tryz.prog ops Q (o :: rest) a w := by
 refine wpList_plain hg fun K hK => ?_
 unfold Oper.wp execOp
 simp only [ho, resolve, invoke, builtin, Sem.run_bind, Sem.run_pure, Result.andThen_ok, List.map_toArray, List.map_cons, List.map_nil, hs, hx, hr]
 exact hK _ _ h
theorem new_of_at {w : World} {v v' : Value} (h : v'.ownBlock = v.ownBlock ∨ v'.ownBlock = some w.heap.size) : ∀ j, v'.ownBlock = some j -> v.ownBlock = some j ∨ w.heap.size <= j := fun j hj => by
 rcases h with e | e
 · exact .inl (by rw [<- e]; exact hj)
 · rw [e] at hj; cases hj; exact .inr (Nat.le_refl _)
theorem own_none (w : World) (T : TypeId) (s : Nat) : (w.alloc (.cells #[] T)).ownsRow w.heap.size T s (.slice (some ⟨w.heap.size, 0, none⟩) 0 0) 0 [] :=
 World.ownsRow_made w #[] 0 (Nat.le_refl _) (Nat.zero_le _) (by simp)
theorem flat_one {α : Type} {f : α -> List Value} (h1 : ∀ x, ∀ v ∈ f x, v.oneCell' = true) (xs : List α) : ∀ u ∈ xs.flatMap f, u.oneCell' = true := fun u hu => by
 obtain ⟨x, _, hx⟩ := List.mem_flatMap.1 hu
 exact h1 x u hx
theorem made_listO (z : Value) (n : Nat) : madeCells #[z] (n * 1) = (List.replicate n z).toArray := by
 apply Array.ext'
 rw [toList_madeCells_one, Nat.mul_one]
end Go.Proofs.YtipobchbnjgenaaGreat
namespace Go.Proofs.YtipobchbnjgenaaGreat
open Go.RowKit Fld
def k32 (b : List Int) : List Value := (List.range 32).map fun i => .int .u8 (b.getD i 0)
theorem k32_len (b : List Int) : (k32 b).length = 32 := by simp [k32]
theorem k32_valb {b : List Int} (h : b.length = 32) : k32 b = valb b := by
 apply List.ext_getElem (by rw [k32_len, valb_length, h])
 intro i h1 h2
 rw [k32_len] at h1
 simp only [k32, valb, List.getElem_map, List.getElem_range]
 rw [List.getD_eq_getElem?_getD, List.getElem?_eq_getElem (by omega)]; rfl
theorem k32_one (b : List Int) : ∀ v ∈ k32 b, v.oneCell' = true := by
 intro v hv
 obtain ⟨i, _, rfl⟩ := List.mem_map.1 hv
 rfl
theorem bsl_info : (Tryz.prog.info? 30).map (fun i => (i.zero, i.size, i.bytes)) = some (some (.slice none 0 0), 1, 24) := by kernel_rfl
structure Dok (D : Dsk) : Prop where
 ok : DskOk D
 byt : ∀ b ∈ D.l, By b
 top : D.f <= 9223372036854775807
def dkw (D : Dsk) (v : Value) : Array Value := #[.bool true, v, .bool (decide (0 <= D.f)), .int .i64 (max D.f 0), .bool D.x, .int .i64 (D.n : Int)]
structure Hd (w : World) (base g : Nat) (v : Value) (D : Dsk) : Prop where
 dsk : w.heap[g]? = some (.cells (dkw D v) 93 (0, 0))
 row : w.ownsRow base 123 32 v D.l.length (D.l.flatMap k32)
 low : base <= g
 o : Dok D
theorem Hd.lt {w : World} {base g : Nat} {v : Value} {D : Dsk} (h : Hd w base g v D) : g < w.heap.size := (Array.getElem?_eq_some_iff.1 h.dsk).1
theorem Hd.cells {w : World} {base g : Nat} {v : Value} {D : Dsk} (h : Hd w base g v D) : w.cell? ⟨g, 0, none⟩ = some (.bool true) ∧ w.cell? ⟨g, 1, none⟩ = some v ∧ w.cell? ⟨g, 2, none⟩ = some (.bool (decide (0 <= D.f))) ∧ w.cell? ⟨g, 3, none⟩ = some (.int .i64 (max D.f 0)) ∧ w.cell? ⟨g, 4, none⟩ = some (.bool D.x) ∧ w.cell? ⟨g, 5, none⟩ = some (.int .i64 (D.n : Int)) := by
 have h' := h.dsk
 refine ⟨?_, ?_, ?_, ?_, ?_, ?_⟩ <;> simp [World.cell?, h', dkw]
theorem Hd.free {w : World} {base g : Nat} {v : Value} {D : Dsk} (h : Hd w base g v D) (k : Nat) : w.frozen? ⟨g, k, none⟩ = false := by
 have h' := h.dsk
 simp [World.frozen?, h']
theorem Hd.spell {w : World} {base g : Nat} {v : Value} {D : Dsk} (h : Hd w base g v D) : ∃ ao cap, v = .slice ao D.l.length cap ∧ D.l.length <= cap ∧ (0 < D.l.length -> ∃ r, ao = some ⟨r, 0, none⟩ ∧ base <= r ∧ r < w.heap.size) := own_spellO h.row
theorem Hd.own_lt {w : World} {base g : Nat} {v : Value} {D : Dsk} (h : Hd w base g v D) : ∀ j, v.ownBlock = some j -> base <= j ∧ j < w.heap.size := h.row.lt
theorem Hd.ne {w : World} {base g : Nat} {v : Value} {D : Dsk} (h : Hd w base g v D) : v.ownBlock ≠ some g := own_notO h.row h.dsk (by decide)
theorem Hd.kept {S : Nat -> Prop} {w w' : World} {base g : Nat} {v : Value} {D : Dsk} (h : Hd w base g v D) (k : Kq S w w') (hg : S g) (hv : ∀ j, v.ownBlock = some j -> S j) : Hd w' base g v D :=
 ⟨(k.block g hg).trans h.dsk, k.own h.row hv, h.low, h.o⟩
theorem Hd.below {w w' : World} {base g : Nat} {v : Value} {D : Dsk} (h : Hd w base g v D) (hb : Below w.heap.size w w') : Hd w' base g v D :=
 h.kept (Below.kq hb (S := fun j => j < w.heap.size) (fun j hj => hj)) h.lt (fun j hj => (h.own_lt j hj).2)
theorem Hd.mono {w : World} {base base' g : Nat} {v : Value} {D : Dsk} (h : Hd w base g v D) (hb : base' <= base) : Hd w base' g v D := ⟨h.dsk, own_mono h.row hb, by have := h.low; omega, h.o⟩
theorem dIsThere_nil (w : World) : Calls Tryz.prog 57 #[.pointer none] w fun e w' => e = .returned (.bool false) ∧ w' = w := by
 go_enter Tryz.func57, Tryz.ntmps57
 go_wp2
 go_ret
 exact ⟨rfl, rfl⟩
theorem dIsThere {w : World} {base g : Nat} {v : Value} {D : Dsk} (h : Hd w base g v D) : Calls Tryz.prog 57 #[.pointer (some ⟨g, 0, none⟩)] w fun e w' => e = .returned (.bool true) ∧ w' = w := by
 obtain ⟨c0, _⟩ := h.cells
 go_enter Tryz.func57, Tryz.ntmps57
 go_wp2
 go_ret
 exact ⟨rfl, rfl⟩
theorem dSucc {w : World} {base g : Nat} {v : Value} {D : Dsk} (h : Hd w base g v D) : Calls Tryz.prog 119 #[.pointer (some ⟨g, 0, none⟩)] w fun e w' => e = .returned (.bool (!(dieD D))) ∧ w' = w := by
 obtain ⟨_, _, c2, c3, c4, _⟩ := h.cells
 have hf := h.o.ok.fu
 obtain ⟨l, f, x, n⟩ := D
 dsimp only at c2 c3 c4 hf
 unfold dieD
 dsimp only
 clear h
 cases x with
 | true =>
  go_enter Tryz.func119, Tryz.ntmps119
  go_wp2
  go_ret
  exact ⟨rfl, rfl⟩
 | false =>
  rw [Bool.false_or]
  by_cases h1 : 0 <= f
  · rw [decide_eq_true h1] at c2
    by_cases h2 : 0 < f
    · rw [show max f 0 = f by omega] at c3
      rw [decide_eq_false (by omega : ¬ f = 0)]
      go_enter Tryz.func119, Tryz.ntmps119
      go_wp2
      go_ret
      exact ⟨rfl, rfl⟩
    · have : f = 0 := by omega
      subst this
      go_enter Tryz.func119, Tryz.ntmps119
      go_wp2
      go_ret
      exact ⟨rfl, rfl⟩
  · rw [decide_eq_false h1] at c2
    rw [decide_eq_false (by omega : ¬ f = 0)]
    go_enter Tryz.func119, Tryz.ntmps119
    go_wp2
    go_ret
    exact ⟨rfl, rfl⟩
theorem kept_info : (Tryz.prog.info? 123).map (fun i => (i.zero, i.size, i.bytes)) = some (some (.agg (List.replicate 32 (Value.int .u8 0)).toArray), 32, 32) := by kernel_rfl
theorem headK {w : World} {base n cap : Nat} {ao : Option Addr} {xs : List (List Int)} (h : w.ownsRow base 123 32 (.slice ao n cap) n (xs.flatMap k32)) (hl : xs.length = n) (k : Nat) (hk : k <= n) :
 (∀ W, (Instr.slice 91 (.slice ao n cap) none (some (.int .i64 (k : Int))) none).run Tryz.prog W = .ok (.slice ao k cap) W) ∧ w.ownsRow base 123 32 (.slice ao k cap) k ((xs.take k).flatMap k32) := by
 obtain ⟨i0, hi0, hz0, hz1, hz2⟩ := info_parts kept_info
 subst hl
 rcases h.2 with ⟨e, h0⟩ | ⟨g, cap', cur, e, h2, h3, h4, h5, h6, h7⟩
 · have hx : xs = [] := by
    injection e with _ e2 _
    exact List.length_eq_zero_iff.1 e2
   subst hx
   cases e
   have : k = 0 := by simpa using hk
   subst this
   refine ⟨fun W => ?_, by simpa using h⟩
   simp [Instr.slice, Instr.sliceBounds, Instr.sliceBound, asIntOf, run_underlying Tryz.underlying91, sizeOf, typeInfo, hi0, hz1]
 · cases e
   refine ⟨fun W => ?_, ?_⟩
   · have h2' : (k : Int) <= (cap : Int) := by omega
     by_cases h0 : cap = 0
     · subst h0
       have : k = 0 := by omega
       subst this
       simp [Instr.slice, Instr.sliceBounds, Instr.sliceBound, asIntOf, run_underlying Tryz.underlying91, sizeOf, typeInfo, hi0, hz1]
     · simp [Instr.slice, Instr.sliceBounds, Instr.sliceBound, asIntOf, run_underlying Tryz.underlying91, sizeOf, typeInfo, hi0, hz1, h2', h0, show ¬ cap < k by omega, Addr.add]
   · rw [<- flat_take k32 32 k32_len xs k hk]
     exact own_short h hk
def Mr (w : World) (u : Value) (bs : List (List Int)) : Prop := (u = .slice none 0 0 ∧ bs = []) ∨ ∃ r c, u = .slice (some ⟨r, 0, none⟩) bs.length c ∧ ∀ j x, (bs.flatMap k32)[j]? = some x -> w.cell? ((⟨r, 0, none⟩ : Addr).add j) = some x
theorem app_kept {W : World} {lo k c : Nat} {a : Option Addr} {xs bs : List (List Int)} {u : Value} (h : W.ownsRow lo 123 32 (.slice a k c) k (xs.flatMap k32)) (hu : Mr W u bs) (hl : k + bs.length <= 65536) (hb : lo <= W.heap.size) :
 ∃ (au : Option Addr) (cu : Nat) (W' : World), (Builtin.append_ #[91, 91] 91 #[.slice a k c, u]).run Tryz.prog W = .ok (.slice au (k + bs.length) cu) W' ∧ W'.ownsRow lo 123 32 (.slice au (k + bs.length) cu) (k + bs.length) ((xs ++ bs).flatMap k32) ∧ W.grownBy W' (Value.slice a k c).ownBlock ∧ (∀ j, (Value.slice au (k + bs.length) cu).ownBlock = some j -> (Value.slice a k c).ownBlock = some j ∨ W.heap.size <= j) := by
 obtain ⟨i0, hi0, hz0, hz1, hz2⟩ := info_parts kept_info
 rcases hu with ⟨rfl, rfl⟩ | ⟨r, c', rfl, hc⟩
 · refine ⟨a, c, W, ?_, by simpa using h, ⟨rfl, rfl, rfl, Nat.le_refl _, fun _ _ _ => rfl⟩, fun j hj => .inl hj⟩
   exact run_append_owned_none (P := Tryz.prog) (w := W) lo 91 91 123 i0 32 Tryz.underlying91 hi0 _ _ _ h
 · obtain ⟨v', W', hr, ho, hg, _, hat⟩ := run_append_own_at (P := Tryz.prog) (w := W) lo 91 91 123 i0 (.agg (List.replicate 32 (Value.int .u8 0)).toArray) 32 32 Tryz.underlying91 hi0 hz0 hz1 hz2 rfl (by decide) (.slice a k c) k (xs.flatMap k32) h ⟨r, 0, none⟩ bs.length c' (bs.flatMap k32) (flat_len k32 32 k32_len bs) hc (fun v hv => by
    obtain ⟨b, _, hx⟩ := List.mem_flatMap.1 hv
    exact k32_one b v hx) (by unfold maxLen; omega) (by omega) hb
   rw [<- List.flatMap_append] at ho
   obtain ⟨au, cu, rfl, _⟩ := own_spellO ho
   exact ⟨au, cu, W', hr, ho, hg, new_of_at hat⟩
theorem dok_did {D : Dsk} (h : Dok D) {l : List (List Int)} (h1 : l.length <= 65536) (h2 : ∀ b ∈ l, b.length = 32) (h3 : ∀ b ∈ l, By b) : Dok (didD D l) := ⟨didD_ok h.ok h1 h2, h3, by
 have := h.top
 unfold didD
 dsimp only
 split <;> omega⟩
theorem dok_x {D : Dsk} (h : Dok D) (x : Bool) : Dok { D with x := x } := ⟨⟨h.ok.len, h.ok.blk, h.ok.fu⟩, h.byt, h.top⟩
theorem gRaw_cut {w : World} {base g : Nat} {v : Value} {D : Dsk} (h : Hd w base g v D) (hd : dieD D = true) (k : Int) (u : Value) :
 Calls Tryz.prog 96 #[.pointer (some ⟨g, 0, none⟩), .int .i64 k, u] w fun e w' => e = .returned (.int .i64 220) ∧ Hd w' base g v { D with x := true } ∧ Mv w w' g v v := by
 have HS := hide (dSucc h)
 rw [hd] at HS
 have HH := hide h
 obtain ⟨_, _, _, _, c4, _⟩ := h.cells
 have f4 := h.free 4
 clear h hd
 go_enter Tryz.func96, Tryz.ntmps96
 go_wp2
 refine wp_scope_jumps 0 (fun a' w' => w' = w ∧ ∃ x1 x2 x3 x4 x5 x6 x7 x8 x9 : Value, a' = { tmps := #[.pointer (some ⟨g, 0, none⟩), x1, x2, x3, x4, x5, x6, x7, x8, x9, undef, undef, undef, undef, undef, undef, undef, undef, undef, undef, undef, undef, undef, undef, undef, undef, undef, undef, undef, undef, undef, undef, undef, undef, undef, undef, undef, undef, undef, undef, undef, undef, undef, undef, undef, undef, undef], defers := [] }) (fun _ _ => 0) rfl ?_ ?_
 · go_wp2_with (go_at_call 119; refine HS.out.mono ?_; rintro e w1 ⟨rfl, rfl⟩)
   go_step3
   exact ⟨rfl, rfl, _, _, _, _, _, _, _, _, _, rfl⟩
 · rintro a' w' ⟨rfl, x1, x2, x3, x4, x5, x6, x7, x8, x9, rfl⟩
   go_wp2
   simp only [Exit.jump]
   go_ret
   have h := HH.out
   refine ⟨rfl, ⟨?_, ownsRow_setCell_other h.row h.ne _, h.low, dok_x h.o true⟩, mv_set _ g 4 _ _⟩
   rw [set_blk h.dsk 4 _]; rfl
theorem gRaw_full {w : World} {base g : Nat} {v : Value} {D : Dsk} (h : Hd w base g v D) (hd : dieD D = false) (k : Nat) {u : Value} {bs : List (List Int)} (hu : Mr w u bs) (hk : k <= 65536) (hb : bs.length <= 65536) (hl : 65536 < k + bs.length) :
 Calls Tryz.prog 96 #[.pointer (some ⟨g, 0, none⟩), .int .i64 (k : Int), u] w fun e w' => e = .returned (.int .i64 4) ∧ w' = w := by
 have HS := hide (dSucc h)
 rw [hd] at HS
 obtain ⟨a, m, c, rfl, hm⟩ : ∃ a m c, u = .slice a m c ∧ m = bs.length := by
  rcases hu with ⟨rfl, rfl⟩ | ⟨r, c, rfl, _⟩
  · exact ⟨_, _, _, rfl, rfl⟩
  · exact ⟨_, _, _, rfl, rfl⟩
 have h1 : (65536 : Int) < (k : Int) + (m : Int) := by omega
 have h2 : IntKind.i64.wrap ((k : Int) + (m : Int)) = (k : Int) + (m : Int) := by rw [IntKind.wrap_i64]; omega
 clear h hd hu hm hl
 go_enter Tryz.func96, Tryz.ntmps96
 go_wp2
 go_step3
 go_wp2_with (go_at_call 119; refine HS.out.mono ?_; rintro e w1 ⟨rfl, rfl⟩)
 rw [Exit.noGoto_ret]
 go_ret
 exact ⟨rfl, rfl⟩
theorem gRaw_ok {w : World} {base g : Nat} {v : Value} {D : Dsk} (h : Hd w base g v D) (hb : base <= w.heap.size) (hd : dieD D = false) (hn : D.n < 4611686018427387904) (k : Nat) (hk : k <= D.l.length) {u : Value} {bs : List (List Int)} (hu : Mr w u bs) (hl : k + bs.length <= 65536) (h32 : ∀ b ∈ bs, b.length = 32 ∧ By b) :
 Calls Tryz.prog 96 #[.pointer (some ⟨g, 0, none⟩), .int .i64 (k : Int), u] w fun e w' => ∃ v', e = .returned (.int .i64 0) ∧ Hd w' base g v' (didD D (D.l.take k ++ bs)) ∧ Mv w w' g v v' := by
 have HS := hide (dSucc h)
 rw [hd] at HS
 obtain ⟨ao, cap, rfl, hcap, _⟩ := h.spell
 obtain ⟨hsl, hrow⟩ := headK h.row rfl k hk
 obtain ⟨au, cu, W, hr, ho, hg, hnew⟩ := app_kept hrow hu hl hb
 have hob : (Value.slice ao k cap).ownBlock = (Value.slice ao D.l.length cap).ownBlock := by cases ao <;> rfl
 rw [hob] at hg hnew
 have hne := h.ne
 have hblk : W.heap[g]? = _ := (hg.block g h.lt (fun e => hne e.symm)).trans h.dsk
 have hvg : (Value.slice au (k + bs.length) cu).ownBlock ≠ some g := fun e => by
  rcases hnew g e with e2 | e2
  · exact hne e2
  · have := h.lt; omega
 obtain ⟨a, m, c, rfl, hm⟩ : ∃ a m c, u = .slice a m c ∧ m = bs.length := by
  rcases hu with ⟨rfl, rfl⟩ | ⟨r, c, rfl, _⟩
  · exact ⟨_, _, _, rfl, rfl⟩
  · exact ⟨_, _, _, rfl, rfl⟩
 have HMv : Hid (Mv w W g (.slice ao D.l.length cap) (.slice au (k + bs.length) cu)) := mv_grown g hg h.row ho hnew
 have HB := hide hblk
 have HO := hide ho
 have HVG := hide hvg
 have HLow := hide h.low
 have HDk : Hid (Dok (didD D (D.l.take k ++ bs))) := dok_did h.o (by rw [List.length_append, List.length_take]; omega) (fun b hb => by
  rcases List.mem_append.1 hb with hb | hb
  · exact h.o.ok.blk b (List.mem_of_mem_take hb)
  · exact (h32 b hb).1) (fun b hb => by
  rcases List.mem_append.1 hb with hb | hb
  · exact h.o.byt b (List.mem_of_mem_take hb)
  · exact (h32 b hb).2)
 have HL : Hid ((D.l.take k ++ bs).length = k + bs.length) := by show _ = _; rw [List.length_append, List.length_take]; omega
 obtain ⟨_, c1, _, _, _, _⟩ := h.cells
 have hf := h.o.ok.fu
 have hft := h.o.top
 obtain ⟨l, f, x, n⟩ := D
 have hx : x = false ∧ f ≠ 0 := by
  unfold dieD at hd
  simpa using hd
 obtain ⟨rfl, hf0⟩ := hx
 dsimp only at *
 rw [<- hm] at hr HO HL HMv HVG hl
 have e1 : ¬ (65536 : Int) < (k : Int) + (m : Int) := by omega
 have e2 : IntKind.i64.wrap ((k : Int) + (m : Int)) = (k : Int) + (m : Int) := by rw [IntKind.wrap_i64]; omega
 have e3 : IntKind.i64.wrap ((n : Int) + 1) = ((n + 1 : Nat) : Int) := by rw [IntKind.wrap_i64]; omega
 obtain ⟨r, hrw⟩ : ∃ r, l.take k ++ bs = r := ⟨_, rfl⟩
 rw [hrw] at HO HDk HL ⊢
 clear h hd hu h32 hrow ho hg hnew hne hblk hvg hob hm hrw hl hk hcap
 have k1 : W.cell? ⟨g, 1, none⟩ = some (.slice ao l.length cap) := (Lib.cell_of_heap HB.out 1).trans rfl
 have k2 : W.cell? ⟨g, 2, none⟩ = some (.bool (decide (0 <= f))) := (Lib.cell_of_heap HB.out 2).trans rfl
 have k3 : W.cell? ⟨g, 3, none⟩ = some (.int .i64 (max f 0)) := (Lib.cell_of_heap HB.out 3).trans rfl
 have k5 : W.cell? ⟨g, 5, none⟩ = some (.int .i64 (n : Int)) := (Lib.cell_of_heap HB.out 5).trans rfl
 have kf : ∀ j, W.frozen? ⟨g, j, none⟩ = false := fun j => Lib.frozen_of_heap HB.out j
 by_cases h1 : 0 <= f
 · rw [decide_eq_true h1] at k2
   have e4 : max f 0 = f := by omega
   rw [e4] at k3
   go_enter Tryz.func96, Tryz.ntmps96
   go_wp2
   go_step3
   go_wp2_with (first
    | (go_at_call 119; refine HS.out.mono ?_; rintro e w1 ⟨rfl, rfl⟩)
    | (at_builtin; refine app_runO rfl _ _ _ rfl _ _ _ rfl rfl hr ?_))
   rw [Exit.noGoto_ret]
   go_ret
   have e7 : didD ⟨l, f, false, n⟩ r = ⟨r, f - 1, false, n + 1⟩ := by unfold didD; rw [if_pos (show (0 : Int) < (⟨l, f, false, n⟩ : Dsk).f by dsimp only; omega)]
   rw [e7] at HDk ⊢
   refine ⟨_, rfl, ⟨?_, ?_, HLow.out, HDk.out⟩, ((HMv.out.trans (mv_set _ g 1 _ _)).trans (mv_set _ g 5 _ _)).trans (mv_set _ g 3 _ _)⟩
   · rw [set_blk (set_blk (set_blk HB.out 1 _) 5 _) 3 _]
     unfold dkw
     dsimp only
     rw [decide_eq_true h1, decide_eq_true (show 0 <= f - 1 by omega), show max (f - 1) 0 = f - 1 by omega]
     rfl
   · rw [show (⟨r, f - 1, false, n + 1⟩ : Dsk).l.length = k + m from HL.out]
     exact ownsRow_setCell_other (ownsRow_setCell_other (ownsRow_setCell_other HO.out HVG.out _) HVG.out _) HVG.out _
 · rw [decide_eq_false (show ¬ 0 <= f from h1)] at k2
   go_enter Tryz.func96, Tryz.ntmps96
   go_wp2
   go_step3
   go_wp2_with (first
    | (go_at_call 119; refine HS.out.mono ?_; rintro e w1 ⟨rfl, rfl⟩)
    | (at_builtin; refine app_runO rfl _ _ _ rfl _ _ _ rfl rfl hr ?_))
   rw [Exit.noGoto_ret]
   go_ret
   have e7 : didD ⟨l, f, false, n⟩ r = ⟨r, f, false, n + 1⟩ := by unfold didD; rw [if_neg (show ¬ (0 : Int) < (⟨l, f, false, n⟩ : Dsk).f by dsimp only; omega)]
   rw [e7] at HDk ⊢
   refine ⟨_, rfl, ⟨?_, ?_, HLow.out, HDk.out⟩, (HMv.out.trans (mv_set _ g 1 _ _)).trans (mv_set _ g 5 _ _)⟩
   · rw [set_blk (set_blk HB.out 1 _) 5 _]
     unfold dkw
     dsimp only
     rw [decide_eq_false (show ¬ 0 <= f by omega)]
     rfl
   · rw [show (⟨r, f, false, n + 1⟩ : Dsk).l.length = k + m from HL.out]
     exact ownsRow_setCell_other (ownsRow_setCell_other HO.out HVG.out _) HVG.out _
abbrev Be := List Int × Value
def dkr (D : Dsk) (v : Value) : Array Value := #[v, .int .i64 D.f, .bool D.x, .int .i64 (D.n : Int)]
structure Dr (w : World) (base g : Nat) (v : Value) (D : Dsk) (es : List Be) : Prop where
 dsk : w.heap[g]? = some (.cells (dkr D v) 37 (0, 0))
 row : w.ownsRow base 30 1 v es.length (es.map (·.2))
 each : ∀ e ∈ es, w.ownsRow base 5 1 e.2 e.1.length (valb e.1)
 eq : es.map (·.1) = D.l
 low : base <= g
 o : Dok D
theorem Dr.lt {w : World} {base g : Nat} {v : Value} {D : Dsk} {es : List Be} (h : Dr w base g v D es) : g < w.heap.size := (Array.getElem?_eq_some_iff.1 h.dsk).1
theorem Dr.len {w : World} {base g : Nat} {v : Value} {D : Dsk} {es : List Be} (h : Dr w base g v D es) : es.length = D.l.length := by rw [<- h.eq, List.length_map]
theorem Dr.cells {w : World} {base g : Nat} {v : Value} {D : Dsk} {es : List Be} (h : Dr w base g v D es) : w.cell? ⟨g, 0, none⟩ = some v ∧ w.cell? ⟨g, 1, none⟩ = some (.int .i64 D.f) ∧ w.cell? ⟨g, 2, none⟩ = some (.bool D.x) ∧ w.cell? ⟨g, 3, none⟩ = some (.int .i64 (D.n : Int)) := by
 have h' := h.dsk
 refine ⟨?_, ?_, ?_, ?_⟩ <;> simp [World.cell?, h', dkr]
theorem Dr.free {w : World} {base g : Nat} {v : Value} {D : Dsk} {es : List Be} (h : Dr w base g v D es) (k : Nat) : w.frozen? ⟨g, k, none⟩ = false := by
 have h' := h.dsk
 simp [World.frozen?, h']
theorem Dr.spell {w : World} {base g : Nat} {v : Value} {D : Dsk} {es : List Be} (h : Dr w base g v D es) : ∃ ao cap, v = .slice ao D.l.length cap ∧ D.l.length <= cap ∧ (0 < D.l.length -> ∃ r, ao = some ⟨r, 0, none⟩ ∧ base <= r ∧ r < w.heap.size) := by
 have := own_spellO h.row
 rw [h.len] at this
 exact this
theorem Dr.ne {w : World} {base g : Nat} {v : Value} {D : Dsk} {es : List Be} (h : Dr w base g v D es) : v.ownBlock ≠ some g := own_notO h.row h.dsk (by decide)
theorem Dr.une {w : World} {base g : Nat} {v : Value} {D : Dsk} {es : List Be} (h : Dr w base g v D es) {e : Be} (he : e ∈ es) : e.2.ownBlock ≠ some g := own_notO (h.each e he) h.dsk (by decide)
theorem Dr.kept {S : Nat -> Prop} {w w' : World} {base g : Nat} {v : Value} {D : Dsk} {es : List Be} (h : Dr w base g v D es) (k : Kq S w w') (hg : S g) (hv : ∀ j, v.ownBlock = some j -> S j) (hu : ∀ e ∈ es, ∀ j, e.2.ownBlock = some j -> S j) : Dr w' base g v D es :=
 ⟨(k.block g hg).trans h.dsk, k.own h.row hv, fun e he => k.own (h.each e he) (hu e he), h.eq, h.low, h.o⟩
theorem Dr.below {w w' : World} {base g : Nat} {v : Value} {D : Dsk} {es : List Be} (h : Dr w base g v D es) (hb : Below w.heap.size w w') : Dr w' base g v D es :=
 h.kept (Below.kq hb (S := fun j => j < w.heap.size) (fun j hj => hj)) h.lt (fun j hj => (h.row.lt j hj).2) (fun e he j hj => ((h.each e he).lt j hj).2)
theorem Dr.put {w w' : World} {base g : Nat} {v : Value} {D D' : Dsk} {es : List Be} (h : Dr w base g v D es) (m : Mv w w' g v v) (hk : ∀ j, j ≠ g -> w'.heap[j]? = w.heap[j]?) (hb : w'.heap[g]? = some (.cells (dkr D' v) 37 (0, 0))) (hl : D'.l = D.l) (ho : Dok D') : Dr w' base g v D' es := by
 have k : Kq (fun j => j ≠ g) w w' := ⟨m.kq.os, m.kq.tape, m.kq.output, m.kq.size, hk⟩
 exact ⟨hb, k.own h.row (fun j hj e => h.ne (by rw [hj, e])), fun e he => k.own (h.each e he) (fun j hj e' => h.une he (by rw [hj, e'])), by rw [h.eq, hl], h.low, ho⟩
def Dy (w : World) (base g : Nat) (v : Value) (D : Dsk) : Prop := ∃ es, Dr w base g v D es
theorem Dy.below {w w' : World} {base g : Nat} {v : Value} {D : Dsk} (h : Dy w base g v D) (hb : Below w.heap.size w w') : Dy w' base g v D := by
 obtain ⟨es, h⟩ := h
 exact ⟨es, h.below hb⟩
theorem dies_ok {D : Dsk} (h : Dok D) : Dok { D with x := dieD D } := ⟨⟨h.ok.len, h.ok.blk, h.ok.fu⟩, h.byt, h.top⟩
theorem dDies {w : World} {base g : Nat} {v : Value} {D : Dsk} {es : List Be} (h : Dr w base g v D es) :
 Calls Tryz.prog 103 #[.pointer (some ⟨g, 0, none⟩)] w fun e w' => e = .returned (.bool (dieD D)) ∧ Dr w' base g v { D with x := dieD D } es ∧ Mv w w' g v v ∧ (dieD D = false -> w' = w) := by
 obtain ⟨_, c1, c2, _⟩ := h.cells
 have c3 := h.free 2
 have HP := hide h
 by_cases hf : D.f = 0
 · have e : dieD D = true := by unfold dieD; rw [hf]; simp
   have HK := hide (dies_ok h.o)
   rw [hf] at c1
   rw [e] at HK ⊢
   clear e hf h
   go_enter Tryz.func103, Tryz.ntmps103
   go_wp2
   go_ret
   refine ⟨rfl, HP.out.put (mv_set w g 2 _ v) (fun j hj => Below.heap_setCell _ _ _ j hj) ?_ rfl HK.out, mv_set w g 2 _ v, fun h => by cases h⟩
   rw [set_blk HP.out.dsk 2 _]; rfl
 · have e : dieD D = D.x := by unfold dieD; rw [decide_eq_false hf, Bool.or_false]
   have e2 : ({ D with x := dieD D } : Dsk) = D := by rw [e]
   rw [e2, e]
   clear e e2 h
   go_enter Tryz.func103, Tryz.ntmps103
   go_wp2
   go_ret
   exact ⟨rfl, HP.out, Mv.refl _ _ _, fun _ => rfl⟩
theorem did_same {D : Dsk} (h : Dok D) : Dok (didD D D.l) := ⟨didD_ok h.ok h.ok.len h.ok.blk, h.byt, by
 have := h.top
 unfold didD
 dsimp only
 split <;> omega⟩
theorem dDid {w : World} {base g : Nat} {v : Value} {D : Dsk} {es : List Be} (h : Dr w base g v D es) (hn : D.n < 4611686018427387904) :
 Calls Tryz.prog 104 #[.pointer (some ⟨g, 0, none⟩)] w fun e w' => e = .returned (.tuple #[]) ∧ Dr w' base g v (didD D D.l) es ∧ Mv w w' g v v := by
 obtain ⟨_, c1, _, c3⟩ := h.cells
 have cf := h.free
 have HP := hide h
 have HK := hide (did_same h.o)
 have ht := h.o.top
 have e3 : IntKind.i64.wrap ((D.n : Int) + 1) = ((D.n + 1 : Nat) : Int) := by rw [IntKind.wrap_i64]; omega
 clear h
 by_cases hf : 0 < D.f
 · have e7 : didD D D.l = ⟨D.l, D.f - 1, D.x, D.n + 1⟩ := by unfold didD; rw [if_pos hf]
   rw [e7] at HK ⊢
   have hm := ((mv_set w g 3 (.int .i64 ((D.n + 1 : Nat) : Int)) v).trans (mv_set _ g 1 (.int .i64 (D.f - 1)) v))
   have HM := hide hm
   have HB : Hid (((w.setCell ⟨g, 3, none⟩ (.int .i64 ((D.n + 1 : Nat) : Int))).setCell ⟨g, 1, none⟩ (.int .i64 (D.f - 1))).heap[g]? = some (.cells (dkr ⟨D.l, D.f - 1, D.x, D.n + 1⟩ v) 37 (0, 0))) := by
    show _ = _
    rw [set_blk (set_blk HP.out.dsk 3 _) 1 _]; rfl
   clear e7 hm
   go_enter Tryz.func104, Tryz.ntmps104
   go_wp2
   go_end0
   refine ⟨rfl, HP.out.put HM.out (fun j hj => ?_) HB.out rfl HK.out, HM.out⟩
   rw [Below.heap_setCell _ _ _ j hj, Below.heap_setCell _ _ _ j hj]
 · have e7 : didD D D.l = ⟨D.l, D.f, D.x, D.n + 1⟩ := by unfold didD; rw [if_neg hf]
   rw [e7] at HK ⊢
   have HM := hide (mv_set w g 3 (.int .i64 ((D.n + 1 : Nat) : Int)) v)
   have HB : Hid ((w.setCell ⟨g, 3, none⟩ (.int .i64 ((D.n + 1 : Nat) : Int))).heap[g]? = some (.cells (dkr ⟨D.l, D.f, D.x, D.n + 1⟩ v) 37 (0, 0))) := by
    show _ = _
    rw [set_blk HP.out.dsk 3 _]; rfl
   clear e7
   go_enter Tryz.func104, Tryz.ntmps104
   go_wp2
   go_end0
   exact ⟨rfl, HP.out.put HM.out (fun j hj => Below.heap_setCell _ _ _ j hj) HB.out rfl HK.out, HM.out⟩
theorem dFuse {w : World} {base g : Nat} {v : Value} {D : Dsk} {es : List Be} (h : Dr w base g v D es) (i : Int) (hi : i <= 9223372036854775807) :
 Calls Tryz.prog 22 #[.pointer (some ⟨g, 0, none⟩), .int .i64 i] w fun e w' => e = .returned (.int .i64 (fuE i)) ∧ Dr w' base g v (fuN D i) es ∧ Mv w w' g v v := by
 obtain ⟨_, c1, _, _⟩ := h.cells
 have cf := h.free 1
 have HP := hide h
 by_cases h1 : i < 0
 · have e1 : fuE i = 2 := by unfold fuE; rw [if_neg (by omega)]
   have e2 : fuN D i = D := by unfold fuN; rw [if_neg (by omega)]
   rw [e1, e2]
   clear e1 e2 c1 cf h
   go_enter Tryz.func22, Tryz.ntmps22
   go_wp2
   go_ret
   exact ⟨rfl, HP.out, Mv.refl _ _ _⟩
 · have e1 : fuE i = 0 := by unfold fuE; rw [if_pos (by omega)]
   have e2 : fuN D i = { D with f := i } := by unfold fuN; rw [if_pos e1]
   have HK : Hid (Dok { D with f := i }) := ⟨⟨h.o.ok.len, h.o.ok.blk, by show -1 <= i; omega⟩, h.o.byt, hi⟩
   rw [e1, e2]
   clear e1 e2 h hi
   go_enter Tryz.func22, Tryz.ntmps22
   go_wp2
   go_ret
   refine ⟨rfl, HP.out.put (mv_set w g 1 _ v) (fun j hj => Below.heap_setCell _ _ _ j hj) ?_ rfl HK.out, mv_set w g 1 _ v⟩
   rw [set_blk HP.out.dsk 1 _]; rfl
theorem dMend {w : World} {base g : Nat} {v : Value} {D : Dsk} {es : List Be} (h : Dr w base g v D es) :
 Calls Tryz.prog 24 #[.pointer (some ⟨g, 0, none⟩)] w fun e w' => e = .returned (.tuple #[]) ∧ Dr w' base g v (mdN D) es ∧ Mv w w' g v v := by
 obtain ⟨_, c1, c2, _⟩ := h.cells
 have cf := h.free
 have HP := hide h
 have HK : Hid (Dok (mdN D)) := ⟨mdN_ok h.o.ok, h.o.byt, by simp [mdN]⟩
 clear h
 go_enter Tryz.func24, Tryz.ntmps24
 go_wp2
 go_end0
 refine ⟨rfl, HP.out.put ((mv_set w g 1 _ v).trans (mv_set _ g 2 _ v)) (fun j hj => ?_) ?_ rfl HK.out, (mv_set w g 1 _ v).trans (mv_set _ g 2 _ v)⟩
 · rw [Below.heap_setCell _ _ _ j hj, Below.heap_setCell _ _ _ j hj]
 · rw [set_blk (set_blk HP.out.dsk 1 _) 2 _]; rfl
end Go.Proofs.YtipobchbnjgenaaGreat
namespace Go.Proofs.YtipobchbnjgenaaGreat.Slp
def dgS (l : List Nat) (o : O4) : Nat := if o.k = 1 ∨ o.k = 2 then max (l.getD o.a.toNat 0) (l.getD o.b.toNat 0) else if o.k = 3 then l.getD o.a.toNat 0 + l.getD o.b.toNat 0 else 0
def dgL (f : Nat -> Nat) (l : List Nat) : List O4 -> List Nat
 | [] => l
 | o :: os => dgL f (l ++ [f (dgS l o)]) os
def cap9 (d : Nat) : Nat := min d 1025
def cps (p : Pr) : List Nat := dgL cap9 (List.replicate p.inp.toNat 1) p.ops
theorem dgL_len (f : Nat -> Nat) : ∀ (os : List O4) (l : List Nat), (dgL f l os).length = l.length + os.length
 | [], l => rfl
 | o :: os, l => by
  show (dgL f (l ++ [f (dgS l o)]) os).length = _
  rw [dgL_len f os]; simp; omega
theorem dgL_app (f : Nat -> Nat) : ∀ (os os' : List O4) (l : List Nat), dgL f l (os ++ os') = dgL f (dgL f l os) os'
 | [], os', l => rfl
 | o :: os, os', l => by
  show dgL f (l ++ [f (dgS l o)]) (os ++ os') = dgL f (dgL f (l ++ [f (dgS l o)]) os) os'
  exact dgL_app f os os' _
theorem getD_app {α : Type} (l l' : List α) (d : α) {v : Nat} (h : v < l.length) : (l ++ l').getD v d = l.getD v d := by
 rw [List.getD_eq_getElem?_getD, List.getElem?_append_left h, <- List.getD_eq_getElem?_getD]
theorem dgL_next (f : Nat -> Nat) (os : List O4) (l : List Nat) {i : Nat} (h : i < os.length) : dgL f l (os.take (i + 1)) = dgL f l (os.take i) ++ [f (dgS (dgL f l (os.take i)) os[i])] := by
 rw [List.take_succ_eq_append_getElem h, dgL_app]; rfl
def mxl (l : List Nat) : Nat := l.foldl max 0
theorem mxl_snoc (l : List Nat) (x : Nat) : mxl (l ++ [x]) = max (mxl l) x := by unfold mxl; rw [List.foldl_append]; rfl
theorem mxl_le {l : List Nat} {b : Nat} : mxl l <= b ↔ ∀ x ∈ l, x <= b := by
 have key : ∀ (l : List Nat) (a : Nat), l.foldl max a <= b ↔ a <= b ∧ ∀ x ∈ l, x <= b := by
  intro l
  induction l with
  | nil => intro a; simp
  | cons y l ih =>
   intro a
   rw [List.foldl_cons, ih]
   simp only [List.mem_cons, forall_eq_or_imp]
   exact ⟨fun ⟨h1, h2⟩ => ⟨by omega, by omega, h2⟩, fun ⟨h1, h2, h3⟩ => ⟨by omega, h3⟩⟩
 rw [mxl, key]; simp
def cpO (p : Pr) : Nat := mxl (p.outs.map (fun v => (cps p).getD v.toNat 0))
end Go.Proofs.YtipobchbnjgenaaGreat.Slp
namespace Go.Proofs.YtipobchbnjgenaaGreat.Slp
def wtS (inp : Nat) (w : List Bool) (i : Nat) (o : O4) : List Bool := if w.getD (inp + i) false = true ∧ ¬ o.k = 4 then (w.set o.a.toNat true).set o.b.toNat true else w
def wtD (inp : Nat) (ops : List O4) : Nat -> List Bool -> List Bool
 | 0, w => w
 | i + 1, w => wtD inp ops i (wtS inp w i (ops.getD i ⟨0, 0, 0, 0⟩))
def wt0 (p : Pr) : List Bool := p.outs.foldl (fun w v => w.set v.toNat true) (List.replicate (p.inp.toNat + p.ops.length) false)
def wtd (p : Pr) : List Bool := wtD p.inp.toNat p.ops p.ops.length (wt0 p)
theorem may_args {p : Pr} (hm : mayB p = true) : ∀ i (h : i < p.ops.length), ¬ p.ops[i].k = 4 -> (0 <= p.ops[i].a ∧ 0 <= p.ops[i].b) ∧ p.ops[i].a.toNat < p.inp.toNat + i ∧ p.ops[i].b.toNat < p.inp.toNat + i := fun i h hk => by
 obtain ⟨⟨i0, i1, l1, l3⟩, mo, mu⟩ := mayB_iff.1 hm
 have := opsM_get p.inp p.ops 0 i h mo
 rw [Nat.zero_add] at this
 unfold opM at this
 split at this
 · have := of_decide_eq_true this
   omega
 · first | (cases this; done) | (rw [if_neg hk] at this; cases this)
theorem may_out {p : Pr} (hm : mayB p = true) : ∀ v ∈ p.outs, 0 <= v ∧ v.toNat < p.inp.toNat + p.ops.length := fun v hv => by
 obtain ⟨⟨i0, i1, l1, l3⟩, mo, mu⟩ := mayB_iff.1 hm
 have := of_decide_eq_true (List.all_eq_true.1 mu v hv)
 omega
end Go.Proofs.YtipobchbnjgenaaGreat.Slp
namespace Go.Proofs.YtipobchbnjgenaaGreat.Slp
structure Rg (α : Type) where
 z : α
 ad : α -> α -> α
 su : α -> α -> α
 mu : α -> α -> α
 cs : Int -> α
def rnS {α : Type} (R : Rg α) (l : List α) (o : O4) : α := if o.k = 1 then R.ad (l.getD o.a.toNat R.z) (l.getD o.b.toNat R.z) else if o.k = 2 then R.su (l.getD o.a.toNat R.z) (l.getD o.b.toNat R.z) else if o.k = 3 then R.mu (l.getD o.a.toNat R.z) (l.getD o.b.toNat R.z) else R.cs o.c
def rnL {α : Type} (R : Rg α) (l : List α) : List O4 -> List α
 | [] => l
 | o :: os => rnL R (l ++ [rnS R l o]) os
def rns {α : Type} (R : Rg α) (p : Pr) (xs : List α) : List α := rnL R xs p.ops
def rnO {α : Type} (R : Rg α) (p : Pr) (xs : List α) : List α := p.outs.map (fun v => (rns R p xs).getD v.toNat R.z)
theorem rnL_len {α : Type} (R : Rg α) : ∀ (os : List O4) (l : List α), (rnL R l os).length = l.length + os.length
 | [], l => rfl
 | o :: os, l => by
  show (rnL R (l ++ [rnS R l o]) os).length = _
  rw [rnL_len R os]; simp; omega
theorem rnL_app {α : Type} (R : Rg α) : ∀ (os os' : List O4) (l : List α), rnL R l (os ++ os') = rnL R (rnL R l os) os'
 | [], os', l => rfl
 | o :: os, os', l => by
  show rnL R (l ++ [rnS R l o]) (os ++ os') = rnL R (rnL R (l ++ [rnS R l o]) os) os'
  exact rnL_app R os os' _
theorem rnL_next {α : Type} (R : Rg α) (os : List O4) (l : List α) {i : Nat} (h : i < os.length) : rnL R l (os.take (i + 1)) = rnL R l (os.take i) ++ [rnS R (rnL R l (os.take i)) os[i]] := by
 rw [List.take_succ_eq_append_getElem h, rnL_app]; rfl
theorem rn_all {α : Type} (R : Rg α) (P : α -> Prop) (hz : P R.z) (ha : ∀ x y, P x -> P y -> P (R.ad x y)) (hs : ∀ x y, P x -> P y -> P (R.su x y)) (hu : ∀ x y, P x -> P y -> P (R.mu x y)) (hc : ∀ c, P (R.cs c)) : ∀ (os : List O4) (l : List α), (∀ x ∈ l, P x) -> ∀ x ∈ rnL R l os, P x
 | [], l, h => h
 | o :: os, l, h => by
  refine rn_all R P hz ha hs hu hc os _ (fun x hx => ?_)
  rcases List.mem_append.1 hx with h1 | h1
  · exact h x h1
  · rw [List.mem_singleton.1 h1]
    have g : ∀ v, P (l.getD v R.z) := fun v => by
     rw [List.getD_eq_getElem?_getD]
     cases e : l[v]? with
     | none => exact hz
     | some y => exact h y (List.mem_of_getElem? e)
    unfold rnS
    split
    · exact ha _ _ (g _) (g _)
    · split
      · exact hs _ _ (g _) (g _)
      · split
        · exact hu _ _ (g _) (g _)
        · exact hc _
end Go.Proofs.YtipobchbnjgenaaGreat.Slp
namespace Go.Proofs.YtipobchbnjgenaaGreat
open Go.RowKit Fld Slp
theorem below_drewN {B : Nat} {a w : World} (h : Below B a w) (n : Nat) : Below B a (w.drewN n) := h.trans ⟨rfl, rfl, rfl, Nat.le_refl _, fun _ _ => rfl⟩
theorem dOp (o : O4) (own : Int) (w : World) : Calls Tryz.prog 156 #[opv o, .int .i64 own] w fun e w' => e = .returned (.bool (opM o own)) ∧ Below w.heap.size w w' := by
 obtain ⟨k, a, b, c⟩ := o
 unfold opv
 go_enter Tryz.func156, Tryz.ntmps156
 go_wp2
 all_goals
  go_ret
  refine ⟨?_, alloc_below _ _⟩
  simp_all [opM]
  try first | rfl | (intros; omega)
theorem dMay (v : Value) (p : Pr) (w : World) (h : Pm w v p) : Calls Tryz.prog 114 #[v] w fun e w' => e = .returned (.bool (mayB p)) ∧ Below w.heap.size w w' := by
 obtain ⟨vo, vu, rfl, h1, h2⟩ := h.form
 have HK := hide h
 by_cases hc : 0 <= p.inp ∧ p.inp <= 64 ∧ p.ops.length <= 256 ∧ p.outs.length <= 64
 · obtain ⟨c1, c2, c3, c4⟩ := hc
   obtain ⟨ao, co, rfl, ho⟩ := h1.spell
   obtain ⟨au, cu, rfl, hu⟩ := h2.spell
   go_enter Tryz.func114, Tryz.ntmps114
   go_wp2
   have hB0 := alloc_below w (.cells #[.int .i64 p.inp, .slice ao p.ops.length co, .slice au p.outs.length cu] 28)
   have hL0 := (Lm.below h1 hB0)
   have hU0 := (Lm.below h2 hB0)
   have p0 : (w.alloc (.cells #[.int .i64 p.inp, .slice ao p.ops.length co, .slice au p.outs.length cu] 28)).cell? ⟨w.heap.size, 0, none⟩ = some (.int .i64 p.inp) := by simp [go_sem]
   have p1 : (w.alloc (.cells #[.int .i64 p.inp, .slice ao p.ops.length co, .slice au p.outs.length cu] 28)).cell? ⟨w.heap.size, 1, none⟩ = some (.slice ao p.ops.length co) := by simp [go_sem]
   have p2 : (w.alloc (.cells #[.int .i64 p.inp, .slice ao p.ops.length co, .slice au p.outs.length cu] 28)).cell? ⟨w.heap.size, 2, none⟩ = some (.slice au p.outs.length cu) := by simp [go_sem]
   have hs0 : w.heap.size + 1 = (w.alloc (.cells #[.int .i64 p.inp, .slice ao p.ops.length co, .slice au p.outs.length cu] 28)).heap.size := by simp
   generalize (w.alloc (.cells #[.int .i64 p.inp, .slice ao p.ops.length co, .slice au p.outs.length cu] 28)) = w0 at *
   clear h1 h2 h
   go_loopw [3] (fun vi wr => ∃ j : Nat, j <= p.ops.length ∧ vi = .int .i64 j ∧ Below w0.heap.size w0 wr ∧ (∀ i (hi : i < p.ops.length), i < j -> opM p.ops[i] (p.inp + ((0 + i : Nat) : Int)) = true)) (fun vi _ => p.ops.length - (intOf vi).toNat)
   case atStart => exact ⟨0, Nat.zero_le _, rfl, Below.refl _ _, fun i _ hi => by omega⟩
   case round =>
    obtain ⟨j, hj, rfl, hBr, hall⟩ := hrel
    have q0 := (hBr.cell (p := ⟨w.heap.size, 0, none⟩) (by rw [<- hs0]; exact Nat.lt_succ_self _)).trans p0
    have q1 := (hBr.cell (p := ⟨w.heap.size, 1, none⟩) (by rw [<- hs0]; exact Nat.lt_succ_self _)).trans p1
    have q2 := (hBr.cell (p := ⟨w.heap.size, 2, none⟩) (by rw [<- hs0]; exact Nat.lt_succ_self _)).trans p2
    by_cases hlt : j < p.ops.length
    · obtain ⟨b, off, co', hv, _, hbl⟩ := hL0.form (by omega)
      cases hv
      obtain ⟨ca, cb, cc, cd⟩ := hL0.op hBr hlt
      have HS : Hid (∀ W', Below wr.heap.size wr W' -> W'.cell? ⟨w.heap.size, 1, none⟩ = some (.slice (some ⟨b, off, none⟩) p.ops.length co) ∧ W'.cell? ⟨w.heap.size, 0, none⟩ = some (.int .i64 p.inp) ∧ W'.cell? ⟨b, off + j * 4, none⟩ = some (.int .u8 p.ops[j].k) ∧ W'.cell? ⟨b, off + j * 4 + 1, none⟩ = some (.int .i64 p.ops[j].a) ∧ W'.cell? ⟨b, off + j * 4 + 2, none⟩ = some (.int .i64 p.ops[j].b) ∧ W'.cell? ⟨b, off + j * 4 + 3, none⟩ = some (.int .u64 p.ops[j].c)) := fun W' hb => ⟨(hb.cell (cell_in q1)).trans q1, (hb.cell (cell_in q0)).trans q0, (hb.cell (cell_in ca)).trans ca, (hb.cell (cell_in cb)).trans cb, (hb.cell (cell_in cc)).trans cc, (hb.cell (cell_in cd)).trans cd⟩
      have hS0 := HS.out wr.drew (Below.refl _ wr).drew
      have HA := hide hall
      have hwr : w0.heap.size <= wr.heap.size := hBr.size
      have hlt2 : (j : Int) < (p.ops.length : Int) := by omega
      have hge2 : (0 : Int) <= (j : Int) := by omega
      clear hall
      have HW : Hid (IntKind.i64.wrap (p.inp + (j : Int)) = p.inp + (j : Int)) := by show _ = _; rw [IntKind.wrap_i64]; omega
      cases hm : opM p.ops[j] (p.inp + (j : Int)) with
      | true =>
       have HM : Hid (opM p.ops[j] (IntKind.i64.wrap (p.inp + (j : Int))) = true) := by show _ = _; rw [HW.out]; exact hm
       clear hm
       go_wp2
       go_region_held3 (fun W' => W'.cell? ⟨w.heap.size, 1, none⟩ = some (.slice (some ⟨b, off, none⟩) p.ops.length co) ∧ W'.cell? ⟨w.heap.size, 0, none⟩ = some (.int .i64 p.inp) ∧ W'.cell? ⟨b, off + j * 4, none⟩ = some (.int .u8 p.ops[j].k) ∧ W'.cell? ⟨b, off + j * 4 + 1, none⟩ = some (.int .i64 p.ops[j].a) ∧ W'.cell? ⟨b, off + j * 4 + 2, none⟩ = some (.int .i64 p.ops[j].b) ∧ W'.cell? ⟨b, off + j * 4 + 3, none⟩ = some (.int .u64 p.ops[j].c)) (first | with_reducible exact hS1 | with_reducible exact hS0) (first
        | (go_at_call 156; refine (dOp p.ops[j] _ _).mono ?_; rintro e w1 ⟨rfl, hb1⟩; rw [HM.out]; have hS1 := HS.out w1 ((Below.refl _ wr).drew.trans hb1)))
       go_wp2
       go_roundw
       case rel =>
        refine ⟨j + 1, by omega, by go_num, hBr.trans ((((Below.refl _ wr).drew).trans hb1).mono hwr), fun i hi hlt' => ?_⟩
        rcases Nat.lt_or_ge i j with h | h
        · exact HA.out i hi h
        · obtain rfl : i = j := by omega
          rw [Nat.zero_add, <- HW.out]; exact HM.out
       case measure => simp [intOf]; omega
      | false =>
       have HM : Hid (opM p.ops[j] (IntKind.i64.wrap (p.inp + (j : Int))) = false) := by show _ = _; rw [HW.out]; exact hm
       clear hm
       go_wp2
       go_region_held3 (fun W' => W'.cell? ⟨w.heap.size, 1, none⟩ = some (.slice (some ⟨b, off, none⟩) p.ops.length co) ∧ W'.cell? ⟨w.heap.size, 0, none⟩ = some (.int .i64 p.inp) ∧ W'.cell? ⟨b, off + j * 4, none⟩ = some (.int .u8 p.ops[j].k) ∧ W'.cell? ⟨b, off + j * 4 + 1, none⟩ = some (.int .i64 p.ops[j].a) ∧ W'.cell? ⟨b, off + j * 4 + 2, none⟩ = some (.int .i64 p.ops[j].b) ∧ W'.cell? ⟨b, off + j * 4 + 3, none⟩ = some (.int .u64 p.ops[j].c)) (first | with_reducible exact hS1 | with_reducible exact hS0) (first
        | (go_at_call 156; refine (dOp p.ops[j] _ _).mono ?_; rintro e w1 ⟨rfl, hb1⟩; rw [HM.out]; have hS1 := HS.out w1 ((Below.refl _ wr).drew.trans hb1)))
       go_wp2
       go_ret
       refine ⟨?_, hB0.trans ((hBr.trans ((((Below.refl _ wr).drew).trans hb1).mono hwr)).mono (by omega))⟩
       rw [mayB_ops (opsM_no p.ops 0 j hlt (by rw [Nat.zero_add, <- HW.out]; exact HM.out))]; rfl
    · obtain rfl : j = p.ops.length := by omega
      have HA : Hid (opsM p.inp 0 p.ops = true) := opsM_all p.ops 0 (fun i hi => hall i hi hi)
      clear hall hlt
      go_wp2
      go_loopw [4] (fun vi w2 => ∃ j : Nat, j <= p.outs.length ∧ vi = .int .i64 j ∧ Below w0.heap.size w0 w2 ∧ (∀ i (hi : i < p.outs.length), i < j -> 0 <= p.outs[i] ∧ p.outs[i] < p.inp + p.ops.length)) (fun vi _ => p.outs.length - (intOf vi).toNat)
      case atStart => exact ⟨0, Nat.zero_le _, rfl, hBr, fun i _ hi => by omega⟩
      case round =>
       clear q0 q1 q2 hBr
       obtain ⟨j, hj, rfl, hBr, hall⟩ := hrel
       have q0 := (hBr.cell (p := ⟨w.heap.size, 0, none⟩) (by rw [<- hs0]; exact Nat.lt_succ_self _)).trans p0
       have q1 := (hBr.cell (p := ⟨w.heap.size, 1, none⟩) (by rw [<- hs0]; exact Nat.lt_succ_self _)).trans p1
       have q2 := (hBr.cell (p := ⟨w.heap.size, 2, none⟩) (by rw [<- hs0]; exact Nat.lt_succ_self _)).trans p2
       by_cases hlt : j < p.outs.length
       · obtain ⟨b, off, cu', hv, _, hbl⟩ := hU0.form (by omega)
         cases hv
         have ca := hU0.int hBr hlt
         have HB := hide hall
         clear hall
         have hlt2 : (j : Int) < (p.outs.length : Int) := by omega
         have hge2 : (0 : Int) <= (j : Int) := by omega
         by_cases h1 : p.outs[j] < 0
         · have hd1 : decide (p.outs[j] < 0) = true := decide_eq_true h1
           go_wp2_with fail
           go_quiet (fail)
           go_wp2
           go_ret
           refine ⟨?_, hB0.trans ((hBr.trans (below_drewN (Below.refl _ _) _)).mono (by omega))⟩
           rw [mayB_outs (outM_no hlt (fun hc => by omega))]; rfl
         · have hd1 : decide (p.outs[j] < 0) = false := decide_eq_false h1
           have hw : IntKind.i64.wrap (p.inp + (p.ops.length : Int)) = p.inp + (p.ops.length : Int) := by rw [IntKind.wrap_i64]; omega
           by_cases h2 : p.inp + (p.ops.length : Int) <= p.outs[j]
           · go_wp2_with fail
             go_quiet (fail)
             go_wp2
             go_ret
             refine ⟨?_, hB0.trans ((hBr.trans (below_drewN (Below.refl _ _) _)).mono (by omega))⟩
             rw [mayB_outs (outM_no hlt (fun hc => by omega))]; rfl
           · go_wp2_with fail
             go_quiet (fail)
             go_wp2
             go_roundw
             case rel =>
              refine ⟨j + 1, by omega, by go_num, hBr.trans (below_drewN (Below.refl _ _) _), fun i hi hlt' => ?_⟩
              rcases Nat.lt_or_ge i j with h | h
              · exact HB.out i hi h
              · obtain rfl : i = j := by omega
                omega
             case measure => simp [intOf]; omega
       · obtain rfl : j = p.outs.length := by omega
         go_wp2
         go_ret
         refine ⟨?_, hB0.trans (hBr.mono (by omega))⟩
         rw [mayB_iff.2 ⟨⟨c1, c2, c3, c4⟩, HA.out, outM_all (fun i hi => hall i hi hi)⟩]; rfl
 · rw [mayB_no hc]
   obtain ⟨ao, co, rfl, ho⟩ := h1.spell
   obtain ⟨au, cu, rfl, hu⟩ := h2.spell
   clear h1 h2 HK h
   obtain ⟨inp, ops, outs⟩ := p
   dsimp only at *
   generalize ops.length = no at *
   generalize outs.length = nu at *
   by_cases c1 : inp < 0
   · go_enter Tryz.func114, Tryz.ntmps114
     go_wp2
     go_ret
     exact ⟨rfl, alloc_below _ _⟩
   by_cases c2 : 64 < inp
   · go_enter Tryz.func114, Tryz.ntmps114
     go_wp2
     go_ret
     exact ⟨rfl, alloc_below _ _⟩
   by_cases c3 : 256 < (no : Int)
   · go_enter Tryz.func114, Tryz.ntmps114
     go_wp2
     go_ret
     exact ⟨rfl, alloc_below _ _⟩
   have c4 : 64 < (nu : Int) := by omega
   clear hc
   go_enter Tryz.func114, Tryz.ntmps114
   go_wp2
   go_ret
   exact ⟨rfl, alloc_below _ _⟩
theorem dInts (v1 v2 : Value) (xs ys : List Int) (w : World) (h1 : Lm iw 1 w v1 xs) (h2 : Lm iw 1 w v2 ys) : Calls Tryz.prog 17 #[v1, v2] w fun e w' => ∃ r : Bool, e = .returned (.bool r) ∧ (r = true ↔ xs = ys) ∧ Below w.heap.size w w' := by
 obtain ⟨a1, c1, rfl, hc1⟩ := h1.spell
 obtain ⟨a2, c2, rfl, hc2⟩ := h2.spell
 have b1 := h1.len
 have b2 := h2.len
 by_cases hl : xs.length = ys.length
 · have HL := hide hl
   obtain ⟨n, HN⟩ : ∃ n, Hid (ys.length = n) := ⟨_, rfl⟩
   rw [HN.out] at hl h2 b2 hc2 ⊢
   rw [hl] at h1 b1 hc1 ⊢
   clear hl
   go_enter Tryz.func17, Tryz.ntmps17
   go_wp2
   go_loopw [5] (fun vi wr => ∃ j : Nat, j <= n ∧ vi = .int .i64 j ∧ Below w.heap.size w wr ∧ (∀ i, i < j -> xs[i]? = ys[i]?)) (fun vi _ => n - (intOf vi).toNat)
   case atStart => exact ⟨0, Nat.zero_le _, rfl, Below.refl _ _, fun i hi => by omega⟩
   case round =>
    obtain ⟨j, hj, rfl, hBr, hall⟩ := hrel
    by_cases hlt : j < n
    · have l1 : j < xs.length := by rw [HL.out, HN.out]; exact hlt
      have l2 : j < ys.length := by rw [HN.out]; exact hlt
      obtain ⟨x1, o1, c1', hv1, _, _⟩ := h1.form (by omega)
      obtain ⟨x2, o2, c2', hv2, _, _⟩ := h2.form (by omega)
      injection hv1 with e1 e1b e1c
      subst e1
      clear e1b e1c
      injection hv2 with e2 e2b e2c
      subst e2
      clear e2b e2c
      have ca := h1.int hBr l1
      have cb := h2.int hBr l2
      have HA := hide hall
      have HX : Hid (xs[j]? = ys[j]? ↔ xs[j] = ys[j]) := by show _ ↔ _; rw [List.getElem?_eq_getElem l1, List.getElem?_eq_getElem l2]; simp
      have hlt2 : (j : Int) < (n : Int) := by omega
      have hge2 : (0 : Int) <= (j : Int) := by omega
      clear hall
      by_cases hm : xs[j] = ys[j]
      · have HM := hide hm
        have hd : (xs[j] != ys[j]) = false := by rw [hm]; simp
        clear hm
        generalize xs[j] = x at *
        generalize ys[j] = y at *
        go_wp2
        go_quiet (fail)
        go_wp2
        go_roundw
        case rel =>
         refine ⟨j + 1, by omega, by go_num, below_drewN hBr _, fun i hi => ?_⟩
         rcases Nat.lt_or_ge i j with h | h
         · exact HA.out i h
         · obtain rfl : i = j := by omega
           exact HX.out.2 HM.out
        case measure => simp [intOf]; omega
      · have HM := hide hm
        have hd : (xs[j] != ys[j]) = true := bne_iff_ne.2 hm
        clear hm
        generalize xs[j] = x at *
        generalize ys[j] = y at *
        go_wp2
        go_quiet (fail)
        go_wp2
        go_ret
        refine ⟨false, rfl, ⟨fun h => (by cases h), fun h => absurd (HX.out.1 (by rw [h])) HM.out⟩, below_drewN hBr _⟩
    · obtain rfl : j = n := by omega
      go_wp2
      go_ret
      refine ⟨true, rfl, ⟨fun _ => ?_, fun _ => rfl⟩, hBr⟩
      apply List.ext_getElem?
      intro i
      rcases Nat.lt_or_ge i j with h | h
      · exact hall i h
      · rw [List.getElem?_eq_none (by rw [HL.out, HN.out]; exact h), List.getElem?_eq_none (by rw [HN.out]; exact h)]
 · have HL := hide hl
   have hd : (((xs.length : Nat) : Int) != ((ys.length : Nat) : Int)) = true := bne_iff_ne.2 (by omega)
   clear h1 h2
   clear hl
   go_enter Tryz.func17, Tryz.ntmps17
   go_wp2
   go_ret
   exact ⟨false, rfl, ⟨fun h => (by cases h), fun h => absurd (congrArg List.length h) (by first | exact HL.out | (intro hc; exact HL.out hc))⟩, Below.refl _ _⟩
end Go.Proofs.YtipobchbnjgenaaGreat
