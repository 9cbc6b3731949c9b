import Derived.Test.YthialdipnhggnaaBunP
import Derived.Test.YthialdipnhggnaaBBas
import Derived.Shelf.Spec.BitsCarry
import Derived.Shelf.Bits.Mul64
import Derived.Deep.RegionHeld3
import Derived.Deep.AppendLies
import Derived.BigQuiet
import Derived.Laws.AppendOwnNone
set_option linter.unusedVariables false
set_option linter.unusedSimpArgs false
set_option maxRecDepth 100000
set_option maxHeartbeats 4000000
namespace Go.Proofs.Ythialdipnhggnaa
open Go.RowKit Fld
end Go.Proofs.Ythialdipnhggnaa
namespace Go.Proofs.Ythialdipnhggnaa.Fld
end Go.Proofs.Ythialdipnhggnaa.Fld
namespace Go.Proofs.Ythialdipnhggnaa
open Go.RowKit Fld
def vals (xs : List Int) : List Value := xs.map (Value.int .u64)
theorem own_base {w : World} {base e size n : Nat} {v : Value} {xs : List Value} (h : w.ownsRow base e size v n xs) : ∀ k, v.ownBlock = some k -> base <= k := by
 intro k hk
 rcases h.2 with ⟨rfl, _⟩ | ⟨g, cap, cur, rfl, hb, _⟩
 · cases hk
 · cases hk; exact hb
theorem own_below {w w' : World} {base e size n : Nat} {v : Value} {xs : List Value} (h : w.ownsRow base e size v n xs) (hb : Below w.heap.size w w') : w'.ownsRow base e size v n xs := by
 refine ⟨h.1, ?_⟩
 rcases h.2 with h1 | ⟨g, cap, cur, h1, h2, h3, h4⟩
 · exact .inl h1
 · refine .inr ⟨g, cap, cur, h1, h2, ?_, h4⟩
   have hlt : g < w.heap.size := by
    apply Nat.lt_of_not_le; intro hc; rw [Array.getElem?_eq_none hc] at h3; cases h3
   rw [hb.block g hlt]; exact h3
theorem below_grown_none {W w1 : World} (h : W.grownBy w1 none) : Below W.heap.size W w1 := (Below.refl _ W).grown h (Nat.le_refl _) (fun k hk => by cases hk)
theorem own_empty (w : World) (T : TypeId) : (w.alloc (.cells #[] T)).ownsRow w.heap.size T 1 (.slice (some ⟨w.heap.size, 0, none⟩) 0 0) 0 (vals []) :=
 ⟨by simp [vals], .inr ⟨_, 0, #[], rfl, Nat.le_refl _, heap_alloc_new w _, Nat.le_refl _, by unfold maxLen; omega, by simp, by simp [vals]⟩⟩
theorem own_mono {w : World} {base base' e size n : Nat} {v : Value} {xs : List Value} (h : w.ownsRow base e size v n xs) (hb : base' <= base) : w.ownsRow base' e size v n xs := by
 refine ⟨h.1, ?_⟩
 rcases h.2 with h1 | ⟨g, cap, cur, h1, h2, h3⟩
 · exact .inl h1
 · exact .inr ⟨g, cap, cur, h1, by omega, h3⟩
theorem own_form {w : World} {b n : Nat} {T : TypeId} {v : Value} {xs : List Value} (h : w.ownsRow b T 1 v n xs) : ∃ a c, v = .slice a n c := by
 rcases h.2 with ⟨rfl, h0⟩ | ⟨g, cap, cur, rfl, _⟩
 · exact ⟨_, _, by rw [h0]⟩
 · exact ⟨_, _, rfl⟩
theorem own_kept {w w' : World} {b s n : Nat} {T : TypeId} {v : Value} {xs : List Value} {r : Option Nat} (h : w.ownsRow b T s v n xs) (hg : w.grownBy w' r) (hne : ∀ g, v.ownBlock = some g -> r ≠ some g) : w'.ownsRow b T s v n xs := h.kept hg (by
 cases hb : Value.ownBlock _ with
 | none => exact .inl rfl
 | some g => exact .inr (fun hc => hne g hb hc.symm))
structure Kq (S : Nat -> Prop) (w w' : World) : Prop where
 os : w'.os = w.os
 tape : w'.tape = w.tape
 output : w'.output = w.output
 size : w.heap.size <= w'.heap.size
 block : ∀ j, S j -> w'.heap[j]? = w.heap[j]?
theorem Kq.refl (S : Nat -> Prop) (w : World) : Kq S w w := ⟨rfl, rfl, rfl, Nat.le_refl _, fun _ _ => rfl⟩
theorem Kq.trans {S : Nat -> Prop} {a b c : World} (h : Kq S a b) (k : Kq S b c) : Kq S a c := ⟨k.os.trans h.os, k.tape.trans h.tape, k.output.trans h.output, Nat.le_trans h.size k.size, fun j hj => (k.block j hj).trans (h.block j hj)⟩
theorem Kq.mono {S S' : Nat -> Prop} {a b : World} (h : Kq S a b) (hs : ∀ j, S' j -> S j) : Kq S' a b := ⟨h.os, h.tape, h.output, h.size, fun j hj => h.block j (hs j hj)⟩
theorem Below.kq {S : Nat -> Prop} {B : Nat} {a b : World} (h : Below B a b) (hs : ∀ j, S j -> j < B) : Kq S a b := ⟨h.os, h.tape, h.output, h.size, fun j hj => h.block j (hs j hj)⟩
theorem grown_kq {S : Nat -> Prop} {a b : World} {r : Option Nat} (h : a.grownBy b r) (hs : ∀ j, S j -> j < a.heap.size) (hr : ∀ k, r = some k -> ¬ S k) : Kq S a b :=
 ⟨h.os, h.tape, h.output, h.size, fun j hj => h.block j (hs j hj) (fun e => hr j e.symm hj)⟩
theorem Kq.below {S : Nat -> Prop} {B : Nat} {a b : World} (h : Kq S a b) (hs : ∀ j, j < B -> S j) : Below B a b := ⟨h.os, h.tape, h.output, h.size, fun j hj => h.block j (hs j hj)⟩
theorem Kq.own {S : Nat -> Prop} {w w' : World} {b s n : Nat} {T : TypeId} {v : Value} {xs : List Value} (h : Kq S w w') (hO : w.ownsRow b T s v n xs) (hs : ∀ g, v.ownBlock = some g -> S g) : w'.ownsRow b T s v n xs := by
 refine ⟨hO.1, ?_⟩
 rcases hO.2 with h1 | ⟨g, cap, cur, h1, h2, h3, h4⟩
 · exact .inl h1
 · refine .inr ⟨g, cap, cur, h1, h2, ?_, h4⟩
   rw [h.block g (hs g (by rw [h1]; rfl))]; exact h3
theorem Kq.cell {S : Nat -> Prop} {w w' : World} {a : Addr} (h : Kq S w w') (hs : S a.block) : w'.cell? a = w.cell? a := World.cell?_of_block (h.block a.block hs)
theorem cell_in {W : World} {a : Addr} {v : Value} (h : W.cell? a = some v) : a.block < W.heap.size := World.block_lt_of_cell? W _ h
def valb (bs : List Int) : List Value := bs.map (Value.int .u8)
theorem valb_length (bs : List Int) : (valb bs).length = bs.length := by simp [valb]
theorem valb_snoc (bs : List Int) (b : Int) : valb bs ++ [.int .u8 b] = valb (bs ++ [b]) := by simp [valb]
theorem valb_app (cs bs : List Int) : valb cs ++ valb bs = valb (cs ++ bs) := by simp [valb]
theorem valb_at (bs : List Int) (j : Nat) (h : j < bs.length) : (valb bs)[j]? = some (.int .u8 (bs.getD j 0)) := by
 simp [valb, List.getD_eq_getElem?_getD, h]
theorem valb_one (bs : List Int) : ∀ u ∈ valb bs, u.oneCell' = true := by
 intro u hu
 obtain ⟨x, _, rfl⟩ := List.mem_map.1 hu
 rfl
def Rb (w : World) (v : Value) (bs : List Int) : Prop :=
 ∃ ao cap, v = .slice ao bs.length cap ∧ (bs.length <= cap ∧ bs.length <= 187649984500000 ∧ (ao = none -> cap = 0)) ∧ By bs ∧
  (bs ≠ [] -> ∃ b off, ao = some ⟨b, off, none⟩ ∧ b < w.heap.size ∧ ∀ i, i < bs.length -> w.cell? ⟨b, off + i, none⟩ = some (.int .u8 (bs.getD i 0)))
theorem Rb.below {w w' : World} {v : Value} {bs : List Int} (h : Rb w v bs) (hb : Below w.heap.size w w') : Rb w' v bs := by
 obtain ⟨ao, cap, rfl, h1, h2, h3⟩ := h
 refine ⟨ao, cap, rfl, h1, h2, fun hne => ?_⟩
 obtain ⟨b, off, rfl, hbl, hc⟩ := h3 hne
 exact ⟨b, off, rfl, Nat.lt_of_lt_of_le hbl hb.size, fun i hi => (hb.cell (p := ⟨b, off + i, none⟩) hbl).trans (hc i hi)⟩
theorem Rb.spell {w : World} {v : Value} {bs : List Int} (h : Rb w v bs) : ∃ ao cap, v = .slice ao bs.length cap ∧ bs.length <= cap := by
 obtain ⟨ao, cap, h1, h2, _⟩ := h; exact ⟨ao, cap, h1, h2.1⟩
theorem Rb.len {w : World} {v : Value} {bs : List Int} (h : Rb w v bs) : bs.length <= 187649984500000 := by obtain ⟨_, _, _, h, _⟩ := h; exact h.2.1
theorem Rb.by {w : World} {v : Value} {bs : List Int} (h : Rb w v bs) : By bs := by obtain ⟨_, _, _, _, h, _⟩ := h; exact h
theorem Rb.none_ {w : World} {n cap : Nat} {bs : List Int} (h : Rb w (.slice none n cap) bs) : n = 0 ∧ cap = 0 ∧ bs = [] := by
 obtain ⟨ao, cap', h1, h2, h3, h4⟩ := h
 cases h1
 have : bs = [] := by
  apply Classical.byContradiction; intro hne
  obtain ⟨b, off, h5, _⟩ := h4 hne; cases h5
 exact ⟨by rw [this]; rfl, h2.2.2 rfl, this⟩
theorem rb_nil (w : World) : Rb w (.slice none 0 0) [] := ⟨none, 0, rfl, ⟨Nat.le_refl _, by simp, fun _ => rfl⟩, By.nil, fun h => absurd rfl h⟩
theorem Rb.at_ {w : World} {b off n cap : Nat} {bs : List Int} (h : Rb w (.slice (some ⟨b, off, none⟩) n cap) bs) {k : Nat} (hk : k < bs.length) : b < w.heap.size ∧ w.cell? ⟨b, off + k, none⟩ = some (.int .u8 (bs.getD k 0)) ∧ 0 <= bs.getD k 0 ∧ bs.getD k 0 <= 255 := by
 obtain ⟨ao, cap', h1, h2, h3, h4⟩ := h
 cases h1
 obtain ⟨b', off', h5, hb, hc⟩ := h4 (by intro h; rw [h] at hk; simp at hk)
 cases h5
 refine ⟨hb, hc k hk, ?_⟩
 have : bs.getD k 0 = bs[k] := by rw [List.getD_eq_getElem?_getD, List.getElem?_eq_getElem hk]; rfl
 rw [this]; exact h3 _ (List.getElem_mem hk)
theorem Rb.form {w : World} {v : Value} {bs : List Int} (h : Rb w v bs) (h0 : 0 < bs.length) : ∃ b off cap, v = .slice (some ⟨b, off, none⟩) bs.length cap ∧ bs.length <= cap ∧ b < w.heap.size := by
 obtain ⟨ao, cap, rfl, h1, h2, h3⟩ := h
 obtain ⟨b, off, rfl, hb, _⟩ := h3 (by intro h; rw [h] at h0; simp at h0)
 exact ⟨b, off, cap, rfl, h1.1, hb⟩
theorem getD_drop (bs : List Int) (o i : Nat) : (bs.drop o).getD i 0 = bs.getD (o + i) 0 := by
 rw [List.getD_eq_getElem?_getD, List.getD_eq_getElem?_getD, List.getElem?_drop]
theorem getD_take {bs : List Int} {n i : Nat} (h : i < n) : (bs.take n).getD i 0 = bs.getD i 0 := by
 rw [List.getD_eq_getElem?_getD, List.getD_eq_getElem?_getD, List.getElem?_take_of_lt h]
theorem Rb.cut {w : World} {b off m cap : Nat} {bs : List Int} (h : Rb w (.slice (some ⟨b, off, none⟩) m cap) bs) {o n c : Nat} (hn : o + n <= bs.length) (hc : n <= c) : Rb w (.slice (some ⟨b, off + o, none⟩) n c) ((bs.drop o).take n) := by
 obtain ⟨ao, cap', h1, h2, h3, h4⟩ := h
 cases h1
 have hl : ((bs.drop o).take n).length = n := by rw [List.length_take, List.length_drop]; omega
 refine ⟨_, c, by rw [hl], ⟨by omega, by have := h2.2.1; omega, fun h => by cases h⟩, (h3.drop o).take n, fun hne => ?_⟩
 have hn0 : 0 < n := by apply Nat.pos_of_ne_zero; intro h0; subst h0; simp at hne
 obtain ⟨b', off', h5, hb, hcell⟩ := h4 (by intro h; rw [h] at hn; simp at hn; omega)
 cases h5
 refine ⟨b, off + o, rfl, hb, fun i hi => ?_⟩
 rw [hl] at hi
 rw [getD_take hi, getD_drop, Nat.add_assoc]; exact hcell (o + i) (by omega)
theorem rb_empty (w : World) (a : Addr) (c : Nat) : Rb w (.slice (some a) 0 c) [] := ⟨some a, c, rfl, ⟨Nat.zero_le _, by simp, fun h => by cases h⟩, By.nil, fun h => absurd rfl h⟩
theorem rb_of_ownG {w : World} {base n : Nat} {v : Value} {bs : List Int} {T : TypeId} (h : w.ownsRow base T 1 v n (valb bs)) (hb : By bs) (hl : bs.length <= 187649984500000) : Rb w v bs := by
 have hn : bs.length = n := by have := h.1; rw [valb_length] at this; omega
 subst hn
 rcases h.2 with ⟨rfl, h0⟩ | ⟨g, cap, cur, rfl, hbs, hh, h1, h2, h3, h4⟩
 · exact ⟨none, 0, by rw [h0], ⟨by omega, hl, fun _ => rfl⟩, hb, fun hne => absurd (List.length_eq_zero_iff.1 h0) hne⟩
 · refine ⟨_, cap, rfl, ⟨h1, hl, fun h => by cases h⟩, hb, fun hne => ⟨g, 0, rfl, ?_, fun i hi => ?_⟩⟩
   · apply Nat.lt_of_not_le; intro hc; rw [Array.getElem?_eq_none hc] at hh; cases hh
   · rw [cell_of_row w g (0 + i) cur T (0, 0) hh, Nat.zero_add]
     have e1 : cur[i]? = cur.toList[i]? := by simp
     have e2 : cur.toList[i]? = (valb bs)[i]? := by rw [<- h4, List.getElem?_take_of_lt (by omega)]
     rw [e1, e2, valb_at bs i hi]
theorem rb_of_own {w : World} {base n : Nat} {v : Value} {bs : List Int} {T : TypeId} (h : w.ownsRow base T 1 v n (valb bs)) (hb : By bs) (hl : bs.length <= 140737488500000) : Rb w v bs := rb_of_ownG h hb (by omega)
theorem Rb.news {w : World} {ad : Addr} {n cap : Nat} {bs : List Int} (h : Rb w (.slice (some ad) n cap) bs) : ∀ j u, (valb bs)[j]? = some u -> w.cell? (ad.add j) = some u := by
 intro j u hj
 have hjl : j < bs.length := by
  apply Nat.lt_of_not_le; intro hcn; rw [List.getElem?_eq_none (by rw [valb_length]; exact hcn)] at hj; cases hj
 obtain ⟨ao, cap', h1, h2, h3, h4⟩ := h
 cases h1
 obtain ⟨b, off, h5, hb, hc⟩ := h4 (by intro h; rw [h] at hjl; simp at hjl)
 cases h5
 have hadd : (⟨b, off, none⟩ : Addr).add j = ⟨b, off + j, none⟩ := by unfold Addr.add; split <;> simp_all
 rw [valb_at bs j hjl] at hj
 rw [hadd, hc j hjl]; exact hj
end Go.Proofs.Ythialdipnhggnaa
namespace Go.Proofs.Ythialdipnhggnaa
open Go.RowKit
def Lm {α : Type} (f : α -> List Value) (sz : Nat) (w : World) (v : Value) (xs : List α) : Prop :=
 ∃ ao cap, v = .slice ao xs.length cap ∧ (xs.length <= cap ∧ xs.length <= 140737488500000 ∧ (ao = none -> cap = 0)) ∧
  (xs ≠ [] -> ∃ b off, ao = some ⟨b, off, none⟩ ∧ b < w.heap.size ∧ ∀ i x, xs[i]? = some x -> ∀ j u, (f x)[j]? = some u -> w.cell? ⟨b, off + (i * sz + j), none⟩ = some u)
theorem Lm.spell {α : Type} {f : α -> List Value} {sz : Nat} {w : World} {v : Value} {xs : List α} (h : Lm f sz w v xs) : ∃ ao cap, v = .slice ao xs.length cap ∧ xs.length <= cap := by
 obtain ⟨ao, cap, h1, h2, _⟩ := h; exact ⟨ao, cap, h1, h2.1⟩
theorem Lm.form {α : Type} {f : α -> List Value} {sz : Nat} {w : World} {v : Value} {xs : List α} (h : Lm f sz w v xs) (h0 : 0 < xs.length) : ∃ b off cap, v = .slice (some ⟨b, off, none⟩) xs.length cap ∧ xs.length <= cap ∧ b < w.heap.size := by
 obtain ⟨ao, cap, rfl, h1, h3⟩ := h
 obtain ⟨b, off, rfl, hb, _⟩ := h3 (by intro h; rw [h] at h0; simp at h0)
 exact ⟨b, off, cap, rfl, h1.1, hb⟩
theorem Lm.at_ {α : Type} {f : α -> List Value} {sz : Nat} {w : World} {b off n cap : Nat} {xs : List α} (h : Lm f sz w (.slice (some ⟨b, off, none⟩) n cap) xs) {i j : Nat} {x : α} {u : Value} (hx : xs[i]? = some x) (hu : (f x)[j]? = some u) : b < w.heap.size ∧ w.cell? ⟨b, off + (i * sz + j), none⟩ = some u := by
 obtain ⟨ao, cap', h1, h2, h4⟩ := h
 cases h1
 obtain ⟨b', off', h5, hb, hc⟩ := h4 (by intro h; rw [h] at hx; simp at hx)
 cases h5
 exact ⟨hb, hc i x hx j u hu⟩
theorem lm_nil {α : Type} (f : α -> List Value) (sz : Nat) (w : World) : Lm f sz w (.slice none 0 0) [] := ⟨none, 0, rfl, ⟨Nat.le_refl _, by simp, fun _ => rfl⟩, fun h => absurd rfl h⟩
theorem flat_get {α : Type} (f : α -> List Value) (sz : Nat) (hf : ∀ x, (f x).length = sz) : ∀ (xs : List α) (i : Nat) (x : α) (j : Nat), xs[i]? = some x -> j < sz -> (xs.flatMap f)[i * sz + j]? = (f x)[j]?
 | [], i, x, j, hx, _ => by simp at hx
 | y :: xs, 0, x, j, hx, hj => by
  have : y = x := by simpa using hx
  subst this
  rw [List.flatMap_cons, Nat.zero_mul, Nat.zero_add, List.getElem?_append_left (by rw [hf]; exact hj)]
 | y :: xs, i + 1, x, j, hx, hj => by
  have h2 : xs[i]? = some x := by simpa using hx
  rw [List.flatMap_cons, List.getElem?_append_right (by rw [hf, Nat.add_mul]; omega), hf, <- flat_get f sz hf xs i x j h2 hj]
  congr 1
  rw [Nat.add_mul]; omega
theorem flat_len {α : Type} (f : α -> List Value) (sz : Nat) (hf : ∀ x, (f x).length = sz) (xs : List α) : (xs.flatMap f).length = xs.length * sz := by
 induction xs with
 | nil => simp
 | cons x xs ih => rw [List.flatMap_cons, List.length_append, hf, ih, List.length_cons, Nat.add_mul]; omega
end Go.Proofs.Ythialdipnhggnaa
