import Derived.Test.YtipobchbnjgenaaGreatBunW
import Derived.Laws.CopyOwn
set_option linter.unusedVariables false
set_option linter.unusedSimpArgs false
set_option maxRecDepth 100000
set_option maxHeartbeats 4000000
namespace Go.Proofs.YtipobchbnjgenaaGreat
open Go.RowKit Fld
theorem own_mono {w : World} {base base' e size n : Nat} {v : Value} {xs : List Value} (h : w.ownsRow base e size v n xs) (hb : base' <= base) : w.ownsRow base' e size v n xs := by
 refine ⟨h.1, ?_⟩
 rcases h.2 with h1 | ⟨g, cap, cur, h1, h2, h3⟩
 · exact .inl h1
 · exact .inr ⟨g, cap, cur, h1, by omega, h3⟩
theorem own_top {w : World} {b s n : Nat} {T : TypeId} {v : Value} {xs : List Value} (h : w.ownsRow b T s v n xs) (g : Nat) (hg : v.ownBlock = some g) : g < w.heap.size := by
 rcases h.2 with ⟨rfl, _⟩ | ⟨g1, c1, u1, rfl, _, k1, _⟩
 · simp [Value.ownBlock] at hg
 · simp [Value.ownBlock] at hg
   subst hg
   rcases Nat.lt_or_ge g1 w.heap.size with h | h
   · exact h
   · rw [Array.getElem?_eq_none h] at k1; cases k1
theorem own_form {w : World} {b n : Nat} {T : TypeId} {v : Value} {xs : List Value} (h : w.ownsRow b T 1 v n xs) : ∃ a c, v = .slice a n c := by
 rcases h.2 with ⟨rfl, h0⟩ | ⟨g, cap, cur, rfl, _⟩
 · exact ⟨_, _, by rw [h0]⟩
 · exact ⟨_, _, rfl⟩
theorem own_kept {w w' : World} {b s n : Nat} {T : TypeId} {v : Value} {xs : List Value} {r : Option Nat} (h : w.ownsRow b T s v n xs) (hg : w.grownBy w' r) (hne : ∀ g, v.ownBlock = some g -> r ≠ some g) : w'.ownsRow b T s v n xs := h.kept hg (by
 cases hb : Value.ownBlock _ with
 | none => exact .inl rfl
 | some g => exact .inr (fun hc => hne g hb hc.symm))
structure Kq (S : Nat -> Prop) (w w' : World) : Prop where
 os : w'.os = w.os
 tape : w'.tape = w.tape
 output : w'.output = w.output
 size : w.heap.size <= w'.heap.size
 block : ∀ j, S j -> w'.heap[j]? = w.heap[j]?
theorem Kq.refl (S : Nat -> Prop) (w : World) : Kq S w w := ⟨rfl, rfl, rfl, Nat.le_refl _, fun _ _ => rfl⟩
theorem Kq.trans {S : Nat -> Prop} {a b c : World} (h : Kq S a b) (k : Kq S b c) : Kq S a c := ⟨k.os.trans h.os, k.tape.trans h.tape, k.output.trans h.output, Nat.le_trans h.size k.size, fun j hj => (k.block j hj).trans (h.block j hj)⟩
theorem Kq.mono {S S' : Nat -> Prop} {a b : World} (h : Kq S a b) (hs : ∀ j, S' j -> S j) : Kq S' a b := ⟨h.os, h.tape, h.output, h.size, fun j hj => h.block j (hs j hj)⟩
theorem Below.kq {S : Nat -> Prop} {B : Nat} {a b : World} (h : Below B a b) (hs : ∀ j, S j -> j < B) : Kq S a b := ⟨h.os, h.tape, h.output, h.size, fun j hj => h.block j (hs j hj)⟩
theorem grown_kq {S : Nat -> Prop} {a b : World} {r : Option Nat} (h : a.grownBy b r) (hs : ∀ j, S j -> j < a.heap.size) (hr : ∀ k, r = some k -> ¬ S k) : Kq S a b :=
 ⟨h.os, h.tape, h.output, h.size, fun j hj => h.block j (hs j hj) (fun e => hr j e.symm hj)⟩
theorem Kq.below {S : Nat -> Prop} {B : Nat} {a b : World} (h : Kq S a b) (hs : ∀ j, j < B -> S j) : Below B a b := ⟨h.os, h.tape, h.output, h.size, fun j hj => h.block j (hs j hj)⟩
theorem Kq.own {S : Nat -> Prop} {w w' : World} {b s n : Nat} {T : TypeId} {v : Value} {xs : List Value} (h : Kq S w w') (hO : w.ownsRow b T s v n xs) (hs : ∀ g, v.ownBlock = some g -> S g) : w'.ownsRow b T s v n xs := by
 refine ⟨hO.1, ?_⟩
 rcases hO.2 with h1 | ⟨g, cap, cur, h1, h2, h3, h4⟩
 · exact .inl h1
 · refine .inr ⟨g, cap, cur, h1, h2, ?_, h4⟩
   rw [h.block g (hs g (by rw [h1]; rfl))]; exact h3
theorem Kq.cell {S : Nat -> Prop} {w w' : World} {a : Addr} (h : Kq S w w') (hs : S a.block) : w'.cell? a = w.cell? a := World.cell?_of_block (h.block a.block hs)
theorem own_made {w1 : World} {base g n : Nat} (h : w1.ownsRow base 83 1 (.slice (some ⟨g, 0, none⟩) n n) n (madeCells (Value.int .u64 0).cells (n * 1)).toList) : w1.ownsRow base 83 1 (.slice (some ⟨g, 0, none⟩) n n) n (vals (List.replicate n 0)) := by
 have e : (madeCells (Value.int .u64 0).cells (n * 1)).toList = vals (List.replicate n 0) := by
  show (madeCells #[.int .u64 0] (n * 1)).toList = _
  rw [toList_madeCells_one, Nat.mul_one]; simp [vals]
 rw [e] at h; exact h
theorem cell_in {W : World} {a : Addr} {v : Value} (h : W.cell? a = some v) : a.block < W.heap.size := World.block_lt_of_cell? W _ h
def inF (f : Int) (xs : List Int) : Bool := if f = 1 then allIn 2013265921 xs else if f = 2 then allIn 18446744069414584321 xs else false
theorem inF_yes {f p : Int} {wd : Bool} (h : Fi f p wd) (xs : List Int) : inF f xs = allIn p xs := by
 rcases h with ⟨rfl, rfl, _⟩ | ⟨rfl, rfl, _⟩ <;> rfl
theorem inF_no {f : Int} (h1 : f ≠ 1) (h2 : f ≠ 2) (xs : List Int) : inF f xs = false := by
 unfold inF; rw [if_neg h1, if_neg h2]
theorem In_any (f : Int) (v : Value) (xs : List Int) (w : World) (hr : Row w v xs) :
 Calls Tryz.prog 176 #[.int .u8 f, v] w fun e w' => e = .returned (.bool (inF f xs)) ∧ Below w.heap.size w w' := by
 rcases Fi_or f with ⟨p, wd, h⟩ | ⟨h1, h2⟩
 · rw [inF_yes h]
   cases hi : allIn p xs with
   | true => exact In_yes f p wd v xs w h hr hi
   | false => exact In_no f v xs w (.inr ⟨p, wd, h, hi⟩) hr
 · rw [inF_no h1 h2]; exact In_no f v xs w (.inl ⟨h1, h2⟩) hr
theorem rIn_any (f : Int) (v : Value) (xs : List Int) (w : World) (hr : Row w v xs) :
 Calls Tryz.prog 33 #[.int .u8 f, v] w fun e w' => e = .returned (.bool (inF f xs)) ∧ w' = w := by
 rcases Fi_or f with ⟨p, wd, h⟩ | ⟨h1, h2⟩
 · rw [inF_yes h]
   cases hi : allIn p xs with
   | true => exact rIn_yes f p wd v xs w h hr hi
   | false => exact rIn_no f v xs w (.inr ⟨p, wd, h, hi⟩) hr
 · rw [inF_no h1 h2]; exact rIn_no f v xs w (.inl ⟨h1, h2⟩) hr
def Rw (w : World) (v : Value) (xs : List Int) : Prop := Row w v xs ∧ ∃ ao n cap, v = .slice ao n cap ∧ n <= cap
theorem Rw.below {w w' : World} {v : Value} {xs : List Int} (h : Rw w v xs) (hb : Below w.heap.size w w') : Rw w' v xs := ⟨h.1.below hb, h.2⟩
theorem Rw.spell {w : World} {v : Value} {xs : List Int} (h : Rw w v xs) : ∃ ao cap, v = .slice ao xs.length cap ∧ xs.length <= cap := by
 obtain ⟨⟨ao, cap, rfl, _⟩, a, n, c, h2, h3⟩ := h
 cases h2; exact ⟨_, _, rfl, h3⟩
theorem Rw.words {w : World} {v : Value} {xs : List Int} (h : Rw w v xs) : ∀ x ∈ xs, 0 <= x ∧ x <= 18446744073709551615 := by obtain ⟨⟨_, _, _, _, h, _⟩, _⟩ := h; exact h
theorem rw_of_own {w : World} {base : Nat} {v : Value} {n : Nat} {xs : List Int} (h : w.ownsRow base 83 1 v n (vals xs)) (hl : xs.length <= 17592186043904)
 (hw : ∀ x ∈ xs, 0 <= x ∧ x <= 18446744073709551615) : Rw w v xs := by
 refine ⟨row_of_own h (own_len h).symm hl hw, ?_⟩
 rcases h.2 with ⟨rfl, _⟩ | ⟨g, cap, cur, rfl, _, _, h1, _⟩
 · exact ⟨_, _, _, rfl, Nat.le_refl _⟩
 · exact ⟨_, _, _, rfl, h1⟩
theorem els_words {p : Int} {xs : List Int} (h : Els p xs) (hp : p <= 18446744073709551615) : ∀ x ∈ xs, 0 <= x ∧ x <= 18446744073709551615 := fun x hx => elWord (h x hx) hp
theorem els_of {p : Int} {xs : List Int} (h : allIn p xs = true) (hw : ∀ x ∈ xs, 0 <= x ∧ x <= 18446744073709551615) : Els p xs := fun x hx => by
 unfold allIn at h
 rw [List.all_eq_true] at h
 exact ⟨(hw x hx).1, by simpa using h x hx⟩
theorem allIn_of {p : Int} {xs : List Int} (h : Els p xs) : allIn p xs = true := by
 unfold allIn; rw [List.all_eq_true]; intro x hx; simpa using (h x hx).2
theorem row_news {w : World} {ao : Option Addr} {n cap : Nat} {xs : List Int} (h : Row w (.slice ao n cap) xs) (hp : 0 < xs.length) : ∃ ad, ao = some ad ∧ ∀ j u, (vals xs)[j]? = some u -> w.cell? (ad.add j) = some u := by
 obtain ⟨ao', cap', h1, h2, h3, h4⟩ := h
 cases h1
 obtain ⟨b, off, rfl, hbl, hcell⟩ := h4 (List.length_pos_iff.1 hp)
 refine ⟨_, rfl, fun j u hj => ?_⟩
 have hjl : j < xs.length := by
  apply Nat.lt_of_not_le; intro hcn; rw [List.getElem?_eq_none (by rw [vals_length]; exact hcn)] at hj; cases hj
 have hadd : (⟨b, off, none⟩ : Addr).add j = ⟨b, off + j, none⟩ := by unfold Addr.add; split <;> simp_all
 rw [vals_at xs j hjl] at hj
 rw [hadd, hcell j hjl]; exact hj
theorem own_of_block {w : World} {base g n : Nat} {ys : List Int} {T : TypeId} (hb : base <= g) (h : w.heap[g]? = some (.cells (vals ys).toArray T (0, 0))) (hl : ys.length = n) (hn : n <= 17592186043904) : w.ownsRow base T 1 (.slice (some ⟨g, 0, none⟩) n n) n (vals ys) :=
 ⟨by rw [vals_length]; omega, .inr ⟨g, n, _, rfl, hb, h, Nat.le_refl _, by unfold maxLen; omega, by simp [vals_length]; omega, by simp only; rw [List.take_of_length_le (by rw [vals_length]; omega)]⟩⟩
def over (n : Nat) (xs : List Int) : List Int := xs ++ List.replicate (n - xs.length) 0
theorem u64_size : (Tryz.prog.info? 83).map (·.size) = some 1 := by kernel_rfl
def erb (b1 b2 : Bool) (n m : Nat) : Int := if b1 && b2 then (if 4096 < n ∨ 4096 < m then 4 else 0) else 2
def er (f : Int) (xs ys : List Int) : Int := erb (inF f xs) (inF f ys) xs.length ys.length
theorem co_set (ys : List Int) (k i : Nat) (z : Int) (hk : k < ys.length) : co (ys.set k z) i = if i = k then z else co ys i := set_getD ys k i z hk
def Gives (k : FuncId) (args : Array Value) (W : World) (zs : List Int) (e0 : Int) : Prop :=
 Calls Tryz.prog k args W fun e w' => ∃ v', e = .returned (.tuple #[v', .int .i64 e0]) ∧ w'.ownsRow W.heap.size 83 1 v' zs.length (vals zs) ∧ Below W.heap.size W w'
theorem Gives.none {k : FuncId} {args : Array Value} {W : World} {e0 : Int} (h : Calls Tryz.prog k args W fun e w' => e = .returned (.tuple #[.slice none 0 0, .int .i64 e0]) ∧ Below W.heap.size W w') : Gives k args W [] e0 :=
 h.mono fun e w' ⟨he, hb⟩ => ⟨_, he, World.ownsRow_nil _ _ _ _, hb⟩
def pOf (f : Int) : Int := if f = 1 then 2013265921 else 18446744069414584321
theorem pOf_eq {f p : Int} {wd : Bool} (h : Fi f p wd) : pOf f = p := by rcases h with ⟨rfl, rfl, _⟩ | ⟨rfl, rfl, _⟩ <;> rfl
def valb (bs : List Int) : List Value := bs.map (Value.int .u8)
theorem valb_length (bs : List Int) : (valb bs).length = bs.length := by simp [valb]
theorem valb_snoc (bs : List Int) (b : Int) : valb bs ++ [.int .u8 b] = valb (bs ++ [b]) := by simp [valb]
theorem valb_app (cs bs : List Int) : valb cs ++ valb bs = valb (cs ++ bs) := by simp [valb]
theorem valb_at (bs : List Int) (j : Nat) (h : j < bs.length) : (valb bs)[j]? = some (.int .u8 (bs.getD j 0)) := by
 simp [valb, List.getD_eq_getElem?_getD, h]
theorem valb_one (bs : List Int) : ∀ u ∈ valb bs, u.oneCell' = true := by
 intro u hu
 obtain ⟨x, _, rfl⟩ := List.mem_map.1 hu
 rfl
def Rb (w : World) (v : Value) (bs : List Int) : Prop :=
 ∃ ao cap, v = .slice ao bs.length cap ∧ (bs.length <= cap ∧ bs.length <= 187649984500000 ∧ (ao = none -> cap = 0)) ∧ By bs ∧
  (bs ≠ [] -> ∃ b off, ao = some ⟨b, off, none⟩ ∧ b < w.heap.size ∧ ∀ i, i < bs.length -> w.cell? ⟨b, off + i, none⟩ = some (.int .u8 (bs.getD i 0)))
theorem Rb.below {w w' : World} {v : Value} {bs : List Int} (h : Rb w v bs) (hb : Below w.heap.size w w') : Rb w' v bs := by
 obtain ⟨ao, cap, rfl, h1, h2, h3⟩ := h
 refine ⟨ao, cap, rfl, h1, h2, fun hne => ?_⟩
 obtain ⟨b, off, rfl, hbl, hc⟩ := h3 hne
 exact ⟨b, off, rfl, Nat.lt_of_lt_of_le hbl hb.size, fun i hi => (hb.cell (p := ⟨b, off + i, none⟩) hbl).trans (hc i hi)⟩
theorem Rb.spell {w : World} {v : Value} {bs : List Int} (h : Rb w v bs) : ∃ ao cap, v = .slice ao bs.length cap ∧ bs.length <= cap := by
 obtain ⟨ao, cap, h1, h2, _⟩ := h; exact ⟨ao, cap, h1, h2.1⟩
theorem Rb.len {w : World} {v : Value} {bs : List Int} (h : Rb w v bs) : bs.length <= 187649984500000 := by obtain ⟨_, _, _, h, _⟩ := h; exact h.2.1
theorem Rb.by {w : World} {v : Value} {bs : List Int} (h : Rb w v bs) : By bs := by obtain ⟨_, _, _, _, h, _⟩ := h; exact h
theorem Rb.none_ {w : World} {n cap : Nat} {bs : List Int} (h : Rb w (.slice none n cap) bs) : n = 0 ∧ cap = 0 ∧ bs = [] := by
 obtain ⟨ao, cap', h1, h2, h3, h4⟩ := h
 cases h1
 have : bs = [] := by
  apply Classical.byContradiction; intro hne
  obtain ⟨b, off, h5, _⟩ := h4 hne; cases h5
 exact ⟨by rw [this]; rfl, h2.2.2 rfl, this⟩
theorem rb_nil (w : World) : Rb w (.slice none 0 0) [] := ⟨none, 0, rfl, ⟨Nat.le_refl _, by simp, fun _ => rfl⟩, By.nil, fun h => absurd rfl h⟩
theorem Rb.at_ {w : World} {b off n cap : Nat} {bs : List Int} (h : Rb w (.slice (some ⟨b, off, none⟩) n cap) bs) {k : Nat} (hk : k < bs.length) : b < w.heap.size ∧ w.cell? ⟨b, off + k, none⟩ = some (.int .u8 (bs.getD k 0)) ∧ 0 <= bs.getD k 0 ∧ bs.getD k 0 <= 255 := by
 obtain ⟨ao, cap', h1, h2, h3, h4⟩ := h
 cases h1
 obtain ⟨b', off', h5, hb, hc⟩ := h4 (by intro h; rw [h] at hk; simp at hk)
 cases h5
 refine ⟨hb, hc k hk, ?_⟩
 have : bs.getD k 0 = bs[k] := by rw [List.getD_eq_getElem?_getD, List.getElem?_eq_getElem hk]; rfl
 rw [this]; exact h3 _ (List.getElem_mem hk)
theorem Rb.form {w : World} {v : Value} {bs : List Int} (h : Rb w v bs) (h0 : 0 < bs.length) : ∃ b off cap, v = .slice (some ⟨b, off, none⟩) bs.length cap ∧ bs.length <= cap ∧ b < w.heap.size := by
 obtain ⟨ao, cap, rfl, h1, h2, h3⟩ := h
 obtain ⟨b, off, rfl, hb, _⟩ := h3 (by intro h; rw [h] at h0; simp at h0)
 exact ⟨b, off, cap, rfl, h1.1, hb⟩
theorem getD_drop (bs : List Int) (o i : Nat) : (bs.drop o).getD i 0 = bs.getD (o + i) 0 := by
 rw [List.getD_eq_getElem?_getD, List.getD_eq_getElem?_getD, List.getElem?_drop]
theorem getD_take {bs : List Int} {n i : Nat} (h : i < n) : (bs.take n).getD i 0 = bs.getD i 0 := by
 rw [List.getD_eq_getElem?_getD, List.getD_eq_getElem?_getD, List.getElem?_take_of_lt h]
theorem Rb.cut {w : World} {b off m cap : Nat} {bs : List Int} (h : Rb w (.slice (some ⟨b, off, none⟩) m cap) bs) {o n c : Nat} (hn : o + n <= bs.length) (hc : n <= c) : Rb w (.slice (some ⟨b, off + o, none⟩) n c) ((bs.drop o).take n) := by
 obtain ⟨ao, cap', h1, h2, h3, h4⟩ := h
 cases h1
 have hl : ((bs.drop o).take n).length = n := by rw [List.length_take, List.length_drop]; omega
 refine ⟨_, c, by rw [hl], ⟨by omega, by have := h2.2.1; omega, fun h => by cases h⟩, (h3.drop o).take n, fun hne => ?_⟩
 have hn0 : 0 < n := by apply Nat.pos_of_ne_zero; intro h0; subst h0; simp at hne
 obtain ⟨b', off', h5, hb, hcell⟩ := h4 (by intro h; rw [h] at hn; simp at hn; omega)
 cases h5
 refine ⟨b, off + o, rfl, hb, fun i hi => ?_⟩
 rw [hl] at hi
 rw [getD_take hi, getD_drop, Nat.add_assoc]; exact hcell (o + i) (by omega)
theorem rb_empty (w : World) (a : Addr) (c : Nat) : Rb w (.slice (some a) 0 c) [] := ⟨some a, c, rfl, ⟨Nat.zero_le _, by simp, fun h => by cases h⟩, By.nil, fun h => absurd rfl h⟩
theorem rb_of_ownG {w : World} {base n : Nat} {v : Value} {bs : List Int} {T : TypeId} (h : w.ownsRow base T 1 v n (valb bs)) (hb : By bs) (hl : bs.length <= 187649984500000) : Rb w v bs := by
 have hn : bs.length = n := by have := h.1; rw [valb_length] at this; omega
 subst hn
 rcases h.2 with ⟨rfl, h0⟩ | ⟨g, cap, cur, rfl, hbs, hh, h1, h2, h3, h4⟩
 · exact ⟨none, 0, by rw [h0], ⟨by omega, hl, fun _ => rfl⟩, hb, fun hne => absurd (List.length_eq_zero_iff.1 h0) hne⟩
 · refine ⟨_, cap, rfl, ⟨h1, hl, fun h => by cases h⟩, hb, fun hne => ⟨g, 0, rfl, ?_, fun i hi => ?_⟩⟩
   · apply Nat.lt_of_not_le; intro hc; rw [Array.getElem?_eq_none hc] at hh; cases hh
   · rw [cell_of_row w g (0 + i) cur T (0, 0) hh, Nat.zero_add]
     have e1 : cur[i]? = cur.toList[i]? := by simp
     have e2 : cur.toList[i]? = (valb bs)[i]? := by rw [<- h4, List.getElem?_take_of_lt (by omega)]
     rw [e1, e2, valb_at bs i hi]
theorem rb_of_own {w : World} {base n : Nat} {v : Value} {bs : List Int} {T : TypeId} (h : w.ownsRow base T 1 v n (valb bs)) (hb : By bs) (hl : bs.length <= 140737488500000) : Rb w v bs := rb_of_ownG h hb (by omega)
theorem Rb.news {w : World} {ad : Addr} {n cap : Nat} {bs : List Int} (h : Rb w (.slice (some ad) n cap) bs) : ∀ j u, (valb bs)[j]? = some u -> w.cell? (ad.add j) = some u := by
 intro j u hj
 have hjl : j < bs.length := by
  apply Nat.lt_of_not_le; intro hcn; rw [List.getElem?_eq_none (by rw [valb_length]; exact hcn)] at hj; cases hj
 obtain ⟨ao, cap', h1, h2, h3, h4⟩ := h
 cases h1
 obtain ⟨b, off, h5, hb, hc⟩ := h4 (by intro h; rw [h] at hjl; simp at hjl)
 cases h5
 have hadd : (⟨b, off, none⟩ : Addr).add j = ⟨b, off + j, none⟩ := by unfold Addr.add; split <;> simp_all
 rw [valb_at bs j hjl] at hj
 rw [hadd, hc j hjl]; exact hj
def Wd (zs : List Int) : Prop := zs.length <= 17592186043904 ∧ ∀ x ∈ zs, 0 <= x ∧ x <= 18446744073709551615
theorem Wd.row {w : World} {base n : Nat} {v : Value} {zs : List Int} (h : Wd zs) (hO : w.ownsRow base 83 1 v n (vals zs)) : Rw w v zs := rw_of_own hO h.1 h.2
theorem wd_nil : Wd [] := ⟨by simp, by simp⟩
end Go.Proofs.YtipobchbnjgenaaGreat
namespace Go.Proofs.YtipobchbnjgenaaGreat
def mute (s : Oper) : Oper := { s with op := .move (.const undef) }
def muteL : List Oper -> List Oper
 | [] => []
 | [s] => [mute s]
 | o :: o2 :: r => o :: muteL (o2 :: r)
def lastL : List Oper -> List Oper
 | [] => []
 | [s] => [s]
 | _ :: o2 :: r => lastL (o2 :: r)
theorem parted : ∀ (L : List Oper), L ≠ [] -> ∃ l s, L = l ++ [s] ∧ muteL L = l ++ [mute s] ∧ L.dropLast = l ∧ lastL L = [s]
 | [], h => absurd rfl h
 | [s], _ => ⟨[], s, rfl, rfl, rfl, rfl⟩
 | o :: o2 :: r, _ => by
  obtain ⟨l, s, h1, h2, h3, h4⟩ := parted (o2 :: r) (List.cons_ne_nil _ _)
  refine ⟨o :: l, s, by rw [h1]; rfl, ?_, ?_, ?_⟩
  · show o :: muteL (o2 :: r) = _; rw [h2]; rfl
  · show o :: (o2 :: r).dropLast = _; rw [h3]
  · show lastL (o2 :: r) = _; rw [h4]
def backB (L : List Oper) : Bool := (List.range L.length).all fun i => (L[i]?.map fun o => o.after.all fun e => decide (e.on < i)).getD true
section
variable {P : Program} {C : World -> Prop}
theorem yielded_mute (l : List Oper) (s : Oper) (tmps : Array Value) : yielded (l ++ [mute s]).toArray tmps = yielded (l ++ [s]).toArray tmps := by
 funext j
 unfold yielded
 have : (((l ++ [mute s]).toArray)[j]?).bind (·.dst) = (((l ++ [s]).toArray)[j]?).bind (·.dst) := by
  simp only [List.getElem?_toArray]
  by_cases h : j < l.length
  · rw [List.getElem?_append_left h, List.getElem?_append_left h]
  · rw [List.getElem?_append_right (by omega), List.getElem?_append_right (by omega)]
    cases h2 : j - l.length with
    | zero => rfl
    | succ k => rfl
 rw [this]
theorem ready_mute (l : List Oper) (s : Oper) (listed : Array Bool) : Region.ready .any (l ++ [mute s]).toArray listed = Region.ready .any (l ++ [s]).toArray listed := by
 unfold Region.ready
 have hs : ((l ++ [mute s]).toArray).size = ((l ++ [s]).toArray).size := by simp
 rw [hs]
 apply List.filter_congr
 intro j _
 congr 1
 simp only [List.getElem?_toArray]
 by_cases h : j < l.length
 · rw [List.getElem?_append_left h, List.getElem?_append_left h]
 · rw [List.getElem?_append_right (by omega), List.getElem?_append_right (by omega)]
   cases h2 : j - l.length with
   | zero => rfl
   | succ k => rfl
theorem some_ready {ops : List Oper} (hb : backB ops = true) {listed : Array Bool} (hl : listed.size = ops.length) : ∀ (j : Nat), j < ops.length -> listed.getD j true = false -> Region.ready .any ops.toArray listed ≠ [] := by
 intro j
 induction j using Nat.strongRecOn with
 | _ j ih =>
  intro hj hu he
  obtain ⟨o, ho⟩ : ∃ o, ops[j]? = some o := ⟨_, List.getElem?_eq_getElem hj⟩
  by_cases hall : ∀ e ∈ o.after, Region.binds .any e = true -> listed.getD e.on false = true
  · have : j ∈ Region.ready .any ops.toArray listed := mem_ready.2 ⟨hu, o, by simpa using ho, hall⟩
    rw [he] at this; cases this
  · obtain ⟨e, h1⟩ := Classical.not_forall.1 hall
    obtain ⟨hm, h2⟩ := Classical.not_imp.1 h1
    obtain ⟨hbi, h3⟩ := Classical.not_imp.1 h2
    unfold backB at hb
    rw [List.all_eq_true] at hb
    have h4 := hb j (List.mem_range.2 hj)
    rw [ho] at h4
    simp only [Option.map_some, Option.getD_some] at h4
    have h5 := (Array.all_eq_true_iff_forall_mem.1 h4) e hm
    have hlt : e.on < j := by simpa using h5
    refine ih e.on hlt (by omega) ?_ he
    have hs : e.on < listed.size := by omega
    have : listed.getD e.on false = listed.getD e.on true := by simp [Array.getD, hs]
    rw [<- this]; simpa using h3
end
end Go.Proofs.YtipobchbnjgenaaGreat
namespace Go.Proofs.YtipobchbnjgenaaGreat
open Go.RowKit Fld
namespace Fld
end Fld
end Go.Proofs.YtipobchbnjgenaaGreat
namespace Go.Proofs.YtipobchbnjgenaaGreat
open Go.RowKit Fld
namespace Fld
def le (p c : Int) (d : Nat) (qs R : List Int) (j : Nat) : List Int := mk R.length (fun i => if d <= i ∧ i < d + j then sub p (co R i) (mul p c (co qs (i - d))) else co R i)
end Fld
end Go.Proofs.YtipobchbnjgenaaGreat
namespace Go.Proofs.YtipobchbnjgenaaGreat
open Go.RowKit Fld
theorem bu_info : (Tryz.prog.info? 5).map (fun i => (i.zero, i.size, i.bytes)) = some (some (.int .u8 0), 1, 1) := by kernel_rfl
def Ub (w : World) (p : Nat) (v : Value) (bs : List Int) : Prop := Rb w v bs ∧ (bs ≠ [] -> ∃ off n c, v = .slice (some ⟨p, off, none⟩) n c)
theorem Ub.kept {S : Nat -> Prop} {w w' : World} {p : Nat} {v : Value} {bs : List Int} (h : Ub w p v bs) (k : Kq S w w') (hp : S p) : Ub w' p v bs := by
 refine ⟨?_, h.2⟩
 obtain ⟨⟨ao, cap, rfl, h1, h2, h3⟩, h4⟩ := h
 refine ⟨ao, cap, rfl, h1, h2, fun hne => ?_⟩
 obtain ⟨b, off, rfl, hb, hc⟩ := h3 hne
 obtain ⟨off', n', c', e⟩ := h4 hne
 cases e
 exact ⟨p, off, rfl, Nat.lt_of_lt_of_le hb k.size, fun i hi => (k.cell (a := ⟨p, off + i, none⟩) hp).trans (hc i hi)⟩
theorem cut3u {w : World} {p : Nat} {v : Value} {bs : List Int} (hu : Ub w p v bs) {k m : Nat} (hk : k <= m) (hm : m <= bs.length) :
 ∃ a, Ub w p (.slice a (m - k) (m - k)) ((bs.drop k).take (m - k)) ∧ ∀ W : World, (Instr.slice 30 v (some (.int .i64 (k : Int))) (some (.int .i64 (m : Int))) (some (.int .i64 (m : Int)))).run Tryz.prog W = .ok (.slice a (m - k) (m - k)) W := by
 obtain ⟨h, hat⟩ := hu
 obtain ⟨i0, hi0, hz0, hz1, hz2⟩ := info_parts bu_info
 have h' := h
 obtain ⟨ao, cap, rfl, ⟨hcap, hlen, hn⟩, hy, hc⟩ := h
 have h1 : (0 : Int) <= (k : Int) ∧ (k : Int) <= (m : Int) := by omega
 have h2 : (0 : Int) <= (m : Int) ∧ (m : Int) <= (cap : Int) := by omega
 have hl : ((bs.drop k).take (m - k)).length = m - k := by rw [List.length_take, List.length_drop]; omega
 by_cases h0 : m = k
 · subst h0
   refine ⟨ao, ?_, fun W => ?_⟩
   · rw [Nat.sub_self, List.take_zero]
     exact ⟨⟨ao, 0, rfl, ⟨Nat.le_refl _, by simp, fun _ => rfl⟩, By.nil, fun h => absurd rfl h⟩, fun h => absurd rfl h⟩
   · simp [Instr.slice, Instr.sliceBounds, Instr.sliceBound, asIntOf, run_underlying Tryz.underlying30, sizeOf, typeInfo, hi0, hz1, show m <= cap by omega]
 · have hb : bs ≠ [] := by intro e; rw [e] at hm; simp at hm; omega
   obtain ⟨off, n', c', e⟩ := hat hb
   cases e
   have := h'.cut (o := k) (n := m - k) (c := m - k) (by omega) (Nat.le_refl _)
   refine ⟨some ⟨p, off + k, none⟩, ⟨this, fun _ => ⟨_, _, _, rfl⟩⟩, fun W => ?_⟩
   simp [Instr.slice, Instr.sliceBounds, Instr.sliceBound, asIntOf, run_underlying Tryz.underlying30, sizeOf, typeInfo, hi0, hz1, hk, show m <= cap by omega, h0, show ¬ m - k = 0 by omega, Addr.add]
theorem ub_of_own {w : World} {base n p cap : Nat} {a : Option Addr} {bs : List Int} {T : TypeId} (h : w.ownsRow base T 1 (.slice a n cap) n (valb bs)) (hb : By bs) (hl : bs.length <= 187649984500000) (hp : ∀ q, (Value.slice a n cap).ownBlock = some q -> q = p) : Ub w p (.slice a n cap) bs := by
 refine ⟨rb_of_ownG h hb hl, fun hne => ?_⟩
 rcases h.2 with ⟨e, h0⟩ | ⟨g, cap', cur, e, _⟩
 · have h1 := h.1
   rw [valb_length, h0] at h1
   exact absurd (List.length_eq_zero_iff.1 (by omega)) hne
 · cases e
   have : g = p := hp g rfl
   subst this
   exact ⟨0, n, cap, rfl⟩
theorem u8_info : (Tryz.prog.info? 5).map (fun i => (i.zero, i.size, i.bytes)) = some (some (.int .u8 0), 1, 1) := by kernel_rfl
def s8 (s b : Int) : Int := IntKind.u64.wrap (bits .xor .u64 s b * 1099511628211)
def sum8 (bs : List Int) : Int := bs.foldl s8 14695981039346656037
theorem s8_bd (s b : Int) : 0 <= s8 s b ∧ s8 s b <= 18446744073709551615 := by
 unfold s8
 rw [show IntKind.u64.wrap (bits .xor .u64 s b * 1099511628211) = (bits .xor .u64 s b * 1099511628211) % 18446744073709551616 by simp [IntKind.wrap, IntKind.bits, IntKind.signed]]
 omega
theorem sum8_snoc (bs : List Int) (b : Int) : sum8 (bs ++ [b]) = s8 (sum8 bs) b := by unfold sum8; rw [List.foldl_append]; rfl
theorem sum8_bd (bs : List Int) : 0 <= sum8 bs ∧ sum8 bs <= 18446744073709551615 := by
 have h : ∀ (bs : List Int) (s : Int), (0 <= s ∧ s <= 18446744073709551615) -> 0 <= bs.foldl s8 s ∧ bs.foldl s8 s <= 18446744073709551615 := by
  intro bs
  induction bs with
  | nil => intro s h; exact h
  | cons b bs ih => intro s _; exact ih _ (s8_bd s b)
 exact h bs _ (by decide)
theorem take_snoc8 {bs : List Int} {k : Nat} (h : k < bs.length) : bs.take (k + 1) = bs.take k ++ [bs.getD k 0] := by
 rw [List.take_succ_eq_append_getElem h, List.getD_eq_getElem?_getD, List.getElem?_eq_getElem h]; rfl
theorem Rb.byte {w : World} {v : Value} {bs : List Int} (h : Rb w v bs) {k : Nat} (hk : k < bs.length) : 0 <= bs.getD k 0 ∧ bs.getD k 0 <= 255 := by
 have : bs.getD k 0 = bs[k] := by rw [List.getD_eq_getElem?_getD, List.getElem?_eq_getElem hk]; rfl
 rw [this]; exact h.by _ (List.getElem_mem hk)
theorem wSum (v : Value) (bs : List Int) (w : World) (h : Rb w v bs) :
 Calls Tryz.prog 136 #[v] w fun e w' => e = .returned (.int .u64 (sum8 bs)) ∧ w' = w := by
 have HB := hide (fun k (hk : k < bs.length) => h.byte hk)
 have hlen := h.len
 obtain ⟨ao, cap, rfl, _, _, hc⟩ := h
 go_enter Tryz.func136, Tryz.ntmps136
 go_wp2
 go_loop [3, 8] (fun vs vi => ∃ k : Nat, k <= bs.length ∧ vi = .int .i64 k ∧ vs = .int .u64 (sum8 (bs.take k))) (fun _ vi => bs.length - (intOf vi).toNat)
 case atStart => exact ⟨0, Nat.zero_le _, rfl, rfl⟩
 case round =>
  obtain ⟨k, hk, rfl, rfl⟩ := hrel
  by_cases hlt : k < bs.length
  · obtain ⟨b, off, rfl, hbl, hcell⟩ := hc (by intro h; rw [h] at hlt; simp at hlt)
    have hck := hcell k hlt
    obtain ⟨x0, x1⟩ := HB.out k hlt
    have HS : Hid (sum8 (bs.take (k + 1)) = s8 (sum8 (bs.take k)) (bs.getD k 0)) := by show _ = _; rw [take_snoc8 hlt, sum8_snoc]
    have hsb := sum8_bd (bs.take k)
    generalize bs.getD k 0 = x at *
    generalize sum8 (bs.take k) = s at *
    clear hcell hc
    go_wp2
    go_round
    case rel => exact ⟨k + 1, by omega, by go_num, by rw [HS.out]; rfl⟩
    case measure => simp [intOf]; omega
  · obtain rfl : k = bs.length := by omega
    rw [List.take_length]
    clear hc
    go_wp2
    go_ret
    exact ⟨rfl, rfl⟩
theorem rSum (v : Value) (bs : List Int) (w : World) (h : Rb w v bs) :
 Calls Tryz.prog 93 #[v] w fun e w' => e = .returned (.int .u64 (sum8 bs)) ∧ w' = w := by
 have HB := hide (fun k (hk : k < bs.length) => h.byte hk)
 have hlen := h.len
 obtain ⟨ao, cap, rfl, _, _, hc⟩ := h
 go_enter Tryz.func93, Tryz.ntmps93
 go_wp2
 go_loop [3, 4] (fun vs vi => ∃ k : Nat, k <= bs.length ∧ vi = .int .i64 k ∧ vs = .int .u64 (sum8 (bs.take k))) (fun _ vi => bs.length - (intOf vi).toNat)
 case atStart => exact ⟨0, Nat.zero_le _, rfl, rfl⟩
 case round =>
  obtain ⟨k, hk, rfl, rfl⟩ := hrel
  by_cases hlt : k < bs.length
  · obtain ⟨b, off, rfl, hbl, hcell⟩ := hc (by intro h; rw [h] at hlt; simp at hlt)
    have hck := hcell k hlt
    obtain ⟨x0, x1⟩ := HB.out k hlt
    have HS : Hid (sum8 (bs.take (k + 1)) = s8 (sum8 (bs.take k)) (bs.getD k 0)) := by show _ = _; rw [take_snoc8 hlt, sum8_snoc]
    have hsb := sum8_bd (bs.take k)
    generalize bs.getD k 0 = x at *
    generalize sum8 (bs.take k) = s at *
    clear hcell hc
    go_wp2
    go_round
    case rel => exact ⟨k + 1, by omega, by go_num, by rw [HS.out]; rfl⟩
    case measure => simp [intOf]; omega
  · obtain rfl : k = bs.length := by omega
    rw [List.take_length]
    clear hc
    go_wp2
    go_ret
    exact ⟨rfl, rfl⟩
theorem p256_le {k n : Nat} (h : k <= n) : (256 : Int) ^ k <= 256 ^ n := by
 obtain ⟨d, rfl⟩ : ∃ d, n = k + d := ⟨n - k, by omega⟩
 rw [Int.pow_add]
 have h1 := p256_pos k
 have h2 : (1 : Int) <= 256 ^ d := p256_pos d
 have h3 := Int.mul_le_mul_of_nonneg_left h2 (Int.le_of_lt h1)
 rw [Int.mul_one] at h3
 exact h3
theorem tk8_small {bs : List Int} (h : By bs) {k : Nat} (hk : k < 8) : 0 <= tk8 (bs.take k) ∧ tk8 (bs.take k) <= 72057594037927935 := by
 have h1 := tk8_bd (h.take k)
 have h2 : (256 : Int) ^ (bs.take k).length <= 256 ^ 7 := p256_le (by rw [List.length_take]; omega)
 have h3 : (256 : Int) ^ 7 = 72057594037927936 := by decide
 omega
theorem tk8_step {bs : List Int} {k : Nat} (h : k < bs.length) : tk8 (bs.take (k + 1)) = tk8 (bs.take k) * 256 + bs.getD k 0 := by rw [take_snoc8 h, tk8_snoc]
theorem rTaken (v : Value) (bs : List Int) (w : World) (h : Rb w v bs) (hl : bs.length <= 8) :
 Calls Tryz.prog 64 #[v] w fun e w' => e = .returned (.int .u64 (tk8 bs)) ∧ w' = w := by
 have HB := hide (fun k (hk : k < bs.length) => h.byte hk)
 have HY := hide h.by
 have hlen := h.len
 obtain ⟨ao, cap, rfl, _, _, hc⟩ := h
 go_enter Tryz.func64, Tryz.ntmps64
 go_wp2
 go_loop [3, 4] (fun vs vi => ∃ k : Nat, k <= bs.length ∧ vi = .int .i64 k ∧ vs = .int .u64 (tk8 (bs.take k))) (fun _ vi => bs.length - (intOf vi).toNat)
 case atStart => exact ⟨0, Nat.zero_le _, rfl, rfl⟩
 case round =>
  obtain ⟨k, hk, rfl, rfl⟩ := hrel
  by_cases hlt : k < bs.length
  · obtain ⟨b, off, rfl, hbl, hcell⟩ := hc (by intro h; rw [h] at hlt; simp at hlt)
    have hck := hcell k hlt
    obtain ⟨x0, x1⟩ := HB.out k hlt
    have HS := hide (tk8_step hlt)
    obtain ⟨s0, s1⟩ := tk8_small HY.out (k := k) (by omega)
    generalize bs.getD k 0 = x at *
    generalize tk8 (bs.take k) = s at *
    clear hcell hc
    go_wp2
    go_round
    case rel => exact ⟨k + 1, by omega, by go_num, by rw [HS.out]⟩
    case measure => simp [intOf]; omega
  · obtain rfl : k = bs.length := by omega
    rw [List.take_length]
    clear hc
    go_wp2
    go_ret
    exact ⟨rfl, rfl⟩
theorem nums_inj : ∀ {xs ys : List Int}, By xs -> By ys -> xs.map (fun n => UInt8.ofNat n.toNat) = ys.map (fun n => UInt8.ofNat n.toNat) -> xs = ys
 | [], [], _, _, _ => rfl
 | [], y :: ys, _, _, h => by simp at h
 | x :: xs, [], _, _, h => by simp at h
 | x :: xs, y :: ys, hx, hy, h => by
  simp only [List.map_cons, List.cons.injEq] at h
  have h1 := hx x List.mem_cons_self
  have h2 := hy y List.mem_cons_self
  have e : x = y := by
   have := congrArg UInt8.toNat h.1
   rw [UInt8.toNat_ofNat', UInt8.toNat_ofNat'] at this
   rw [Nat.mod_eq_of_lt (by omega), Nat.mod_eq_of_lt (by omega)] at this
   omega
  rw [e, nums_inj hx.tail hy.tail h.2]
theorem str_same {xs ys : List Int} (hx : By xs) (hy : By ys) : ((strOfNums xs).toList == (strOfNums ys).toList) = decide (xs = ys) := by
 rw [ByteArray.toList_eq, ByteArray.toList_eq, strOfNums_data, strOfNums_data]
 by_cases h : xs = ys
 · subst h; simp
 · rw [decide_eq_false h, beq_eq_false_iff_ne]
   intro h2
   exact h (nums_inj hx hy h2)
theorem rb_str {w : World} {v : Value} {bs : List Int} (h : Rb w v bs) : (convert 30 9 v).run Tryz.prog w = .ok (.string (strOfNums bs)) w := by
 obtain ⟨ao, cap, rfl, _, _, hc⟩ := h
 by_cases h0 : bs = []
 · subst h0
   rw [run_convert_bytes_string w 30 9 5 ao [].length cap Tryz.underlying30 Tryz.underlying5 Tryz.underlying9]
   cases ao with
   | none => simp [Conv.bytesToString]; rfl
   | some ad =>
    have := run_bytesToString (P := Tryz.prog) w ad 0 cap [] (by have := run_loadCells_list (P := Tryz.prog) w ad [] (fun j v hj => by simp at hj); simpa using this)
    show (Conv.bytesToString (.slice (some ad) 0 cap)).run Tryz.prog w = _
    rw [this]; rfl
 · obtain ⟨b, off, rfl, _, hcell⟩ := hc h0
   exact run_convert_bytes_arg (P := Tryz.prog) w 30 5 Tryz.underlying30 Tryz.underlying5 b off bs.length cap bs rfl hcell 9 Tryz.underlying9
theorem rSame8 (v u : Value) (xs ys : List Int) (w : World) (h1 : Rb w v xs) (h2 : Rb w u ys) :
 Calls Tryz.prog 13 #[v, u] w fun e w' => e = .returned (.bool (decide (xs = ys))) ∧ w' = w := by
 have c1 := rb_str h1
 have c2 := rb_str h2
 have HS := hide (str_same h1.by h2.by)
 obtain ⟨a1, k1, rfl, _⟩ := h1.spell
 obtain ⟨a2, k2, rfl, _⟩ := h2.spell
 clear h1 h2
 go_enter Tryz.func13, Tryz.ntmps13
 go_wp2
 go_ret
 exact ⟨by rw [<- HS.out]; rfl, rfl⟩
theorem byte_at (x : Int) (j : Nat) : x / 2 ^ (8 * j) % 256 = x / 256 ^ j % 256 := by
 rw [Int.pow_mul]; rfl
theorem put_step {w0 wr w1 : World} {v v1 : Value} {n : Nat} {bs : List Int} {y : Int} {T : TypeId} (hB : Below w0.heap.size w0 wr) (hown : wr.ownsRow w0.heap.size T 1 v n (valb bs))
 (h1 : w1.ownsRow w0.heap.size T 1 v1 (n + 1) (valb bs ++ [.int .u8 y])) (hg : (wr.alloc (.cells #[.int .u8 y] T)).grownBy w1 v.ownBlock) :
 w1.ownsRow w0.heap.size T 1 v1 (n + 1) (valb (bs ++ [y])) ∧ Below w0.heap.size w0 w1 := by
 refine ⟨?_, ?_⟩
 · rw [<- valb_snoc]; exact h1
 · exact (hB.alloc hB.size _).grown hg (by have := hB.size; simp; omega) (own_base hown)
theorem wPut (v : Value) (n k : Nat) (bs : List Int) (x : Int) (w0 w : World) (hx : 0 <= x ∧ x <= 18446744073709551615) (hk : k <= 8) (hn : n <= 1073741824) (hO : w.ownsRow w0.heap.size 5 1 v n (valb bs)) (hb : Below w0.heap.size w0 w) :
 Calls Tryz.prog 135 #[v, .int .u64 x, .int .i64 k] w fun e w' => ∃ v', e = .returned v' ∧ w'.ownsRow w0.heap.size 5 1 v' (n + k) (valb (bs ++ wd8 x k)) ∧ Below w0.heap.size w0 w' := by
 obtain ⟨i0, hi0, hz0, hz1, hz2⟩ := info_parts u8_info
 obtain ⟨x0, x1⟩ := hx
 obtain ⟨ao, cap, rfl⟩ : ∃ ao cap, v = .slice ao n cap := by
  rcases hO.2 with ⟨rfl, rfl⟩ | ⟨g, cap, _, rfl, _⟩
  · exact ⟨_, _, rfl⟩
  · exact ⟨_, _, rfl⟩
 go_enter Tryz.func135, Tryz.ntmps135
 go_wp2
 go_loopw [0, 7] (fun vo vi wr => ∃ (j m : Nat) (cs : List Int), j <= k ∧ m + j = n + k ∧ vi = .int .i64 ((8 * j : Nat) : Int) ∧ Hid (cs ++ wd8 x j = bs ++ wd8 x k) ∧ wr.ownsRow w0.heap.size 5 1 vo m (valb cs) ∧ Below w0.heap.size w0 wr) (fun _ vi _ => (intOf vi).toNat)
 case atStart => exact ⟨k, n, bs, Nat.le_refl _, rfl, by go_num, rfl, hO, hb⟩
 case round =>
  clear hO hb
  obtain ⟨j, m, cs, hj, hm, rfl, HE, hO, hB⟩ := hrel
  by_cases hlt : 0 < j
  · obtain ⟨i, rfl⟩ : ∃ i, j = i + 1 := ⟨j - 1, by omega⟩
    have hsz := hB.size
    have HY := hide (byte_at x i)
    go_wp2_with (at_builtin; refine wpList_append_own _ rfl _ _ _ rfl w0.heap.size 5 i0 _ 1 1 Tryz.underlying30 hi0 hz0 hz1 hz2 rfl (by omega) _ m (valb cs) rfl (hO.alloc _) ⟨wr.heap.size, 0, none⟩ 1 1 [.int .u8 _] rfl rfl (World.news_of_block (cs := #[.int .u8 _]) (t := 5) (fr := (0, 0)) (heap_alloc_new wr _)) (by simp [Value.oneCell']) (by unfold maxLen; omega) (by omega) (by simp; omega) ?_; intro v1 w1 hown1 hgrow _)
    have R := hide (put_step hB hO hown1 hgrow)
    have e8 : 8 * (i + 1) - 8 = 8 * i := by omega
    rw [e8, HY.out] at R
    clear hown1 hgrow hO
    go_roundw
    case rel => exact ⟨i, m + 1, _, by omega, by omega, by go_num, by show _ = _; rw [<- HE.out, List.append_assoc]; rfl, R.out.1, R.out.2⟩
    case measure => simp [intOf]; omega
  · obtain rfl : j = 0 := by omega
    go_wp2
    go_ret
    have := HE.out
    simp only [wd8, List.append_nil] at this
    subst this
    exact ⟨_, rfl, by have e : m = n + k := by omega
                      subst e; exact hO, hB⟩
theorem rWide (k : Nat) (x : Int) (w : World) (hx : 0 <= x ∧ x <= 18446744073709551615) (hk : k <= 8) :
 Calls Tryz.prog 68 #[.int .u64 x, .int .i64 k] w fun e w' => ∃ v', e = .returned v' ∧ w'.ownsRow w.heap.size 5 1 v' k (valb (wd8 x k)) ∧ Below w.heap.size w w' := by
 obtain ⟨i0, hi0, hz0, hz1, hz2⟩ := info_parts u8_info
 obtain ⟨x0, x1⟩ := hx
 go_enter Tryz.func68, Tryz.ntmps68
 go_wp2
 go_loopw [5, 6] (fun vo vi wr => ∃ (j m : Nat) (cs : List Int), j <= k ∧ m + j = k ∧ vi = .int .i64 ((j : Int) - 1) ∧ Hid (cs ++ wd8 x j = wd8 x k) ∧ wr.ownsRow w.heap.size 5 1 vo m (valb cs) ∧ Below w.heap.size w wr) (fun _ vi _ => (intOf vi + 1).toNat)
 case atStart => exact ⟨k, 0, [], Nat.le_refl _, Nat.zero_add _, rfl, rfl, World.ownsRow_nil _ _ _ _, Below.refl _ _⟩
 case round =>
  obtain ⟨j, m, cs, hj, hm, rfl, HE, hO, hB⟩ := hrel
  by_cases hlt : 0 < j
  · obtain ⟨i, rfl⟩ : ∃ i, j = i + 1 := ⟨j - 1, by omega⟩
    have hsz := hB.size
    have HY := hide (byte_at x i)
    have ei : (((i + 1 : Nat) : Int) - 1) = (i : Int) := by omega
    rw [ei]
    clear ei
    go_wp2_with (at_builtin; refine wpList_append_own _ rfl _ _ _ rfl w.heap.size 5 i0 _ 1 1 Tryz.underlying30 hi0 hz0 hz1 hz2 rfl (by omega) _ m (valb cs) rfl (hO.alloc _) ⟨wr.heap.size, 0, none⟩ 1 1 [.int .u8 _] rfl rfl (World.news_of_block (cs := #[.int .u8 _]) (t := 5) (fr := (0, 0)) (heap_alloc_new wr _)) (by simp [Value.oneCell']) (by unfold maxLen; omega) (by omega) (by simp; omega) ?_; intro v1 w1 hown1 hgrow _)
    have R := hide (put_step hB hO hown1 hgrow)
    rw [HY.out] at R
    clear hown1 hgrow hO
    go_roundw
    case rel => exact ⟨i, m + 1, _, by omega, by omega, by go_num, by show _ = _; rw [<- HE.out, List.append_assoc]; rfl, R.out.1, R.out.2⟩
    case measure => simp [intOf]
  · obtain rfl : j = 0 := by omega
    go_wp2
    go_ret
    have := HE.out
    simp only [wd8, List.append_nil] at this
    subst this
    exact ⟨_, rfl, by have e : m = k := by omega
                      subst e; exact hO, hB⟩
theorem Rb.tight {w : World} {ao : Option Addr} {n cap : Nat} {bs : List Int} (h : Rb w (.slice ao n cap) bs) : Rb w (.slice ao bs.length bs.length) bs := by
 obtain ⟨ao', cap', h1, h2, h3, h4⟩ := h
 cases h1
 refine ⟨ao, _, rfl, ⟨Nat.le_refl _, h2.2.1, fun h => ?_⟩, h3, h4⟩
 have := h2.2.2 h; omega
structure Rdr (w0 W : World) (g : Nat) (bs : List Int) : Prop where
 lo : w0.heap.size <= g
 here : ∃ v, W.cell? ⟨g, 0, none⟩ = some v ∧ Rb w0 v bs
 fz : W.frozen? ⟨g, 0, none⟩ = false
 bel : Below w0.heap.size w0 W
theorem Rdr.kept {w0 W W' : World} {g : Nat} {bs : List Int} {S : Nat -> Prop} (h : Rdr w0 W g bs) (k : Kq S W W') (hg : S g) (hl : ∀ j, j < w0.heap.size -> S j) : Rdr w0 W' g bs := by
 obtain ⟨v, h1, h2⟩ := h.here
 exact ⟨h.lo, ⟨v, (k.cell (a := ⟨g, 0, none⟩) hg).trans h1, h2⟩, (World.frozen?_of_block (a := ⟨g, 0, none⟩) (k.block g hg)).trans h.fz, h.bel.trans (k.below hl)⟩
theorem Rdr.below {w0 W W' : World} {g : Nat} {bs : List Int} (h : Rdr w0 W g bs) (k : Below W.heap.size W W') : Rdr w0 W' g bs := by
 obtain ⟨v, h1, h2⟩ := h.here
 exact h.kept (Below.kq k (S := fun j => j < W.heap.size) (fun j hj => hj)) (cell_in h1) (fun j hj => Nat.lt_of_lt_of_le hj h.bel.size)
theorem wReader (v : Value) (bs : List Int) (w0 w : World) (h : Rb w0 v bs) (hb : Below w0.heap.size w0 w) :
 Calls Tryz.prog 164 #[v] w fun e w' => ∃ g, e = .returned (.func (.func 188) #[] #[.pointer (some ⟨g, 0, none⟩)]) ∧ Rdr w0 w' g bs ∧ w.heap.size <= g ∧ Below w.heap.size w w' := by
 obtain ⟨ao, cap, rfl, hcp⟩ := h.spell
 have HT := hide h.tight
 have hl := h.len
 clear h
 go_enter Tryz.func164, Tryz.ntmps164
 go_wp2
 go_ret
 have hba := alloc_below w (.cells #[.slice ao bs.length bs.length] 30)
 exact ⟨_, rfl, ⟨hb.size, ⟨_, by simp [go_sem], HT.out⟩, by simp [go_sem], hb.trans (hba.mono hb.size)⟩, Nat.le_refl _, hba⟩
theorem wNext_short (k g : Nat) (bs : List Int) (w0 w : World) (hR : Rdr w0 w g bs) (hk : bs.length < k) (hk8 : k <= 8) :
 Calls Tryz.prog 188 #[.int .i64 k, .pointer (some ⟨g, 0, none⟩)] w fun e w' => e = .returned (.tuple #[.int .u64 0, .bool false]) ∧ w' = w := by
 obtain ⟨_, ⟨v, hc, hv⟩, _, _⟩ := hR
 obtain ⟨ao, cap, rfl, _⟩ := hv.spell
 clear hv
 go_enter Tryz.func188, Tryz.ntmps188
 go_wp2
 go_ret2
 exact ⟨rfl, rfl⟩
theorem or_step {s x : Int} (s0 : 0 <= s) (s1 : s <= 72057594037927935) (x0 : 0 <= x) (x1 : x <= 255) : bits .or .u64 (s * 256) x = s * 256 + x := by
 rw [u64_or _ _ (by omega) (by omega) x0 (by omega)]
 obtain ⟨S, rfl⟩ := Int.eq_ofNat_of_zero_le s0
 obtain ⟨X, rfl⟩ := Int.eq_ofNat_of_zero_le x0
 have e1 : ((S : Int) * 256).toNat = S <<< 8 := by rw [Nat.shiftLeft_eq]; omega
 rw [e1, Int.toNat_natCast, <- Nat.shiftLeft_add_eq_or_of_lt (by omega : X < 2 ^ 8), Nat.shiftLeft_eq]
 omega
theorem Rdr.stored {w0 w : World} {g : Nat} {bs : List Int} (h : Rdr w0 w g bs) {v : Value} {cs : List Int} (hr : Rb w0 v cs) :
 Rdr w0 (w.setCell ⟨g, 0, none⟩ v) g cs ∧ Kq (fun j => j < w.heap.size ∧ j ≠ g) w (w.setCell ⟨g, 0, none⟩ v) := by
 obtain ⟨v0, h1, _⟩ := h.here
 refine ⟨⟨h.lo, ⟨v, by simp [go_sem, h1], hr⟩, by rw [World.frozen?_setCell]; exact h.fz, h.bel.setCell (p := ⟨g, 0, none⟩) h.lo v⟩, ⟨rfl, rfl, rfl, by simp, fun j hj => Below.heap_setCell _ _ _ j hj.2⟩⟩
theorem wNext_long (k g : Nat) (bs : List Int) (w0 w : World) (hR : Rdr w0 w g bs) (hk : k <= bs.length) (hk8 : k <= 8) (hk0 : 0 < k) :
 Calls Tryz.prog 188 #[.int .i64 k, .pointer (some ⟨g, 0, none⟩)] w fun e w' => e = .returned (.tuple #[.int .u64 (tk8 (bs.take k)), .bool true]) ∧ Rdr w0 w' g (bs.drop k) ∧ Kq (fun j => j < w.heap.size ∧ j ≠ g) w w' := by
 have hR' := hide hR
 obtain ⟨hlo, ⟨v, hc, hv⟩, hfz, hbel⟩ := hR
 obtain ⟨b, off, cap, rfl, hcap, hbl⟩ := hv.form (by omega)
 have HV := hide hv
 have HB := hide (fun j (hj : j < bs.length) => hv.byte hj)
 have HY := hide hv.by
 have hl := hv.len
 have HC : Hid (∀ j, j < bs.length -> w.cell? ⟨b, off + j, none⟩ = some (.int .u8 (bs.getD j 0))) := fun j hj => (hbel.cell (p := ⟨b, off + j, none⟩) hbl).trans (hv.at_ hj).2.1
 have hgb : ¬ g = b := by omega
 clear hv
 go_enter Tryz.func188, Tryz.ntmps188
 go_wp2
 go_loop [3, 16] (fun vs vi => ∃ j : Nat, j <= k ∧ vi = .int .i64 j ∧ vs = .int .u64 (tk8 (bs.take j))) (fun _ vi => k - (intOf vi).toNat)
 case atStart => exact ⟨0, Nat.zero_le _, rfl, rfl⟩
 case round =>
  obtain ⟨j, hj, rfl, rfl⟩ := hrel
  by_cases hlt : j < k
  · have hck := HC.out j (by omega)
    obtain ⟨x0, x1⟩ := HB.out j (by omega)
    have HS := hide (tk8_step (bs := bs) (k := j) (by omega))
    obtain ⟨s0, s1⟩ := tk8_small HY.out (k := j) (by omega)
    have HO := hide (or_step s0 s1 x0 x1)
    generalize bs.getD j 0 = x at *
    generalize tk8 (bs.take j) = s at *
    go_wp2
    go_round
    case rel => exact ⟨j + 1, by omega, by go_num, by rw [HS.out, <- HO.out]⟩
    case measure => simp [intOf]; omega
  · obtain rfl : j = k := by omega
    by_cases he : bs.length = j
    · have R := hide (hR'.out.stored (rb_empty w0 ⟨b, off, none⟩ 0))
      have ed : bs.drop j = [] := by rw [<- he]; exact List.drop_length
      rw [<- ed] at R
      clear HV HB HY HC hR' ed
      go_wp2
      go_ret2
      exact ⟨rfl, R.out⟩
    · have R := hide (hR'.out.stored (HV.out.cut (o := j) (n := bs.length - j) (c := bs.length - j) (by omega) (Nat.le_refl _)))
      have ed : (bs.drop j).take (bs.length - j) = bs.drop j := List.take_of_length_le (by rw [List.length_drop]; exact Nat.le_refl _)
      rw [ed] at R
      clear HV HB HY HC hR' ed
      go_wp2
      go_ret2
      exact ⟨rfl, R.out⟩
def rdF (g : Nat) : Value := .func (.func 188) #[] #[.pointer (some ⟨g, 0, none⟩)]
theorem wNextCount (g : Nat) (bs : List Int) (w0 w : World) (hR : Rdr w0 w g bs) :
 Calls Tryz.prog 163 #[rdF g] w fun e w' => e = .returned (.tuple #[.int .i64 (rcN bs), .int .i64 (rcE bs)]) ∧ (rcE bs = 0 -> Rdr w0 w' g (bs.drop 4)) ∧ Kq (fun j => j < w.heap.size ∧ j ≠ g) w w' := by
 unfold rdF
 by_cases h4 : bs.length < 4
 · have H := hide (wNext_short 4 g bs w0 w hR h4 (by decide))
   have e1 : rcE bs = 7 := by unfold rcE; rw [if_pos h4]
   have e2 : rcN bs = 0 := by unfold rcN; rw [if_neg (by rw [e1]; decide)]
   rw [e1, e2]
   clear hR e1 e2
   go_enter Tryz.func163, Tryz.ntmps163
   go_wp2_with (go_at_call 188; refine H.out.mono ?_; rintro e w1 ⟨rfl, hw1⟩; subst hw1)
   go_ret2
   exact ⟨rfl, (fun h => by cases h), Kq.refl _ _⟩
 · have H := hide (wNext_long 4 g bs w0 w hR (by omega) (by decide) (by decide))
   have hy : By bs := by obtain ⟨_, ⟨v, _, hv⟩, _, _⟩ := hR; exact hv.by
   have hb := tk8_bd (hy.take 4)
   rw [List.length_take, Nat.min_eq_left (by omega), show (256 : Int) ^ 4 = 4294967296 by decide] at hb
   obtain ⟨b0, b1⟩ := hb
   clear hR hy
   by_cases hm : 2147483647 < tk8 (bs.take 4)
   · have e1 : rcE bs = 8 := by unfold rcE; rw [if_neg h4, if_pos hm]
     have e2 : rcN bs = 0 := by unfold rcN; rw [if_neg (by rw [e1]; decide)]
     rw [e1, e2]
     clear e1 e2
     generalize tk8 (bs.take 4) = n at *
     go_enter Tryz.func163, Tryz.ntmps163
     go_wp2_with (go_at_call 188; refine H.out.mono ?_; rintro e w1 ⟨rfl, hr1, hk1⟩)
     go_ret2
     exact ⟨rfl, (fun h => by cases h), hk1⟩
   · have e1 : rcE bs = 0 := by unfold rcE; rw [if_neg h4, if_neg hm]
     have e2 : rcN bs = tk8 (bs.take 4) := by unfold rcN; rw [if_pos e1]
     rw [e1, e2]
     clear e1 e2
     generalize tk8 (bs.take 4) = n at *
     go_enter Tryz.func163, Tryz.ntmps163
     go_wp2_with (go_at_call 188; refine H.out.mono ?_; rintro e w1 ⟨rfl, hr1, hk1⟩)
     go_ret2
     exact ⟨rfl, (fun _ => hr1), hk1⟩
theorem wReadCount (v : Value) (bs : List Int) (w : World) (h : Rb w v bs) :
 Calls Tryz.prog 169 #[v] w fun e w' => e = .returned (.tuple #[.int .i64 (rcN bs), .int .i64 (rcS bs), .int .i64 (rcE bs)]) ∧ Below w.heap.size w w' := by
 have H1 := hide (wReader v bs w w h (Below.refl _ _))
 have H2 := hide (fun g W (hr : Rdr w W g bs) => wNextCount g bs w W hr)
 unfold rdF at H2
 obtain ⟨ao, cap, rfl, _⟩ := h.spell
 clear h
 rcases rcE_or bs with he | he | he
 · have e2 : rcS bs = 4 := by unfold rcS; rw [if_pos he]
   rw [he, e2]
   rw [he] at H2
   clear he e2
   generalize rcN bs = n at *
   go_enter Tryz.func169, Tryz.ntmps169
   go_wp2_with (first
    | (go_at_call 164; refine H1.out.mono ?_; rintro e w1 ⟨g, rfl, hr1, hg1, hb1⟩)
    | (go_at_call 163; refine (H2.out _ _ hr1).mono ?_; rintro e w2 ⟨rfl, hr2, hk2⟩))
   go_ret3
   exact ⟨rfl, hb1.trans (hk2.below (fun j hj => ⟨Nat.lt_of_lt_of_le hj hb1.size, by omega⟩))⟩
 all_goals
  have e2 : rcS bs = 0 := by unfold rcS; rw [if_neg (by rw [he]; decide)]
  have e3 : rcN bs = 0 := by unfold rcN; rw [if_neg (by rw [he]; decide)]
  rw [he, e2, e3]
  rw [he, e3] at H2
  clear he e2 e3
  go_enter Tryz.func169, Tryz.ntmps169
  go_wp2_with (first
   | (go_at_call 164; refine H1.out.mono ?_; rintro e w1 ⟨g, rfl, hr1, hg1, hb1⟩)
   | (go_at_call 163; refine (H2.out _ _ hr1).mono ?_; rintro e w2 ⟨rfl, hr2, hk2⟩))
  go_ret3
  exact ⟨rfl, hb1.trans (hk2.below (fun j hj => ⟨Nat.lt_of_lt_of_le hj hb1.size, by omega⟩))⟩
def GivesB (N : Nat) (args : Array Value) (w : World) (e : Int) (bs : List Int) : Prop :=
 Calls Tryz.prog N args w fun r w' => ∃ v', r = .returned (.tuple #[v', .int .i64 e]) ∧ w'.ownsRow w.heap.size 5 1 v' bs.length (valb bs) ∧ Below w.heap.size w w'
theorem ctE_or (n : Int) : (0 <= n ∧ n <= 2147483647 ∧ ctE n = 0 ∧ ctL n = wd8 n 4) ∨ (¬ (0 <= n ∧ n <= 2147483647) ∧ ctE n = 2 ∧ ctL n = []) := by
 by_cases h : 0 <= n ∧ n <= 2147483647
 · have e : ctE n = 0 := by unfold ctE; rw [if_pos h]
   exact .inl ⟨h.1, h.2, e, by unfold ctL; rw [if_pos e]⟩
 · have e : ctE n = 2 := by unfold ctE; rw [if_neg h]
   exact .inr ⟨h, e, by unfold ctL; rw [if_neg (by rw [e]; decide)]⟩
theorem wCount (n : Int) (w : World) (hn : -9223372036854775808 <= n ∧ n <= 9223372036854775807) : GivesB 144 #[.int .i64 n] w (ctE n) (ctL n) := by
 unfold GivesB
 rcases ctE_or n with ⟨h0, h1, e1, e2⟩ | ⟨h0, e1, e2⟩
 · have H := hide (wPut (.slice none 0 0) 0 4 [] n w w ⟨h0, by omega⟩ (by decide) (by decide) (World.ownsRow_nil _ _ _ _) (Below.refl _ _))
   rw [e1, e2, wd8_len]
   rw [List.nil_append] at H
   clear e1 e2
   generalize wd8 n 4 = bs at *
   go_enter Tryz.func144, Tryz.ntmps144
   go_wp2_with (go_at_call 135; refine H.out.mono ?_; rintro e w1 ⟨v1, rfl, ho1, hb1⟩)
   go_ret2
   exact ⟨_, rfl, ho1, hb1⟩
 · rw [e1, e2]
   clear e1 e2
   obtain ⟨n0, n1⟩ := hn
   have hcase : n < 0 ∨ (0 <= n ∧ 2147483647 < n) := by omega
   clear h0
   rcases hcase with h | ⟨h, h'⟩
   · go_enter Tryz.func144, Tryz.ntmps144
     go_wp2
     go_ret2
     exact ⟨_, rfl, World.ownsRow_nil _ _ _ _, Below.refl _ _⟩
   · go_enter Tryz.func144, Tryz.ntmps144
     go_wp2
     go_ret2
     exact ⟨_, rfl, World.ownsRow_nil _ _ _ _, Below.refl _ _⟩
theorem Rb.take {w : World} {ao : Option Addr} {n cap : Nat} {bs : List Int} (h : Rb w (.slice ao n cap) bs) {k : Nat} (hk : k <= bs.length) : Rb w (.slice ao k cap) (bs.take k) := by
 obtain ⟨ao', cap', h1, h2, h3, h4⟩ := h
 cases h1
 have hl : (bs.take k).length = k := by rw [List.length_take]; omega
 refine ⟨ao, cap, by rw [hl], ⟨by omega, by have := h2.2.1; omega, h2.2.2⟩, h3.take k, fun hne => ?_⟩
 have hk0 : 0 < k := by apply Nat.pos_of_ne_zero; intro h0; rw [h0] at hne; simp at hne
 obtain ⟨b, off, rfl, hb, hc⟩ := h4 (by intro h; rw [h] at hk; simp at hk; omega)
 refine ⟨b, off, rfl, hb, fun i hi => ?_⟩
 rw [hl] at hi
 rw [getD_take hi]; exact hc i (by omega)
theorem rReadCount (v : Value) (bs : List Int) (w : World) (h : Rb w v bs) :
 Calls Tryz.prog 92 #[v] w fun e w' => e = .returned (.tuple #[.int .i64 (rcN bs), .int .i64 (rcS bs), .int .i64 (rcE bs)]) ∧ w' = w := by
 by_cases h4 : bs.length < 4
 · have e1 : rcE bs = 7 := by unfold rcE; rw [if_pos h4]
   have e2 : rcN bs = 0 := by unfold rcN; rw [if_neg (by rw [e1]; decide)]
   have e3 : rcS bs = 0 := by unfold rcS; rw [if_neg (by rw [e1]; decide)]
   rw [e1, e2, e3]
   obtain ⟨ao, cap, rfl, _⟩ := h.spell
   clear h e1 e2 e3
   go_enter Tryz.func92, Tryz.ntmps92
   go_wp2
   go_ret3
   exact ⟨rfl, rfl⟩
 · obtain ⟨b, off, cap, rfl, hcp, _⟩ := h.form (by omega)
   have hb := tk8_bd (h.by.take 4)
   have H := hide (rTaken _ _ w (h.take (k := 4) (by omega)) (by rw [List.length_take]; omega))
   rw [List.length_take, Nat.min_eq_left (by omega), show (256 : Int) ^ 4 = 4294967296 by decide] at hb
   obtain ⟨b0, b1⟩ := hb
   have hc4 : (4 : Int) <= (cap : Int) := by omega
   clear h
   by_cases hm : 2147483647 < tk8 (bs.take 4)
   · have e1 : rcE bs = 8 := by unfold rcE; rw [if_neg h4, if_pos hm]
     have e2 : rcN bs = 0 := by unfold rcN; rw [if_neg (by rw [e1]; decide)]
     have e3 : rcS bs = 0 := by unfold rcS; rw [if_neg (by rw [e1]; decide)]
     rw [e1, e2, e3]
     clear e1 e2 e3
     generalize tk8 (bs.take 4) = n at *
     go_enter Tryz.func92, Tryz.ntmps92
     go_wp2_with (go_at_call 64; refine H.out.mono ?_; rintro e w1 ⟨rfl, hw1⟩; subst hw1)
     go_ret3
     exact ⟨rfl, rfl⟩
   · have e1 : rcE bs = 0 := by unfold rcE; rw [if_neg h4, if_neg hm]
     have e2 : rcN bs = tk8 (bs.take 4) := by unfold rcN; rw [if_pos e1]
     have e3 : rcS bs = 4 := by unfold rcS; rw [if_pos e1]
     rw [e1, e2, e3]
     clear e1 e2 e3
     generalize tk8 (bs.take 4) = n at *
     go_enter Tryz.func92, Tryz.ntmps92
     go_wp2_with (go_at_call 64; refine H.out.mono ?_; rintro e w1 ⟨rfl, hw1⟩; subst hw1)
     go_ret3
     exact ⟨rfl, rfl⟩
theorem Rb.news_alloc {w : World} {ad : Addr} {n cap : Nat} {bs : List Int} (h : Rb w (.slice (some ad) n cap) bs) (o : Obj) : ∀ j u, (valb bs)[j]? = some u -> (w.alloc o).cell? (ad.add j) = some u :=
 (h.below (alloc_below w o)).news
theorem wClone (ad : Addr) (n cap : Nat) (bs : List Int) (w : World) (h : Rb w (.slice (some ad) n cap) bs) (hl : bs.length <= 140737488351232) :
 Calls Tryz.prog 165 #[.slice (some ad) n cap] w fun e w' => ∃ v', e = .returned v' ∧ w'.ownsRow w.heap.size 5 1 v' bs.length (valb bs) ∧ Below w.heap.size w w' := by
 obtain ⟨i0, hi0, hz0, hz1, hz2⟩ := info_parts u8_info
 have hn : n = bs.length := by obtain ⟨_, _, h1, _⟩ := h; cases h1; rfl
 have HN := hide (h.news_alloc (.cells #[] 5))
 have hown : (w.alloc (.cells #[] 5)).ownsRow w.heap.size 5 1 (.slice (some ⟨w.heap.size, 0, none⟩) 0 0) 0 (valb []) := own_empty w 5
 have hB := alloc_below w (.cells #[] 5)
 have hl2 : n <= 140737488351232 := by omega
 have HL : Hid ((valb bs).length = n) := by show _ = _; rw [valb_length, hn]
 have HV1 := hide (valb_one bs)
 have HE : Hid (bs.length = n) := hn.symm
 rw [HE.out]
 have hne : ∀ W : World, (binOp .eql 30 (.slice (some ad) n cap) (.slice none 0 0)).run Tryz.prog W = .ok (.bool false) W := fun W => Lib.run_eql_slice_nil W _ _ (some ad) n cap 0 0 Tryz.underlying30
 clear h hn hl
 go_enter Tryz.func165, Tryz.ntmps165
 go_wp2_with (at_builtin; refine wpList_append_own _ rfl _ _ _ rfl w.heap.size 5 i0 _ 1 1 Tryz.underlying30 hi0 hz0 hz1 hz2 rfl (by omega) _ 0 (valb []) rfl hown ad n cap (valb bs) rfl (by rw [HL.out]; omega) HN.out HV1.out (by unfold maxLen; omega) (by omega) (by simp) ?_; intro v' w1 hown1 hgrow _)
 go_ret
 exact ⟨_, rfl, by simpa [valb] using hown1, hB.grown hgrow (by simp) (fun k hk => by cases hk; exact Nat.le_refl _)⟩
theorem slE_or (bs : List Int) : (1048576 < bs.length ∧ slE bs = 4 ∧ slL sum8 bs = []) ∨ (bs.length <= 1048576 ∧ slE bs = 0 ∧ slL sum8 bs = slF sum8 bs) := by
 by_cases h : 1048576 < bs.length
 · have e : slE bs = 4 := by unfold slE; rw [if_pos h]
   exact .inl ⟨h, e, by unfold slL; rw [if_neg (by rw [e]; decide)]⟩
 · have e : slE bs = 0 := by unfold slE; rw [if_neg h]
   exact .inr ⟨by omega, e, by unfold slL; rw [if_pos e]⟩
theorem wSeal (v : Value) (bs : List Int) (w : World) (h : Rb w v bs) : GivesB 105 #[v] w (slE bs) (slL sum8 bs) := by
 unfold GivesB
 rcases slE_or bs with ⟨hl, e1, e2⟩ | ⟨hl, e1, e2⟩
 · rw [e1, e2]
   obtain ⟨ao, cap, rfl, _⟩ := h.spell
   clear h e1 e2
   go_enter Tryz.func105, Tryz.ntmps105
   go_wp2
   go_ret2
   exact ⟨_, rfl, World.ownsRow_nil _ _ _ _, Below.refl _ _⟩
 · rw [e1, e2, slF_len]
   clear e1 e2
   obtain ⟨i0, hi0, hz0, hz1, hz2⟩ := info_parts u8_info
   have hy := h.by
   have HR := hide h
   obtain ⟨ao, cap, rfl, _⟩ := h.spell
   have HH : Hid (wd8 (bs.length : Int) 4 ++ bs = hd8 bs) := rfl
   have HF : Hid (hd8 bs ++ wd8 (sum8 (hd8 bs)) 8 = slF sum8 bs) := rfl
   have HHb := hide (hd8_by hy)
   have HHl := hide (hd8_len bs)
   have hsb := sum8_bd (hd8 bs)
   obtain ⟨hd, HD⟩ : ∃ hd, Hid (hd8 bs = hd) := ⟨_, rfl⟩
   obtain ⟨zs, HZ⟩ : ∃ zs, Hid (slF sum8 bs = zs) := ⟨_, rfl⟩
   rw [HD.out] at HH HF HHb HHl hsb
   rw [HZ.out] at HF ⊢
   clear h hy HD HZ
   have HA : Hid (valb (wd8 (bs.length : Int) 4) ++ valb bs = valb hd) := by show _ = _; rw [valb_app, HH.out]
   obtain ⟨n, HN⟩ : ∃ n, Hid (bs.length = n) := ⟨_, rfl⟩
   rw [HN.out] at hl HR HA HHl ⊢
   cases ao with
   | none =>
    obtain ⟨hn0, hc0, hb0⟩ := HR.out.none_
    subst hn0 hc0 hb0
    have HA2 : Hid (valb (wd8 (0 : Nat) 4) = valb hd) := by show _ = _; have := HA.out; simpa [valb] using this
    go_enter Tryz.func105, Tryz.ntmps105
    go_wp2_with (first
     | (at_make; refine wpList_make_own _ rfl _ _ 30 rfl w.heap.size 5 i0 (.int .u8 0) 1 Tryz.underlying30 hi0 hz0 hz1 .i64 .i64 _ 12 rfl rfl (by omega) (by rw [hz2]; omega) (by unfold maxLen; omega) (Nat.le_refl _) ?_; intro w3 hown3 hgrow3; have hB3 := below_grown_none hgrow3)
     | (at_builtin; refine wpList_append_own_none rfl _ _ _ rfl w.heap.size 5 i0 1 Tryz.underlying30 hi0 _ 4 _ rfl ho4 rfl ?_; have ho5 := ho4; rw [HA2.out] at ho5; have hr5 := rb_of_own ho5 HHb.out (by rw [HHl.out]; omega))
     | (go_at_call 136; refine (wSum _ hd w4 hr5).mono ?_; rintro e w6 ⟨rfl, hw6⟩; subst hw6)
     | (go_at_call 135; refine (wPut _ 4 8 hd (sum8 hd) w w6 hsb (by decide) (by omega) ho5 hB4).mono ?_; rintro e w7 ⟨v7, rfl, ho7, hB7⟩)
     | (go_at_call 135; refine (wPut _ 0 4 [] ((0 : Nat) : Int) w w3 ⟨by omega, by omega⟩ (by decide) (by decide) hown3 hB3).mono ?_; rintro e w4 ⟨v4, rfl, ho4, hB4⟩; rw [List.nil_append] at ho4; obtain ⟨a4, c4, hv4⟩ := own_form ho4; subst hv4))
    go_ret2
    rw [HF.out] at ho7
    exact ⟨_, rfl, ho7, hB7⟩
   | some ad =>
    have HV1 := hide (valb_one bs)
    have HVl : Hid ((valb bs).length = n * 1) := by show _ = _; rw [valb_length, HN.out, Nat.mul_one]
    go_enter Tryz.func105, Tryz.ntmps105
    go_wp2_with (first
     | (at_make; refine wpList_make_own _ rfl _ _ 30 rfl w.heap.size 5 i0 (.int .u8 0) 1 Tryz.underlying30 hi0 hz0 hz1 .i64 .i64 _ (n + 12) rfl rfl (by omega) (by rw [hz2]; omega) (by unfold maxLen; omega) (Nat.le_refl _) ?_; intro w3 hown3 hgrow3; have hB3 := below_grown_none hgrow3)
     | (at_builtin; refine wpList_append_own _ rfl _ _ _ rfl w.heap.size 5 i0 _ 1 1 Tryz.underlying30 hi0 hz0 hz1 hz2 rfl (by omega) _ 4 _ rfl ho4 ad n cap (valb bs) rfl HVl.out (HR.out.below hB4).news HV1.out (by unfold maxLen; omega) (by omega) (by have := hB4.size; omega) ?_; intro v5 w5 ho5 hg5 _; have hB5 := hB4.grown hg5 (by have := hB4.size; omega) (own_base ho4); rw [HA.out] at ho5; have hr5 := rb_of_own ho5 HHb.out (by rw [HHl.out]; omega); obtain ⟨a5, c5, hv5⟩ := own_form ho5; subst hv5)
     | (go_at_call 136; refine (wSum _ hd w5 hr5).mono ?_; rintro e w6 ⟨rfl, hw6⟩; subst hw6)
     | (go_at_call 135; refine (wPut _ (4 + n) 8 hd (sum8 hd) w w6 hsb (by decide) (by omega) ho5 hB5).mono ?_; rintro e w7 ⟨v7, rfl, ho7, hB7⟩)
     | (go_at_call 135; refine (wPut _ 0 4 [] (n : Int) w w3 ⟨by omega, by omega⟩ (by decide) (by decide) hown3 hB3).mono ?_; rintro e w4 ⟨v4, rfl, ho4, hB4⟩; rw [List.nil_append] at ho4; obtain ⟨a4, c4, hv4⟩ := own_form ho4; subst hv4))
    go_ret2
    rw [HF.out] at ho7
    exact ⟨_, rfl, by have e : 4 + n + 8 = 12 + n := by omega
                      rw [e] at ho7; exact ho7, hB7⟩
def usSo (S : List Int -> Int) (bs : List Int) : Nat := if usE S bs = 0 then 12 + usN bs else 0
theorem us_no {S : List Int -> Int} {bs : List Int} {e : Int} (h : usE S bs = e) (he : e ≠ 0) : usL S bs = [] ∧ usSo S bs = 0 := by
 have : usE S bs ≠ 0 := by rw [h]; exact he
 exact ⟨by unfold usL; rw [if_neg this], by unfold usSo; rw [if_neg this]⟩
theorem us_yes {S : List Int -> Int} {bs : List Int} (h : usE S bs = 0) : usL S bs = (bs.drop 4).take (usN bs) ∧ usSo S bs = 12 + usN bs :=
 ⟨by unfold usL; rw [if_pos h], by unfold usSo; rw [if_pos h]⟩
theorem us_cases (S : List Int -> Int) (bs : List Int) : (rcE bs ≠ 0 ∧ usE S bs = rcE bs) ∨ (rcE bs = 0 ∧ 1048576 < usN bs ∧ usE S bs = 4) ∨
 (rcE bs = 0 ∧ usN bs <= 1048576 ∧ bs.length < 12 + usN bs ∧ usE S bs = 7) ∨
 (rcE bs = 0 ∧ usN bs <= 1048576 ∧ 12 + usN bs <= bs.length ∧ tk8 ((bs.drop (4 + usN bs)).take 8) ≠ S (bs.take (4 + usN bs)) ∧ usE S bs = 80) ∨
 (rcE bs = 0 ∧ usN bs <= 1048576 ∧ 12 + usN bs <= bs.length ∧ tk8 ((bs.drop (4 + usN bs)).take 8) = S (bs.take (4 + usN bs)) ∧ usE S bs = 0) := by
 unfold usE
 by_cases h1 : rcE bs ≠ 0
 · left; exact ⟨h1, by rw [if_pos h1]⟩
 right
 by_cases h2 : 1048576 < usN bs
 · left; exact ⟨by omega, h2, by rw [if_neg h1, if_pos h2]⟩
 right
 by_cases h3 : bs.length < 12 + usN bs
 · left; exact ⟨by omega, by omega, h3, by rw [if_neg h1, if_neg h2, if_pos h3]⟩
 right
 by_cases h4 : tk8 ((bs.drop (4 + usN bs)).take 8) = S (bs.take (4 + usN bs))
 · right; exact ⟨by omega, by omega, by omega, h4, by rw [if_neg h1, if_neg h2, if_neg h3, if_pos h4]⟩
 · left; exact ⟨by omega, by omega, by omega, h4, by rw [if_neg h1, if_neg h2, if_neg h3, if_neg h4]⟩
theorem rcN_usN {bs : List Int} (hy : By bs) (h : rcE bs = 0) : rcN bs = ((usN bs : Nat) : Int) := by
 unfold rcN usN
 rw [if_pos h, Int.toNat_of_nonneg (tk8_bd (hy.take 4)).1]
theorem rcN_no' {bs : List Int} (h : rcE bs ≠ 0) : rcN bs = 0 := by unfold rcN; rw [if_neg h]
def GivesU (N : Nat) (args : Array Value) (w : World) (bs : List Int) : Prop :=
 Calls Tryz.prog N args w fun r w' => ∃ v', r = .returned (.tuple #[v', .int .i64 (usSo sum8 bs), .int .i64 (usE sum8 bs)]) ∧ w'.ownsRow w.heap.size 5 1 v' (usL sum8 bs).length (valb (usL sum8 bs)) ∧ Below w.heap.size w w'
theorem wUnseal (v : Value) (bs : List Int) (w : World) (h : Rb w v bs) : GivesU 126 #[v] w bs := by
 unfold GivesU
 have H1 := hide (wReader v bs w w h (Below.refl _ _))
 have HC := hide (fun g W (hr : Rdr w W g bs) => wNextCount g bs w W hr)
 unfold rdF at HC
 have hy := h.by
 rcases us_cases sum8 bs with ⟨hc, he⟩ | ⟨hc, hn, he⟩ | ⟨hc, hn, hl, he⟩ | ⟨hc, hn, hl, hs, he⟩ | ⟨hc, hn, hl, hs, he⟩
 · obtain ⟨e1, e2⟩ := us_no he hc
   rw [he, e1, e2]
   rw [rcN_no' hc] at HC
   have hcc : rcE bs = 7 ∨ rcE bs = 8 := by have := rcE_or bs; omega
   obtain ⟨ao, cap, rfl, _⟩ := h.spell
   clear he e1 e2 hy hc h
   rcases hcc with hcc | hcc
   all_goals
    rw [hcc] at HC ⊢
    clear hcc
    go_enter Tryz.func126, Tryz.ntmps126
    go_wp2_with (first
     | (go_at_call 164; refine H1.out.mono ?_; rintro e w1 ⟨g, rfl, hr1, hg1, hb1⟩)
     | (go_at_call 163; refine (HC.out _ _ hr1).mono ?_; rintro e w4 ⟨rfl, hr4, hk4⟩))
    go_ret3
    exact ⟨_, rfl, World.ownsRow_nil _ _ _ _, hb1.trans (hk4.below (fun j hj => ⟨Nat.lt_of_lt_of_le hj hb1.size, by omega⟩))⟩
 · obtain ⟨e1, e2⟩ := us_no he (by decide)
   rw [he, e1, e2]
   rw [rcN_usN hy hc, hc] at HC
   obtain ⟨ao, cap, rfl, _⟩ := h.spell
   have hn2 : (1048576 : Int) < ((usN bs : Nat) : Int) := by omega
   clear he e1 e2 hy hc h hn
   generalize ((usN bs : Nat) : Int) = n at *
   go_enter Tryz.func126, Tryz.ntmps126
   go_wp2_with (first
    | (go_at_call 164; refine H1.out.mono ?_; rintro e w1 ⟨g, rfl, hr1, hg1, hb1⟩)
    | (go_at_call 163; refine (HC.out _ _ hr1).mono ?_; rintro e w4 ⟨rfl, hr4, hk4⟩))
   go_ret3
   exact ⟨_, rfl, World.ownsRow_nil _ _ _ _, hb1.trans (hk4.below (fun j hj => ⟨Nat.lt_of_lt_of_le hj hb1.size, by omega⟩))⟩
 · obtain ⟨e1, e2⟩ := us_no he (by decide)
   rw [he, e1, e2]
   rw [rcN_usN hy hc, hc] at HC
   obtain ⟨ao, cap, rfl, _⟩ := h.spell
   clear he e1 e2 hy hc h
   generalize usN bs = n at *
   go_enter Tryz.func126, Tryz.ntmps126
   go_wp2_with (first
    | (go_at_call 164; refine H1.out.mono ?_; rintro e w1 ⟨g, rfl, hr1, hg1, hb1⟩)
    | (go_at_call 163; refine (HC.out _ _ hr1).mono ?_; rintro e w4 ⟨rfl, hr4, hk4⟩))
   go_ret3
   exact ⟨_, rfl, World.ownsRow_nil _ _ _ _, hb1.trans (hk4.below (fun j hj => ⟨Nat.lt_of_lt_of_le hj hb1.size, by omega⟩))⟩
 · obtain ⟨e1, e2⟩ := us_no he (by decide)
   rw [he, e1, e2]
   rw [rcN_usN hy hc, hc] at HC
   obtain ⟨b, off, cap, rfl, hcp, _⟩ := h.form (by omega)
   have HR := hide h
   clear he e1 e2 hy hc h
   generalize usN bs = n at *
   have hcn : (4 : Int) + (n : Int) <= (cap : Int) := by omega
   have hne : ¬ bs.length = 4 + n := by omega
   have Hcut : Hid (Rb w (.slice (some ⟨b, off + (4 + n), none⟩) (bs.length - (4 + n)) (bs.length - (4 + n))) (bs.drop (4 + n))) := by
    have := HR.out.cut (o := 4 + n) (n := bs.length - (4 + n)) (c := bs.length - (4 + n)) (by omega) (Nat.le_refl _)
    rw [List.take_of_length_le (by rw [List.length_drop]; exact Nat.le_refl _)] at this
    exact this
   have Htk : Hid (Rb w (.slice (some ⟨b, off, none⟩) (4 + n) (4 + n)) (bs.take (4 + n))) := by
    have := (HR.out.take (k := 4 + n) (by omega)).tight
    rw [List.length_take, Nat.min_eq_left (by omega)] at this
    exact this
   have hdl : 8 <= (bs.drop (4 + n)).length := by rw [List.length_drop]; omega
   go_enter Tryz.func126, Tryz.ntmps126
   go_wp2_with (first
    | (go_at_call 164; refine (wReader _ _ w w4 Hcut.out hB4).mono ?_; rintro e w5 ⟨g5, rfl, hr5, hg5, hb5⟩)
    | (go_at_call 164; refine H1.out.mono ?_; rintro e w1 ⟨g, rfl, hr1, hg1, hb1⟩)
    | (go_at_call 163; refine (HC.out _ _ hr1).mono ?_; rintro e w4 ⟨rfl, hr4, hk4⟩; have hB4 := hb1.trans (hk4.below (fun j hj => ⟨Nat.lt_of_lt_of_le hj hb1.size, by omega⟩)))
    | (go_at_call 188; refine (wNext_long 8 g5 _ w w5 hr5 hdl (by decide) (by decide)).mono ?_; rintro e w6 ⟨rfl, hr6, hk6⟩; have hB5 := Below.next hB4 hb5; have hB6 := hB5.trans (hk6.below (fun j hj => ⟨Nat.lt_of_lt_of_le hj hB5.size, by have := hB4.size; omega⟩)))
    | (go_at_call 136; refine (wSum _ _ w6 (Htk.out.below hB6)).mono ?_; rintro e w7 ⟨rfl, hw7⟩; subst hw7))
   go_ret3
   exact ⟨_, rfl, World.ownsRow_nil _ _ _ _, hB6⟩
 · obtain ⟨e1, e2⟩ := us_yes he
   rw [he, e1, e2]
   rw [rcN_usN hy hc, hc] at HC
   obtain ⟨b, off, cap, rfl, hcp, _⟩ := h.form (by omega)
   have HR := hide h
   clear he e1 e2 hy hc h
   generalize usN bs = n at *
   have hcn : (4 : Int) + (n : Int) <= (cap : Int) := by omega
   have hne : ¬ bs.length = 4 + n := by omega
   have Hcut : Hid (Rb w (.slice (some ⟨b, off + (4 + n), none⟩) (bs.length - (4 + n)) (bs.length - (4 + n))) (bs.drop (4 + n))) := by
    have := HR.out.cut (o := 4 + n) (n := bs.length - (4 + n)) (c := bs.length - (4 + n)) (by omega) (Nat.le_refl _)
    rw [List.take_of_length_le (by rw [List.length_drop]; exact Nat.le_refl _)] at this
    exact this
   have Htk : Hid (Rb w (.slice (some ⟨b, off, none⟩) (4 + n) (4 + n)) (bs.take (4 + n))) := by
    have := (HR.out.take (k := 4 + n) (by omega)).tight
    rw [List.length_take, Nat.min_eq_left (by omega)] at this
    exact this
   have hdl : 8 <= (bs.drop (4 + n)).length := by rw [List.length_drop]; omega
   have HLL : Hid (((bs.drop 4).take n).length = n) := by show _ = _; rw [List.length_take, List.length_drop]; omega
   have hll : ((bs.drop 4).take n).length <= 140737488351232 := by rw [HLL.out]; omega
   rcases Nat.eq_zero_or_pos n with hn0 | hn0
   · subst hn0
     go_enter Tryz.func126, Tryz.ntmps126
     go_wp2_with (first
      | (go_at_call 164; refine (wReader _ _ w w4 Hcut.out hB4).mono ?_; rintro e w5 ⟨g5, rfl, hr5, hg5, hb5⟩)
      | (go_at_call 164; refine H1.out.mono ?_; rintro e w1 ⟨g, rfl, hr1, hg1, hb1⟩)
      | (go_at_call 163; refine (HC.out _ _ hr1).mono ?_; rintro e w4 ⟨rfl, hr4, hk4⟩; have hB4 := hb1.trans (hk4.below (fun j hj => ⟨Nat.lt_of_lt_of_le hj hb1.size, by omega⟩)))
      | (go_at_call 188; refine (wNext_long 8 g5 _ w w5 hr5 hdl (by decide) (by decide)).mono ?_; rintro e w6 ⟨rfl, hr6, hk6⟩; have hB5 := Below.next hB4 hb5; have hB6 := hB5.trans (hk6.below (fun j hj => ⟨Nat.lt_of_lt_of_le hj hB5.size, by have := hB4.size; omega⟩)))
      | (go_at_call 136; refine (wSum _ _ w6 (Htk.out.below hB6)).mono ?_; rintro e w7 ⟨rfl, hw7⟩; subst hw7)
      | (go_at_call 165; refine (wClone _ _ _ _ _ (rb_empty _ _ _) (by simp)).mono ?_; rintro e w8 ⟨v8, rfl, ho8, hb8⟩))
     go_ret3
     exact ⟨_, rfl, own_mono ho8 hB6.size, Below.next hB6 hb8⟩
   · have hn1 : ¬ n = 0 := by omega
     have HSz : Hid (((12 + n : Nat) : Int) = 4 + (n : Int) + 8) := by show _ = _; omega
     rw [HSz.out]
     have Hin := hide (HR.out.cut (o := 4) (n := n) (c := n) (by omega) (Nat.le_refl _))
     go_enter Tryz.func126, Tryz.ntmps126
     go_wp2_with (first
      | (go_at_call 164; refine (wReader _ _ w w4 Hcut.out hB4).mono ?_; rintro e w5 ⟨g5, rfl, hr5, hg5, hb5⟩)
      | (go_at_call 164; refine H1.out.mono ?_; rintro e w1 ⟨g, rfl, hr1, hg1, hb1⟩)
      | (go_at_call 163; refine (HC.out _ _ hr1).mono ?_; rintro e w4 ⟨rfl, hr4, hk4⟩; have hB4 := hb1.trans (hk4.below (fun j hj => ⟨Nat.lt_of_lt_of_le hj hb1.size, by omega⟩)))
      | (go_at_call 188; refine (wNext_long 8 g5 _ w w5 hr5 hdl (by decide) (by decide)).mono ?_; rintro e w6 ⟨rfl, hr6, hk6⟩; have hB5 := Below.next hB4 hb5; have hB6 := hB5.trans (hk6.below (fun j hj => ⟨Nat.lt_of_lt_of_le hj hB5.size, by have := hB4.size; omega⟩)))
      | (go_at_call 136; refine (wSum _ _ w6 (Htk.out.below hB6)).mono ?_; rintro e w7 ⟨rfl, hw7⟩; subst hw7)
      | (go_at_call 165; refine (wClone _ _ _ _ _ (Hin.out.below hB6) hll).mono ?_; rintro e w8 ⟨v8, rfl, ho8, hb8⟩))
     go_ret3
     exact ⟨_, rfl, own_mono ho8 hB6.size, Below.next hB6 hb8⟩
theorem rBytes (v : Value) (bs : List Int) (w : World) (h : Rb w v bs) (hl : bs.length <= 140737488351232) :
 Calls Tryz.prog 36 #[v] w fun e w' => ∃ v', e = .returned v' ∧ w'.ownsRow w.heap.size 5 1 v' bs.length (valb bs) ∧ Below w.heap.size w w' := by
 obtain ⟨i0, hi0, hz0, hz1, hz2⟩ := info_parts u8_info
 have hown : (w.alloc (.cells #[] 5)).ownsRow w.heap.size 5 1 (.slice (some ⟨w.heap.size, 0, none⟩) 0 0) 0 (valb []) := own_empty w 5
 have hB := alloc_below w (.cells #[] 5)
 obtain ⟨ao, cap, rfl, _⟩ := h.spell
 cases ao with
 | none =>
  obtain ⟨hn0, hc0, hb0⟩ := h.none_
  subst hb0 hc0
  clear h hn0 hl
  go_enter Tryz.func36, Tryz.ntmps36
  go_wp2
  go_ret
  exact ⟨_, rfl, hown, hB⟩
 | some ad =>
  have HN := hide (h.news_alloc (.cells #[] 5))
  have HL : Hid ((valb bs).length = bs.length * 1) := by show _ = _; rw [valb_length, Nat.mul_one]
  have HV1 := hide (valb_one bs)
  clear h
  go_enter Tryz.func36, Tryz.ntmps36
  go_wp2_with (at_builtin; refine wpList_append_own _ rfl _ _ _ rfl w.heap.size 5 i0 _ 1 1 Tryz.underlying30 hi0 hz0 hz1 hz2 rfl (by omega) _ 0 (valb []) rfl hown ad bs.length cap (valb bs) rfl HL.out HN.out HV1.out (by unfold maxLen; omega) (by omega) (by simp) ?_; intro v' w1 hown1 hgrow _)
  go_ret
  exact ⟨_, rfl, by simpa [valb] using hown1, hB.grown hgrow (by simp) (fun k hk => by cases hk; exact Nat.le_refl _)⟩
theorem rSeal (v : Value) (bs : List Int) (w : World) (h : Rb w v bs) : GivesB 70 #[v] w (slE bs) (slL sum8 bs) := by
 unfold GivesB
 rcases slE_or bs with ⟨hl, e1, e2⟩ | ⟨hl, e1, e2⟩
 · rw [e1, e2]
   obtain ⟨ao, cap, rfl, _⟩ := h.spell
   clear h e1 e2
   go_enter Tryz.func70, Tryz.ntmps70
   go_wp2
   go_ret2
   exact ⟨_, rfl, World.ownsRow_nil _ _ _ _, Below.refl _ _⟩
 · rw [e1, e2, slF_len]
   clear e1 e2
   obtain ⟨i0, hi0, hz0, hz1, hz2⟩ := info_parts u8_info
   have hy := h.by
   have HR := hide h
   obtain ⟨ao, cap, rfl, _⟩ := h.spell
   have HH : Hid (wd8 (bs.length : Int) 4 ++ bs = hd8 bs) := rfl
   have HF : Hid (hd8 bs ++ wd8 (sum8 (hd8 bs)) 8 = slF sum8 bs) := rfl
   have HHb := hide (hd8_by hy)
   have HHl := hide (hd8_len bs)
   have hsb := sum8_bd (hd8 bs)
   obtain ⟨hd, HD⟩ : ∃ hd, Hid (hd8 bs = hd) := ⟨_, rfl⟩
   obtain ⟨zs, HZ⟩ : ∃ zs, Hid (slF sum8 bs = zs) := ⟨_, rfl⟩
   rw [HD.out] at HH HF HHb HHl hsb
   rw [HZ.out] at HF ⊢
   clear h hy HD HZ
   have HA : Hid (valb (wd8 (bs.length : Int) 4) ++ valb bs = valb hd) := by show _ = _; rw [valb_app, HH.out]
   have HG : Hid (valb hd ++ valb (wd8 (sum8 hd) 8) = valb zs) := by show _ = _; rw [valb_app, HF.out]
   have HW8 : Hid ((valb (wd8 (sum8 hd) 8)).length = 8 * 1) := by show _ = _; rw [valb_length, wd8_len]
   have HW1 := hide (valb_one (wd8 (sum8 hd) 8))
   have HWb := hide (wd8_by (sum8 hd) 8)
   have HWl := hide (wd8_len (sum8 hd) 8)
   obtain ⟨n, HN⟩ : ∃ n, Hid (bs.length = n) := ⟨_, rfl⟩
   rw [HN.out] at hl HR HA HHl ⊢
   cases ao with
   | none =>
    obtain ⟨hn0, hc0, hb0⟩ := HR.out.none_
    subst hn0 hc0 hb0
    have HA2 : Hid (valb (wd8 (0 : Nat) 4) = valb hd) := by show _ = _; have := HA.out; simpa [valb] using this
    go_enter Tryz.func70, Tryz.ntmps70
    go_wp2_with (first
     | (at_builtin; refine wpList_append_own _ rfl _ _ _ rfl w.heap.size 5 i0 _ 1 1 Tryz.underlying30 hi0 hz0 hz1 hz2 rfl (by omega) _ 4 _ rfl (own_below ho5 hb7) ⟨g7, 0, none⟩ 8 c7 (valb (wd8 (sum8 hd) 8)) rfl HW8.out hr7.news HW1.out (by unfold maxLen; omega) (by omega) (by have := hB7.size; omega) ?_; intro v8 w8 ho8 hg8 _; have hB8 := hB7.grown hg8 (by have := hB7.size; omega) (own_base ho5))
     | (at_builtin; refine wpList_append_own_none rfl _ _ _ rfl w.heap.size 5 i0 1 Tryz.underlying30 hi0 _ 4 _ rfl ho4 rfl ?_; have ho5 := ho4; rw [HA2.out] at ho5; have hr5 := rb_of_own ho5 HHb.out (by rw [HHl.out]; omega))
     | (go_at_call 93; refine (rSum _ hd w4 hr5).mono ?_; rintro e w6 ⟨rfl, hw6⟩; subst hw6)
     | (go_at_call 68; refine (rWide 8 (sum8 hd) w6 hsb (by decide)).mono ?_; rintro e w7 ⟨v7, rfl, ho7, hb7⟩; have hr7 := rb_of_own ho7 HWb.out (by rw [HWl.out]; omega); obtain ⟨g7, c7, hv7, _⟩ := ho7.form (by omega); subst hv7; have hB7 := Below.next hB4 hb7)
     | (go_at_call 68; refine (rWide 4 ((0 : Nat) : Int) w ⟨by omega, by omega⟩ (by decide)).mono ?_; rintro e w4 ⟨v4, rfl, ho4, hB4⟩; obtain ⟨a4, c4, hv4⟩ := own_form ho4; subst hv4))
    go_ret2
    rw [HG.out] at ho8
    exact ⟨_, rfl, ho8, hB8⟩
   | some ad =>
    have HV1 := hide (valb_one bs)
    have HVl : Hid ((valb bs).length = n * 1) := by show _ = _; rw [valb_length, HN.out, Nat.mul_one]
    go_enter Tryz.func70, Tryz.ntmps70
    go_wp2_with (first
     | (at_builtin; refine wpList_append_own _ rfl _ _ _ rfl w.heap.size 5 i0 _ 1 1 Tryz.underlying30 hi0 hz0 hz1 hz2 rfl (by omega) _ (4 + n) _ rfl (own_below ho5 hb7) ⟨g7, 0, none⟩ 8 c7 (valb (wd8 (sum8 hd) 8)) rfl HW8.out hr7.news HW1.out (by unfold maxLen; omega) (by omega) (by have := hB7.size; omega) ?_; intro v8 w8 ho8 hg8 _; have hB8 := hB7.grown hg8 (by have := hB7.size; omega) (own_base ho5))
     | (at_builtin; refine wpList_append_own _ rfl _ _ _ rfl w.heap.size 5 i0 _ 1 1 Tryz.underlying30 hi0 hz0 hz1 hz2 rfl (by omega) _ 4 _ rfl ho4 ad n cap (valb bs) rfl HVl.out (HR.out.below hB4).news HV1.out (by unfold maxLen; omega) (by omega) (by have := hB4.size; omega) ?_; intro v5 w5 ho5 hg5 _; have hB5 := hB4.grown hg5 (by have := hB4.size; omega) (own_base ho4); rw [HA.out] at ho5; have hr5 := rb_of_own ho5 HHb.out (by rw [HHl.out]; omega); obtain ⟨a5, c5, hv5⟩ := own_form ho5; subst hv5)
     | (go_at_call 93; refine (rSum _ hd w5 hr5).mono ?_; rintro e w6 ⟨rfl, hw6⟩; subst hw6)
     | (go_at_call 68; refine (rWide 8 (sum8 hd) w6 hsb (by decide)).mono ?_; rintro e w7 ⟨v7, rfl, ho7, hb7⟩; have hr7 := rb_of_own ho7 HWb.out (by rw [HWl.out]; omega); obtain ⟨g7, c7, hv7, _⟩ := ho7.form (by omega); subst hv7; have hB7 := Below.next hB5 hb7)
     | (go_at_call 68; refine (rWide 4 (n : Int) w ⟨by omega, by omega⟩ (by decide)).mono ?_; rintro e w4 ⟨v4, rfl, ho4, hB4⟩; obtain ⟨a4, c4, hv4⟩ := own_form ho4; subst hv4))
    go_ret2
    rw [HG.out] at ho8
    exact ⟨_, rfl, by have e : 4 + n + 8 = 12 + n := by omega
                      rw [e] at ho8; exact ho8, hB8⟩
theorem rUnseal (v : Value) (bs : List Int) (w : World) (h : Rb w v bs) : GivesU 62 #[v] w bs := by
 unfold GivesU
 have HC := hide (rReadCount v bs w h)
 have hy := h.by
 have hlen := h.len
 rcases us_cases sum8 bs with ⟨hc, he⟩ | ⟨hc, hn, he⟩ | ⟨hc, hn, hl, he⟩ | ⟨hc, hn, hl, hs, he⟩ | ⟨hc, hn, hl, hs, he⟩
 · obtain ⟨e1, e2⟩ := us_no he hc
   rw [he, e1, e2]
   rw [rcN_no' hc] at HC
   have hcc : rcE bs = 7 ∨ rcE bs = 8 := by have := rcE_or bs; omega
   obtain ⟨ao, cap, rfl, _⟩ := h.spell
   clear he e1 e2 hy hc h
   generalize rcS bs = sz at *
   rcases hcc with hcc | hcc
   all_goals
    rw [hcc] at HC ⊢
    clear hcc
    go_enter Tryz.func62, Tryz.ntmps62
    go_wp2_with (go_at_call 92; refine HC.out.mono ?_; rintro e w1 ⟨rfl, hw1⟩; subst hw1)
    go_quiet (fail)
    go_wp2
    go_ret3
    exact ⟨_, rfl, World.ownsRow_nil _ _ _ _, below_drewN (Below.refl _ _) nq⟩
 · obtain ⟨e1, e2⟩ := us_no he (by decide)
   rw [he, e1, e2]
   rw [rcN_usN hy hc, hc] at HC
   obtain ⟨ao, cap, rfl, _⟩ := h.spell
   have hn2 : (1048576 : Int) < ((usN bs : Nat) : Int) := by omega
   clear he e1 e2 hy hc h hn
   generalize ((usN bs : Nat) : Int) = n at *
   generalize rcS bs = sz at *
   go_enter Tryz.func62, Tryz.ntmps62
   go_wp2_with (go_at_call 92; refine HC.out.mono ?_; rintro e w1 ⟨rfl, hw1⟩; subst hw1)
   go_quiet (fail)
   go_wp2
   go_ret3
   exact ⟨_, rfl, World.ownsRow_nil _ _ _ _, below_drewN (Below.refl _ _) nq⟩
 · obtain ⟨e1, e2⟩ := us_no he (by decide)
   rw [he, e1, e2]
   rw [rcN_usN hy hc, hc] at HC
   obtain ⟨ao, cap, rfl, _⟩ := h.spell
   clear he e1 e2 hy hc h
   generalize usN bs = n at *
   generalize rcS bs = sz at *
   go_enter Tryz.func62, Tryz.ntmps62
   go_wp2_with (go_at_call 92; refine HC.out.mono ?_; rintro e w1 ⟨rfl, hw1⟩; subst hw1)
   go_quiet (fail)
   go_wp2
   go_ret3
   exact ⟨_, rfl, World.ownsRow_nil _ _ _ _, below_drewN (Below.refl _ _) nq⟩
 all_goals
  rw [rcN_usN hy hc, hc] at HC
  obtain ⟨b, off, cap, rfl, hcp, _⟩ := h.form (by omega)
  have HR := hide h
  have HT : Hid (∀ q, Calls Tryz.prog 64 #[.slice (some ⟨b, off + (4 + usN bs), none⟩) (12 + usN bs - (4 + usN bs)) (cap - (4 + usN bs))] (w.drewN q) fun e w' => e = .returned (.int .u64 (tk8 ((bs.drop (4 + usN bs)).take 8))) ∧ w' = w.drewN q) := fun q => by
   rw [show 12 + usN bs - (4 + usN bs) = 8 by omega]
   exact rTaken _ _ (w.drewN q) ((h.cut (o := 4 + usN bs) (n := 8) (c := cap - (4 + usN bs)) (by omega) (by omega)).below (below_drewN (Below.refl _ w) q)) (by rw [List.length_take]; omega)
  have HS := hide (fun q => rSum _ _ (w.drewN q) ((h.take (k := 4 + usN bs) (by omega)).below (below_drewN (Below.refl _ w) q)))
  have hll : ((bs.drop 4).take (usN bs)).length <= 140737488351232 := by rw [List.length_take]; omega
  have HB := hide (fun W (hb : Below w.heap.size w W) => rBytes _ _ W ((h.cut (o := 4) (n := usN bs) (c := cap - 4) (by omega) (by omega)).below hb) hll)
  have HLL : Hid (((bs.drop 4).take (usN bs)).length = usN bs) := by show _ = _; rw [List.length_take, List.length_drop]; omega
 · obtain ⟨e1, e2⟩ := us_no he (by decide)
   rw [he, e1, e2]
   clear he e1 e2 hy hc h HB HLL hll
   generalize usN bs = n at *
   generalize rcS bs = sz at *
   have hne : ¬ cap = 4 + n := by omega
   generalize tk8 ((bs.drop (4 + n)).take 8) = t at *
   generalize sum8 (bs.take (4 + n)) = s at *
   go_enter Tryz.func62, Tryz.ntmps62
   go_wp2_with (go_at_call 92; refine HC.out.mono ?_; rintro e w1 ⟨rfl, hw1⟩; subst hw1)
   go_quiet (first
    | (go_at_call 64; exact Calls.quiet_of_same (HT.out _))
    | (go_at_call 93; exact Calls.quiet_of_same (HS.out _)))
   go_wp2
   go_ret3
   exact ⟨_, rfl, World.ownsRow_nil _ _ _ _, below_drewN (Below.refl _ _) nq⟩
 · obtain ⟨e1, e2⟩ := us_yes he
   rw [he, e1, e2, HLL.out]
   rw [HLL.out] at HB
   rw [hs] at HT
   clear he e1 e2 hy hc h hll hs
   generalize usN bs = n at *
   generalize rcS bs = sz at *
   have hne : ¬ cap = 4 + n := by omega
   generalize sum8 (bs.take (4 + n)) = s at *
   have HSz : Hid (((12 + n : Nat) : Int) = 12 + (n : Int)) := by show _ = _; omega
   rw [HSz.out]
   have hne4 : ¬ cap = 4 := by omega
   go_enter Tryz.func62, Tryz.ntmps62
   go_wp2_with (go_at_call 92; refine HC.out.mono ?_; rintro e w1 ⟨rfl, hw1⟩; subst hw1)
   go_quiet (first
    | (go_at_call 64; exact Calls.quiet_of_same (HT.out _))
    | (go_at_call 93; exact Calls.quiet_of_same (HS.out _)))
   have hbq := below_drewN (Below.refl w1.heap.size w1) nq
   go_wp2_with (go_at_call 36; refine (HB.out _ hbq).mono ?_; rintro e w8 ⟨v8, rfl, ho8, hb8⟩)
   go_ret3
   exact ⟨_, rfl, own_mono ho8 hbq.size, Below.next hbq hb8⟩
end Go.Proofs.YtipobchbnjgenaaGreat
