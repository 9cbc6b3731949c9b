import Derived.Test.YtcglbbglapomgaaBunW
import Derived.Laws.CopyOwn
set_option linter.unusedVariables false
set_option linter.unusedSimpArgs false
set_option maxRecDepth 100000
set_option maxHeartbeats 4000000
namespace Go.Proofs.Ytcglbbglapomgaa
open Go.RowKit
theorem add_atO (b off i : Nat) : (⟨b, off, none⟩ : Addr).add i = ⟨b, off + i, none⟩ := by unfold Addr.add; split <;> simp_all
theorem own_setn {W : World} {base g n cap k sz : Nat} {T : TypeId} {xs : List Value} (h : W.ownsRow base T sz (.slice (some ⟨g, 0, none⟩) n cap) n xs) (u : Value) : (W.setCell ⟨g, k, none⟩ u).ownsRow base T sz (.slice (some ⟨g, 0, none⟩) n cap) n (xs.set k u) := by
 refine ⟨by rw [List.length_set]; exact h.1, ?_⟩
 rcases h.2 with ⟨e, _⟩ | ⟨g', cap', cur, e, h2, h3, h4, h5, h6, h7⟩
 · cases e
 · cases e
   refine .inr ⟨g, cap, cur.setIfInBounds k u, rfl, h2, set_blk h3 k u, h4, h5, by rw [Array.size_setIfInBounds]; exact h6, ?_⟩
   rw [Array.toList_setIfInBounds, <- h7, List.take_set]
theorem own_frz {W : World} {base g n cap sz : Nat} {T : TypeId} {xs : List Value} (h : W.ownsRow base T sz (.slice (some ⟨g, 0, none⟩) n cap) n xs) (k : Nat) : W.frozen? ⟨g, k, none⟩ = false := h.frozenAt k
theorem own_atO {W : World} {base g n cap sz : Nat} {T : TypeId} {xs : List Value} (h : W.ownsRow base T sz (.slice (some ⟨g, 0, none⟩) n cap) n xs) {k : Nat} {u : Value} (hu : xs[k]? = some u) : W.cell? ⟨g, k, none⟩ = some u := by
 have := h.cells (g := g) rfl k u hu
 rw [add_atO, Nat.zero_add] at this; exact this
theorem own_short {W : World} {base g n cap sz m : Nat} {T : TypeId} {xs : List Value} (h : W.ownsRow base T sz (.slice (some ⟨g, 0, none⟩) n cap) n xs) (hm : m <= n) : W.ownsRow base T sz (.slice (some ⟨g, 0, none⟩) m cap) m (xs.take (m * sz)) := by
 have h1 := h.1
 have hle : m * sz <= n * sz := Nat.mul_le_mul_right _ hm
 refine ⟨by rw [List.length_take]; omega, ?_⟩
 rcases h.2 with ⟨e, _⟩ | ⟨g', cap', cur, e, h2, h3, h4, h5, h6, h7⟩
 · cases e
 · cases e
   refine .inr ⟨g, cap, cur, rfl, h2, h3, by omega, h5, h6, ?_⟩
   rw [<- h7, List.take_take]; congr 1; omega
theorem own_spellO {W : World} {base n sz : Nat} {T : TypeId} {v : Value} {xs : List Value} (h : W.ownsRow base T sz v n xs) : ∃ ao cap, v = .slice ao n cap ∧ n <= cap ∧ (0 < n -> ∃ g, ao = some ⟨g, 0, none⟩ ∧ base <= g ∧ g < W.heap.size) := by
 rcases h.2 with ⟨rfl, rfl⟩ | ⟨g, cap, cur, rfl, h2, h3, h4, _⟩
 · exact ⟨none, 0, rfl, Nat.le_refl _, fun h => absurd h (by omega)⟩
 · exact ⟨_, _, rfl, h4, fun _ => ⟨g, rfl, h2, (Array.getElem?_eq_some_iff.1 h3).1⟩⟩
theorem flat_set3 {α : Type} (f : α -> List Value) (hf : ∀ x, (f x).length = 3) : ∀ (xs : List α) (i : Nat) (y : α) (a b c : Value), f y = [a, b, c] -> i < xs.length ->
 (((xs.flatMap f).set (i * 3) a).set (i * 3 + 1) b).set (i * 3 + 2) c = (xs.set i y).flatMap f
 | [], i, y, a, b, c, _, h => by simp at h
 | x :: xs, 0, y, a, b, c, hy, _ => by
  obtain ⟨x0, x1, x2, hx⟩ : ∃ x0 x1 x2, f x = [x0, x1, x2] := by
   have := hf x
   match f x, this with
   | [p, q, r], _ => exact ⟨p, q, r, rfl⟩
  simp [List.flatMap_cons, hx, hy]
 | x :: xs, i + 1, y, a, b, c, hy, h => by
  have ih := flat_set3 f hf xs i y a b c hy (by simpa using h)
  have e : ∀ j (L : List Value) (u : Value), (f x ++ L).set ((i + 1) * 3 + j) u = f x ++ L.set (i * 3 + j) u := fun j L u => by
   rw [List.set_append_right _ _ (by rw [hf]; omega), hf]
   congr 2; omega
  simp only [List.flatMap_cons, List.set_cons_succ]
  have e0 := e 0
  simp only [Nat.add_zero] at e0
  rw [e0, e, e, ih]
theorem own_put3 {α : Type} {f : α -> List Value} (hf : ∀ x, (f x).length = 3) {W : World} {base g n cap i : Nat} {T : TypeId} {xs : List α} (h : W.ownsRow base T 3 (.slice (some ⟨g, 0, none⟩) n cap) n (xs.flatMap f)) (hi : i < xs.length) {y : α} {a b c : Value} (hy : f y = [a, b, c]) :
 (((W.setCell ⟨g, i * 3, none⟩ a).setCell ⟨g, i * 3 + 1, none⟩ b).setCell ⟨g, i * 3 + 2, none⟩ c).ownsRow base T 3 (.slice (some ⟨g, 0, none⟩) n cap) n ((xs.set i y).flatMap f) := by
 rw [<- flat_set3 f hf xs i y a b c hy hi]
 exact own_setn (own_setn (own_setn h a) b) c
theorem grown_set3 (W : World) (g i j k : Nat) (a b c : Value) : W.grownBy (((W.setCell ⟨g, i, none⟩ a).setCell ⟨g, j, none⟩ b).setCell ⟨g, k, none⟩ c) (some g) :=
 ⟨rfl, rfl, rfl, by simp, fun q _ hne => by
  have hq : q ≠ g := fun e => hne (by rw [e])
  rw [Below.heap_setCell _ _ _ q hq, Below.heap_setCell _ _ _ q hq, Below.heap_setCell _ _ _ q hq]⟩
theorem run_copy_rows {P : Program} (w : World) (dT sT ty elem : TypeId) (g o dLen dCap sz : Nat) (a : Addr) (sLen sCap : Nat) (cur : Array Value) (t : TypeId) (cs : List Value)
 (hu : P.underlying dT = some (.slice elem)) (hs : (P.info? elem).map (·.size) = some sz)
 (hg : w.heap[g]? = some (.cells cur t (0, 0))) (n : Nat) (hn0 : n = Nat.min sLen dLen) (hn : cs.length = n * sz)
 (hsrc : ∀ j v, cs[j]? = some v -> w.cell? (a.add j) = some v) (hfit : o + cs.length <= cur.size) (h1 : ∀ v ∈ cs, v.oneCell' = true) :
 (Builtin.copy_ #[dT, sT] ty #[.slice (some ⟨g, o, none⟩) dLen dCap, .slice (some a) sLen sCap]).run P w =
  .ok (goInt n) (w.setRow g (cur.toList.take o ++ cs ++ cur.toList.drop (o + cs.length)).toArray) := by
 have hl := run_loadCells_list (P := P) w a cs hsrc
 have hst := run_storeCells_at P g o t cs 0 cur w hg (by simpa using hfit) h1
 subst hn0
 cases hq : P.info? elem with
 | none => simp [hq] at hs
 | some i =>
  have hi : i.size = sz := by simpa [hq] using hs
  simp [Builtin.copy_, run_underlying hu, Builtin.lenOf, Builtin.firstCells, sizeOf, typeInfo, hq, hi, <- hn, hl, hst]
theorem flat_splice {α : Type} (f : α -> List Value) (sz : Nat) (hf : ∀ x, (f x).length = sz) (xs : List α) (o k n : Nat) (ho : o + n <= xs.length) (hk : k + n <= xs.length) :
 (xs.flatMap f).take (o * sz) ++ (((xs.flatMap f).drop (k * sz)).take (n * sz) ++ (xs.flatMap f).drop ((o + n) * sz)) = (xs.take o ++ ((xs.drop k).take n ++ xs.drop (o + n))).flatMap f := by
 have ht : ∀ (ys : List α) (m : Nat), (ys.flatMap f).take (m * sz) = (ys.take m).flatMap f := by
  intro ys
  induction ys with
  | nil => intro m; simp
  | cons y ys ih =>
   intro m
   cases m with
   | zero => simp
   | succ m => rw [List.flatMap_cons, List.take_succ_cons, List.flatMap_cons, List.take_append, hf, <- ih m, List.take_of_length_le (by rw [hf, Nat.add_mul]; omega)]; congr 2; rw [Nat.add_mul]; omega
 have hd : ∀ (ys : List α) (m : Nat), (ys.flatMap f).drop (m * sz) = (ys.drop m).flatMap f := by
  intro ys
  induction ys with
  | nil => intro m; simp
  | cons y ys ih =>
   intro m
   cases m with
   | zero => simp
   | succ m => rw [List.flatMap_cons, List.drop_succ_cons, List.drop_append, hf, <- ih m, List.drop_of_length_le (by rw [hf, Nat.add_mul]; omega), List.nil_append]; congr 1; rw [Nat.add_mul]; omega
 rw [ht, hd, ht, hd, List.flatMap_append, List.flatMap_append]
theorem flat_drop {α : Type} (f : α -> List Value) (sz : Nat) (hf : ∀ x, (f x).length = sz) : ∀ (xs : List α) (m : Nat), (xs.flatMap f).drop (m * sz) = (xs.drop m).flatMap f
 | [], m => by simp
 | y :: ys, 0 => by simp
 | y :: ys, m + 1 => by rw [List.flatMap_cons, List.drop_succ_cons, List.drop_append, hf, <- flat_drop f sz hf ys m, List.drop_of_length_le (by rw [hf, Nat.add_mul]; omega), List.nil_append]; congr 1; rw [Nat.add_mul]; omega
theorem flat_take {α : Type} (f : α -> List Value) (sz : Nat) (hf : ∀ x, (f x).length = sz) (xs : List α) (m : Nat) (hm : m <= xs.length) : (xs.flatMap f).take (m * sz) = (xs.take m).flatMap f := by
 have := flat_splice f sz hf xs m xs.length 0 (by omega) (by omega)
 simp only [Nat.zero_mul, List.take_zero, List.nil_append, Nat.add_zero] at this
 have h2 := congrArg (List.take (m * sz)) this
 rw [List.take_append_of_le_length (by rw [List.length_take, flat_len f sz hf]; have := Nat.mul_le_mul_right sz hm; omega), List.take_take, Nat.min_self] at h2
 rw [h2, List.flatMap_append, List.take_append_of_le_length (by rw [flat_len f sz hf, List.length_take]; rw [Nat.min_eq_left hm]; exact Nat.le_refl _), List.take_of_length_le (by rw [flat_len f sz hf, List.length_take, Nat.min_eq_left hm]; exact Nat.le_refl _)]
theorem take_over {β : Type} (A B L : List β) (m N : Nat) (hm : A.length + B.length = m) (h : m <= N) : (A ++ B ++ L.drop m).take N = A ++ (B ++ (L.take N).drop m) := by
 rw [List.drop_take, List.append_assoc, List.take_append, List.take_of_length_le (l := A) (by omega), List.take_append, List.take_of_length_le (l := B) (by omega)]
 congr 3
 omega
theorem run_copy_in {α : Type} {f : α -> List Value} {sz : Nat} (hf : ∀ x, (f x).length = sz) (h1 : ∀ x, ∀ v ∈ f x, v.oneCell' = true) {P : Program} {w : World} (dT ty elem : TypeId) (hu : P.underlying dT = some (.slice elem)) (hs : (P.info? elem).map (·.size) = some sz)
 {base g len cap : Nat} {T : TypeId} {xs : List α} (h : w.ownsRow base T sz (.slice (some ⟨g, 0, none⟩) len cap) len (xs.flatMap f)) (hlen : xs.length = len)
 (o k n dLen dCap sLen sCap : Nat) (hn : n = Nat.min sLen dLen) (ho : o + n <= len) (hk : k + n <= len) :
 ∃ w', (Builtin.copy_ #[dT, dT] ty #[.slice (some ⟨g, o * sz, none⟩) dLen dCap, .slice (some ⟨g, k * sz, none⟩) sLen sCap]).run P w = .ok (goInt n) w' ∧
  w'.ownsRow base T sz (.slice (some ⟨g, 0, none⟩) len cap) len ((xs.take o ++ ((xs.drop k).take n ++ xs.drop (o + n))).flatMap f) ∧ w.grownBy w' (some g) := by
 subst hlen
 have hF := flat_len f sz hf xs
 have e1 : k * sz + n * sz <= xs.length * sz := by rw [<- Nat.add_mul]; exact Nat.mul_le_mul_right _ hk
 have e2 : o * sz + n * sz <= xs.length * sz := by rw [<- Nat.add_mul]; exact Nat.mul_le_mul_right _ ho
 have hcl : (((xs.flatMap f).drop (k * sz)).take (n * sz)).length = n * sz := by rw [List.length_take, List.length_drop]; omega
 have hfs := flat_splice f sz hf xs o k n ho hk
 have hfl := flat_len f sz hf (xs.take o ++ ((xs.drop k).take n ++ xs.drop (o + n)))
 have hll : (xs.take o ++ ((xs.drop k).take n ++ xs.drop (o + n))).length = xs.length := by simp; omega
 rw [hll] at hfl
 rcases h.2 with ⟨e, _⟩ | ⟨g', cap', cur, e, h2, h3, h4, h5, h6, h7⟩
 · cases e
 · cases e
   have hcs : xs.length * sz <= cur.size := by rw [h6]; exact Nat.mul_le_mul_right _ h4
   have hr := run_copy_rows (P := P) w dT dT ty elem g (o * sz) dLen dCap sz ⟨g, k * sz, none⟩ sLen sCap cur T (((xs.flatMap f).drop (k * sz)).take (n * sz)) hu hs h3 n hn hcl (fun j v hj => by
    have hjl : j < n * sz := by rw [<- hcl]; exact (List.getElem?_eq_some_iff.1 hj).1
    rw [add_atO]
    rw [List.getElem?_take_of_lt hjl, List.getElem?_drop] at hj
    exact own_atO h hj) (by rw [hcl]; omega) (fun v hv => by
    have hv2 := List.mem_of_mem_drop (List.mem_of_mem_take hv)
    obtain ⟨x, _, hx⟩ := List.mem_flatMap.1 hv2
    exact h1 x v hx)
   refine ⟨_, hr, ⟨hfl, .inr ⟨g, cap, _, rfl, h2, setRow_heap w g cur _ T _ h3, h4, h5, ?_, ?_⟩⟩, ⟨rfl, rfl, rfl, by simp [World.setRow], fun q _ hq => setRow_other w g q _ (fun e => hq (by rw [e]))⟩⟩
   · simp only [List.size_toArray, List.length_append, List.length_drop, hcl, List.length_take, Array.length_toList]
     omega
   · rw [hcl, <- hfs, <- h7]
     have e3 : (cur.toList.take (xs.length * sz)).take (o * sz) = cur.toList.take (o * sz) := by rw [List.take_take]; congr 1; omega
     rw [e3]
     have hlt : ((cur.toList.take (xs.length * sz)).drop (k * sz)).take (n * sz) = (cur.toList.drop (k * sz)).take (n * sz) := by
      rw [List.drop_take, List.take_take]; congr 1; omega
     have l1 : (cur.toList.take (o * sz)).length = o * sz := by rw [List.length_take, Array.length_toList]; omega
     have l2 : ((cur.toList.drop (k * sz)).take (n * sz)).length = n * sz := by rw [List.length_take, List.length_drop, Array.length_toList]; omega
     have em : (o + n) * sz = o * sz + n * sz := Nat.add_mul _ _ _
     rw [hlt, em]
     exact take_over _ _ _ _ _ (by rw [l1, l2]) e2
abbrev Bv (w : World) (g : Nat) (r : Option Nat) (j : Nat) : Prop := j < w.heap.size ∧ j ≠ g ∧ r ≠ some j
structure Mv (w w' : World) (g : Nat) (v v' : Value) : Prop where
 kq : Kq (Bv w g v.ownBlock) w w'
 new : ∀ j, v'.ownBlock = some j -> v.ownBlock = some j ∨ w.heap.size <= j
theorem Mv.refl (w : World) (g : Nat) (v : Value) : Mv w w g v v := ⟨Kq.refl _ w, fun j h => .inl h⟩
theorem Mv.of_below {w w' : World} (g : Nat) (v : Value) (h : Below w.heap.size w w') : Mv w w' g v v := ⟨Below.kq h (fun j hj => hj.1), fun j h => .inl h⟩
theorem Mv.trans {a b c : World} {g : Nat} {u v x : Value} (h : Mv a b g u v) (k : Mv b c g v x) : Mv a c g u x := by
 have hs := h.kq.size
 refine ⟨h.kq.trans (k.kq.mono (fun j hj => ⟨by have := hj.1; omega, hj.2.1, fun e => ?_⟩)), fun j hj => ?_⟩
 · rcases h.new j e with h1 | h1
   · exact hj.2.2 h1
   · have := hj.1; omega
 · rcases k.new j hj with h1 | h1
   · exact h.new j h1
   · exact .inr (by omega)
theorem Mv.next {a b c : World} {g : Nat} {u v : Value} (h : Mv a b g u v) (k : Below b.heap.size b c) : Mv a c g u v := h.trans (Mv.of_below g v k)
theorem Mv.after {a b c : World} {g : Nat} {u v : Value} (h : Below a.heap.size a b) (k : Mv b c g u v) : Mv a c g u v := (Mv.of_below g u h).trans k
theorem Mv.below {w w' : World} {g base : Nat} {v v' : Value} (h : Mv w w' g v v') (hw : base <= w.heap.size) (hg : base <= g) (hv : ∀ j, v.ownBlock = some j -> base <= j) : Below base w w' :=
 h.kq.below (fun j hj => ⟨by omega, by omega, fun e => by have := hv j e; omega⟩)
theorem Mv.block {w w' : World} {g j : Nat} {v v' : Value} (h : Mv w w' g v v') (h1 : j < w.heap.size) (h2 : j ≠ g) (h3 : v.ownBlock ≠ some j) : w'.heap[j]? = w.heap[j]? := h.kq.block j ⟨h1, h2, h3⟩
theorem mv_set (w : World) (g k : Nat) (u v : Value) : Mv w (w.setCell ⟨g, k, none⟩ u) g v v := ⟨⟨rfl, rfl, rfl, by simp, fun j hj => Below.heap_setCell _ _ _ j hj.2.1⟩, fun j h => .inl h⟩
theorem mv_grown {w w' : World} {base e size n m : Nat} {v v' : Value} {xs ys : List Value} (g : Nat) (h : w.grownBy w' v.ownBlock) (hO : w.ownsRow base e size v n xs) (hN : w'.ownsRow base e size v' m ys) (hat : ∀ j, v'.ownBlock = some j -> v.ownBlock = some j ∨ w.heap.size <= j) : Mv w w' g v v' :=
 ⟨⟨h.os, h.tape, h.output, h.size, fun j hj => h.block j hj.1 (fun e => hj.2.2 e.symm)⟩, hat⟩
theorem mv_row {w w' : World} {g r : Nat} {v : Value} (h : w.grownBy w' (some r)) (hv : v.ownBlock = some r) : Mv w w' g v v :=
 ⟨⟨h.os, h.tape, h.output, h.size, fun j hj => h.block j hj.1 (fun e => hj.2.2 (by rw [hv, e]))⟩, fun j h => .inl h⟩
theorem Mv.set_new {w w' : World} {g b : Nat} {v v' : Value} (h : Mv w w' g v v') (hb : w.heap.size <= b) (k : Nat) (u : Value) : Mv w (w'.setCell ⟨b, k, none⟩ u) g v v' :=
 ⟨⟨h.kq.os, h.kq.tape, h.kq.output, by have := h.kq.size; simp; omega, fun j hj => (Below.heap_setCell _ _ _ j (by have := hj.1; show j ≠ b; omega)).trans (h.kq.block j hj)⟩, h.new⟩
theorem Mv.respell {w w' : World} {g : Nat} {v u u' : Value} (h : Mv w w' g v u) (e : u'.ownBlock = u.ownBlock) : Mv w w' g v u' := ⟨h.kq, fun j hj => h.new j (by rw [<- e]; exact hj)⟩
end Go.Proofs.Ytcglbbglapomgaa
