import Derived.Test.YthialdipnhggnaaBunW
import Derived.Laws.CopyOwn
set_option linter.unusedVariables false
set_option linter.unusedSimpArgs false
set_option maxRecDepth 100000
set_option maxHeartbeats 4000000
namespace Go.Proofs.Ythialdipnhggnaa
open Go.RowKit
theorem add_atO (b off i : Nat) : (⟨b, off, none⟩ : Addr).add i = ⟨b, off + i, none⟩ := by unfold Addr.add; split <;> simp_all
theorem own_setn {W : World} {base g n cap k sz : Nat} {T : TypeId} {xs : List Value} (h : W.ownsRow base T sz (.slice (some ⟨g, 0, none⟩) n cap) n xs) (u : Value) : (W.setCell ⟨g, k, none⟩ u).ownsRow base T sz (.slice (some ⟨g, 0, none⟩) n cap) n (xs.set k u) := by
 refine ⟨by rw [List.length_set]; exact h.1, ?_⟩
 rcases h.2 with ⟨e, _⟩ | ⟨g', cap', cur, e, h2, h3, h4, h5, h6, h7⟩
 · cases e
 · cases e
   refine .inr ⟨g, cap, cur.setIfInBounds k u, rfl, h2, set_blk h3 k u, h4, h5, by rw [Array.size_setIfInBounds]; exact h6, ?_⟩
   rw [Array.toList_setIfInBounds, <- h7, List.take_set]
theorem own_frz {W : World} {base g n cap sz : Nat} {T : TypeId} {xs : List Value} (h : W.ownsRow base T sz (.slice (some ⟨g, 0, none⟩) n cap) n xs) (k : Nat) : W.frozen? ⟨g, k, none⟩ = false := h.frozenAt k
theorem own_atO {W : World} {base g n cap sz : Nat} {T : TypeId} {xs : List Value} (h : W.ownsRow base T sz (.slice (some ⟨g, 0, none⟩) n cap) n xs) {k : Nat} {u : Value} (hu : xs[k]? = some u) : W.cell? ⟨g, k, none⟩ = some u := by
 have := h.cells (g := g) rfl k u hu
 rw [add_atO, Nat.zero_add] at this; exact this
theorem own_short {W : World} {base g n cap sz m : Nat} {T : TypeId} {xs : List Value} (h : W.ownsRow base T sz (.slice (some ⟨g, 0, none⟩) n cap) n xs) (hm : m <= n) : W.ownsRow base T sz (.slice (some ⟨g, 0, none⟩) m cap) m (xs.take (m * sz)) := by
 have h1 := h.1
 have hle : m * sz <= n * sz := Nat.mul_le_mul_right _ hm
 refine ⟨by rw [List.length_take]; omega, ?_⟩
 rcases h.2 with ⟨e, _⟩ | ⟨g', cap', cur, e, h2, h3, h4, h5, h6, h7⟩
 · cases e
 · cases e
   refine .inr ⟨g, cap, cur, rfl, h2, h3, by omega, h5, h6, ?_⟩
   rw [<- h7, List.take_take]; congr 1; omega
theorem own_spellO {W : World} {base n sz : Nat} {T : TypeId} {v : Value} {xs : List Value} (h : W.ownsRow base T sz v n xs) : ∃ ao cap, v = .slice ao n cap ∧ n <= cap ∧ (0 < n -> ∃ g, ao = some ⟨g, 0, none⟩ ∧ base <= g ∧ g < W.heap.size) := by
 rcases h.2 with ⟨rfl, rfl⟩ | ⟨g, cap, cur, rfl, h2, h3, h4, _⟩
 · exact ⟨none, 0, rfl, Nat.le_refl _, fun h => absurd h (by omega)⟩
 · exact ⟨_, _, rfl, h4, fun _ => ⟨g, rfl, h2, (Array.getElem?_eq_some_iff.1 h3).1⟩⟩
theorem flat_splice {α : Type} (f : α -> List Value) (sz : Nat) (hf : ∀ x, (f x).length = sz) (xs : List α) (o k n : Nat) (ho : o + n <= xs.length) (hk : k + n <= xs.length) :
 (xs.flatMap f).take (o * sz) ++ (((xs.flatMap f).drop (k * sz)).take (n * sz) ++ (xs.flatMap f).drop ((o + n) * sz)) = (xs.take o ++ ((xs.drop k).take n ++ xs.drop (o + n))).flatMap f := by
 have ht : ∀ (ys : List α) (m : Nat), (ys.flatMap f).take (m * sz) = (ys.take m).flatMap f := by
  intro ys
  induction ys with
  | nil => intro m; simp
  | cons y ys ih =>
   intro m
   cases m with
   | zero => simp
   | succ m => rw [List.flatMap_cons, List.take_succ_cons, List.flatMap_cons, List.take_append, hf, <- ih m, List.take_of_length_le (by rw [hf, Nat.add_mul]; omega)]; congr 2; rw [Nat.add_mul]; omega
 have hd : ∀ (ys : List α) (m : Nat), (ys.flatMap f).drop (m * sz) = (ys.drop m).flatMap f := by
  intro ys
  induction ys with
  | nil => intro m; simp
  | cons y ys ih =>
   intro m
   cases m with
   | zero => simp
   | succ m => rw [List.flatMap_cons, List.drop_succ_cons, List.drop_append, hf, <- ih m, List.drop_of_length_le (by rw [hf, Nat.add_mul]; omega), List.nil_append]; congr 1; rw [Nat.add_mul]; omega
 rw [ht, hd, ht, hd, List.flatMap_append, List.flatMap_append]
theorem flat_take {α : Type} (f : α -> List Value) (sz : Nat) (hf : ∀ x, (f x).length = sz) (xs : List α) (m : Nat) (hm : m <= xs.length) : (xs.flatMap f).take (m * sz) = (xs.take m).flatMap f := by
 have := flat_splice f sz hf xs m xs.length 0 (by omega) (by omega)
 simp only [Nat.zero_mul, List.take_zero, List.nil_append, Nat.add_zero] at this
 have h2 := congrArg (List.take (m * sz)) this
 rw [List.take_append_of_le_length (by rw [List.length_take, flat_len f sz hf]; have := Nat.mul_le_mul_right sz hm; omega), List.take_take, Nat.min_self] at h2
 rw [h2, List.flatMap_append, List.take_append_of_le_length (by rw [flat_len f sz hf, List.length_take]; rw [Nat.min_eq_left hm]; exact Nat.le_refl _), List.take_of_length_le (by rw [flat_len f sz hf, List.length_take, Nat.min_eq_left hm]; exact Nat.le_refl _)]
abbrev Bv (w : World) (g : Nat) (r : Option Nat) (j : Nat) : Prop := j < w.heap.size ∧ j ≠ g ∧ r ≠ some j
structure Mv (w w' : World) (g : Nat) (v v' : Value) : Prop where
 kq : Kq (Bv w g v.ownBlock) w w'
 new : ∀ j, v'.ownBlock = some j -> v.ownBlock = some j ∨ w.heap.size <= j
theorem Mv.refl (w : World) (g : Nat) (v : Value) : Mv w w g v v := ⟨Kq.refl _ w, fun j h => .inl h⟩
theorem Mv.of_below {w w' : World} (g : Nat) (v : Value) (h : Below w.heap.size w w') : Mv w w' g v v := ⟨Below.kq h (fun j hj => hj.1), fun j h => .inl h⟩
theorem Mv.trans {a b c : World} {g : Nat} {u v x : Value} (h : Mv a b g u v) (k : Mv b c g v x) : Mv a c g u x := by
 have hs := h.kq.size
 refine ⟨h.kq.trans (k.kq.mono (fun j hj => ⟨by have := hj.1; omega, hj.2.1, fun e => ?_⟩)), fun j hj => ?_⟩
 · rcases h.new j e with h1 | h1
   · exact hj.2.2 h1
   · have := hj.1; omega
 · rcases k.new j hj with h1 | h1
   · exact h.new j h1
   · exact .inr (by omega)
theorem Mv.after {a b c : World} {g : Nat} {u v : Value} (h : Below a.heap.size a b) (k : Mv b c g u v) : Mv a c g u v := (Mv.of_below g u h).trans k
theorem Mv.below {w w' : World} {g base : Nat} {v v' : Value} (h : Mv w w' g v v') (hw : base <= w.heap.size) (hg : base <= g) (hv : ∀ j, v.ownBlock = some j -> base <= j) : Below base w w' :=
 h.kq.below (fun j hj => ⟨by omega, by omega, fun e => by have := hv j e; omega⟩)
theorem Mv.block {w w' : World} {g j : Nat} {v v' : Value} (h : Mv w w' g v v') (h1 : j < w.heap.size) (h2 : j ≠ g) (h3 : v.ownBlock ≠ some j) : w'.heap[j]? = w.heap[j]? := h.kq.block j ⟨h1, h2, h3⟩
theorem mv_set (w : World) (g k : Nat) (u v : Value) : Mv w (w.setCell ⟨g, k, none⟩ u) g v v := ⟨⟨rfl, rfl, rfl, by simp, fun j hj => Below.heap_setCell _ _ _ j hj.2.1⟩, fun j h => .inl h⟩
theorem mv_grown {w w' : World} {base e size n m : Nat} {v v' : Value} {xs ys : List Value} (g : Nat) (h : w.grownBy w' v.ownBlock) (hO : w.ownsRow base e size v n xs) (hN : w'.ownsRow base e size v' m ys) (hat : ∀ j, v'.ownBlock = some j -> v.ownBlock = some j ∨ w.heap.size <= j) : Mv w w' g v v' :=
 ⟨⟨h.os, h.tape, h.output, h.size, fun j hj => h.block j hj.1 (fun e => hj.2.2 e.symm)⟩, hat⟩
theorem Mv.set_new {w w' : World} {g b : Nat} {v v' : Value} (h : Mv w w' g v v') (hb : w.heap.size <= b) (k : Nat) (u : Value) : Mv w (w'.setCell ⟨b, k, none⟩ u) g v v' :=
 ⟨⟨h.kq.os, h.kq.tape, h.kq.output, by have := h.kq.size; simp; omega, fun j hj => (Below.heap_setCell _ _ _ j (by have := hj.1; show j ≠ b; omega)).trans (h.kq.block j hj)⟩, h.new⟩
theorem own_kindO {w : World} {b1 b2 s1 s2 n1 n2 : Nat} {T1 T2 : TypeId} {v1 v2 : Value} {x1 x2 : List Value} (h1 : w.ownsRow b1 T1 s1 v1 n1 x1) (h2 : w.ownsRow b2 T2 s2 v2 n2 x2) (hT : T1 ≠ T2) (g : Nat) (hg : v1.ownBlock = some g) : v2.ownBlock ≠ some g := by
 intro hc
 rcases h1.2 with ⟨rfl, _⟩ | ⟨g1, c1, u1, rfl, _, k1, _⟩
 · simp [Value.ownBlock] at hg
 · rcases h2.2 with ⟨rfl, _⟩ | ⟨g2, c2, u2, rfl, _, k2, _⟩
   · simp [Value.ownBlock] at hc
   · simp [Value.ownBlock] at hg hc
     subst hg hc
     rw [k1] at k2
     simp at k2
     exact hT k2.2
theorem own_notO {W : World} {base s n b : Nat} {T T' : TypeId} {v : Value} {xs : List Value} {cs : Array Value} {fz : Nat × Nat} (h : W.ownsRow base T s v n xs) (hb : W.heap[b]? = some (.cells cs T' fz)) (hT : T' ≠ T) : v.ownBlock ≠ some b := by
 rcases h.2 with ⟨rfl, _⟩ | ⟨g, cap, cur, rfl, _, hgb, _⟩
 · simp [Value.ownBlock]
 · intro e
   have e1 : g = b := by simpa [Value.ownBlock] using e
   rw [e1] at hgb
   have := hb.symm.trans hgb
   simp at this
   exact hT this.2.1
theorem app_runO {ops : Array Oper} {rest : List Oper} {o : Oper} {a : Act} {w w' : World} {Q : Exit -> Act -> World -> Prop} (hg : o.guard = none) (s x : Operand) (t : TypeId)
 (ho : o.op = .call { callee := .builtin .append, args := #[s, x], argTypes := #[t, t] }) (u vb v : Value) (hs : a.eval s = u) (hx : a.eval x = vb)
 (hr : (Builtin.append_ #[t, t] o.type #[u, vb]).run Try.prog w = .ok v w')
 (h : wpList Try.prog ops Q rest (a.put o.dst v) w') : wpList Try.prog ops Q (o :: rest) a w := by
 refine wpList_plain hg fun K hK => ?_
 unfold Oper.wp execOp
 simp only [ho, resolve, invoke, builtin, Sem.run_bind, Sem.run_pure, Result.andThen_ok, List.map_toArray, List.map_cons, List.map_nil, hs, hx, hr]
 exact hK _ _ h
theorem new_of_at {w : World} {v v' : Value} (h : v'.ownBlock = v.ownBlock ∨ v'.ownBlock = some w.heap.size) : ∀ j, v'.ownBlock = some j -> v.ownBlock = some j ∨ w.heap.size <= j := fun j hj => by
 rcases h with e | e
 · exact .inl (by rw [<- e]; exact hj)
 · rw [e] at hj; cases hj; exact .inr (Nat.le_refl _)
theorem own_none (w : World) (T : TypeId) (s : Nat) : (w.alloc (.cells #[] T)).ownsRow w.heap.size T s (.slice (some ⟨w.heap.size, 0, none⟩) 0 0) 0 [] :=
 World.ownsRow_made w #[] 0 (Nat.le_refl _) (Nat.zero_le _) (by simp)
theorem flat_one {α : Type} {f : α -> List Value} (h1 : ∀ x, ∀ v ∈ f x, v.oneCell' = true) (xs : List α) : ∀ u ∈ xs.flatMap f, u.oneCell' = true := fun u hu => by
 obtain ⟨x, _, hx⟩ := List.mem_flatMap.1 hu
 exact h1 x u hx
theorem made_listO (z : Value) (n : Nat) : madeCells #[z] (n * 1) = (List.replicate n z).toArray := by
 apply Array.ext'
 rw [toList_madeCells_one, Nat.mul_one]
end Go.Proofs.Ythialdipnhggnaa
namespace Go.Proofs.Ythialdipnhggnaa
open Go.RowKit Fld
def k32 (b : List Int) : List Value := (List.range 32).map fun i => .int .u8 (b.getD i 0)
theorem k32_len (b : List Int) : (k32 b).length = 32 := by simp [k32]
theorem k32_valb {b : List Int} (h : b.length = 32) : k32 b = valb b := by
 apply List.ext_getElem (by rw [k32_len, valb_length, h])
 intro i h1 h2
 rw [k32_len] at h1
 simp only [k32, valb, List.getElem_map, List.getElem_range]
 rw [List.getD_eq_getElem?_getD, List.getElem?_eq_getElem (by omega)]; rfl
theorem k32_one (b : List Int) : ∀ v ∈ k32 b, v.oneCell' = true := by
 intro v hv
 obtain ⟨i, _, rfl⟩ := List.mem_map.1 hv
 rfl
theorem bsl_info : (Try.prog.info? 23).map (fun i => (i.zero, i.size, i.bytes)) = some (some (.slice none 0 0), 1, 24) := by kernel_rfl
structure Dok (D : Dsk) : Prop where
 ok : DskOk D
 byt : ∀ b ∈ D.l, By b
 top : D.f <= 9223372036854775807
def dkw (D : Dsk) (v : Value) : Array Value := #[.bool true, v, .bool (decide (0 <= D.f)), .int .i64 (max D.f 0), .bool D.x, .int .i64 (D.n : Int)]
structure Hd (w : World) (base g : Nat) (v : Value) (D : Dsk) : Prop where
 dsk : w.heap[g]? = some (.cells (dkw D v) 64 (0, 0))
 row : w.ownsRow base 71 32 v D.l.length (D.l.flatMap k32)
 low : base <= g
 o : Dok D
theorem Hd.lt {w : World} {base g : Nat} {v : Value} {D : Dsk} (h : Hd w base g v D) : g < w.heap.size := (Array.getElem?_eq_some_iff.1 h.dsk).1
theorem Hd.cells {w : World} {base g : Nat} {v : Value} {D : Dsk} (h : Hd w base g v D) : w.cell? ⟨g, 0, none⟩ = some (.bool true) ∧ w.cell? ⟨g, 1, none⟩ = some v ∧ w.cell? ⟨g, 2, none⟩ = some (.bool (decide (0 <= D.f))) ∧ w.cell? ⟨g, 3, none⟩ = some (.int .i64 (max D.f 0)) ∧ w.cell? ⟨g, 4, none⟩ = some (.bool D.x) ∧ w.cell? ⟨g, 5, none⟩ = some (.int .i64 (D.n : Int)) := by
 have h' := h.dsk
 refine ⟨?_, ?_, ?_, ?_, ?_, ?_⟩ <;> simp [World.cell?, h', dkw]
theorem Hd.free {w : World} {base g : Nat} {v : Value} {D : Dsk} (h : Hd w base g v D) (k : Nat) : w.frozen? ⟨g, k, none⟩ = false := by
 have h' := h.dsk
 simp [World.frozen?, h']
theorem Hd.spell {w : World} {base g : Nat} {v : Value} {D : Dsk} (h : Hd w base g v D) : ∃ ao cap, v = .slice ao D.l.length cap ∧ D.l.length <= cap ∧ (0 < D.l.length -> ∃ r, ao = some ⟨r, 0, none⟩ ∧ base <= r ∧ r < w.heap.size) := own_spellO h.row
theorem Hd.own_lt {w : World} {base g : Nat} {v : Value} {D : Dsk} (h : Hd w base g v D) : ∀ j, v.ownBlock = some j -> base <= j ∧ j < w.heap.size := h.row.lt
theorem Hd.ne {w : World} {base g : Nat} {v : Value} {D : Dsk} (h : Hd w base g v D) : v.ownBlock ≠ some g := own_notO h.row h.dsk (by decide)
theorem Hd.kept {S : Nat -> Prop} {w w' : World} {base g : Nat} {v : Value} {D : Dsk} (h : Hd w base g v D) (k : Kq S w w') (hg : S g) (hv : ∀ j, v.ownBlock = some j -> S j) : Hd w' base g v D :=
 ⟨(k.block g hg).trans h.dsk, k.own h.row hv, h.low, h.o⟩
theorem Hd.below {w w' : World} {base g : Nat} {v : Value} {D : Dsk} (h : Hd w base g v D) (hb : Below w.heap.size w w') : Hd w' base g v D :=
 h.kept (Below.kq hb (S := fun j => j < w.heap.size) (fun j hj => hj)) h.lt (fun j hj => (h.own_lt j hj).2)
theorem dIsThere_nil (w : World) : Calls Try.prog 37 #[.pointer none] w fun e w' => e = .returned (.bool false) ∧ w' = w := by
 go_enter Try.func37, Try.ntmps37
 go_wp2
 go_ret
 exact ⟨rfl, rfl⟩
theorem dIsThere {w : World} {base g : Nat} {v : Value} {D : Dsk} (h : Hd w base g v D) : Calls Try.prog 37 #[.pointer (some ⟨g, 0, none⟩)] w fun e w' => e = .returned (.bool true) ∧ w' = w := by
 obtain ⟨c0, _⟩ := h.cells
 go_enter Try.func37, Try.ntmps37
 go_wp2
 go_ret
 exact ⟨rfl, rfl⟩
theorem dSucc {w : World} {base g : Nat} {v : Value} {D : Dsk} (h : Hd w base g v D) : Calls Try.prog 56 #[.pointer (some ⟨g, 0, none⟩)] w fun e w' => e = .returned (.bool (!(dieD D))) ∧ w' = w := by
 obtain ⟨_, _, c2, c3, c4, _⟩ := h.cells
 have hf := h.o.ok.fu
 obtain ⟨l, f, x, n⟩ := D
 dsimp only at c2 c3 c4 hf
 unfold dieD
 dsimp only
 clear h
 cases x with
 | true =>
  go_enter Try.func56, Try.ntmps56
  go_wp2
  go_ret
  exact ⟨rfl, rfl⟩
 | false =>
  rw [Bool.false_or]
  by_cases h1 : 0 <= f
  · rw [decide_eq_true h1] at c2
    by_cases h2 : 0 < f
    · rw [show max f 0 = f by omega] at c3
      rw [decide_eq_false (by omega : ¬ f = 0)]
      go_enter Try.func56, Try.ntmps56
      go_wp2
      go_ret
      exact ⟨rfl, rfl⟩
    · have : f = 0 := by omega
      subst this
      go_enter Try.func56, Try.ntmps56
      go_wp2
      go_ret
      exact ⟨rfl, rfl⟩
  · rw [decide_eq_false h1] at c2
    rw [decide_eq_false (by omega : ¬ f = 0)]
    go_enter Try.func56, Try.ntmps56
    go_wp2
    go_ret
    exact ⟨rfl, rfl⟩
end Go.Proofs.Ythialdipnhggnaa
