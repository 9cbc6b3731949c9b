import Derived.Test.YtjhididlcdepdaaGreatBunQ
import Derived.Test.YtjhididlcdepdaaGreatBunS
import Derived.RangeFuncSeq
import Derived.Lib.AppendZeros
set_option linter.unusedVariables false
set_option linter.unusedSimpArgs false
set_option maxRecDepth 100000
set_option maxHeartbeats 4000000
namespace Go.Proofs.YtjhididlcdepdaaGreat
open Go.RowKit
def Lm {α : Type} (f : α -> List Value) (sz : Nat) (w : World) (v : Value) (xs : List α) : Prop :=
 ∃ ao cap, v = .slice ao xs.length cap ∧ (xs.length <= cap ∧ xs.length <= 140737488500000 ∧ (ao = none -> cap = 0)) ∧
  (xs ≠ [] -> ∃ b off, ao = some ⟨b, off, none⟩ ∧ b < w.heap.size ∧ ∀ i x, xs[i]? = some x -> ∀ j u, (f x)[j]? = some u -> w.cell? ⟨b, off + (i * sz + j), none⟩ = some u)
theorem Lm.below {α : Type} {f : α -> List Value} {sz : Nat} {w w' : World} {v : Value} {xs : List α} (h : Lm f sz w v xs) (hb : Below w.heap.size w w') : Lm f sz w' v xs := by
 obtain ⟨ao, cap, rfl, h1, h3⟩ := h
 refine ⟨ao, cap, rfl, h1, fun hne => ?_⟩
 obtain ⟨b, off, rfl, hbl, hc⟩ := h3 hne
 exact ⟨b, off, rfl, Nat.lt_of_lt_of_le hbl hb.size, fun i x hx j u hu => (hb.cell (p := ⟨b, off + (i * sz + j), none⟩) hbl).trans (hc i x hx j u hu)⟩
theorem Lm.spell {α : Type} {f : α -> List Value} {sz : Nat} {w : World} {v : Value} {xs : List α} (h : Lm f sz w v xs) : ∃ ao cap, v = .slice ao xs.length cap ∧ xs.length <= cap := by
 obtain ⟨ao, cap, h1, h2, _⟩ := h; exact ⟨ao, cap, h1, h2.1⟩
theorem Lm.len {α : Type} {f : α -> List Value} {sz : Nat} {w : World} {v : Value} {xs : List α} (h : Lm f sz w v xs) : xs.length <= 140737488500000 := by
 obtain ⟨_, _, _, h, _⟩ := h; exact h.2.1
theorem Lm.form {α : Type} {f : α -> List Value} {sz : Nat} {w : World} {v : Value} {xs : List α} (h : Lm f sz w v xs) (h0 : 0 < xs.length) : ∃ b off cap, v = .slice (some ⟨b, off, none⟩) xs.length cap ∧ xs.length <= cap ∧ b < w.heap.size := by
 obtain ⟨ao, cap, rfl, h1, h3⟩ := h
 obtain ⟨b, off, rfl, hb, _⟩ := h3 (by intro h; rw [h] at h0; simp at h0)
 exact ⟨b, off, cap, rfl, h1.1, hb⟩
theorem Lm.at_ {α : Type} {f : α -> List Value} {sz : Nat} {w : World} {b off n cap : Nat} {xs : List α} (h : Lm f sz w (.slice (some ⟨b, off, none⟩) n cap) xs) {i j : Nat} {x : α} {u : Value} (hx : xs[i]? = some x) (hu : (f x)[j]? = some u) : b < w.heap.size ∧ w.cell? ⟨b, off + (i * sz + j), none⟩ = some u := by
 obtain ⟨ao, cap', h1, h2, h4⟩ := h
 cases h1
 obtain ⟨b', off', h5, hb, hc⟩ := h4 (by intro h; rw [h] at hx; simp at hx)
 cases h5
 exact ⟨hb, hc i x hx j u hu⟩
theorem lm_nil {α : Type} (f : α -> List Value) (sz : Nat) (w : World) : Lm f sz w (.slice none 0 0) [] := ⟨none, 0, rfl, ⟨Nat.le_refl _, by simp, fun _ => rfl⟩, fun h => absurd rfl h⟩
theorem flat_get {α : Type} (f : α -> List Value) (sz : Nat) (hf : ∀ x, (f x).length = sz) : ∀ (xs : List α) (i : Nat) (x : α) (j : Nat), xs[i]? = some x -> j < sz -> (xs.flatMap f)[i * sz + j]? = (f x)[j]?
 | [], i, x, j, hx, _ => by simp at hx
 | y :: xs, 0, x, j, hx, hj => by
  have : y = x := by simpa using hx
  subst this
  rw [List.flatMap_cons, Nat.zero_mul, Nat.zero_add, List.getElem?_append_left (by rw [hf]; exact hj)]
 | y :: xs, i + 1, x, j, hx, hj => by
  have h2 : xs[i]? = some x := by simpa using hx
  rw [List.flatMap_cons, List.getElem?_append_right (by rw [hf, Nat.add_mul]; omega), hf, <- flat_get f sz hf xs i x j h2 hj]
  congr 1
  rw [Nat.add_mul]; omega
theorem flat_len {α : Type} (f : α -> List Value) (sz : Nat) (hf : ∀ x, (f x).length = sz) (xs : List α) : (xs.flatMap f).length = xs.length * sz := by
 induction xs with
 | nil => simp
 | cons x xs ih => rw [List.flatMap_cons, List.length_append, hf, ih, List.length_cons, Nat.add_mul]; omega
theorem lm_of_own {α : Type} {f : α -> List Value} {sz : Nat} (hf : ∀ x, (f x).length = sz) (hs : 0 < sz) {w : World} {base n : Nat} {v : Value} {xs : List α} {T : TypeId} (h : w.ownsRow base T sz v n (xs.flatMap f)) (hl : xs.length <= 140737488500000) : Lm f sz w v xs := by
 have hn : xs.length = n := by
  have := h.1
  rw [flat_len f sz hf] at this
  exact Nat.eq_of_mul_eq_mul_right hs this
 subst hn
 rcases h.2 with ⟨rfl, h0⟩ | ⟨g, cap, cur, rfl, hbs, hh, h1, h2, h3, h4⟩
 · exact ⟨none, 0, by rw [h0], ⟨by omega, hl, fun _ => rfl⟩, fun hne => absurd (List.length_eq_zero_iff.1 h0) hne⟩
 · refine ⟨_, cap, rfl, ⟨h1, hl, fun h => by cases h⟩, fun hne => ⟨g, 0, rfl, ?_, fun i x hx j u hu => ?_⟩⟩
   · apply Nat.lt_of_not_le; intro hc; rw [Array.getElem?_eq_none hc] at hh; cases hh
   · have hi : i < xs.length := (List.getElem?_eq_some_iff.1 hx).1
     have hj : j < sz := by rw [<- hf x]; exact (List.getElem?_eq_some_iff.1 hu).1
     have hlt : i * sz + j < xs.length * sz := by
      have := Nat.mul_le_mul_right sz (show i + 1 <= xs.length by omega)
      rw [Nat.add_mul, Nat.one_mul] at this
      omega
     rw [cell_of_row w g (0 + (i * sz + j)) cur T (0, 0) hh, Nat.zero_add]
     have e1 : cur[i * sz + j]? = cur.toList[i * sz + j]? := by simp
     have e2 : cur.toList[i * sz + j]? = (xs.flatMap f)[i * sz + j]? := by rw [<- h4, List.getElem?_take_of_lt hlt]
     rw [e1, e2, flat_get f sz hf xs i x j hx hj, hu]
def iw (x : Int) : List Value := [.int .i64 x]
theorem iw_len (x : Int) : (iw x).length = 1 := rfl
def Iw (xs : List Int) : Prop := ∀ x ∈ xs, -9223372036854775808 <= x ∧ x <= 9223372036854775807
end Go.Proofs.YtjhididlcdepdaaGreat
namespace Go.Proofs.YtjhididlcdepdaaGreat
open Go.RowKit Fld Slp
theorem Lm.int {w wr : World} {b off n cap j : Nat} {xs : List Int} (h : Lm iw 1 w (.slice (some ⟨b, off, none⟩) n cap) xs) (hb : Below w.heap.size w wr) (hj : j < xs.length) : wr.cell? ⟨b, off + j, none⟩ = some (.int .i64 xs[j]) := by
 have hx : xs[j]? = some xs[j] := List.getElem?_eq_getElem hj
 obtain ⟨hbl, hc⟩ := h.at_ hx (j := 0) (u := .int .i64 xs[j]) rfl
 have := (hb.cell (p := ⟨b, off + (j * 1 + 0), none⟩) hbl).trans hc
 rwa [Nat.mul_one, Nat.add_zero] at this
theorem own_slice {w : World} {b n s : Nat} {T : TypeId} {v : Value} {xs : List Value} (h : w.ownsRow b T s v n xs) : ∃ a c, v = .slice a n c := by
 rcases h.2 with ⟨rfl, h0⟩ | ⟨g, cap, cur, rfl, _⟩
 · exact ⟨_, _, by rw [h0]⟩
 · exact ⟨_, _, rfl⟩
theorem cell3 {W : World} {b : Nat} {x y z : Value} {T : TypeId} {fz : Nat × Nat} (h : W.heap[b]? = some (.cells #[x, y, z] T fz)) : W.cell? ⟨b, 0, none⟩ = some x ∧ W.cell? ⟨b, 1, none⟩ = some y ∧ W.cell? ⟨b, 2, none⟩ = some z :=
 ⟨by rw [Lib.cell_of_heap h]; rfl, by rw [Lib.cell_of_heap h]; rfl, by rw [Lib.cell_of_heap h]; rfl⟩
theorem int_info : (Tryz.prog.info? 3).map (fun i => (i.zero, i.size, i.bytes)) = some (some (.int .i64 0), 1, 8) := by kernel_rfl
theorem own_lit {W : World} {b s n : Nat} {T : TypeId} (cs : List Value) (h : W.heap[b]? = some (.cells cs.toArray T (0, 0))) (hl : cs.length = n * s) (hn : n <= 1000) : W.ownsRow b T s (.slice (some ⟨b, 0, none⟩) n n) n cs :=
 ⟨hl, .inr ⟨b, n, cs.toArray, rfl, Nat.le_refl _, h, Nat.le_refl _, by unfold maxLen; omega, by simpa using hl, by simp [<- hl]⟩⟩
theorem below_drewN {B : Nat} {a w : World} (h : Below B a w) (n : Nat) : Below B a (w.drewN n) := h.trans ⟨rfl, rfl, rfl, Nat.le_refl _, fun _ _ => rfl⟩
theorem dInts (v1 v2 : Value) (xs ys : List Int) (w : World) (h1 : Lm iw 1 w v1 xs) (h2 : Lm iw 1 w v2 ys) : Calls Tryz.prog 41 #[v1, v2] w fun e w' => ∃ r : Bool, e = .returned (.bool r) ∧ (r = true ↔ xs = ys) ∧ Below w.heap.size w w' := by
 obtain ⟨a1, c1, rfl, hc1⟩ := h1.spell
 obtain ⟨a2, c2, rfl, hc2⟩ := h2.spell
 have b1 := h1.len
 have b2 := h2.len
 by_cases hl : xs.length = ys.length
 · have HL := hide hl
   obtain ⟨n, HN⟩ : ∃ n, Hid (ys.length = n) := ⟨_, rfl⟩
   rw [HN.out] at hl h2 b2 hc2 ⊢
   rw [hl] at h1 b1 hc1 ⊢
   clear hl
   go_enter Tryz.func41, Tryz.ntmps41
   go_wp2
   go_loopw [5] (fun vi wr => ∃ j : Nat, j <= n ∧ vi = .int .i64 j ∧ Below w.heap.size w wr ∧ (∀ i, i < j -> xs[i]? = ys[i]?)) (fun vi _ => n - (intOf vi).toNat)
   case atStart => exact ⟨0, Nat.zero_le _, rfl, Below.refl _ _, fun i hi => by omega⟩
   case round =>
    obtain ⟨j, hj, rfl, hBr, hall⟩ := hrel
    by_cases hlt : j < n
    · have l1 : j < xs.length := by rw [HL.out, HN.out]; exact hlt
      have l2 : j < ys.length := by rw [HN.out]; exact hlt
      obtain ⟨x1, o1, c1', hv1, _, _⟩ := h1.form (by omega)
      obtain ⟨x2, o2, c2', hv2, _, _⟩ := h2.form (by omega)
      injection hv1 with e1 e1b e1c
      subst e1
      clear e1b e1c
      injection hv2 with e2 e2b e2c
      subst e2
      clear e2b e2c
      have ca := h1.int hBr l1
      have cb := h2.int hBr l2
      have HA := hide hall
      have HX : Hid (xs[j]? = ys[j]? ↔ xs[j] = ys[j]) := by show _ ↔ _; rw [List.getElem?_eq_getElem l1, List.getElem?_eq_getElem l2]; simp
      have hlt2 : (j : Int) < (n : Int) := by omega
      have hge2 : (0 : Int) <= (j : Int) := by omega
      clear hall
      by_cases hm : xs[j] = ys[j]
      · have HM := hide hm
        have hd : (xs[j] != ys[j]) = false := by rw [hm]; simp
        clear hm
        generalize xs[j] = x at *
        generalize ys[j] = y at *
        go_wp2
        go_quiet (fail)
        go_wp2
        go_roundw
        case rel =>
         refine ⟨j + 1, by omega, by go_num, below_drewN hBr _, fun i hi => ?_⟩
         rcases Nat.lt_or_ge i j with h | h
         · exact HA.out i h
         · obtain rfl : i = j := by omega
           exact HX.out.2 HM.out
        case measure => simp [intOf]; omega
      · have HM := hide hm
        have hd : (xs[j] != ys[j]) = true := bne_iff_ne.2 hm
        clear hm
        generalize xs[j] = x at *
        generalize ys[j] = y at *
        go_wp2
        go_quiet (fail)
        go_wp2
        go_ret
        refine ⟨false, rfl, ⟨fun h => (by cases h), fun h => absurd (HX.out.1 (by rw [h])) HM.out⟩, below_drewN hBr _⟩
    · obtain rfl : j = n := by omega
      go_wp2
      go_ret
      refine ⟨true, rfl, ⟨fun _ => ?_, fun _ => rfl⟩, hBr⟩
      apply List.ext_getElem?
      intro i
      rcases Nat.lt_or_ge i j with h | h
      · exact hall i h
      · rw [List.getElem?_eq_none (by rw [HL.out, HN.out]; exact h), List.getElem?_eq_none (by rw [HN.out]; exact h)]
 · have HL := hide hl
   have hd : (((xs.length : Nat) : Int) != ((ys.length : Nat) : Int)) = true := bne_iff_ne.2 (by omega)
   clear h1 h2
   clear hl
   go_enter Tryz.func41, Tryz.ntmps41
   go_wp2
   go_ret
   exact ⟨false, rfl, ⟨fun h => (by cases h), fun h => absurd (congrArg List.length h) (by first | exact HL.out | (intro hc; exact HL.out hc))⟩, Below.refl _ _⟩
end Go.Proofs.YtjhididlcdepdaaGreat
namespace Go.Proofs.YtjhididlcdepdaaGreat
open Go.RowKit
theorem appI1 (W : World) (base : Nat) (u : Value) (A : List Int) (a : Addr) (x : Int) (hO : W.ownsRow base 3 1 u A.length (A.flatMap iw)) (hc : W.cell? a = some (.int .i64 x)) (hl : A.length <= 100000) (hb : base <= W.heap.size) :
 ∃ (au' : Option Addr) (cu' : Nat) (W' : World), (Builtin.append_ #[27, 27] 27 #[u, .slice (some a) 1 1]).run Tryz.prog W = .ok (.slice au' (A.length + 1) cu') W' ∧ W'.ownsRow base 3 1 (.slice au' (A.length + 1) cu') (A ++ [x]).length ((A ++ [x]).flatMap iw) ∧ Below base W W' ∧ W.grownBy W' u.ownBlock ∧ ((Value.slice au' (A.length + 1) cu').ownBlock = u.ownBlock ∨ (Value.slice au' (A.length + 1) cu').ownBlock = some W.heap.size) := by
 obtain ⟨i0, hi0, hz0, hz1, hz2⟩ := info_parts int_info
 obtain ⟨v', W', hr, ho, hg, _, hbk⟩ := run_append_own_at (P := Tryz.prog) (w := W) base 27 27 3 i0 (.int .i64 0) 1 8 Tryz.underlying27 hi0 hz0 hz1 hz2 rfl (by decide) u A.length (A.flatMap iw) hO a 1 1 [.int .i64 x] rfl (fun j u hj => by
  cases j with
  | zero => simp at hj; rw [<- hj]; exact hc
  | succ j => simp at hj) (by simp [Value.oneCell']) (by unfold maxLen; omega) (by omega) hb
 obtain ⟨au', cu', rfl⟩ := own_slice ho
 refine ⟨au', cu', W', hr, ?_, (Below.refl base W).grown hg hb (fun k hk => own_base hO k hk), hg, hbk⟩
 rw [List.flatMap_append, List.length_append]; exact ho
end Go.Proofs.YtjhididlcdepdaaGreat
