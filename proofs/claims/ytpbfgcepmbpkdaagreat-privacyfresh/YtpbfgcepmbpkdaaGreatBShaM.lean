/-
  Rows of the call's own, one of them laid anew; what stands in them while blocks are turned round.
-/
import Derived.Test.YtpbfgcepmbpkdaaGreatBPntM
import Derived.Test.YtpbfgcepmbpkdaaGreatBunHA
namespace Go.Proofs.YtpbfgcepmbpkdaaGreat
open Go.RowKit Fld Pln Shr
set_option linter.unusedVariables false
set_option linter.unusedSimpArgs false

/-- One row laid anew. -/
theorem Mtx.lay {w : World} {lo G r cap : Nat} {us : List Value} {l : List (List Int)} (h : Mtx w lo (.slice (some ⟨G, 0, none⟩) r cap) us l) (hr : r = l.length) {k : Nat} (hk : k < l.length) {u : Value} {ys : List Int} (hu : w.ownsRow lo 50 1 u ys.length (vals ys)) (hd : ∀ i g, i < l.length → i ≠ k → (us.getD i nov).ownBlock = some g → u.ownBlock ≠ some g) :
    Mtx (w.setCell ⟨G, k, none⟩ u) lo (.slice (some ⟨G, 0, none⟩) r cap) (us.set k u) (l.set k ys) := by
  subst hr
  have hl := h.len
  refine ⟨?_, fun i hi => ?_, fun i j g hi hj hne e1 e2 => ?_⟩
  · rw [List.length_set]; exact own_setv h.row u hk
  · rw [List.length_set] at hi
    rw [Rnk.getD_set _ _ _ (by omega), Rnk.getD_set _ _ _ hk]
    by_cases e : i = k
    · rw [if_pos e, if_pos e]
      exact own_other hu (fun e2 => own_kind hu h.row (Ne.symm ne_kinds) G e2 rfl)
    · rw [if_neg e, if_neg e]
      exact own_other (h.each i hi) (fun e2 => own_kind (h.each i hi) h.row (Ne.symm ne_kinds) G e2 rfl)
  · rw [List.length_set] at hi hj
    rw [Rnk.getD_set _ _ _ (by omega)] at e1 e2
    by_cases ei : i = k
    · rw [if_pos ei] at e1
      rw [if_neg (fun ej => hne (ei.trans ej.symm))] at e2
      exact hd j g hj (fun ej => hne (ei.trans ej.symm)) e2 e1
    · rw [if_neg ei] at e1
      by_cases ej : j = k
      · rw [if_pos ej] at e2
        exact hd i g hi ei e1 e2
      · rw [if_neg ej] at e2
        exact h.dif i j g hi hj hne e1 e2
/-- The rows' blocks are old. -/
theorem Mtx.tops {w : World} {lo : Nat} {v : Value} {us : List Value} {l : List (List Int)} (h : Mtx w lo v us l) {i g : Nat} (hi : i < l.length) (hg : (us.getD i nov).ownBlock = some g) : g < w.heap.size := own_top (h.each i hi) g hg
/-- Lists of so many lists, by places. -/
def mkl (n : Nat) (f : Nat → List Int) : List (List Int) := (List.range n).map f
theorem mkl_len (n : Nat) (f : Nat → List Int) : (mkl n f).length = n := by simp [mkl]
theorem mkl_at {n : Nat} (f : Nat → List Int) {t : Nat} (h : t < n) : (mkl n f).getD t [] = f t := by
  simp [mkl, List.getD_eq_getElem?_getD, h]
theorem ext_l {a b : List (List Int)} (hl : a.length = b.length) (h : ∀ i, i < a.length → a.getD i [] = b.getD i []) : a = b := by
  refine List.ext_getElem hl (fun i h1 h2 => ?_)
  have := h i h1
  rw [List.getD_eq_getElem?_getD, List.getD_eq_getElem?_getD, List.getElem?_eq_getElem h1, List.getElem?_eq_getElem h2] at this
  exact this
theorem mkl_congr {n : Nat} {f g : Nat → List Int} (h : ∀ t, t < n → f t = g t) : mkl n f = mkl n g :=
  ext_l (by rw [mkl_len, mkl_len]) (fun i hi => by rw [mkl_len] at hi; rw [mkl_at f hi, mkl_at g hi, h i hi])
theorem mkl_set {n : Nat} (f : Nat → List Int) {k : Nat} (hk : k < n) (ys : List Int) : (mkl n f).set k ys = mkl n (fun t => if t = k then ys else f t) :=
  ext_l (by rw [List.length_set, mkl_len, mkl_len]) (fun i hi => by
    rw [List.length_set, mkl_len] at hi
    rw [Rnk.getD_set _ _ _ (by rw [mkl_len]; exact hk), mkl_at f hi, mkl_at _ hi])
/-- A column up to a block. -/
def pcol (bl : List (List Int)) (t j : Nat) : List Int := mk bl.length (fun i => if i < j then co (bl.getD i []) t else 0)
theorem pcol_len (bl : List (List Int)) (t j : Nat) : (pcol bl t j).length = bl.length := mk_len _ _
theorem pcol_zero (bl : List (List Int)) (t : Nat) : pcol bl t 0 = List.replicate bl.length 0 := by
  unfold pcol mk
  refine List.ext_getElem (by simp) (fun i h1 h2 => by simp)
theorem pcol_all (bl : List (List Int)) (t : Nat) : pcol bl t bl.length = col bl t := by
  refine ext_co (by rw [pcol_len, col_len]) (fun i hi => ?_)
  rw [pcol_len] at hi
  unfold pcol
  rw [co_mk, if_pos hi, if_pos hi, col_at hi, List.getD_eq_getElem?_getD, List.getElem?_eq_getElem hi]; rfl
theorem pcol_set {bl : List (List Int)} {t j : Nat} (hj : j < bl.length) : (pcol bl t j).set j (co (bl.getD j []) t) = pcol bl t (j + 1) := by
  refine ext_co (by rw [List.length_set, pcol_len, pcol_len]) (fun i hi => ?_)
  rw [List.length_set, pcol_len] at hi
  show ((pcol bl t j).set j _).getD i 0 = _
  rw [Rnk.getD_set _ _ _ (by rw [pcol_len]; exact hj)]
  unfold pcol
  show (if i = j then _ else co (mk _ _) i) = _
  rw [co_mk, co_mk, if_pos hi, if_pos hi]
  by_cases e : i = j
  · rw [if_pos e, if_pos (by omega), e]
  · rw [if_neg e]
    by_cases e2 : i < j
    · rw [if_pos e2, if_pos (by omega)]
    · rw [if_neg e2, if_neg (by omega)]
/-- While blocks are turned round: so many rows whole, the next one up to a block. -/
def trj (bl : List (List Int)) (n k j : Nat) : List (List Int) := mkl n (fun t => if t < k then col bl t else if t = k then pcol bl k j else [])
def trk (bl : List (List Int)) (n k : Nat) : List (List Int) := mkl n (fun t => if t < k then col bl t else [])
theorem trk_len (bl : List (List Int)) (n k : Nat) : (trk bl n k).length = n := mkl_len _ _
theorem trj_len (bl : List (List Int)) (n k j : Nat) : (trj bl n k j).length = n := mkl_len _ _
theorem trj_here (bl : List (List Int)) {n k j : Nat} (h : k < n) : (trj bl n k j).getD k [] = pcol bl k j := by
  unfold trj
  rw [mkl_at _ h, if_neg (by omega), if_pos rfl]
theorem trk_all (bl : List (List Int)) (n : Nat) : trk bl n n = trn bl n := mkl_congr (fun t ht => by rw [if_pos ht])
theorem trk_lay (bl : List (List Int)) {n k : Nat} (hk : k < n) : (trk bl n k).set k (List.replicate bl.length 0) = trj bl n k 0 := by
  unfold trk trj
  rw [mkl_set _ hk]
  refine mkl_congr (fun t ht => ?_)
  by_cases e : t = k
  · rw [if_pos e, if_neg (by omega), if_pos e, pcol_zero]
  · rw [if_neg e, if_neg e]
theorem trj_set (bl : List (List Int)) {n k j : Nat} (hk : k < n) (hj : j < bl.length) : (trj bl n k j).set k ((pcol bl k j).set j (co (bl.getD j []) k)) = trj bl n k (j + 1) := by
  unfold trj
  rw [mkl_set _ hk, pcol_set hj]
  refine mkl_congr (fun t ht => ?_)
  by_cases e : t = k
  · rw [if_pos e, if_neg (by omega), if_pos e]
  · rw [if_neg e, if_neg e, if_neg e]
theorem trj_end (bl : List (List Int)) {n k : Nat} (hk : k < n) : trj bl n k bl.length = trk bl n (k + 1) := by
  unfold trj trk
  refine mkl_congr (fun t ht => ?_)
  by_cases e : t < k
  · rw [if_pos e, if_pos (by omega)]
  · by_cases e2 : t = k
    · rw [if_neg e, if_pos e2, if_pos (by omega), pcol_all, e2]
    · rw [if_neg e, if_neg e2, if_neg (by omega)]
/-- While each place is worked on: so many done. -/
def ech (F : List Int → List Int) (bl : List (List Int)) (n k : Nat) : List (List Int) := mkl n (fun t => if t < k then F (col bl t) else col bl t)
theorem ech_len (F : List Int → List Int) (bl : List (List Int)) (n k : Nat) : (ech F bl n k).length = n := mkl_len _ _
theorem ech_zero (F : List Int → List Int) (bl : List (List Int)) (n : Nat) : ech F bl n 0 = trn bl n := mkl_congr (fun t _ => by rw [if_neg (by omega)])
theorem ech_all (F : List Int → List Int) (bl : List (List Int)) (n : Nat) : ech F bl n n = (List.range n).map (fun t => F (col bl t)) := mkl_congr (fun t ht => by rw [if_pos ht])
theorem ech_here (F : List Int → List Int) (bl : List (List Int)) {n k : Nat} (h : k < n) : (ech F bl n k).getD k [] = col bl k := by
  unfold ech
  rw [mkl_at _ h, if_neg (by omega)]
theorem ech_set (F : List Int → List Int) (bl : List (List Int)) {n k : Nat} (hk : k < n) : (ech F bl n k).set k (F (col bl k)) = ech F bl n (k + 1) := by
  unfold ech
  rw [mkl_set _ hk]
  refine mkl_congr (fun t ht => ?_)
  by_cases e : t = k
  · rw [if_pos e, if_pos (by omega), e]
  · rw [if_neg e]
    by_cases e2 : t < k
    · rw [if_pos e2, if_pos (by omega)]
    · rw [if_neg e2, if_neg (by omega)]

end Go.Proofs.YtpbfgcepmbpkdaaGreat
