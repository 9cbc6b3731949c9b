/-
  Layer 14: sums of blocks, as the statements make them.
-/
import Derived.Test.YtnjcljnijgkoiaaGreatBunHE
import Derived.Test.YtnjcljnijgkoiaaGreatBCpR
import Derived.Test.YtnjcljnijgkoiaaGreatBunJ
import Derived.Test.YtnjcljnijgkoiaaGreatBunHC
namespace Go.Proofs.YtnjcljnijgkoiaaGreat
open Go.RowKit Fld Pln Shr
set_option linter.unusedVariables false
set_option linter.unusedSimpArgs false

/-- A list to which so much of another one is added. -/
def sm1 (q : Int) (x y : List Int) (j : Nat) : List Int := mk x.length (fun t => if t < j then add q (co x t) (co y t) else co x t)
theorem sm1_len (q : Int) (x y : List Int) (j : Nat) : (sm1 q x y j).length = x.length := mk_len _ _
theorem sm1_zero (q : Int) (x y : List Int) : sm1 q x y 0 = x := ext_co (sm1_len _ _ _ _) (fun i hi => by
  rw [sm1_len] at hi
  unfold sm1
  rw [co_mk, if_pos hi, if_neg (by omega)])
theorem sm1_here (q : Int) (x y : List Int) {j : Nat} (hj : j < x.length) : co (sm1 q x y j) j = co x j := by
  unfold sm1
  rw [co_mk, if_pos hj, if_neg (by omega)]
theorem sm1_set (q : Int) (x y : List Int) {j : Nat} (hj : j < x.length) : (sm1 q x y j).set j (add q (co x j) (co y j)) = sm1 q x y (j + 1) := by
  refine ext_co (by rw [List.length_set, sm1_len, sm1_len]) (fun i hi => ?_)
  rw [List.length_set, sm1_len] at hi
  show ((sm1 q x y j).set j _).getD i 0 = _
  rw [Rnk.getD_set _ _ _ (by rw [sm1_len]; exact hj)]
  unfold sm1
  show (if i = j then _ else co (mk _ _) i) = _
  rw [co_mk, co_mk, if_pos hi, if_pos hi]
  by_cases e : i = j
  · rw [if_pos e, if_pos (by omega), e]
  · rw [if_neg e]
    by_cases e2 : i < j
    · rw [if_pos e2, if_pos (by omega)]
    · rw [if_neg e2, if_neg (by omega)]
theorem sm1_els {q : Int} (hq : 0 < q) {x y : List Int} (hx : Els q x) (j : Nat) : Els q (sm1 q x y j) := Els.mk _ (fun i _ => by
  show El q (if i < j then _ else _)
  split
  · exact add_el hq
  · exact hx.co hq i)
/-- Blocks while they are added. -/
def smk (q : Int) (a b : List (List Int)) (k j : Nat) : List (List Int) := mkl a.length (fun r => if r < k then sm1 q (a.getD r []) (b.getD r []) (a.getD r []).length else if r = k then sm1 q (a.getD k []) (b.getD k []) j else a.getD r [])
def sml (q : Int) (a b : List (List Int)) : List (List Int) := mkl a.length (fun r => sm1 q (a.getD r []) (b.getD r []) (a.getD r []).length)
theorem smk_len (q : Int) (a b : List (List Int)) (k j : Nat) : (smk q a b k j).length = a.length := mkl_len _ _
theorem sml_len (q : Int) (a b : List (List Int)) : (sml q a b).length = a.length := mkl_len _ _
theorem smk_zero (q : Int) (a b : List (List Int)) : smk q a b 0 0 = a := by
  refine ext_l (smk_len _ _ _ _ _) (fun i hi => ?_)
  rw [smk_len] at hi
  unfold smk
  rw [mkl_at _ hi, if_neg (by omega)]
  by_cases e : i = 0
  · rw [if_pos e, sm1_zero, e]
  · rw [if_neg e]
theorem smk_here (q : Int) (a b : List (List Int)) {k j : Nat} (hk : k < a.length) : (smk q a b k j).getD k [] = sm1 q (a.getD k []) (b.getD k []) j := by
  unfold smk
  rw [mkl_at _ hk, if_neg (by omega), if_pos rfl]
theorem smk_set (q : Int) (a b : List (List Int)) {k j : Nat} (hk : k < a.length) (hj : j < (a.getD k []).length) : (smk q a b k j).set k ((sm1 q (a.getD k []) (b.getD k []) j).set j (add q (co (a.getD k []) j) (co (b.getD k []) j))) = smk q a b k (j + 1) := by
  unfold smk
  rw [mkl_set _ hk, sm1_set _ _ _ hj]
  refine mkl_congr (fun t ht => ?_)
  by_cases e : t = k
  · rw [if_pos e, if_neg (by omega), if_pos e]
  · rw [if_neg e, if_neg e, if_neg e]
theorem smk_next (q : Int) (a b : List (List Int)) {k : Nat} (hk : k < a.length) : smk q a b k (a.getD k []).length = smk q a b (k + 1) 0 := by
  unfold smk
  refine mkl_congr (fun t ht => ?_)
  by_cases e : t < k
  · rw [if_pos e, if_pos (by omega)]
  · by_cases e2 : t = k
    · rw [if_neg e, if_pos e2, if_pos (by omega), e2]
    · rw [if_neg e, if_neg e2, if_neg (by omega)]
      by_cases e3 : t = k + 1
      · rw [if_pos e3, sm1_zero, e3]
      · rw [if_neg e3]
theorem smk_all (q : Int) (a b : List (List Int)) : smk q a b a.length 0 = sml q a b := mkl_congr (fun t ht => by rw [if_pos ht])

end Go.Proofs.YtnjcljnijgkoiaaGreat
