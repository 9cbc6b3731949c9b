/-
  Layer 14, plain: blocks made into shares: the polynomials place by place, their values at other elements; as many shares as there are blocks open to the blocks; a share as a sum by the rows of Lagrange's polynomials; shares of sums.
-/
import Derived.Test.YtpbfgcepmbpkdaaGreatBIntA
namespace Go.Proofs.YtpbfgcepmbpkdaaGreat.Shr
open Go.Proofs.YtpbfgcepmbpkdaaGreat.Fld
set_option linter.unusedVariables false

/-- The elements at a place. -/
def col (bl : List (List Int)) (t : Nat) : List Int := bl.map (fun b => co b t)
theorem col_len (bl : List (List Int)) (t : Nat) : (col bl t).length = bl.length := List.length_map ..
theorem col_at {bl : List (List Int)} {t k : Nat} (hk : k < bl.length) : co (col bl t) k = co bl[k] t := by
  rw [co_at (by rw [col_len]; exact hk)]; unfold col; rw [List.getElem_map]
theorem col_els {p : Int} (hp : 0 < p) {bl : List (List Int)} (h : ∀ b ∈ bl, Els p b) (t : Nat) : Els p (col bl t) := fun y hy => by
  obtain ⟨b, hb, rfl⟩ := List.mem_map.1 hy
  exact (h b hb).co hp t
theorem col_app (a b : List (List Int)) (t : Nat) : col (a ++ b) t = col a t ++ col b t := List.map_append ..
/-- The polynomial through blocks at a place. -/
def py (p : Int) (xs : List Int) (bl : List (List Int)) (t : Nat) : List Int := tp p xs (col bl t) xs.length
theorem py_thr {p : Int} {wd : Bool} (hm : Md p wd) {xs : List Int} (hx : Els p xs) (hn : xs.Nodup) {bl : List (List Int)} (hb : ∀ b ∈ bl, Els p b) (t : Nat) : Thr p xs (col bl t) (py p xs bl t) := tp_thr hm hx (col_els (by have := hm.bounds; omega) hb t) hn
/-- The polynomials, so many places wide. -/
def pys (p : Int) (xs : List Int) (w : Nat) (bl : List (List Int)) : List (List Int) := (List.range w).map (py p xs bl)
/-- The values of these at an element. -/
def shr (p : Int) (xs : List Int) (w : Nat) (bl : List (List Int)) (x : Int) : List Int := mk w (fun t => vl p x (py p xs bl t))
theorem shr_pys (p : Int) (xs : List Int) (w : Nat) (bl : List (List Int)) (x : Int) : (pys p xs w bl).map (vl p x) = shr p xs w bl x := by unfold pys shr mk; rw [List.map_map]; rfl
theorem shr_len (p : Int) (xs : List Int) (w : Nat) (bl : List (List Int)) (x : Int) : (shr p xs w bl x).length = w := mk_len _ _
theorem shr_at {p : Int} {xs : List Int} {w : Nat} {bl : List (List Int)} {x : Int} {t : Nat} (ht : t < w) : co (shr p xs w bl x) t = vl p x (py p xs bl t) := by unfold shr; rw [co_mk, if_pos ht]
theorem shr_els {p : Int} (hp : 0 < p) (xs : List Int) (w : Nat) (bl : List (List Int)) (x : Int) : Els p (shr p xs w bl x) := Els.mk _ (fun _ _ => vl_el hp _ _)
/-- A share by the row of its element. -/
theorem shr_row {p : Int} {wd : Bool} (hm : Md p wd) {xs : List Int} (hx : Els p xs) (hn : xs.Nodup) {w : Nat} {bl : List (List Int)} (hb : ∀ b ∈ bl, Els p b) (x : Int) {t : Nat} (ht : t < w) : co (shr p xs w bl x) t = ds p (bs p xs x) (co (col bl t)) xs.length := by
  have hp : 0 < p := by have := hm.bounds; omega
  rw [shr_at ht]; exact Thr.value hm hx (col_els hp hb t) hn (py_thr hm hx hn hb t) x
/-- Sums of two lists, as long as the first one. -/
def smb (p : Int) (a b : List Int) : List Int := mk a.length (fun t => if t < b.length then add p (co a t) (co b t) else co a t)
end Go.Proofs.YtpbfgcepmbpkdaaGreat.Shr
