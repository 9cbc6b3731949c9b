/-
  Layer 14, plain: blocks made into shares: the polynomials place by place, their values at other elements; as many shares as there are blocks open to the blocks; a share as a sum by the rows of Lagrange's polynomials; shares of sums.
-/
import Derived.Test.YtpbfgcepmbpkdaaGreatBIntA
namespace Go.Proofs.YtpbfgcepmbpkdaaGreat.Shr
open Go.Proofs.YtpbfgcepmbpkdaaGreat.Fld
set_option linter.unusedVariables false

/-- The elements at a place. -/
def col (bl : List (List Int)) (t : Nat) : List Int := bl.map (fun b => co b t)
theorem col_len (bl : List (List Int)) (t : Nat) : (col bl t).length = bl.length := List.length_map ..
theorem col_at {bl : List (List Int)} {t k : Nat} (hk : k < bl.length) : co (col bl t) k = co bl[k] t := by
  rw [co_at (by rw [col_len]; exact hk)]; unfold col; rw [List.getElem_map]
theorem col_els {p : Int} (hp : 0 < p) {bl : List (List Int)} (h : ∀ b ∈ bl, Els p b) (t : Nat) : Els p (col bl t) := fun y hy => by
  obtain ⟨b, hb, rfl⟩ := List.mem_map.1 hy
  exact (h b hb).co hp t
theorem col_app (a b : List (List Int)) (t : Nat) : col (a ++ b) t = col a t ++ col b t := List.map_append ..
/-- The polynomial through blocks at a place. -/
def py (p : Int) (xs : List Int) (bl : List (List Int)) (t : Nat) : List Int := tp p xs (col bl t) xs.length
theorem py_thr {p : Int} {wd : Bool} (hm : Md p wd) {xs : List Int} (hx : Els p xs) (hn : xs.Nodup) {bl : List (List Int)} (hb : ∀ b ∈ bl, Els p b) (t : Nat) : Thr p xs (col bl t) (py p xs bl t) := tp_thr hm hx (col_els (by have := hm.bounds; omega) hb t) hn
/-- The polynomials, so many places wide. -/
def pys (p : Int) (xs : List Int) (w : Nat) (bl : List (List Int)) : List (List Int) := (List.range w).map (py p xs bl)
/-- The values of these at an element. -/
def shr (p : Int) (xs : List Int) (w : Nat) (bl : List (List Int)) (x : Int) : List Int := mk w (fun t => vl p x (py p xs bl t))
theorem shr_pys (p : Int) (xs : List Int) (w : Nat) (bl : List (List Int)) (x : Int) : (pys p xs w bl).map (vl p x) = shr p xs w bl x := by unfold pys shr mk; rw [List.map_map]; rfl
theorem shr_len (p : Int) (xs : List Int) (w : Nat) (bl : List (List Int)) (x : Int) : (shr p xs w bl x).length = w := mk_len _ _
theorem shr_at {p : Int} {xs : List Int} {w : Nat} {bl : List (List Int)} {x : Int} {t : Nat} (ht : t < w) : co (shr p xs w bl x) t = vl p x (py p xs bl t) := by unfold shr; rw [co_mk, if_pos ht]
theorem shr_els {p : Int} (hp : 0 < p) (xs : List Int) (w : Nat) (bl : List (List Int)) (x : Int) : Els p (shr p xs w bl x) := Els.mk _ (fun _ _ => vl_el hp _ _)
/-- The polynomials through as many shares are those through the blocks. -/
theorem py_back {p : Int} {wd : Bool} (hm : Md p wd) {xs zs : List Int} (hx : Els p xs) (hn : xs.Nodup) (hz : Els p zs) (hv : zs.Nodup) (hl : zs.length = xs.length) {w : Nat} {bl : List (List Int)} (hb : ∀ b ∈ bl, Els p b) {t : Nat} (ht : t < w) : py p zs (zs.map (shr p xs w bl)) t = py p xs bl t := by
  have hp : 0 < p := by have := hm.bounds; omega
  have hT := py_thr hm hx hn hb t
  have hS : ∀ b ∈ zs.map (shr p xs w bl), Els p b := fun b hb => by
    obtain ⟨z, _, rfl⟩ := List.mem_map.1 hb
    exact shr_els hp _ _ _ _
  refine Thr.only hm hz hv (py_thr hm hz hv hS t) ⟨hT.1, by rw [hl]; exact hT.2.1, fun i hi => ?_⟩
  rw [col_at (by rw [List.length_map]; exact hi), List.getElem_map, shr_at ht, co_at hi]
/-- As many shares open to the blocks. -/
theorem open_back {p : Int} {wd : Bool} (hm : Md p wd) {xs zs : List Int} (hx : Els p xs) (hn : xs.Nodup) (hz : Els p zs) (hv : zs.Nodup) (hl : zs.length = xs.length) {w : Nat} {bl : List (List Int)} (hb : ∀ b ∈ bl, Els p b) (hw : ∀ b ∈ bl, b.length = w) (hk : bl.length = xs.length) : xs.map (shr p zs w (zs.map (shr p xs w bl))) = bl := by
  refine List.ext_getElem (by rw [List.length_map, hk]) (fun i h1 h2 => ?_)
  rw [List.getElem_map]
  have hi : i < xs.length := by omega
  refine ext_co ((shr_len _ _ _ _ _).trans (hw _ (List.getElem_mem h2)).symm) (fun t ht => ?_)
  rw [shr_len] at ht
  rw [shr_at ht, py_back hm hx hn hz hv hl hb ht]
  have := (py_thr hm hx hn hb t).2.2 i hi
  rw [co_at hi, col_at h2] at this
  exact this
/-- A share by the row of its element. -/
theorem shr_row {p : Int} {wd : Bool} (hm : Md p wd) {xs : List Int} (hx : Els p xs) (hn : xs.Nodup) {w : Nat} {bl : List (List Int)} (hb : ∀ b ∈ bl, Els p b) (x : Int) {t : Nat} (ht : t < w) : co (shr p xs w bl x) t = ds p (bs p xs x) (co (col bl t)) xs.length := by
  have hp : 0 < p := by have := hm.bounds; omega
  rw [shr_at ht]; exact Thr.value hm hx (col_els hp hb t) hn (py_thr hm hx hn hb t) x
theorem add_four (p a b c d : Int) : add p (add p a b) (add p c d) = add p (add p a c) (add p b d) := by
  unfold add
  rw [← Int.add_emod, ← Int.add_emod]
  congr 1; omega
theorem ds_add {p : Int} (f g h : Nat → Int) : ∀ n, ds p f (fun k => add p (g k) (h k)) n = add p (ds p f g n) (ds p f h n)
  | 0 => by show (0 : Int) = (0 + 0) % p; simp
  | n + 1 => by
    show add p (ds p f _ n) (mul p (f n) (add p (g n) (h n))) = add p (add p (ds p f g n) (mul p (f n) (g n))) (add p (ds p f h n) (mul p (f n) (h n)))
    rw [ds_add f g h n, ring_dist, add_four]
/-- Sums of two lists, as long as the first one. -/
def smb (p : Int) (a b : List Int) : List Int := mk a.length (fun t => if t < b.length then add p (co a t) (co b t) else co a t)
/-- Shares of sums are sums of shares. -/
theorem shr_sum {p : Int} {wd : Bool} (hm : Md p wd) {xs : List Int} (hx : Els p xs) (hn : xs.Nodup) {w : Nat} {a b c : List (List Int)} (ha : ∀ l ∈ a, Els p l) (hb : ∀ l ∈ b, Els p l) (hc : ∀ l ∈ c, Els p l) (la : a.length = xs.length) (lb : b.length = xs.length) (lc : c.length = xs.length) (h : ∀ k t (h1 : k < a.length) (h2 : k < b.length) (h3 : k < c.length), t < w → co c[k] t = add p (co a[k] t) (co b[k] t)) (x : Int) : shr p xs w c x = smb p (shr p xs w a x) (shr p xs w b x) := by
  have e : ∀ t, t < w → co (shr p xs w c x) t = add p (co (shr p xs w a x) t) (co (shr p xs w b x) t) := fun t ht => by
    rw [shr_row hm hx hn hc x ht, shr_row hm hx hn ha x ht, shr_row hm hx hn hb x ht, ← ds_add]
    refine ds_congr _ (fun _ _ => rfl) (fun k hk => ?_)
    rw [col_at (by omega), col_at (by omega), col_at (by omega)]
    exact h k t (by omega) (by omega) (by omega) ht
  refine ext_co (by unfold smb; rw [mk_len, shr_len, shr_len]) (fun t ht => ?_)
  rw [shr_len] at ht
  unfold smb
  rw [co_mk, if_pos (by rw [shr_len]; exact ht), if_pos (by rw [shr_len]; exact ht), e t ht]

end Go.Proofs.YtpbfgcepmbpkdaaGreat.Shr
