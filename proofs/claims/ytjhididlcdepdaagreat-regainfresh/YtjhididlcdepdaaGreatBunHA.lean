import Derived.Test.YtjhididlcdepdaaGreatBunAT
import Derived.Test.YtjhididlcdepdaaGreatBunM
import Derived.Test.YtjhididlcdepdaaGreatBRowA
import Derived.Test.YtjhididlcdepdaaGreatBPntM
set_option linter.unusedVariables false
set_option linter.unusedSimpArgs false
set_option maxRecDepth 100000
set_option maxHeartbeats 4000000
namespace Go.Proofs.YtjhididlcdepdaaGreat
open Go.RowKit Fld Pln Shr
def trn (bl : List (List Int)) (n : Nat) : List (List Int) := (List.range n).map (fun t => col bl t)
theorem Mtx.lay {w : World} {lo G r cap : Nat} {us : List Value} {l : List (List Int)} (h : Mtx w lo (.slice (some ⟨G, 0, none⟩) r cap) us l) (hr : r = l.length) {k : Nat} (hk : k < l.length) {u : Value} {ys : List Int} (hu : w.ownsRow lo 64 1 u ys.length (vals ys)) (hd : ∀ i g, i < l.length -> i ≠ k -> (us.getD i nov).ownBlock = some g -> u.ownBlock ≠ some g) :
 Mtx (w.setCell ⟨G, k, none⟩ u) lo (.slice (some ⟨G, 0, none⟩) r cap) (us.set k u) (l.set k ys) := by
 subst hr
 have hl := h.len
 refine ⟨?_, fun i hi => ?_, fun i j g hi hj hne e1 e2 => ?_⟩
 · rw [List.length_set]; exact own_setv h.row u hk
 · rw [List.length_set] at hi
   rw [Rnk.getD_set _ _ _ (by omega), Rnk.getD_set _ _ _ hk]
   by_cases e : i = k
   · rw [if_pos e, if_pos e]
     exact own_other hu (fun e2 => own_kind hu h.row (Ne.symm ne_kinds) G e2 rfl)
   · rw [if_neg e, if_neg e]
     exact own_other (h.each i hi) (fun e2 => own_kind (h.each i hi) h.row (Ne.symm ne_kinds) G e2 rfl)
 · rw [List.length_set] at hi hj
   rw [Rnk.getD_set _ _ _ (by omega)] at e1 e2
   by_cases ei : i = k
   · rw [if_pos ei] at e1
     rw [if_neg (fun ej => hne (ei.trans ej.symm))] at e2
     exact hd j g hj (fun ej => hne (ei.trans ej.symm)) e2 e1
   · rw [if_neg ei] at e1
     by_cases ej : j = k
     · rw [if_pos ej] at e2
       exact hd i g hi ei e1 e2
     · rw [if_neg ej] at e2
       exact h.dif i j g hi hj hne e1 e2
theorem Mtx.tops {w : World} {lo : Nat} {v : Value} {us : List Value} {l : List (List Int)} (h : Mtx w lo v us l) {i g : Nat} (hi : i < l.length) (hg : (us.getD i nov).ownBlock = some g) : g < w.heap.size := own_top (h.each i hi) g hg
def mkl (n : Nat) (f : Nat -> List Int) : List (List Int) := (List.range n).map f
theorem mkl_len (n : Nat) (f : Nat -> List Int) : (mkl n f).length = n := by simp [mkl]
theorem mkl_at {n : Nat} (f : Nat -> List Int) {t : Nat} (h : t < n) : (mkl n f).getD t [] = f t := by
 simp [mkl, List.getD_eq_getElem?_getD, h]
theorem ext_l {a b : List (List Int)} (hl : a.length = b.length) (h : ∀ i, i < a.length -> a.getD i [] = b.getD i []) : a = b := by
 refine List.ext_getElem hl (fun i h1 h2 => ?_)
 have := h i h1
 rw [List.getD_eq_getElem?_getD, List.getD_eq_getElem?_getD, List.getElem?_eq_getElem h1, List.getElem?_eq_getElem h2] at this
 exact this
theorem mkl_congr {n : Nat} {f g : Nat -> List Int} (h : ∀ t, t < n -> f t = g t) : mkl n f = mkl n g :=
 ext_l (by rw [mkl_len, mkl_len]) (fun i hi => by rw [mkl_len] at hi; rw [mkl_at f hi, mkl_at g hi, h i hi])
theorem mkl_set {n : Nat} (f : Nat -> List Int) {k : Nat} (hk : k < n) (ys : List Int) : (mkl n f).set k ys = mkl n (fun t => if t = k then ys else f t) :=
 ext_l (by rw [List.length_set, mkl_len, mkl_len]) (fun i hi => by
  rw [List.length_set, mkl_len] at hi
  rw [Rnk.getD_set _ _ _ (by rw [mkl_len]; exact hk), mkl_at f hi, mkl_at _ hi])
def pcol (bl : List (List Int)) (t j : Nat) : List Int := mk bl.length (fun i => if i < j then co (bl.getD i []) t else 0)
theorem pcol_len (bl : List (List Int)) (t j : Nat) : (pcol bl t j).length = bl.length := mk_len _ _
theorem pcol_zero (bl : List (List Int)) (t : Nat) : pcol bl t 0 = List.replicate bl.length 0 := by
 unfold pcol mk
 refine List.ext_getElem (by simp) (fun i h1 h2 => by simp)
theorem pcol_all (bl : List (List Int)) (t : Nat) : pcol bl t bl.length = col bl t := by
 refine ext_co (by rw [pcol_len, col_len]) (fun i hi => ?_)
 rw [pcol_len] at hi
 unfold pcol
 rw [co_mk, if_pos hi, if_pos hi, col_at hi, List.getD_eq_getElem?_getD, List.getElem?_eq_getElem hi]; rfl
theorem pcol_set {bl : List (List Int)} {t j : Nat} (hj : j < bl.length) : (pcol bl t j).set j (co (bl.getD j []) t) = pcol bl t (j + 1) := by
 refine ext_co (by rw [List.length_set, pcol_len, pcol_len]) (fun i hi => ?_)
 rw [List.length_set, pcol_len] at hi
 show ((pcol bl t j).set j _).getD i 0 = _
 rw [Rnk.getD_set _ _ _ (by rw [pcol_len]; exact hj)]
 unfold pcol
 show (if i = j then _ else co (mk _ _) i) = _
 rw [co_mk, co_mk, if_pos hi, if_pos hi]
 by_cases e : i = j
 · rw [if_pos e, if_pos (by omega), e]
 · rw [if_neg e]
   by_cases e2 : i < j
   · rw [if_pos e2, if_pos (by omega)]
   · rw [if_neg e2, if_neg (by omega)]
def trj (bl : List (List Int)) (n k j : Nat) : List (List Int) := mkl n (fun t => if t < k then col bl t else if t = k then pcol bl k j else [])
def trk (bl : List (List Int)) (n k : Nat) : List (List Int) := mkl n (fun t => if t < k then col bl t else [])
theorem trk_len (bl : List (List Int)) (n k : Nat) : (trk bl n k).length = n := mkl_len _ _
theorem trj_len (bl : List (List Int)) (n k j : Nat) : (trj bl n k j).length = n := mkl_len _ _
theorem trj_here (bl : List (List Int)) {n k j : Nat} (h : k < n) : (trj bl n k j).getD k [] = pcol bl k j := by
 unfold trj
 rw [mkl_at _ h, if_neg (by omega), if_pos rfl]
theorem trk_all (bl : List (List Int)) (n : Nat) : trk bl n n = trn bl n := mkl_congr (fun t ht => by rw [if_pos ht])
theorem trk_lay (bl : List (List Int)) {n k : Nat} (hk : k < n) : (trk bl n k).set k (List.replicate bl.length 0) = trj bl n k 0 := by
 unfold trk trj
 rw [mkl_set _ hk]
 refine mkl_congr (fun t ht => ?_)
 by_cases e : t = k
 · rw [if_pos e, if_neg (by omega), if_pos e, pcol_zero]
 · rw [if_neg e, if_neg e]
theorem trj_set (bl : List (List Int)) {n k j : Nat} (hk : k < n) (hj : j < bl.length) : (trj bl n k j).set k ((pcol bl k j).set j (co (bl.getD j []) k)) = trj bl n k (j + 1) := by
 unfold trj
 rw [mkl_set _ hk, pcol_set hj]
 refine mkl_congr (fun t ht => ?_)
 by_cases e : t = k
 · rw [if_pos e, if_neg (by omega), if_pos e]
 · rw [if_neg e, if_neg e, if_neg e]
theorem trj_end (bl : List (List Int)) {n k : Nat} (hk : k < n) : trj bl n k bl.length = trk bl n (k + 1) := by
 unfold trj trk
 refine mkl_congr (fun t ht => ?_)
 by_cases e : t < k
 · rw [if_pos e, if_pos (by omega)]
 · by_cases e2 : t = k
   · rw [if_neg e, if_pos e2, if_pos (by omega), pcol_all, e2]
   · rw [if_neg e, if_neg e2, if_neg (by omega)]
end Go.Proofs.YtjhididlcdepdaaGreat
namespace Go.Proofs.YtjhididlcdepdaaGreat
open Go.RowKit Fld
theorem w64_info : (Tryz.prog.info? 64).map (fun i => (i.zero, i.size, i.bytes)) = some (some (.int .u64 0), 1, 8) := by kernel_rfl
end Go.Proofs.YtjhididlcdepdaaGreat
namespace Go.Proofs.YtjhididlcdepdaaGreat
open Go.RowKit Fld Pln Shr
theorem made_listH (z : Value) (n : Nat) : madeCells #[z] (n * 1) = (List.replicate n z).toArray := by
 apply Array.ext'
 rw [toList_madeCells_one, Nat.mul_one]
def zrs (n : Nat) : List Value := vals (List.replicate n 0)
def nvs (n : Nat) : List Value := List.replicate n nov
theorem makeW (n : Nat) (hm : n <= 1000) (W : World) : (Instr.makeSlice 36 (.int .i64 (n : Int)) (.int .i64 (n : Int))).run Tryz.prog W = .ok (.slice (some ⟨W.heap.size, 0, none⟩) n n) (W.alloc (.cells (zrs n).toArray 64)) := by
 obtain ⟨i, hi, hz, hs, hb⟩ := info_parts w64_info
 have := run_make (P := Tryz.prog) W 36 64 i (.int .u64 0) Tryz.underlying36 hi hz .i64 .i64 (n : Int) (n : Int) (by omega) (by omega) (by rw [hb]; omega) (by omega)
 rw [this, hs, Int.toNat_natCast]
 show Result.ok _ (W.alloc (.cells (madeCells #[.int .u64 0] (n * 1)) 64)) = _
 rw [made_listH]
 unfold zrs vals
 rw [List.map_replicate]
theorem makeN (n : Nat) (hm : n <= 1000) (W : World) : (Instr.makeSlice 26 (.int .i64 (n : Int)) (.int .i64 (n : Int))).run Tryz.prog W = .ok (.slice (some ⟨W.heap.size, 0, none⟩) n n) (W.alloc (.cells (nvs n).toArray 36)) := by
 obtain ⟨i, hi, hz, hs, hb⟩ := info_parts sl_info
 have := run_make (P := Tryz.prog) W 26 36 i (.slice none 0 0) Tryz.underlying26 hi hz .i64 .i64 (n : Int) (n : Int) (by omega) (by omega) (by rw [hb]; omega) (by omega)
 rw [this, hs, Int.toNat_natCast]
 show Result.ok _ (W.alloc (.cells (madeCells #[.slice none 0 0] (n * 1)) 36)) = _
 rw [made_listH]
 rfl
theorem own_new {W : World} {base n : Nat} {T : TypeId} {cs : List Value} (hb : base <= W.heap.size) (hl : cs.length = n) (hn : n <= 1000) : (W.alloc (.cells cs.toArray T)).ownsRow base T 1 (.slice (some ⟨W.heap.size, 0, none⟩) n n) n cs :=
 ⟨by rw [hl, Nat.mul_one], .inr ⟨W.heap.size, n, cs.toArray, rfl, hb, heap_alloc_last W _, Nat.le_refl _, by unfold maxLen; omega, by rw [List.size_toArray, hl, Nat.mul_one], by rw [Nat.mul_one, <- hl]; exact List.take_length⟩⟩
theorem zrs_len (n : Nat) : (zrs n).length = n := by unfold zrs; rw [vals_length]; simp
theorem nvs_len (n : Nat) : (nvs n).length = n := by simp [nvs]
def pfil (xs : List Int) (k : Nat) : List Int := mk xs.length (fun i => if i < k then co xs i else 0)
theorem pfil_len (xs : List Int) (k : Nat) : (pfil xs k).length = xs.length := mk_len _ _
theorem pfil_zero (xs : List Int) : pfil xs 0 = List.replicate xs.length 0 := by
 unfold pfil mk
 refine List.ext_getElem (by simp) (fun i h1 h2 => by simp)
theorem pfil_all (xs : List Int) : pfil xs xs.length = xs := by
 refine ext_co (pfil_len _ _) (fun i hi => ?_)
 rw [pfil_len] at hi
 unfold pfil
 rw [co_mk, if_pos hi, if_pos hi]
theorem pfil_set {xs : List Int} {k : Nat} (hk : k < xs.length) : (pfil xs k).set k (co xs k) = pfil xs (k + 1) := by
 refine ext_co (by rw [List.length_set, pfil_len, pfil_len]) (fun i hi => ?_)
 rw [List.length_set, pfil_len] at hi
 show ((pfil xs k).set k _).getD i 0 = _
 rw [Rnk.getD_set _ _ _ (by rw [pfil_len]; exact hk)]
 unfold pfil
 show (if i = k then _ else co (mk _ _) i) = _
 rw [co_mk, co_mk, if_pos hi, if_pos hi]
 by_cases e : i = k
 · rw [if_pos e, if_pos (by omega), e]
 · rw [if_neg e]
   by_cases e2 : i < k
   · rw [if_pos e2, if_pos (by omega)]
   · rw [if_neg e2, if_neg (by omega)]
theorem nvs_at (n i : Nat) : (nvs n).getD i nov = nov := by
 unfold nvs
 rw [List.getD_eq_getElem?_getD, List.getElem?_replicate]
 split <;> rfl
theorem mtx_new (W : World) {lo n : Nat} (hlo : lo <= W.heap.size) (hn : n <= 1000) (f : Nat -> List Int) (hf : ∀ t, t < n -> f t = []) : Mtx (W.alloc (.cells (nvs n).toArray 36)) lo (.slice (some ⟨W.heap.size, 0, none⟩) n n) (nvs n) (mkl n f) := by
 refine ⟨?_, fun i hi => ?_, fun i j g hi hj hne e1 e2 => ?_⟩
 · rw [mkl_len]; exact own_new hlo (nvs_len n) hn
 · rw [mkl_len] at hi
   rw [nvs_at, mkl_at f hi, hf i hi]
   exact World.ownsRow_nil _ _ _ _
 · rw [nvs_at] at e1
   simp [nov, Value.ownBlock] at e1
theorem Rws.some_ {w : World} {v : Value} {l : List (List Int)} (h : Rws w v l) (h0 : 0 < l.length) : ∃ b off cap, v = .slice (some ⟨b, off, none⟩) l.length cap ∧ l.length <= cap := by
 obtain ⟨ao, cap, rfl, _, hcap, hc⟩ := h
 obtain ⟨b, off, rfl, _⟩ := hc (by intro h; rw [h] at h0; simp at h0)
 exact ⟨b, off, cap, rfl, hcap⟩
end Go.Proofs.YtjhididlcdepdaaGreat
