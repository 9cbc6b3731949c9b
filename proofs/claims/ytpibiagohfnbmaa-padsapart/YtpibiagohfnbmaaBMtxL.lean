import Derived.Test.YtpibiagohfnbmaaBPntM
import Derived.Deep.WholeRow
set_option linter.unusedVariables false
set_option linter.unusedSimpArgs false
set_option maxRecDepth 100000
set_option maxHeartbeats 4000000
namespace Go.Proofs.Ytpibiagohfnbmaa
open Go.RowKit Fld Rnk
theorem w64_infoM : (Try.prog.info? 49).map (fun i => (i.zero, i.size, i.bytes)) = some (some (.int .u64 0), 1, 8) := by kernel_rfl
theorem sl_infoM : (Try.prog.info? 25).map (fun i => (i.zero, i.size, i.bytes)) = some (some (.slice none 0 0), 1, 24) := by kernel_rfl
theorem Mtx.lay {w : World} {lo G r cap : Nat} {us : List Value} {l : List (List Int)} (h : Mtx w lo (.slice (some ⟨G, 0, none⟩) r cap) us l) (hr : r = l.length) {k : Nat} (hk : k < l.length) {u : Value} {ys : List Int} (hu : w.ownsRow lo 49 1 u ys.length (vals ys)) (hd : ∀ i g, i < l.length -> i ≠ k -> (us.getD i nov).ownBlock = some g -> u.ownBlock ≠ some g) :
 Mtx (w.setCell ⟨G, k, none⟩ u) lo (.slice (some ⟨G, 0, none⟩) r cap) (us.set k u) (l.set k ys) := by
 subst hr
 have hl := h.len
 refine ⟨?_, fun i hi => ?_, fun i j g hi hj hne e1 e2 => ?_⟩
 · rw [List.length_set]; exact own_setv h.row u hk
 · rw [List.length_set] at hi
   rw [Rnk.getD_set _ _ _ (by omega), Rnk.getD_set _ _ _ hk]
   by_cases e : i = k
   · rw [if_pos e, if_pos e]
     exact own_other hu (fun e2 => own_kind hu h.row (Ne.symm ne_kinds) G e2 rfl)
   · rw [if_neg e, if_neg e]
     exact own_other (h.each i hi) (fun e2 => own_kind (h.each i hi) h.row (Ne.symm ne_kinds) G e2 rfl)
 · rw [List.length_set] at hi hj
   rw [Rnk.getD_set _ _ _ (by omega)] at e1 e2
   by_cases ei : i = k
   · rw [if_pos ei] at e1
     rw [if_neg (fun ej => hne (ei.trans ej.symm))] at e2
     exact hd j g hj (fun ej => hne (ei.trans ej.symm)) e2 e1
   · rw [if_neg ei] at e1
     by_cases ej : j = k
     · rw [if_pos ej] at e2
       exact hd i g hi ei e1 e2
     · rw [if_neg ej] at e2
       exact h.dif i j g hi hj hne e1 e2
theorem Mtx.tops {w : World} {lo : Nat} {v : Value} {us : List Value} {l : List (List Int)} (h : Mtx w lo v us l) {i g : Nat} (hi : i < l.length) (hg : (us.getD i nov).ownBlock = some g) : g < w.heap.size := own_top (h.each i hi) g hg
def mkl (n : Nat) (f : Nat -> List Int) : List (List Int) := (List.range n).map f
theorem mkl_len (n : Nat) (f : Nat -> List Int) : (mkl n f).length = n := by simp [mkl]
theorem mkl_at {n : Nat} (f : Nat -> List Int) {t : Nat} (h : t < n) : (mkl n f).getD t [] = f t := by
 simp [mkl, List.getD_eq_getElem?_getD, h]
theorem ext_l {a b : List (List Int)} (hl : a.length = b.length) (h : ∀ i, i < a.length -> a.getD i [] = b.getD i []) : a = b := by
 refine List.ext_getElem hl (fun i h1 h2 => ?_)
 have := h i h1
 rw [List.getD_eq_getElem?_getD, List.getD_eq_getElem?_getD, List.getElem?_eq_getElem h1, List.getElem?_eq_getElem h2] at this
 exact this
theorem mkl_congr {n : Nat} {f g : Nat -> List Int} (h : ∀ t, t < n -> f t = g t) : mkl n f = mkl n g :=
 ext_l (by rw [mkl_len, mkl_len]) (fun i hi => by rw [mkl_len] at hi; rw [mkl_at f hi, mkl_at g hi, h i hi])
theorem mkl_set {n : Nat} (f : Nat -> List Int) {k : Nat} (hk : k < n) (ys : List Int) : (mkl n f).set k ys = mkl n (fun t => if t = k then ys else f t) :=
 ext_l (by rw [List.length_set, mkl_len, mkl_len]) (fun i hi => by
  rw [List.length_set, mkl_len] at hi
  rw [Rnk.getD_set _ _ _ (by rw [mkl_len]; exact hk), mkl_at f hi, mkl_at _ hi])
theorem made_listH (z : Value) (n : Nat) : madeCells #[z] (n * 1) = (List.replicate n z).toArray := by
 apply Array.ext'
 rw [toList_madeCells_one, Nat.mul_one]
def zrs (n : Nat) : List Value := vals (List.replicate n 0)
def nvs (n : Nat) : List Value := List.replicate n nov
theorem makeW (n : Nat) (hm : n <= 1000) (W : World) : (Instr.makeSlice 25 (.int .i64 (n : Int)) (.int .i64 (n : Int))).run Try.prog W = .ok (.slice (some ⟨W.heap.size, 0, none⟩) n n) (W.alloc (.cells (zrs n).toArray 49)) := by
 obtain ⟨i, hi, hz, hs, hb⟩ := info_parts w64_infoM
 have := run_make (P := Try.prog) W 25 49 i (.int .u64 0) Try.underlying25 hi hz .i64 .i64 (n : Int) (n : Int) (by omega) (by omega) (by rw [hb]; omega) (by omega)
 rw [this, hs, Int.toNat_natCast]
 show Result.ok _ (W.alloc (.cells (madeCells #[.int .u64 0] (n * 1)) 49)) = _
 rw [made_listH]
 unfold zrs vals
 rw [List.map_replicate]
theorem makeN (n : Nat) (hm : n <= 1000) (W : World) : (Instr.makeSlice 32 (.int .i64 (n : Int)) (.int .i64 (n : Int))).run Try.prog W = .ok (.slice (some ⟨W.heap.size, 0, none⟩) n n) (W.alloc (.cells (nvs n).toArray 25)) := by
 obtain ⟨i, hi, hz, hs, hb⟩ := info_parts sl_infoM
 have := run_make (P := Try.prog) W 32 25 i (.slice none 0 0) Try.underlying32 hi hz .i64 .i64 (n : Int) (n : Int) (by omega) (by omega) (by rw [hb]; omega) (by omega)
 rw [this, hs, Int.toNat_natCast]
 show Result.ok _ (W.alloc (.cells (madeCells #[.slice none 0 0] (n * 1)) 25)) = _
 rw [made_listH]
 rfl
theorem own_new {W : World} {base n : Nat} {T : TypeId} {cs : List Value} (hb : base <= W.heap.size) (hl : cs.length = n) (hn : n <= 1000) : (W.alloc (.cells cs.toArray T)).ownsRow base T 1 (.slice (some ⟨W.heap.size, 0, none⟩) n n) n cs :=
 ⟨by rw [hl, Nat.mul_one], .inr ⟨W.heap.size, n, cs.toArray, rfl, hb, heap_alloc_last W _, Nat.le_refl _, by unfold maxLen; omega, by rw [List.size_toArray, hl, Nat.mul_one], by rw [Nat.mul_one, <- hl]; exact List.take_length⟩⟩
theorem nvs_len (n : Nat) : (nvs n).length = n := by simp [nvs]
theorem nvs_at (n i : Nat) : (nvs n).getD i nov = nov := by
 unfold nvs
 rw [List.getD_eq_getElem?_getD, List.getElem?_replicate]
 split <;> rfl
theorem mtx_new (W : World) {lo n : Nat} (hlo : lo <= W.heap.size) (hn : n <= 1000) (f : Nat -> List Int) (hf : ∀ t, t < n -> f t = []) : Mtx (W.alloc (.cells (nvs n).toArray 25)) lo (.slice (some ⟨W.heap.size, 0, none⟩) n n) (nvs n) (mkl n f) := by
 refine ⟨?_, fun i hi => ?_, fun i j g hi hj hne e1 e2 => ?_⟩
 · rw [mkl_len]; exact own_new hlo (nvs_len n) hn
 · rw [mkl_len] at hi
   rw [nvs_at, mkl_at f hi, hf i hi]
   exact World.ownsRow_nil _ _ _ _
 · rw [nvs_at] at e1
   simp [nov, Value.ownBlock] at e1
end Go.Proofs.Ytpibiagohfnbmaa
