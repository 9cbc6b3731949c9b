import Derived.Test.YtjhididlcdepdaaGreatBLodA
import Derived.Test.YtjhididlcdepdaaGreatBPntM
set_option linter.unusedVariables false
set_option linter.unusedSimpArgs false
set_option maxRecDepth 100000
set_option maxHeartbeats 4000000
namespace Go.Proofs.YtjhididlcdepdaaGreat
open Go.RowKit Fld Rnk
theorem gau_el {p : Int} {r u j : Nat} {ps : List Nat} {l0 l : List (List Int)} (h : Gau p r u j ps l0 l) (hp : 0 < p) {k : Nat} (hk : k < r) (m : Nat) : El p (mx l k m) := (h.els k hk).co hp m
structure Slv (w wr : World) (lo : Nat) (v : Value) (us : List Value) (l : List (List Int)) (va : Value) (ps : List Nat) : Prop where
 mtx : Mtx wr lo v us l
 row : wr.ownsRow lo 3 1 va ps.length (nms ps)
 below : Below lo w wr
 low : lo <= wr.heap.size
theorem ne_k1 : (36 : Nat) ≠ 3 := by decide
theorem ne_k2 : (64 : Nat) ≠ 3 := by decide
theorem Slv.drewN {w wr : World} {lo : Nat} {v va : Value} {us : List Value} {l : List (List Int)} {ps : List Nat} (h : Slv w wr lo v us l va ps) (n : Nat) : Slv w (wr.drewN n) lo v us l va ps :=
 have hb := below_drewN (Below.refl wr.heap.size wr) n
 ⟨h.mtx.below hb, own_below h.row hb, h.below.trans (hb.mono h.low), Nat.le_trans h.low hb.size⟩
theorem Slv.next {w wr w' : World} {lo : Nat} {v va : Value} {us : List Value} {l : List (List Int)} {ps : List Nat} (h : Slv w wr lo v us l va ps) (hb : Below wr.heap.size wr w') : Slv w w' lo v us l va ps :=
 ⟨h.mtx.below hb, own_below h.row hb, h.below.trans (hb.mono h.low), Nat.le_trans h.low hb.size⟩
theorem size_set (w : World) (a : Addr) (u : Value) : (w.setCell a u).heap.size = w.heap.size := by simp [World.setCell]
theorem Slv.put {w wr : World} {lo g c cap : Nat} {v va : Value} {us : List Value} {l : List (List Int)} {ps : List Nat} (h : Slv w wr lo v us l va ps) {k : Nat} (hk : k < l.length) (hu : us.getD k nov = .slice (some ⟨g, 0, none⟩) c cap) (hc : c = (l.getD k []).length) (hg : lo <= g) (m : Nat) (x : Int) : Slv w (wr.setCell ⟨g, m, none⟩ (.int .u64 x)) lo v us (l.set k ((l.getD k []).set m x)) va ps := by
 have hO := h.mtx.each k hk
 rw [hu] at hO
 exact ⟨h.mtx.put hk hu hc m x, own_other h.row (fun e => own_kind h.row hO (Ne.symm ne_k2) g e rfl), h.below.setCell (p := ⟨g, m, none⟩) hg _, by rw [size_set]; exact h.low⟩
theorem Slv.turn {w wr : World} {lo G r cap : Nat} {va : Value} {us : List Value} {l : List (List Int)} {ps : List Nat} (h : Slv w wr lo (.slice (some ⟨G, 0, none⟩) r cap) us l va ps) (hr : r = l.length) (hG : lo <= G) {a b : Nat} (ha : a < l.length) (hb : b < l.length) {x y : Value} (hx : us.getD b nov = x) (hy : us.getD a nov = y) :
 Slv w ((wr.setCell ⟨G, a, none⟩ x).setCell ⟨G, b, none⟩ y).drew lo (.slice (some ⟨G, 0, none⟩) r cap) (swp nov us a b) (swp [] l a b) va ps := by
 have h1 : va.ownBlock ≠ some G := fun e => own_kind h.row h.mtx.row (Ne.symm ne_k1) G e rfl
 have h2 : Slv w ((wr.setCell ⟨G, a, none⟩ x).setCell ⟨G, b, none⟩ y) lo (.slice (some ⟨G, 0, none⟩) r cap) (swp nov us a b) (swp [] l a b) va ps :=
  ⟨h.mtx.turn hr ha hb hx hy, own_other (own_other h.row h1) h1, (h.below.setCell (p := ⟨G, a, none⟩) hG _).setCell (p := ⟨G, b, none⟩) hG _, by rw [size_set, size_set]; exact h.low⟩
 exact h2.next (Below.refl _ _).drew
theorem mtx_keep {w w' : World} {lo : Nat} {v : Value} {us : List Value} {l : List (List Int)} {r : Option Nat} (h : Mtx w lo v us l) (hg : w.grownBy w' r) (h1 : ∀ g, v.ownBlock = some g -> r ≠ some g) (h2 : ∀ i, i < l.length -> ∀ g, (us.getD i nov).ownBlock = some g -> r ≠ some g) : Mtx w' lo v us l :=
 ⟨own_kept h.row hg h1, fun i hi => own_kept (h.each i hi) hg (h2 i hi), h.dif⟩
theorem Slv.app {w wr : World} {lo : Nat} {v va : Value} {us : List Value} {l : List (List Int)} {ps : List Nat} (h : Slv w wr lo v us l va ps) (j : Nat) (hl : ps.length <= 100000) :
 ∃ (au' : Option Addr) (cu' : Nat) (W' : World), (Builtin.append_ #[27, 27] 27 #[va, .slice (some ⟨wr.heap.size, 0, none⟩) 1 1]).run Tryz.prog (wr.alloc (.cells #[.int .i64 (j : Int)] 3)) = .ok (.slice au' (ps.length + 1) cu') W' ∧ Slv w W' lo v us l (.slice au' (ps.length + 1) cu') (ps ++ [j]) := by
 have hab := alloc_below wr (.cells #[.int .i64 (j : Int)] 3)
 have h0 := h.next hab
 obtain ⟨au, cu, W', h1, h2, h3, h4, _⟩ := appI1 (wr.alloc (.cells #[.int .i64 (j : Int)] 3)) lo va (ps.map (fun (i : Nat) => (i : Int))) ⟨wr.heap.size, 0, none⟩ (j : Int) (by rw [iw_nms, List.length_map]; exact h0.row) (box_cell (heap_alloc_new wr _)).1 (by rw [List.length_map]; exact hl) h0.low
 rw [List.length_map] at h1 h2
 have e : ps.map (fun (i : Nat) => (i : Int)) ++ [(j : Int)] = (ps ++ [j]).map (fun (i : Nat) => (i : Int)) := by simp
 rw [e, iw_nms, List.length_map] at h2
 refine ⟨au, cu, W', h1, mtx_keep h0.mtx h4 (fun g hg e => own_kind h0.mtx.row h0.row ne_k1 g hg e) (fun i hi g hg e => own_kind (h0.mtx.each i hi) h0.row ne_k2 g hg e), ?_, h0.below.trans h3, Nat.le_trans h0.low h3.size⟩
 exact h2
def zrX (n : Nat) : List Value := vals (List.replicate n 0)
theorem zrX_len (n : Nat) : (zrX n).length = n := by simp [zrX, vals]
theorem w_info17 : (Tryz.prog.info? 64).map (fun i => (i.zero, i.size, i.bytes)) = some (some (.int .u64 0), 1, 8) := by kernel_rfl
theorem makeX (n : Nat) (hm : n <= 1000) (W : World) : (Instr.makeSlice 36 (.int .i64 (n : Int)) (.int .i64 (n : Int))).run Tryz.prog W = .ok (.slice (some ⟨W.heap.size, 0, none⟩) n n) (W.alloc (.cells (zrX n).toArray 64)) := by
 obtain ⟨i, hi, hz, hs, hb⟩ := info_parts w_info17
 have := run_make (P := Tryz.prog) W 36 64 i (.int .u64 0) Tryz.underlying36 hi hz .i64 .i64 (n : Int) (n : Int) (by omega) (by omega) (by rw [hb]; omega) (by omega)
 rw [this, hs, Int.toNat_natCast]
 show Result.ok _ (W.alloc (.cells (madeCells #[.int .u64 0] (n * 1)) 64)) = _
 have e : madeCells #[Value.int .u64 0] (n * 1) = (List.replicate n (Value.int .u64 0)).toArray := by
  apply Array.ext'
  rw [toList_madeCells_one, Nat.mul_one]
 rw [e]
 unfold zrX vals
 rw [List.map_replicate]
theorem own_newX {W : World} {base n : Nat} {T : TypeId} {cs : List Value} (hb : base <= W.heap.size) (hl : cs.length = n) (hn : n <= 1000) : (W.alloc (.cells cs.toArray T)).ownsRow base T 1 (.slice (some ⟨W.heap.size, 0, none⟩) n n) n cs :=
 ⟨by rw [hl, Nat.mul_one], .inr ⟨W.heap.size, n, cs.toArray, rfl, hb, heap_alloc_new W _, Nat.le_refl _, by unfold maxLen; omega, by rw [List.size_toArray, hl, Nat.mul_one], by rw [Nat.mul_one, <- hl]; exact List.take_length⟩⟩
theorem set_same {α : Type} (l : List α) (d : α) {k : Nat} (hk : k < l.length) : l.set k (l.getD k d) = l := by
 apply List.ext_getElem?
 intro i
 rw [List.getElem?_set]
 by_cases e : k = i
 · subst e
   rw [if_pos rfl, if_pos hk, List.getD_eq_getElem?_getD, List.getElem?_eq_getElem hk]; rfl
 · rw [if_neg e]
end Go.Proofs.YtjhididlcdepdaaGreat
