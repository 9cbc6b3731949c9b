import Derived.Test.YtjhididlcdepdaaGreatBRgdA
import Derived.Test.YtjhididlcdepdaaGreatBRgnP
set_option linter.unusedVariables false
set_option linter.unusedSimpArgs false
set_option maxRecDepth 100000
set_option maxHeartbeats 4000000
namespace Go.Proofs.YtjhididlcdepdaaGreat
open Go.RowKit Fld Pln
structure Fam (W : World) (lo : Nat) (us : List Value) (l : List (List Int)) : Prop where
 len : us.length = l.length
 each : ∀ i, i < l.length -> W.ownsRow lo 64 1 (us.getD i nov) (l.getD i []).length (vals (l.getD i []))
 dif : ∀ i j g, i < l.length -> j < l.length -> i ≠ j -> (us.getD i nov).ownBlock = some g -> (us.getD j nov).ownBlock ≠ some g
theorem Fam.below {W W' : World} {lo : Nat} {us : List Value} {l : List (List Int)} (h : Fam W lo us l) (hb : Below W.heap.size W W') : Fam W' lo us l := ⟨h.len, fun i hi => own_below (h.each i hi) hb, h.dif⟩
theorem Fam.other {W : World} {lo g k : Nat} {us : List Value} {l : List (List Int)} {cs : Array Value} {T : TypeId} {fz : Nat × Nat} {v : Value} (h : Fam W lo us l) (hb : W.heap[g]? = some (.cells cs T fz)) (hT : T ≠ 64) : Fam (W.setCell ⟨g, k, none⟩ v) lo us l :=
 ⟨h.len, fun i hi => own_other (h.each i hi) (own_apart (h.each i hi) hb hT), h.dif⟩
theorem Fam.grown {W W' : World} {lo b s n : Nat} {us : List Value} {l : List (List Int)} {T : TypeId} {v : Value} {xs : List Value} (h : Fam W lo us l) (hO : W.ownsRow b T s v n xs) (hT : T ≠ 64) (hg : W.grownBy W' v.ownBlock) : Fam W' lo us l :=
 ⟨h.len, fun i hi => own_kept (h.each i hi) hg (fun g hgb hc => own_kind (h.each i hi) hO (fun e => hT e.symm) g hgb hc), h.dif⟩
theorem Fam.top {W : World} {lo : Nat} {us : List Value} {l : List (List Int)} (h : Fam W lo us l) {i g : Nat} (hi : i < l.length) (hg : (us.getD i nov).ownBlock = some g) : g < W.heap.size := own_top (h.each i hi) g hg
theorem Fam.snoc {W : World} {lo H : Nat} {us : List Value} {l : List (List Int)} {u : Value} {ys : List Int} (h : Fam W lo us l) (hH : ∀ i g, i < l.length -> (us.getD i nov).ownBlock = some g -> g < H) (hlo : lo <= H) (hu : W.ownsRow H 64 1 u ys.length (vals ys)) : Fam W lo (us ++ [u]) (l ++ [ys]) := by
 have hl := h.len
 refine ⟨by simp [hl], fun i hi => ?_, fun i j g hi hj hne e1 e2 => ?_⟩
 · rw [getD_snoc, getD_snoc, hl]
   rw [List.length_append, List.length_singleton] at hi
   by_cases e : i < l.length
   · rw [if_pos e, if_pos e]; exact h.each i e
   · have e2 : i = l.length := by omega
     rw [if_neg e, if_pos e2, if_neg e, if_pos e2]; exact own_mono hu hlo
 · rw [List.length_append, List.length_singleton] at hi hj
   rw [getD_snoc, hl] at e1 e2
   by_cases ei : i < l.length
   · rw [if_pos ei] at e1
     by_cases ej : j < l.length
     · rw [if_pos ej] at e2; exact h.dif i j g ei ej hne e1 e2
     · rw [if_neg ej, if_pos (by omega)] at e2
       have := hH i g ei e1
       have := own_base hu g e2
       omega
   · rw [if_neg ei, if_pos (by omega)] at e1
     by_cases ej : j < l.length
     · rw [if_pos ej] at e2
       have := hH j g ej e2
       have := own_base hu g e1
       omega
     · omega
theorem Fam.push {W W' : World} {lo k : Nat} {us : List Value} {l : List (List Int)} {v : Value} {ys : List Int} (h : Fam W lo us l) (hk : k < l.length) (hg : W.grownBy W' (us.getD k nov).ownBlock) (hO : W'.ownsRow lo 64 1 v ys.length (vals ys)) (hv : v.ownBlock = (us.getD k nov).ownBlock ∨ v.ownBlock = some W.heap.size) : Fam W' lo (us.set k v) (l.set k ys) := by
 have hl := h.len
 have hE : ∀ i, i < l.length -> i ≠ k -> W'.ownsRow lo 64 1 (us.getD i nov) (l.getD i []).length (vals (l.getD i [])) := fun i hi hne => own_kept (h.each i hi) hg (fun g hgb hc => h.dif i k g hi hk hne hgb hc)
 have hD : ∀ i g, i < l.length -> i ≠ k -> (us.getD i nov).ownBlock = some g -> v.ownBlock ≠ some g := fun i g hi hne hgi hc => by
  rcases hv with hv | hv
  · rw [hv] at hc; exact h.dif i k g hi hk hne hgi hc
  · rw [hv] at hc
    have := own_top (h.each i hi) g hgi
    injection hc with hc
    omega
 refine ⟨by rw [List.length_set, List.length_set, hl], fun i hi => ?_, fun i j g hi hj hne e1 e2 => ?_⟩
 · rw [List.length_set] at hi
   rw [Rnk.getD_set _ _ _ (by omega), Rnk.getD_set _ _ _ hk]
   by_cases e : i = k
   · rw [if_pos e, if_pos e]; exact hO
   · rw [if_neg e, if_neg e]; exact hE i hi e
 · rw [List.length_set] at hi hj
   rw [Rnk.getD_set _ _ _ (by omega)] at e1 e2
   by_cases ei : i = k
   · rw [if_pos ei] at e1
     rw [if_neg (fun ej => hne (ei.trans ej.symm))] at e2
     exact hD j g hj (fun ej => hne (ei.trans ej.symm)) e2 e1
   · rw [if_neg ei] at e1
     by_cases ej : j = k
     · rw [if_pos ej] at e2; exact hD i g hi ei e1 e2
     · rw [if_neg ej] at e2; exact h.dif i j g hi hj hne e1 e2
def mkn (n : Nat) (b : Nat -> Bool) : Array Value := (((List.range n).map b).map Value.bool).toArray
def Mkn (w : World) (g n : Nat) (b : Nat -> Bool) : Prop := w.heap[g]? = some (.cells (mkn n b) 4 (0, 0))
theorem mkn_at (n : Nat) (b : Nat -> Bool) {j : Nat} (h : j < n) : (mkn n b)[j]? = some (.bool (b j)) := by
 unfold mkn; rw [List.getElem?_toArray, List.getElem?_map, List.getElem?_map, List.getElem?_range h]; rfl
theorem mkn_congr {n : Nat} {b c : Nat -> Bool} (h : ∀ j, j < n -> b j = c j) : mkn n b = mkn n c := by
 unfold mkn; rw [List.map_congr_left (fun j hj => h j (List.mem_range.1 hj))]
theorem mkn_set (n : Nat) (b : Nat -> Bool) {j : Nat} (h : j < n) : (mkn n b).setIfInBounds j (.bool true) = mkn n (fun i => b i || decide (i = j)) := by
 apply Array.ext
 · simp [mkn]
 · intro i h1 h2
   have hi : i < n := by simpa [mkn] using h1
   have e1 : ((mkn n b).setIfInBounds j (.bool true))[i]? = (mkn n (fun i => b i || decide (i = j)))[i]? := by
    rw [Array.getElem?_setIfInBounds]
    by_cases e : j = i
    · subst e
      rw [if_pos rfl, if_pos (by simp [mkn]; exact h), mkn_at _ _ h, decide_eq_true rfl, Bool.or_true]
    · rw [if_neg e, mkn_at _ _ hi, mkn_at _ _ hi]
      have : ¬ i = j := fun c => e c.symm
      simp [this]
   rw [Array.getElem?_eq_getElem h1, Array.getElem?_eq_getElem h2] at e1
   exact Option.some.inj e1
theorem Mkn.below {w w' : World} {g n : Nat} {b : Nat -> Bool} (h : Mkn w g n b) (hb : Below w.heap.size w w') : Mkn w' g n b := blk8 h hb
theorem Mkn.cell {w : World} {g n : Nat} {b : Nat -> Bool} (h : Mkn w g n b) {j : Nat} (hj : j < n) : w.cell? ⟨g, j, none⟩ = some (.bool (b j)) := by rw [cell_of_row w g j _ _ _ h, mkn_at n b hj]
theorem Mkn.free {w : World} {g n : Nat} {b : Nat -> Bool} (h : Mkn w g n b) (k : Nat) : w.frozen? ⟨g, k, none⟩ = false := by unfold Mkn at h; simp [World.frozen?, h]
theorem Mkn.put {w : World} {g n : Nat} {b : Nat -> Bool} (h : Mkn w g n b) {j : Nat} (hj : j < n) : Mkn (w.setCell ⟨g, j, none⟩ (.bool true)) g n (fun i => b i || decide (i = j)) := by unfold Mkn; rw [set_blk h, mkn_set n b hj]
theorem Mkn.congr {w : World} {g n : Nat} {b c : Nat -> Bool} (h : Mkn w g n b) (he : ∀ j, j < n -> b j = c j) : Mkn w g n c := by unfold Mkn at *; rw [<- mkn_congr he]; exact h
structure Rdt (w0 : World) (lo H gR G gB K N : Nat) (vx : Value) (xs : List Int) (rows Ps : List (List Int)) (b : Nat -> Bool) (vP vW vL : Value) (Ws : List Int) (W : World) : Prop where
 bel : Below w0.heap.size w0 W
 low : w0.heap.size <= lo ∧ lo <= gR ∧ lo <= G ∧ lo <= gB ∧ lo <= H ∧ H <= W.heap.size
 box : W.heap[gR]? = some (.cells #[.slice (some ⟨G, 0, none⟩) K K, vP, vW] 29 (0, 0))
 ms : Mkn W gB N b
 all : ∃ ur up, W.ownsRow lo 36 1 (.slice (some ⟨G, 0, none⟩) K K) K ur ∧ W.ownsRow lo 36 1 vP Ps.length up ∧ Fam W lo (vx :: (ur ++ up)) (xs :: (rows ++ Ps)) ∧ (∀ i g, i < (xs :: (rows ++ Ps)).length -> ((vx :: (ur ++ up)).getD i nov).ownBlock = some g -> g < H) ∧ ur.length = K ∧ rows.length = K ∧ up.length = Ps.length ∧ (0 < Ps.length -> up.getD (Ps.length - 1) nov = vL)
 wr : W.ownsRow lo 3 1 vW Ws.length (Ws.flatMap iw)
 gp : ∀ g, vP.ownBlock = some g -> G < g
end Go.Proofs.YtjhididlcdepdaaGreat
namespace Go.Proofs.YtjhididlcdepdaaGreat
open Go.RowKit Fld Pln Shr
theorem own_rws {W : World} {lo n : Nat} {v : Value} {us : List Value} {l : List (List Int)} (h : W.ownsRow lo 36 1 v n us) (hl : l.length = n) (he : ∀ i, i < l.length -> Rw W (us.getD i nov) (l.getD i [])) (hb : n <= 1000) : Rws W v l := by
 have hul : us.length = n := by have := h.1; omega
 rcases h.2 with ⟨rfl, h0⟩ | ⟨g, cap, cur, rfl, h2, h3, h4, h5, h6, h7⟩
 · have : l = [] := List.length_eq_zero_iff.1 (by omega)
   subst this
   exact rws_nil W
 · refine ⟨_, cap, by rw [hl], by omega, by omega, fun hne => ⟨g, 0, rfl, own_top h g rfl, fun i hi => ⟨us.getD i nov, ?_, he i hi⟩⟩⟩
   rw [Nat.zero_add, h.cellAt i (by omega), List.getD_eq_getElem?_getD, List.getElem?_eq_getElem (by omega)]; rfl
theorem getD_app {α : Type} (a b : List α) (d : α) (i : Nat) : (a ++ b).getD i d = if i < a.length then a.getD i d else b.getD (i - a.length) d := by
 rw [List.getD_eq_getElem?_getD, List.getD_eq_getElem?_getD, List.getD_eq_getElem?_getD]
 by_cases h : i < a.length
 · rw [if_pos h, List.getElem?_append_left h]
 · rw [if_neg h, List.getElem?_append_right (by omega)]
end Go.Proofs.YtjhididlcdepdaaGreat
namespace Go.Proofs.YtjhididlcdepdaaGreat
open Go.RowKit Fld Pln
theorem blk_ne {W : World} {a b : Nat} {cs ds : Array Value} {S T : TypeId} {f g : Nat × Nat} (h1 : W.heap[a]? = some (.cells cs S f)) (h2 : W.heap[b]? = some (.cells ds T g)) (hne : S ≠ T) : a ≠ b := fun e => by
 subst e
 rw [h1] at h2
 injection h2 with h2
 injection h2 with _ h2 _
 exact hne h2
theorem blk_grown {W W' : World} {a b s n : Nat} {cs : Array Value} {S T : TypeId} {v : Value} {xs : List Value} (h1 : W.heap[a]? = some (.cells cs S (0, 0))) (hO : W.ownsRow b T s v n xs) (hne : S ≠ T) (hg : W.grownBy W' v.ownBlock) : W'.heap[a]? = some (.cells cs S (0, 0)) :=
 (hg.block a (Array.getElem?_eq_some_iff.1 h1).1 (fun e => own_apart hO h1 hne e.symm)).trans h1
theorem own_grown {W W' : World} {b s n b' s' n' : Nat} {S T : TypeId} {v u : Value} {xs ys : List Value} (h1 : W.ownsRow b' S s' u n' ys) (hO : W.ownsRow b T s v n xs) (hne : S ≠ T) (hg : W.grownBy W' v.ownBlock) : W'.ownsRow b' S s' u n' ys :=
 own_kept h1 hg (fun g hgb hc => own_kind h1 hO hne g hgb hc)
theorem own_uniq {W : World} {b c s n : Nat} {T : TypeId} {v : Value} {xs ys : List Value} (h1 : W.ownsRow b T s v n xs) (h2 : W.ownsRow c T s v n ys) : xs = ys := by
 rcases h1.2 with ⟨e1, z1⟩ | ⟨g, cap, cur, e1, _, hh1, _, _, _, t1⟩ <;> rcases h2.2 with ⟨e2, z2⟩ | ⟨g', cap', cur', e2, _, hh2, _, _, _, t2⟩
 · have l1 := h1.1
   have l2 := h2.1
   rw [z1, Nat.zero_mul] at l1
   rw [z1, Nat.zero_mul] at l2
   rw [List.length_eq_zero_iff.1 l1, List.length_eq_zero_iff.1 l2]
 · rw [e1] at e2; cases e2
 · rw [e1] at e2; cases e2
 · rw [e1] at e2
   cases e2
   rw [hh1] at hh2
   injection hh2 with hh2
   injection hh2 with hh2 _ _
   rw [<- t1, <- t2, hh2]
section
variable {w0 : World} {lo H gR G gB K N : Nat} {vx : Value} {xs : List Int} {rows Ps : List (List Int)} {b : Nat -> Bool} {vP vW vL : Value} {Ws : List Int} {W : World}
theorem Rdt.below {W' : World} (h : Rdt w0 lo H gR G gB K N vx xs rows Ps b vP vW vL Ws W) (hb : Below W.heap.size W W') : Rdt w0 lo H gR G gB K N vx xs rows Ps b vP vW vL Ws W' := by
 obtain ⟨ur, up, h1, h2, h3, h4, h5⟩ := h.all
 obtain ⟨l1, l2, l3, l4, l5, l6⟩ := h.low
 exact ⟨Below.next h.bel hb, ⟨l1, l2, l3, l4, l5, Nat.le_trans l6 hb.size⟩, blk8 h.box hb, h.ms.below hb, ⟨ur, up, own_below h1 hb, own_below h2 hb, h3.below hb, h4, h5⟩, own_below h.wr hb, h.gp⟩
theorem Rdt.raise (h : Rdt w0 lo H gR G gB K N vx xs rows Ps b vP vW vL Ws W) : Rdt w0 lo W.heap.size gR G gB K N vx xs rows Ps b vP vW vL Ws W := by
 obtain ⟨ur, up, h1, h2, h3, h4, h5⟩ := h.all
 obtain ⟨l1, l2, l3, l4, l5, l6⟩ := h.low
 exact ⟨h.bel, ⟨l1, l2, l3, l4, Nat.le_trans l5 l6, Nat.le_refl _⟩, h.box, h.ms, ⟨ur, up, h1, h2, h3, fun i g hi hg => h3.top hi hg, h5⟩, h.wr, h.gp⟩
theorem Rdt.mark (h : Rdt w0 lo H gR G gB K N vx xs rows Ps b vP vW vL Ws W) {J : Nat} (hJ : J < N) : Rdt w0 lo H gR G gB K N vx xs rows Ps (fun i => b i || decide (i = J)) vP vW vL Ws (W.setCell ⟨gB, J, none⟩ (.bool true)) := by
 obtain ⟨ur, up, h1, h2, h3, h4, h5⟩ := h.all
 have hm : W.heap[gB]? = some (.cells (mkn N b) 4 (0, 0)) := h.ms
 have hne : gR ≠ gB := blk_ne h.box hm (by decide)
 obtain ⟨l1, l2, l3, l4, l5, l6⟩ := h.low
 exact ⟨h.bel.setCell (p := ⟨gB, J, none⟩) (by show w0.heap.size <= gB; omega) _, ⟨l1, l2, l3, l4, l5, by simpa using l6⟩, (Below.heap_setCell _ _ _ gR hne).trans h.box, h.ms.put hJ, ⟨ur, up, own_other h1 (own_apart h1 hm (by decide)), own_other h2 (own_apart h2 hm (by decide)), h3.other hm (by decide), h4, h5⟩, own_other h.wr (own_apart h.wr hm (by decide)), h.gp⟩
theorem Rdt.poly {W' : World} {u v' : Value} {P : List Int} (h : Rdt w0 lo H gR G gB K N vx xs rows Ps b vP vW vL Ws W) (hu : W.ownsRow H 64 1 u P.length (vals P)) (hg : ∀ {up : List Value}, W.ownsRow lo 36 1 vP Ps.length up -> (W.alloc (.cells #[u] 36)).grownBy W' vP.ownBlock ∧ W'.ownsRow lo 36 1 v' (Ps.length + 1) (up ++ [u]) ∧ (v'.ownBlock = vP.ownBlock ∨ v'.ownBlock = some (W.heap.size + 1))) :
 Rdt w0 lo W'.heap.size gR G gB K N vx xs rows (Ps ++ [P]) b v' vW u Ws (W'.setCell ⟨gR, 1, none⟩ v') := by
 obtain ⟨ur, up, h1, h2, h3, h4, h5, h6, h7, h8⟩ := h.all
 obtain ⟨l1, l2, l3, l4, l5, l6⟩ := h.low
 obtain ⟨g1, g2, g3⟩ := hg h2
 have ha := alloc_below W (.cells #[u] 36)
 have hsz := ha.size
 have h2V := own_below h2 ha
 have hbel : Below w0.heap.size w0 W' := (Below.next h.bel ha).grown g1 (by have := h.bel.size; omega) (fun k e => by have := own_base h2 k e; omega)
 have hbx := blk_grown (blk8 h.box ha) h2V (by decide) g1
 have hms := blk_grown (h.ms.below ha) h2V (by decide) g1
 have hF := ((h3.snoc h4 l5 hu).below ha).grown h2V (by decide) g1
 have hG : ∀ g, v'.ownBlock = some g -> G < g := fun g hgv => by
  rcases g3 with e | e
  · rw [e] at hgv; exact h.gp g hgv
  · rw [e] at hgv
    injection hgv with hgv
    have := own_top h1 G rfl
    omega
 have h1' : W'.ownsRow lo 36 1 (.slice (some ⟨G, 0, none⟩) K K) K ur := own_kept (own_below h1 ha) g1 (fun g hgb hc => by
  have e : g = G := by simpa [Value.ownBlock] using hgb.symm
  have := h.gp g hc
  omega)
 have e1 : (vx :: (ur ++ up)) ++ [u] = vx :: (ur ++ (up ++ [u])) := by simp
 have e2 : (xs :: (rows ++ Ps)) ++ [P] = xs :: (rows ++ (Ps ++ [P])) := by simp
 rw [e1, e2] at hF
 have hF2 := hF.other (k := 1) (v := v') hbx (by decide)
 refine ⟨hbel.setCell (p := ⟨gR, 1, none⟩) (by show w0.heap.size <= gR; omega) _, ⟨l1, l2, l3, l4, by have := g1.size; omega, by simp⟩, set_blk hbx 1 _, (Below.heap_setCell _ _ _ gB (blk_ne hms hbx (by decide))).trans hms, ⟨ur, up ++ [u], own_other h1' (own_apart h1' hbx (by decide)), ?_, hF2, fun i g hi hg' => hF.top hi hg', h5, h6, by simp [h7], fun _ => by rw [List.length_append, List.length_singleton, Nat.add_sub_cancel, getD_snoc, if_neg (by omega), if_pos h7.symm]⟩, own_other (own_grown (own_below h.wr ha) h2V (by decide) g1) (own_apart (own_grown (own_below h.wr ha) h2V (by decide) g1) hbx (by decide)), hG⟩
 rw [List.length_append, List.length_singleton]
 exact own_other g2 (own_apart g2 hbx (by decide))
theorem Rdt.row {W' : World} {k : Nat} {v' : Value} {y : Int} (h : Rdt w0 lo H gR G gB K N vx xs rows Ps b vP vW vL Ws W) (hk : k < K) (hg : ∀ {uk : Value}, W.ownsRow lo 64 1 uk (rows.getD k []).length (vals (rows.getD k [])) -> W.cell? ⟨G, k, none⟩ = some uk -> (W.alloc (.cells #[.int .u64 y] 64)).grownBy W' uk.ownBlock ∧ W'.ownsRow lo 64 1 v' ((rows.getD k []).length + 1) (vals (rows.getD k [] ++ [y])) ∧ (v'.ownBlock = uk.ownBlock ∨ v'.ownBlock = some (W.heap.size + 1))) :
 Rdt w0 lo W'.heap.size gR G gB K N vx xs (rows.set k (rows.getD k [] ++ [y])) Ps b vP vW vL Ws (W'.setCell ⟨G, k, none⟩ v') := by
 obtain ⟨ur, up, h1, h2, h3, h4, h5, h6, h7, h8⟩ := h.all
 obtain ⟨l1, l2, l3, l4, l5, l6⟩ := h.low
 have hc : W.cell? ⟨G, k, none⟩ = some (ur.getD k nov) := by
  rw [h1.cellAt k (by omega), List.getD_eq_getElem?_getD, List.getElem?_eq_getElem (by omega)]; rfl
 have hgl : (vx :: (ur ++ up)).getD (k + 1) nov = ur.getD k nov := by
  show (ur ++ up).getD k nov = _
  rw [List.getD_eq_getElem?_getD, List.getElem?_append_left (by omega), <- List.getD_eq_getElem?_getD]
 have hgr : (xs :: (rows ++ Ps)).getD (k + 1) [] = rows.getD k [] := by
  show (rows ++ Ps).getD k [] = _
  rw [List.getD_eq_getElem?_getD, List.getElem?_append_left (by omega), <- List.getD_eq_getElem?_getD]
 have hlt : k + 1 < (xs :: (rows ++ Ps)).length := by rw [List.length_cons, List.length_append]; omega
 have hu := h3.each (k + 1) hlt
 rw [hgl, hgr] at hu
 obtain ⟨g1, g2, g3⟩ := hg hu hc
 have ha := alloc_below W (.cells #[.int .u64 y] 64)
 have hsz := ha.size
 have hszA : (W.alloc (.cells #[.int .u64 y] 64)).heap.size = W.heap.size + 1 := by simp
 have huV := own_below hu ha
 have hF := (h3.below ha).push (k := k + 1) (v := v') (ys := rows.getD k [] ++ [y]) hlt (by rw [hgl]; exact g1) (by rw [List.length_append]; exact g2) (by rw [hgl, hszA]; exact g3)
 have e1 : (vx :: (ur ++ up)).set (k + 1) v' = vx :: (ur.set k v' ++ up) := by
  rw [List.set_cons_succ, List.set_append_left _ _ (by omega)]
 have e2 : (xs :: (rows ++ Ps)).set (k + 1) (rows.getD k [] ++ [y]) = xs :: (rows.set k (rows.getD k [] ++ [y]) ++ Ps) := by
  rw [List.set_cons_succ, List.set_append_left _ _ (by omega)]
 rw [e1, e2] at hF
 have hbel : Below w0.heap.size w0 W' := (Below.next h.bel ha).grown g1 (by have := h.bel.size; omega) (fun k e => by have := own_base hu k e; omega)
 have hbx := blk_grown (blk8 h.box ha) huV (by decide) g1
 have hms := blk_grown (h.ms.below ha) huV (by decide) g1
 have h1' := own_grown (own_below h1 ha) huV (by decide) g1
 have h2' := own_grown (own_below h2 ha) huV (by decide) g1
 have hw' := own_grown (own_below h.wr ha) huV (by decide) g1
 refine ⟨hbel.setCell (p := ⟨G, k, none⟩) (by show w0.heap.size <= G; omega) _, ⟨l1, l2, l3, l4, by have := g1.size; omega, by simp⟩, (Below.heap_setCell _ _ _ gR (fun e => own_apart h1' hbx (by decide) (by simp [Value.ownBlock, e]))).trans hbx, (Below.heap_setCell _ _ _ gB (fun e => own_apart h1' hms (by decide) (by simp [Value.ownBlock, e]))).trans hms, ⟨ur.set k v', up, own_setv h1' v' hk, own_other h2' (fun e => by have := h.gp G e; omega), ⟨hF.len, fun i hi => own_other (hF.each i hi) (fun e => own_kind (hF.each i hi) h1' (by decide) G e rfl), hF.dif⟩, fun i g hi hg' => hF.top hi hg', by rw [List.length_set]; exact h5, by rw [List.length_set]; exact h6, h7, h8⟩, own_other hw' (fun e => own_kind hw' h1' (by decide) G e rfl), h.gp⟩
theorem Rdt.wrong {W' : World} {v' : Value} {y : Int} (h : Rdt w0 lo H gR G gB K N vx xs rows Ps b vP vW vL Ws W) (g1 : (W.alloc (.cells #[.int .i64 y] 3)).grownBy W' vW.ownBlock) (g2 : W'.ownsRow lo 3 1 v' (Ws ++ [y]).length ((Ws ++ [y]).flatMap iw)) :
 Rdt w0 lo H gR G gB K N vx xs rows Ps b vP v' vL (Ws ++ [y]) (W'.setCell ⟨gR, 2, none⟩ v') := by
 obtain ⟨ur, up, h1, h2, h3, h4, h5⟩ := h.all
 obtain ⟨l1, l2, l3, l4, l5, l6⟩ := h.low
 have ha := alloc_below W (.cells #[.int .i64 y] 3)
 have hsz := ha.size
 have hwV := own_below h.wr ha
 have hbel : Below w0.heap.size w0 W' := (Below.next h.bel ha).grown g1 (by have := h.bel.size; omega) (fun k e => by have := own_base h.wr k e; omega)
 have hbx := blk_grown (blk8 h.box ha) hwV (by decide) g1
 have hms := blk_grown (h.ms.below ha) hwV (by decide) g1
 have h1' := own_grown (own_below h1 ha) hwV (by decide) g1
 have h2' := own_grown (own_below h2 ha) hwV (by decide) g1
 have hF := (h3.below ha).grown hwV (by decide) g1
 exact ⟨hbel.setCell (p := ⟨gR, 2, none⟩) (by show w0.heap.size <= gR; omega) _, ⟨l1, l2, l3, l4, l5, by have := g1.size; simp; omega⟩, set_blk hbx 2 _, (Below.heap_setCell _ _ _ gB (blk_ne hms hbx (by decide))).trans hms, ⟨ur, up, own_other h1' (own_apart h1' hbx (by decide)), own_other h2' (own_apart h2' hbx (by decide)), hF.other hbx (by decide), h4, h5⟩, own_other g2 (own_apart g2 hbx (by decide)), h.gp⟩
theorem Rdt.last (h : Rdt w0 lo H gR G gB K N vx xs rows Ps b vP vW vL Ws W) (h0 : 0 < Ps.length) : W.ownsRow lo 64 1 vL (Ps.getD (Ps.length - 1) []).length (vals (Ps.getD (Ps.length - 1) [])) := by
 obtain ⟨ur, up, h1, h2, h3, h4, h5, h6, h7, h8⟩ := h.all
 have hl : K + (Ps.length - 1) + 1 < (xs :: (rows ++ Ps)).length := by rw [List.length_cons, List.length_append]; omega
 have := h3.each (K + (Ps.length - 1) + 1) hl
 have e1 : (vx :: (ur ++ up)).getD (K + (Ps.length - 1) + 1) nov = vL := by
  show (ur ++ up).getD (K + (Ps.length - 1)) nov = vL
  rw [List.getD_eq_getElem?_getD, List.getElem?_append_right (by omega), h5, Nat.add_sub_cancel_left, <- List.getD_eq_getElem?_getD]
  exact h8 h0
 have e2 : (xs :: (rows ++ Ps)).getD (K + (Ps.length - 1) + 1) [] = Ps.getD (Ps.length - 1) [] := by
  show (rows ++ Ps).getD (K + (Ps.length - 1)) [] = _
  rw [List.getD_eq_getElem?_getD, List.getElem?_append_right (by omega), h6, Nat.add_sub_cancel_left, <- List.getD_eq_getElem?_getD]
 rw [e1, e2] at this
 exact this
theorem Rdt.rowk (h : Rdt w0 lo H gR G gB K N vx xs rows Ps b vP vW vL Ws W) {k : Nat} (hk : k < K) : ∃ uk, W.ownsRow lo 64 1 uk (rows.getD k []).length (vals (rows.getD k [])) ∧ W.cell? ⟨G, k, none⟩ = some uk ∧ W.frozen? ⟨G, k, none⟩ = false := by
 obtain ⟨ur, up, h1, h2, h3, h4, h5, h6, h7, h8⟩ := h.all
 have hlt : k + 1 < (xs :: (rows ++ Ps)).length := by rw [List.length_cons, List.length_append]; omega
 have hu := h3.each (k + 1) hlt
 have hgl : (vx :: (ur ++ up)).getD (k + 1) nov = ur.getD k nov := by
  show (ur ++ up).getD k nov = _
  rw [List.getD_eq_getElem?_getD, List.getElem?_append_left (by omega), <- List.getD_eq_getElem?_getD]
 have hgr : (xs :: (rows ++ Ps)).getD (k + 1) [] = rows.getD k [] := by
  show (rows ++ Ps).getD k [] = _
  rw [List.getD_eq_getElem?_getD, List.getElem?_append_left (by omega), <- List.getD_eq_getElem?_getD]
 rw [hgl, hgr] at hu
 exact ⟨ur.getD k nov, hu, by rw [h1.cellAt k (by omega), List.getD_eq_getElem?_getD, List.getElem?_eq_getElem (by omega)]; rfl, free_own h1 k⟩
theorem Rdt.rowS {W' : World} {ob : Obj} (h : Rdt w0 lo H gR G gB K N vx xs rows Ps b vP vW vL Ws W) {k : Nat} (hk : k < K) {uk : Value} (hu : W.ownsRow lo 64 1 uk (rows.getD k []).length (vals (rows.getD k []))) (hc : W.cell? ⟨G, k, none⟩ = some uk) (hg : (W.alloc ob).grownBy W' uk.ownBlock) : W'.cell? ⟨gR, 0, none⟩ = some (.slice (some ⟨G, 0, none⟩) K K) ∧ W'.cell? ⟨G, k, none⟩ = some uk ∧ W'.frozen? ⟨G, k, none⟩ = false := by
 obtain ⟨ur, up, h1, h2, h3, h4, h5, h6, h7, h8⟩ := h.all
 have ha := alloc_below W ob
 have huV := own_below hu ha
 have hbx := blk_grown (blk8 h.box ha) huV (by decide) hg
 have h1' := own_grown (own_below h1 ha) huV (by decide) hg
 refine ⟨(cell3 hbx).1, ?_, free_own h1' k⟩
 rw [h1'.cellAt k (by omega)]
 rw [h1.cellAt k (by omega)] at hc
 exact hc
structure Rdr (W : World) (lo G K : Nat) (rows Ps : List (List Int)) (vP vW : Value) (Ws : List Int) : Prop where
 all : ∃ ur up, W.ownsRow lo 36 1 (.slice (some ⟨G, 0, none⟩) K K) K ur ∧ W.ownsRow lo 36 1 vP Ps.length up ∧ (∀ i, i < K -> W.ownsRow lo 64 1 (ur.getD i nov) (rows.getD i []).length (vals (rows.getD i []))) ∧ (∀ i, i < Ps.length -> W.ownsRow lo 64 1 (up.getD i nov) (Ps.getD i []).length (vals (Ps.getD i []))) ∧ rows.length = K
 wr : W.ownsRow lo 3 1 vW Ws.length (Ws.flatMap iw)
theorem Rdt.kqs {W' : World} {B : Nat} {cs : Array Value} (h : Rdt w0 lo H gR G gB K N vx xs rows Ps b vP vW vL Ws W) (hk : Kq (fun j => j ≠ B) W W') (hb : W.heap[B]? = some (.cells cs 29 (0, 0))) : Rdr W' lo G K rows Ps vP vW Ws := by
 obtain ⟨ur, up, h1, h2, h3, h4, h5, h6, h7, h8⟩ := h.all
 have kp : ∀ {T : TypeId} {v : Value} {n : Nat} {ys : List Value}, T ≠ 29 -> W.ownsRow lo T 1 v n ys -> W'.ownsRow lo T 1 v n ys := fun hT hO => hk.own hO (fun g hg e => own_apart hO hb (fun e' => hT e'.symm) (by rw [hg, e]))
 refine ⟨⟨ur, up, kp (by decide) h1, kp (by decide) h2, fun i hi => ?_, fun i hi => ?_, h6⟩, kp (by decide) h.wr⟩
 · have := h3.each (i + 1) (by rw [List.length_cons, List.length_append]; omega)
   have e1 : (vx :: (ur ++ up)).getD (i + 1) nov = ur.getD i nov := by
    show (ur ++ up).getD i nov = _
    rw [List.getD_eq_getElem?_getD, List.getElem?_append_left (by omega), <- List.getD_eq_getElem?_getD]
   have e2 : (xs :: (rows ++ Ps)).getD (i + 1) [] = rows.getD i [] := by
    show (rows ++ Ps).getD i [] = _
    rw [List.getD_eq_getElem?_getD, List.getElem?_append_left (by omega), <- List.getD_eq_getElem?_getD]
   rw [e1, e2] at this
   exact kp (by decide) this
 · have := h3.each (K + i + 1) (by rw [List.length_cons, List.length_append]; omega)
   have e1 : (vx :: (ur ++ up)).getD (K + i + 1) nov = up.getD i nov := by
    show (ur ++ up).getD (K + i) nov = _
    rw [List.getD_eq_getElem?_getD, List.getElem?_append_right (by omega), h5, Nat.add_sub_cancel_left, <- List.getD_eq_getElem?_getD]
   have e2 : (xs :: (rows ++ Ps)).getD (K + i + 1) [] = Ps.getD i [] := by
    show (rows ++ Ps).getD (K + i) [] = _
    rw [List.getD_eq_getElem?_getD, List.getElem?_append_right (by omega), h6, Nat.add_sub_cancel_left, <- List.getD_eq_getElem?_getD]
   rw [e1, e2] at this
   exact kp (by decide) this
theorem Rdr.reads (h : Rdr W lo G K rows Ps vP vW Ws) (hr : ∀ i, Wd (rows.getD i [])) (hp : ∀ i, Wd (Ps.getD i [])) (hK : K <= 1000) (hP : Ps.length <= 1000) (hW : Ws.length <= 1000) : Rws W (.slice (some ⟨G, 0, none⟩) K K) rows ∧ Rws W vP Ps ∧ Lm iw 1 W vW Ws := by
 obtain ⟨ur, up, h1, h2, h3, h4, h6⟩ := h.all
 exact ⟨own_rws h1 h6 (fun i hi => (hr i).row (h3 i (by omega))) hK, own_rws h2 rfl (fun i hi => (hp i).row (h4 i hi)) hP, lm_of_own iw_len (by decide) h.wr (by omega)⟩
end
theorem ls_info8 : (Tryz.prog.info? 36).map (fun i => (i.zero, i.size, i.bytes)) = some (some (.slice none 0 0), 1, 24) := by kernel_rfl
theorem appL1 (W : World) (base : Nat) (u : Value) (us : List Value) (n : Nat) (a : Addr) (x : Value) (hO : W.ownsRow base 36 1 u n us) (h0 : W.cell? a = some x) (hx : ∃ p q r, x = .slice p q r) (hl : n <= 1000) (hb : base <= W.heap.size) :
 ∃ (au' : Option Addr) (cu' : Nat) (W' : World), (Builtin.append_ #[26, 26] 26 #[u, .slice (some a) 1 1]).run Tryz.prog W = .ok (.slice au' (n + 1) cu') W' ∧ W'.ownsRow base 36 1 (.slice au' (n + 1) cu') (n + 1) (us ++ [x]) ∧ Below base W W' ∧ W.grownBy W' u.ownBlock ∧ ((Value.slice au' (n + 1) cu').ownBlock = u.ownBlock ∨ (Value.slice au' (n + 1) cu').ownBlock = some W.heap.size) := by
 obtain ⟨i0, hi0, hz0, hz1, hz2⟩ := info_parts ls_info8
 obtain ⟨v', W', hr, ho, hg, _, hbk⟩ := run_append_own_at (P := Tryz.prog) (w := W) base 26 26 36 i0 (.slice none 0 0) 1 24 Tryz.underlying26 hi0 hz0 hz1 hz2 rfl (by decide) u n us hO a 1 1 [x] rfl (fun j v hj => by
  rcases j with _ | j
  · simp at hj; rw [<- hj]; exact h0
  · simp at hj) (by obtain ⟨p, q, r, e⟩ := hx; rw [e]; simp [Value.oneCell']) (by unfold maxLen; omega) (by omega) hb
 obtain ⟨au', cu', rfl⟩ := own_slice ho
 exact ⟨au', cu', W', hr, ho, (Below.refl base W).grown hg hb (fun k hk => own_base hO k hk), hg, hbk⟩
theorem dFrom (a n : Int) (w : World) (ha : 0 <= a) (hn : 0 <= n) (han : a + n <= 1000) : Calls Tryz.prog 65 #[.int .i64 a, .int .i64 n] w fun e w' => ∃ v, e = .returned v ∧ w'.ownsRow w.heap.size 64 1 v (pts a n.toNat).length (vals (pts a n.toNat)) ∧ Below w.heap.size w w' := by
 obtain ⟨i0, hi0, hz0, hz1, hz2⟩ := info_parts u64_info
 obtain ⟨N, rfl⟩ : ∃ N : Nat, n = N := ⟨n.toNat, by omega⟩
 rw [Int.toNat_natCast]
 go_enter Tryz.func65, Tryz.ntmps65
 go_wp2_with fail
 go_loopw [5, 6] (fun vl vi wr => ∃ (k : Nat) (ao : Option Addr) (cap : Nat), k <= N ∧ vi = .int .i64 k ∧ vl = .slice ao k cap ∧ Hid (wr.ownsRow w.heap.size 64 1 (.slice ao k cap) k (vals (pts a k))) ∧ Below w.heap.size w wr) (fun _ vi _ => N - (intOf vi).toNat)
 case atStart => exact ⟨0, none, 0, Nat.zero_le _, rfl, rfl, World.ownsRow_nil _ _ _ _, Below.refl _ _⟩
 case round =>
  obtain ⟨k, ao, cap, hk, rfl, rfl, HO, hB⟩ := hrel
  by_cases hlt : k < N
  · have hsz := hB.size
    go_wp2_with (at_builtin; refine wpList_append_own _ rfl _ _ 36 rfl w.heap.size 64 i0 (.int .u64 0) 1 8 Tryz.underlying36 hi0 hz0 hz1 hz2 rfl (by decide) _ k (vals (pts a k)) rfl (own_below HO.out (alloc_below wr _)) ⟨wr.heap.size, 0, none⟩ 1 1 [.int .u64 (a + (k : Int))] rfl rfl (cell_one_new _ _ _) (by simp [Value.oneCell']) (by unfold maxLen; omega) (by omega) (by simp; omega) ?_; intro v' w3 hown3 hg3 hnil3; clear hnil3; obtain ⟨a3, k3, rfl⟩ := own_form hown3)
    have HO3 : Hid (w3.ownsRow w.heap.size 64 1 (.slice a3 (k + 1) k3) (k + 1) (vals (pts a (k + 1)))) := by
     show World.ownsRow _ _ _ _ _ _ _
     rw [pts_succ, show vals (pts a k ++ [a + (k : Int)]) = vals (pts a k) ++ [.int .u64 (a + (k : Int))] by simp [vals]]
     exact hown3
    have hB3 : Below w.heap.size w w3 := (Below.next hB (alloc_below wr _)).grown hg3 (by simp; omega) (fun j e => own_base HO.out j e)
    clear hown3 hg3
    go_roundw
    case rel => exact ⟨k + 1, a3, k3, by omega, by go_num, rfl, HO3, hB3⟩
    case measure => simp [intOf]; omega
  · obtain rfl : k = N := by omega
    go_wp2
    go_ret
    exact ⟨_, rfl, by rw [pts_len]; exact HO.out, hB⟩
theorem dInner (p : Pn) (w : World) (h : mayP p = true) : Calls Tryz.prog 110 #[plv p] w fun e w' => ∃ v, e = .returned v ∧ w'.ownsRow w.heap.size 64 1 v (innL p).length (vals (innL p)) ∧ Below w.heap.size w w' := by
 obtain ⟨_, ⟨k0, k1⟩, ⟨t0, t1⟩, _⟩ := may_facts h
 have HR := hide (fun W => dFrom 0 (p.k + p.t) W (by omega) (by omega) (by omega))
 rw [show pts 0 (p.k + p.t).toNat = innL p from rfl] at HR
 obtain ⟨pb, hA⟩ := pb_box (w := w) p
 obtain ⟨c0, c1, c2, c3, c4, c5, c6, c7⟩ := pb.cells
 generalize innL p = xs at *
 unfold plv plw at *
 clear h
 go_enter Tryz.func110, Tryz.ntmps110
 go_wp2_with (go_at_call 65; refine (HR.out _).mono ?_; rintro e w1 ⟨v1, rfl, hO1, hb1⟩)
 go_ret
 exact ⟨_, rfl, own_mono hO1 hA.size, Below.next hA hb1⟩
theorem dOuter (p : Pn) (w : World) (h : mayP p = true) : Calls Tryz.prog 32 #[plv p] w fun e w' => ∃ v, e = .returned v ∧ w'.ownsRow w.heap.size 64 1 v (outL p).length (vals (outL p)) ∧ Below w.heap.size w w' := by
 obtain ⟨⟨n0, n1⟩, ⟨k0, k1⟩, ⟨t0, t1⟩, _⟩ := may_facts h
 have HR := hide (fun W => dFrom (p.k + p.t) p.n W (by omega) (by omega) (by omega))
 rw [show pts (p.k + p.t) p.n.toNat = outL p from rfl] at HR
 obtain ⟨pb, hA⟩ := pb_box (w := w) p
 obtain ⟨c0, c1, c2, c3, c4, c5, c6, c7⟩ := pb.cells
 generalize outL p = xs at *
 unfold plv plw at *
 clear h
 go_enter Tryz.func32, Tryz.ntmps32
 go_wp2_with (go_at_call 65; refine (HR.out _).mono ?_; rintro e w1 ⟨v1, rfl, hO1, hb1⟩)
 go_ret
 exact ⟨_, rfl, own_mono hO1 hA.size, Below.next hA hb1⟩
end Go.Proofs.YtjhididlcdepdaaGreat
