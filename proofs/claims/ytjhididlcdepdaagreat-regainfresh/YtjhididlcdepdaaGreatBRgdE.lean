import Derived.Test.YtjhididlcdepdaaGreatBRgdD
import Derived.Test.YtjhididlcdepdaaGreatBRgnP
import Derived.Test.YtjhididlcdepdaaGreatBunM
import Derived.Test.YtjhididlcdepdaaGreatBunHC
set_option linter.unusedVariables false
set_option linter.unusedSimpArgs false
set_option maxRecDepth 100000
set_option maxHeartbeats 4000000
namespace Go.Proofs.YtjhididlcdepdaaGreat
open Go.RowKit Fld Pln
theorem blk_ne {W : World} {a b : Nat} {cs ds : Array Value} {S T : TypeId} {f g : Nat × Nat} (h1 : W.heap[a]? = some (.cells cs S f)) (h2 : W.heap[b]? = some (.cells ds T g)) (hne : S ≠ T) : a ≠ b := fun e => by
 subst e
 rw [h1] at h2
 injection h2 with h2
 injection h2 with _ h2 _
 exact hne h2
theorem blk_grown {W W' : World} {a b s n : Nat} {cs : Array Value} {S T : TypeId} {v : Value} {xs : List Value} (h1 : W.heap[a]? = some (.cells cs S (0, 0))) (hO : W.ownsRow b T s v n xs) (hne : S ≠ T) (hg : W.grownBy W' v.ownBlock) : W'.heap[a]? = some (.cells cs S (0, 0)) :=
 (hg.block a (Array.getElem?_eq_some_iff.1 h1).1 (fun e => own_apart hO h1 hne e.symm)).trans h1
theorem own_grown {W W' : World} {b s n b' s' n' : Nat} {S T : TypeId} {v u : Value} {xs ys : List Value} (h1 : W.ownsRow b' S s' u n' ys) (hO : W.ownsRow b T s v n xs) (hne : S ≠ T) (hg : W.grownBy W' v.ownBlock) : W'.ownsRow b' S s' u n' ys :=
 own_kept h1 hg (fun g hgb hc => own_kind h1 hO hne g hgb hc)
theorem own_uniq {W : World} {b c s n : Nat} {T : TypeId} {v : Value} {xs ys : List Value} (h1 : W.ownsRow b T s v n xs) (h2 : W.ownsRow c T s v n ys) : xs = ys := by
 rcases h1.2 with ⟨e1, z1⟩ | ⟨g, cap, cur, e1, _, hh1, _, _, _, t1⟩ <;> rcases h2.2 with ⟨e2, z2⟩ | ⟨g', cap', cur', e2, _, hh2, _, _, _, t2⟩
 · have l1 := h1.1
   have l2 := h2.1
   rw [z1, Nat.zero_mul] at l1
   rw [z1, Nat.zero_mul] at l2
   rw [List.length_eq_zero_iff.1 l1, List.length_eq_zero_iff.1 l2]
 · rw [e1] at e2; cases e2
 · rw [e1] at e2; cases e2
 · rw [e1] at e2
   cases e2
   rw [hh1] at hh2
   injection hh2 with hh2
   injection hh2 with hh2 _ _
   rw [← t1, ← t2, hh2]
section
variable {w0 : World} {lo H gR G gB K N : Nat} {vx : Value} {xs : List Int} {rows Ps : List (List Int)} {b : Nat → Bool} {vP vW vL : Value} {Ws : List Int} {W : World}
theorem Rdt.below {W' : World} (h : Rdt w0 lo H gR G gB K N vx xs rows Ps b vP vW vL Ws W) (hb : Below W.heap.size W W') : Rdt w0 lo H gR G gB K N vx xs rows Ps b vP vW vL Ws W' := by
 obtain ⟨ur, up, h1, h2, h3, h4, h5⟩ := h.all
 obtain ⟨l1, l2, l3, l4, l5, l6⟩ := h.low
 exact ⟨Below.next h.bel hb, ⟨l1, l2, l3, l4, l5, Nat.le_trans l6 hb.size⟩, blk8 h.box hb, h.ms.below hb, ⟨ur, up, own_below h1 hb, own_below h2 hb, h3.below hb, h4, h5⟩, own_below h.wr hb, h.gp⟩
theorem Rdt.raise (h : Rdt w0 lo H gR G gB K N vx xs rows Ps b vP vW vL Ws W) : Rdt w0 lo W.heap.size gR G gB K N vx xs rows Ps b vP vW vL Ws W := by
 obtain ⟨ur, up, h1, h2, h3, h4, h5⟩ := h.all
 obtain ⟨l1, l2, l3, l4, l5, l6⟩ := h.low
 exact ⟨h.bel, ⟨l1, l2, l3, l4, Nat.le_trans l5 l6, Nat.le_refl _⟩, h.box, h.ms, ⟨ur, up, h1, h2, h3, fun i g hi hg => h3.top hi hg, h5⟩, h.wr, h.gp⟩
theorem Rdt.mark (h : Rdt w0 lo H gR G gB K N vx xs rows Ps b vP vW vL Ws W) {J : Nat} (hJ : J < N) : Rdt w0 lo H gR G gB K N vx xs rows Ps (fun i => b i || decide (i = J)) vP vW vL Ws (W.setCell ⟨gB, J, none⟩ (.bool true)) := by
 obtain ⟨ur, up, h1, h2, h3, h4, h5⟩ := h.all
 have hm : W.heap[gB]? = some (.cells (mkn N b) 4 (0, 0)) := h.ms
 have hne : gR ≠ gB := blk_ne h.box hm (by decide)
 obtain ⟨l1, l2, l3, l4, l5, l6⟩ := h.low
 exact ⟨h.bel.setCell (p := ⟨gB, J, none⟩) (by show w0.heap.size ≤ gB; omega) _, ⟨l1, l2, l3, l4, l5, by simpa using l6⟩, (Below.heap_setCell _ _ _ gR hne).trans h.box, h.ms.put hJ, ⟨ur, up, own_other h1 (own_apart h1 hm (by decide)), own_other h2 (own_apart h2 hm (by decide)), h3.other hm (by decide), h4, h5⟩, own_other h.wr (own_apart h.wr hm (by decide)), h.gp⟩
theorem Rdt.poly {W' : World} {u v' : Value} {P : List Int} (h : Rdt w0 lo H gR G gB K N vx xs rows Ps b vP vW vL Ws W) (hu : W.ownsRow H 64 1 u P.length (vals P)) (hg : ∀ {up : List Value}, W.ownsRow lo 36 1 vP Ps.length up → (W.alloc (.cells #[u] 36)).grownBy W' vP.ownBlock ∧ W'.ownsRow lo 36 1 v' (Ps.length + 1) (up ++ [u]) ∧ (v'.ownBlock = vP.ownBlock ∨ v'.ownBlock = some (W.heap.size + 1))) :
 Rdt w0 lo W'.heap.size gR G gB K N vx xs rows (Ps ++ [P]) b v' vW u Ws (W'.setCell ⟨gR, 1, none⟩ v') := by
 obtain ⟨ur, up, h1, h2, h3, h4, h5, h6, h7, h8⟩ := h.all
 obtain ⟨l1, l2, l3, l4, l5, l6⟩ := h.low
 obtain ⟨g1, g2, g3⟩ := hg h2
 have ha := alloc_below W (.cells #[u] 36)
 have hsz := ha.size
 have h2V := own_below h2 ha
 have hbel : Below w0.heap.size w0 W' := (Below.next h.bel ha).grown g1 (by have := h.bel.size; omega) (fun k e => by have := own_base h2 k e; omega)
 have hbx := blk_grown (blk8 h.box ha) h2V (by decide) g1
 have hms := blk_grown (h.ms.below ha) h2V (by decide) g1
 have hF := ((h3.snoc h4 l5 hu).below ha).grown h2V (by decide) g1
 have hG : ∀ g, v'.ownBlock = some g → G < g := fun g hgv => by
  rcases g3 with e | e
  · rw [e] at hgv; exact h.gp g hgv
  · rw [e] at hgv
    injection hgv with hgv
    have := own_top h1 G rfl
    omega
 have h1' : W'.ownsRow lo 36 1 (.slice (some ⟨G, 0, none⟩) K K) K ur := own_kept (own_below h1 ha) g1 (fun g hgb hc => by
  have e : g = G := by simpa [Value.ownBlock] using hgb.symm
  have := h.gp g hc
  omega)
 have e1 : (vx :: (ur ++ up)) ++ [u] = vx :: (ur ++ (up ++ [u])) := by simp
 have e2 : (xs :: (rows ++ Ps)) ++ [P] = xs :: (rows ++ (Ps ++ [P])) := by simp
 rw [e1, e2] at hF
 have hF2 := hF.other (k := 1) (v := v') hbx (by decide)
 refine ⟨hbel.setCell (p := ⟨gR, 1, none⟩) (by show w0.heap.size ≤ gR; omega) _, ⟨l1, l2, l3, l4, by have := g1.size; omega, by simp⟩, set_blk hbx 1 _, (Below.heap_setCell _ _ _ gB (blk_ne hms hbx (by decide))).trans hms, ⟨ur, up ++ [u], own_other h1' (own_apart h1' hbx (by decide)), ?_, hF2, fun i g hi hg' => hF.top hi hg', h5, h6, by simp [h7], fun _ => by rw [List.length_append, List.length_singleton, Nat.add_sub_cancel, getD_snoc, if_neg (by omega), if_pos h7.symm]⟩, own_other (own_grown (own_below h.wr ha) h2V (by decide) g1) (own_apart (own_grown (own_below h.wr ha) h2V (by decide) g1) hbx (by decide)), hG⟩
 rw [List.length_append, List.length_singleton]
 exact own_other g2 (own_apart g2 hbx (by decide))
theorem Rdt.row {W' : World} {k : Nat} {v' : Value} {y : Int} (h : Rdt w0 lo H gR G gB K N vx xs rows Ps b vP vW vL Ws W) (hk : k < K) (hg : ∀ {uk : Value}, W.ownsRow lo 64 1 uk (rows.getD k []).length (vals (rows.getD k [])) → W.cell? ⟨G, k, none⟩ = some uk → (W.alloc (.cells #[.int .u64 y] 64)).grownBy W' uk.ownBlock ∧ W'.ownsRow lo 64 1 v' ((rows.getD k []).length + 1) (vals (rows.getD k [] ++ [y])) ∧ (v'.ownBlock = uk.ownBlock ∨ v'.ownBlock = some (W.heap.size + 1))) :
 Rdt w0 lo W'.heap.size gR G gB K N vx xs (rows.set k (rows.getD k [] ++ [y])) Ps b vP vW vL Ws (W'.setCell ⟨G, k, none⟩ v') := by
 obtain ⟨ur, up, h1, h2, h3, h4, h5, h6, h7, h8⟩ := h.all
 obtain ⟨l1, l2, l3, l4, l5, l6⟩ := h.low
 have hc : W.cell? ⟨G, k, none⟩ = some (ur.getD k nov) := by
  rw [h1.cellAt k (by omega), List.getD_eq_getElem?_getD, List.getElem?_eq_getElem (by omega)]; rfl
 have hgl : (vx :: (ur ++ up)).getD (k + 1) nov = ur.getD k nov := by
  show (ur ++ up).getD k nov = _
  rw [List.getD_eq_getElem?_getD, List.getElem?_append_left (by omega), ← List.getD_eq_getElem?_getD]
 have hgr : (xs :: (rows ++ Ps)).getD (k + 1) [] = rows.getD k [] := by
  show (rows ++ Ps).getD k [] = _
  rw [List.getD_eq_getElem?_getD, List.getElem?_append_left (by omega), ← List.getD_eq_getElem?_getD]
 have hlt : k + 1 < (xs :: (rows ++ Ps)).length := by rw [List.length_cons, List.length_append]; omega
 have hu := h3.each (k + 1) hlt
 rw [hgl, hgr] at hu
 obtain ⟨g1, g2, g3⟩ := hg hu hc
 have ha := alloc_below W (.cells #[.int .u64 y] 64)
 have hsz := ha.size
 have hszA : (W.alloc (.cells #[.int .u64 y] 64)).heap.size = W.heap.size + 1 := by simp
 have huV := own_below hu ha
 have hF := (h3.below ha).push (k := k + 1) (v := v') (ys := rows.getD k [] ++ [y]) hlt (by rw [hgl]; exact g1) (by rw [List.length_append]; exact g2) (by rw [hgl, hszA]; exact g3)
 have e1 : (vx :: (ur ++ up)).set (k + 1) v' = vx :: (ur.set k v' ++ up) := by
  rw [List.set_cons_succ, List.set_append_left _ _ (by omega)]
 have e2 : (xs :: (rows ++ Ps)).set (k + 1) (rows.getD k [] ++ [y]) = xs :: (rows.set k (rows.getD k [] ++ [y]) ++ Ps) := by
  rw [List.set_cons_succ, List.set_append_left _ _ (by omega)]
 rw [e1, e2] at hF
 have hbel : Below w0.heap.size w0 W' := (Below.next h.bel ha).grown g1 (by have := h.bel.size; omega) (fun k e => by have := own_base hu k e; omega)
 have hbx := blk_grown (blk8 h.box ha) huV (by decide) g1
 have hms := blk_grown (h.ms.below ha) huV (by decide) g1
 have h1' := own_grown (own_below h1 ha) huV (by decide) g1
 have h2' := own_grown (own_below h2 ha) huV (by decide) g1
 have hw' := own_grown (own_below h.wr ha) huV (by decide) g1
 refine ⟨hbel.setCell (p := ⟨G, k, none⟩) (by show w0.heap.size ≤ G; omega) _, ⟨l1, l2, l3, l4, by have := g1.size; omega, by simp⟩, (Below.heap_setCell _ _ _ gR (fun e => own_apart h1' hbx (by decide) (by simp [Value.ownBlock, e]))).trans hbx, (Below.heap_setCell _ _ _ gB (fun e => own_apart h1' hms (by decide) (by simp [Value.ownBlock, e]))).trans hms, ⟨ur.set k v', up, own_setv h1' v' hk, own_other h2' (fun e => by have := h.gp G e; omega), ⟨hF.len, fun i hi => own_other (hF.each i hi) (fun e => own_kind (hF.each i hi) h1' (by decide) G e rfl), hF.dif⟩, fun i g hi hg' => hF.top hi hg', by rw [List.length_set]; exact h5, by rw [List.length_set]; exact h6, h7, h8⟩, own_other hw' (fun e => own_kind hw' h1' (by decide) G e rfl), h.gp⟩
theorem Rdt.wrong {W' : World} {v' : Value} {y : Int} (h : Rdt w0 lo H gR G gB K N vx xs rows Ps b vP vW vL Ws W) (g1 : (W.alloc (.cells #[.int .i64 y] 3)).grownBy W' vW.ownBlock) (g2 : W'.ownsRow lo 3 1 v' (Ws ++ [y]).length ((Ws ++ [y]).flatMap iw)) :
 Rdt w0 lo H gR G gB K N vx xs rows Ps b vP v' vL (Ws ++ [y]) (W'.setCell ⟨gR, 2, none⟩ v') := by
 obtain ⟨ur, up, h1, h2, h3, h4, h5⟩ := h.all
 obtain ⟨l1, l2, l3, l4, l5, l6⟩ := h.low
 have ha := alloc_below W (.cells #[.int .i64 y] 3)
 have hsz := ha.size
 have hwV := own_below h.wr ha
 have hbel : Below w0.heap.size w0 W' := (Below.next h.bel ha).grown g1 (by have := h.bel.size; omega) (fun k e => by have := own_base h.wr k e; omega)
 have hbx := blk_grown (blk8 h.box ha) hwV (by decide) g1
 have hms := blk_grown (h.ms.below ha) hwV (by decide) g1
 have h1' := own_grown (own_below h1 ha) hwV (by decide) g1
 have h2' := own_grown (own_below h2 ha) hwV (by decide) g1
 have hF := (h3.below ha).grown hwV (by decide) g1
 exact ⟨hbel.setCell (p := ⟨gR, 2, none⟩) (by show w0.heap.size ≤ gR; omega) _, ⟨l1, l2, l3, l4, l5, by have := g1.size; simp; omega⟩, set_blk hbx 2 _, (Below.heap_setCell _ _ _ gB (blk_ne hms hbx (by decide))).trans hms, ⟨ur, up, own_other h1' (own_apart h1' hbx (by decide)), own_other h2' (own_apart h2' hbx (by decide)), hF.other hbx (by decide), h4, h5⟩, own_other g2 (own_apart g2 hbx (by decide)), h.gp⟩
theorem Rdt.last (h : Rdt w0 lo H gR G gB K N vx xs rows Ps b vP vW vL Ws W) (h0 : 0 < Ps.length) : W.ownsRow lo 64 1 vL (Ps.getD (Ps.length - 1) []).length (vals (Ps.getD (Ps.length - 1) [])) := by
 obtain ⟨ur, up, h1, h2, h3, h4, h5, h6, h7, h8⟩ := h.all
 have hl : K + (Ps.length - 1) + 1 < (xs :: (rows ++ Ps)).length := by rw [List.length_cons, List.length_append]; omega
 have := h3.each (K + (Ps.length - 1) + 1) hl
 have e1 : (vx :: (ur ++ up)).getD (K + (Ps.length - 1) + 1) nov = vL := by
  show (ur ++ up).getD (K + (Ps.length - 1)) nov = vL
  rw [List.getD_eq_getElem?_getD, List.getElem?_append_right (by omega), h5, Nat.add_sub_cancel_left, ← List.getD_eq_getElem?_getD]
  exact h8 h0
 have e2 : (xs :: (rows ++ Ps)).getD (K + (Ps.length - 1) + 1) [] = Ps.getD (Ps.length - 1) [] := by
  show (rows ++ Ps).getD (K + (Ps.length - 1)) [] = _
  rw [List.getD_eq_getElem?_getD, List.getElem?_append_right (by omega), h6, Nat.add_sub_cancel_left, ← List.getD_eq_getElem?_getD]
 rw [e1, e2] at this
 exact this
theorem Rdt.rowk (h : Rdt w0 lo H gR G gB K N vx xs rows Ps b vP vW vL Ws W) {k : Nat} (hk : k < K) : ∃ uk, W.ownsRow lo 64 1 uk (rows.getD k []).length (vals (rows.getD k [])) ∧ W.cell? ⟨G, k, none⟩ = some uk ∧ W.frozen? ⟨G, k, none⟩ = false := by
 obtain ⟨ur, up, h1, h2, h3, h4, h5, h6, h7, h8⟩ := h.all
 have hlt : k + 1 < (xs :: (rows ++ Ps)).length := by rw [List.length_cons, List.length_append]; omega
 have hu := h3.each (k + 1) hlt
 have hgl : (vx :: (ur ++ up)).getD (k + 1) nov = ur.getD k nov := by
  show (ur ++ up).getD k nov = _
  rw [List.getD_eq_getElem?_getD, List.getElem?_append_left (by omega), ← List.getD_eq_getElem?_getD]
 have hgr : (xs :: (rows ++ Ps)).getD (k + 1) [] = rows.getD k [] := by
  show (rows ++ Ps).getD k [] = _
  rw [List.getD_eq_getElem?_getD, List.getElem?_append_left (by omega), ← List.getD_eq_getElem?_getD]
 rw [hgl, hgr] at hu
 exact ⟨ur.getD k nov, hu, by rw [h1.cellAt k (by omega), List.getD_eq_getElem?_getD, List.getElem?_eq_getElem (by omega)]; rfl, free_own h1 k⟩
theorem Rdt.rowS {W' : World} {ob : Obj} (h : Rdt w0 lo H gR G gB K N vx xs rows Ps b vP vW vL Ws W) {k : Nat} (hk : k < K) {uk : Value} (hu : W.ownsRow lo 64 1 uk (rows.getD k []).length (vals (rows.getD k []))) (hc : W.cell? ⟨G, k, none⟩ = some uk) (hg : (W.alloc ob).grownBy W' uk.ownBlock) : W'.cell? ⟨gR, 0, none⟩ = some (.slice (some ⟨G, 0, none⟩) K K) ∧ W'.cell? ⟨G, k, none⟩ = some uk ∧ W'.frozen? ⟨G, k, none⟩ = false := by
 obtain ⟨ur, up, h1, h2, h3, h4, h5, h6, h7, h8⟩ := h.all
 have ha := alloc_below W ob
 have huV := own_below hu ha
 have hbx := blk_grown (blk8 h.box ha) huV (by decide) hg
 have h1' := own_grown (own_below h1 ha) huV (by decide) hg
 refine ⟨(cell3 hbx).1, ?_, free_own h1' k⟩
 rw [h1'.cellAt k (by omega)]
 rw [h1.cellAt k (by omega)] at hc
 exact hc
structure Rdr (W : World) (lo G K : Nat) (rows Ps : List (List Int)) (vP vW : Value) (Ws : List Int) : Prop where
 all : ∃ ur up, W.ownsRow lo 36 1 (.slice (some ⟨G, 0, none⟩) K K) K ur ∧ W.ownsRow lo 36 1 vP Ps.length up ∧ (∀ i, i < K → W.ownsRow lo 64 1 (ur.getD i nov) (rows.getD i []).length (vals (rows.getD i []))) ∧ (∀ i, i < Ps.length → W.ownsRow lo 64 1 (up.getD i nov) (Ps.getD i []).length (vals (Ps.getD i []))) ∧ rows.length = K
 wr : W.ownsRow lo 3 1 vW Ws.length (Ws.flatMap iw)
theorem Rdt.kqs {W' : World} {B : Nat} {cs : Array Value} (h : Rdt w0 lo H gR G gB K N vx xs rows Ps b vP vW vL Ws W) (hk : Kq (fun j => j ≠ B) W W') (hb : W.heap[B]? = some (.cells cs 29 (0, 0))) : Rdr W' lo G K rows Ps vP vW Ws := by
 obtain ⟨ur, up, h1, h2, h3, h4, h5, h6, h7, h8⟩ := h.all
 have kp : ∀ {T : TypeId} {v : Value} {n : Nat} {ys : List Value}, T ≠ 29 → W.ownsRow lo T 1 v n ys → W'.ownsRow lo T 1 v n ys := fun hT hO => hk.own hO (fun g hg e => own_apart hO hb (fun e' => hT e'.symm) (by rw [hg, e]))
 refine ⟨⟨ur, up, kp (by decide) h1, kp (by decide) h2, fun i hi => ?_, fun i hi => ?_, h6⟩, kp (by decide) h.wr⟩
 · have := h3.each (i + 1) (by rw [List.length_cons, List.length_append]; omega)
   have e1 : (vx :: (ur ++ up)).getD (i + 1) nov = ur.getD i nov := by
    show (ur ++ up).getD i nov = _
    rw [List.getD_eq_getElem?_getD, List.getElem?_append_left (by omega), ← List.getD_eq_getElem?_getD]
   have e2 : (xs :: (rows ++ Ps)).getD (i + 1) [] = rows.getD i [] := by
    show (rows ++ Ps).getD i [] = _
    rw [List.getD_eq_getElem?_getD, List.getElem?_append_left (by omega), ← List.getD_eq_getElem?_getD]
   rw [e1, e2] at this
   exact kp (by decide) this
 · have := h3.each (K + i + 1) (by rw [List.length_cons, List.length_append]; omega)
   have e1 : (vx :: (ur ++ up)).getD (K + i + 1) nov = up.getD i nov := by
    show (ur ++ up).getD (K + i) nov = _
    rw [List.getD_eq_getElem?_getD, List.getElem?_append_right (by omega), h5, Nat.add_sub_cancel_left, ← List.getD_eq_getElem?_getD]
   have e2 : (xs :: (rows ++ Ps)).getD (K + i + 1) [] = Ps.getD i [] := by
    show (rows ++ Ps).getD (K + i) [] = _
    rw [List.getD_eq_getElem?_getD, List.getElem?_append_right (by omega), h6, Nat.add_sub_cancel_left, ← List.getD_eq_getElem?_getD]
   rw [e1, e2] at this
   exact kp (by decide) this
theorem Rdr.reads (h : Rdr W lo G K rows Ps vP vW Ws) (hr : ∀ i, Wd (rows.getD i [])) (hp : ∀ i, Wd (Ps.getD i [])) (hK : K ≤ 1000) (hP : Ps.length ≤ 1000) (hW : Ws.length ≤ 1000) : Rws W (.slice (some ⟨G, 0, none⟩) K K) rows ∧ Rws W vP Ps ∧ Lm iw 1 W vW Ws := by
 obtain ⟨ur, up, h1, h2, h3, h4, h6⟩ := h.all
 exact ⟨own_rws h1 h6 (fun i hi => (hr i).row (h3 i (by omega))) hK, own_rws h2 rfl (fun i hi => (hp i).row (h4 i hi)) hP, lm_of_own iw_len (by decide) h.wr (by omega)⟩
end
theorem ls_info8 : (Tryz.prog.info? 36).map (fun i => (i.zero, i.size, i.bytes)) = some (some (.slice none 0 0), 1, 24) := by kernel_rfl
theorem appL1 (W : World) (base : Nat) (u : Value) (us : List Value) (n : Nat) (a : Addr) (x : Value) (hO : W.ownsRow base 36 1 u n us) (h0 : W.cell? a = some x) (hx : ∃ p q r, x = .slice p q r) (hl : n ≤ 1000) (hb : base ≤ W.heap.size) :
 ∃ (au' : Option Addr) (cu' : Nat) (W' : World), (Builtin.append_ #[26, 26] 26 #[u, .slice (some a) 1 1]).run Tryz.prog W = .ok (.slice au' (n + 1) cu') W' ∧ W'.ownsRow base 36 1 (.slice au' (n + 1) cu') (n + 1) (us ++ [x]) ∧ Below base W W' ∧ W.grownBy W' u.ownBlock ∧ ((Value.slice au' (n + 1) cu').ownBlock = u.ownBlock ∨ (Value.slice au' (n + 1) cu').ownBlock = some W.heap.size) := by
 obtain ⟨i0, hi0, hz0, hz1, hz2⟩ := info_parts ls_info8
 obtain ⟨v', W', hr, ho, hg, _, hbk⟩ := run_append_own_at (P := Tryz.prog) (w := W) base 26 26 36 i0 (.slice none 0 0) 1 24 Tryz.underlying26 hi0 hz0 hz1 hz2 rfl (by decide) u n us hO a 1 1 [x] rfl (fun j v hj => by
  rcases j with _ | j
  · simp at hj; rw [← hj]; exact h0
  · simp at hj) (by obtain ⟨p, q, r, e⟩ := hx; rw [e]; simp [Value.oneCell']) (by unfold maxLen; omega) (by omega) hb
 obtain ⟨au', cu', rfl⟩ := own_slice ho
 exact ⟨au', cu', W', hr, ho, (Below.refl base W).grown hg hb (fun k hk => own_base hO k hk), hg, hbk⟩
end Go.Proofs.YtjhididlcdepdaaGreat
