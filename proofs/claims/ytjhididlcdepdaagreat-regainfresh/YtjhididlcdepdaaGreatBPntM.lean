import Derived.Test.YtjhididlcdepdaaGreatBunO
import Derived.Test.YtjhididlcdepdaaGreatBunJ
import Derived.Test.YtjhididlcdepdaaGreatBIntA
set_option linter.unusedVariables false
set_option linter.unusedSimpArgs false
set_option maxRecDepth 100000
set_option maxHeartbeats 4000000
namespace Go.Proofs.YtjhididlcdepdaaGreat
open Go.RowKit Fld Rnk
theorem own_setv {W : World} {base g n cap k : Nat} {T : TypeId} {xs : List Value} (h : W.ownsRow base T 1 (.slice (some ⟨g, 0, none⟩) n cap) n xs) (u : Value) (hk : k < n) : (W.setCell ⟨g, k, none⟩ u).ownsRow base T 1 (.slice (some ⟨g, 0, none⟩) n cap) n (xs.set k u) := by
 refine ⟨by rw [List.length_set]; exact h.1, ?_⟩
 rcases h.2 with ⟨e, _⟩ | ⟨g', cap', cur, e, h2, h3, h4, h5, h6, h7⟩
 · cases e
 · cases e
   refine .inr ⟨g, cap, cur.setIfInBounds k u, rfl, h2, set_blk h3 k u, h4, h5, by rw [Array.size_setIfInBounds]; exact h6, ?_⟩
   rw [Array.toList_setIfInBounds, <- h7, List.take_set]
theorem free_own {W : World} {base g n cap : Nat} {T : TypeId} {xs : List Value} (h : W.ownsRow base T 1 (.slice (some ⟨g, 0, none⟩) n cap) n xs) (k : Nat) : W.frozen? ⟨g, k, none⟩ = false := by
 rcases h.2 with ⟨e, _⟩ | ⟨g', cap', cur, e, h2, h3, h4, h5, h6, h7⟩
 · cases e
 · cases e
   simp [World.frozen?, h3]
structure Mtx (w : World) (lo : Nat) (v : Value) (us : List Value) (l : List (List Int)) : Prop where
 row : w.ownsRow lo 36 1 v l.length us
 each : ∀ i, i < l.length -> w.ownsRow lo 64 1 (us.getD i nov) (l.getD i []).length (vals (l.getD i []))
 dif : ∀ i j g, i < l.length -> j < l.length -> i ≠ j -> (us.getD i nov).ownBlock = some g -> (us.getD j nov).ownBlock ≠ some g
theorem Lss.mtx {w : World} {lo hi : Nat} {v : Value} {us : List Value} {l : List (List Int)} (h : Lss w lo hi v us l) : Mtx w lo v us l :=
 ⟨h.row, h.each, fun i j g _ _ hne h1 h2 => by
  rcases Nat.lt_or_gt_of_ne hne with c | c
  · have := h.up i j g g c h1 h2; omega
  · have := h.up j i g g c h2 h1; omega⟩
theorem Mtx.low {w : World} {lo lo' : Nat} {v : Value} {us : List Value} {l : List (List Int)} (h : Mtx w lo v us l) (hl : lo' <= lo) : Mtx w lo' v us l :=
 ⟨own_mono h.row hl, fun i hi => own_mono (h.each i hi) hl, h.dif⟩
theorem Mtx.below {w w' : World} {lo : Nat} {v : Value} {us : List Value} {l : List (List Int)} (h : Mtx w lo v us l) (hb : Below w.heap.size w w') : Mtx w' lo v us l :=
 ⟨own_below h.row hb, fun i hi => own_below (h.each i hi) hb, h.dif⟩
theorem Mtx.len {w : World} {lo : Nat} {v : Value} {us : List Value} {l : List (List Int)} (h : Mtx w lo v us l) : us.length = l.length := by have := h.row.1; omega
theorem Mtx.spell {w : World} {lo : Nat} {v : Value} {us : List Value} {l : List (List Int)} (h : Mtx w lo v us l) (h0 : 0 < l.length) : ∃ G cap, v = .slice (some ⟨G, 0, none⟩) l.length cap ∧ lo <= G ∧ G < w.heap.size ∧ l.length <= cap := by
 rcases h.row.2 with ⟨_, e⟩ | ⟨G, cap, cur, e, h2, h3, h4, _⟩
 · omega
 · exact ⟨G, cap, e, h2, own_top h.row G (by rw [e]; rfl), h4⟩
theorem Mtx.cell {w : World} {lo G r cap : Nat} {us : List Value} {l : List (List Int)} (h : Mtx w lo (.slice (some ⟨G, 0, none⟩) r cap) us l) {i : Nat} (hi : i < l.length) : w.cell? ⟨G, i, none⟩ = some (us.getD i nov) := by
 have hl := h.len
 have hr : r = l.length := by
  rcases h.row.2 with ⟨e, _⟩ | ⟨g', cap', cur, e, _⟩
  · cases e
  · cases e; rfl
 subst hr
 have := h.row.cellAt i (by omega)
 rw [this, List.getD_eq_getElem?_getD, List.getElem?_eq_getElem (by omega)]; rfl
theorem Mtx.one {w : World} {lo : Nat} {v : Value} {us : List Value} {l : List (List Int)} (h : Mtx w lo v us l) {i : Nat} (hi : i < l.length) (h0 : 0 < (l.getD i []).length) : ∃ g cap, us.getD i nov = .slice (some ⟨g, 0, none⟩) (l.getD i []).length cap ∧ lo <= g ∧ g < w.heap.size ∧ (l.getD i []).length <= cap ∧ ∀ m, m < (l.getD i []).length -> w.cell? ⟨g, m, none⟩ = some (.int .u64 (mx l i m)) := by
 have hO := h.each i hi
 rcases hO.2 with ⟨_, e⟩ | ⟨g, cap, cur, e, h2, h3, h4, _⟩
 · omega
 · refine ⟨g, cap, e, h2, own_top hO g (by rw [e]; rfl), h4, fun m hm => ?_⟩
   rw [e] at hO
   exact own_cell hO rfl hm
theorem Mtx.at {w : World} {lo g c cap : Nat} {v : Value} {us : List Value} {l : List (List Int)} (h : Mtx w lo v us l) {i : Nat} (hi : i < l.length) (hu : us.getD i nov = .slice (some ⟨g, 0, none⟩) c cap) (hc : (l.getD i []).length = c) {m : Nat} (hm : m < c) : w.cell? ⟨g, m, none⟩ = some (.int .u64 (mx l i m)) ∧ w.frozen? ⟨g, m, none⟩ = false := by
 have hO := h.each i hi
 rw [hu] at hO
 subst hc
 exact ⟨own_cell hO rfl hm, free_own hO m⟩
theorem ne_kinds : (36 : Nat) ≠ 64 := by decide
theorem Mtx.put {w : World} {lo g c cap : Nat} {v : Value} {us : List Value} {l : List (List Int)} (h : Mtx w lo v us l) {k : Nat} (hk : k < l.length) (hu : us.getD k nov = .slice (some ⟨g, 0, none⟩) c cap) (hc : c = (l.getD k []).length) (m : Nat) (x : Int) : Mtx (w.setCell ⟨g, m, none⟩ (.int .u64 x)) lo v us (l.set k ((l.getD k []).set m x)) := by
 have hO := h.each k hk
 rw [hu] at hO
 subst hc
 refine ⟨?_, fun i hi => ?_, fun i j g' h1 h2 => h.dif i j g' (by simpa using h1) (by simpa using h2)⟩
 · rw [List.length_set]
   exact own_other h.row (fun e => own_kind h.row hO ne_kinds g e rfl)
 · rw [List.length_set] at hi
   rw [Rnk.getD_set _ _ _ hk]
   by_cases e : i = k
   · rw [if_pos e, e, hu, List.length_set]
     exact own_here hO
   · rw [if_neg e]
     exact own_other (h.each i hi) (fun e2 => h.dif i k g hi hk e e2 (by rw [hu]; rfl))
theorem Mtx.over {w w' : World} {lo : Nat} {v : Value} {us us' : List Value} {l l' : List (List Int)} (h : Mtx w lo v us l) (hg : w.grownBy w' v.ownBlock) (hO : w'.ownsRow lo 36 1 v l'.length us')
 (hp : ∃ f : Nat -> Nat, (∀ i, i < l'.length -> f i < l.length ∧ us'.getD i nov = us.getD (f i) nov ∧ l'.getD i [] = l.getD (f i) []) ∧ ∀ i j, i < l'.length -> j < l'.length -> f i = f j -> i = j) : Mtx w' lo v us' l' := by
 obtain ⟨f, h1, h2⟩ := hp
 refine ⟨hO, fun i hi => ?_, fun i j g hi hj hne e1 e2 => ?_⟩
 · obtain ⟨k1, k2, k3⟩ := h1 i hi
   rw [k2, k3]
   exact own_kept (h.each _ k1) hg (fun g hgb hc => own_kind (h.each _ k1) h.row (Ne.symm ne_kinds) g hgb hc)
 · obtain ⟨k1, k2, _⟩ := h1 i hi
   obtain ⟨m1, m2, _⟩ := h1 j hj
   rw [k2] at e1
   rw [m2] at e2
   exact h.dif _ _ g k1 m1 (fun e => hne (h2 i j hi hj e)) e1 e2
theorem grown_set2 (W : World) (g k j : Nat) (u x : Value) : W.grownBy ((W.setCell ⟨g, k, none⟩ u).setCell ⟨g, j, none⟩ x) (some g) :=
 ⟨rfl, rfl, rfl, by simp [World.setCell], fun i _ hi => (Below.heap_setCell _ _ _ i (fun e => hi (by rw [e]))).trans (Below.heap_setCell _ _ _ i (fun e => hi (by rw [e])))⟩
def swf (a b k : Nat) : Nat := if k = b then a else if k = a then b else k
theorem swf_inj {a b i j : Nat} (h : swf a b i = swf a b j) : i = j := by
 unfold swf at h
 split at h <;> split at h <;> (try split at h) <;> (try split at h) <;> omega
theorem Mtx.turn {w : World} {lo G r cap : Nat} {us : List Value} {l : List (List Int)} (h : Mtx w lo (.slice (some ⟨G, 0, none⟩) r cap) us l) (hr : r = l.length) {a b : Nat} (ha : a < l.length) (hb : b < l.length) {x y : Value} (hx : us.getD b nov = x) (hy : us.getD a nov = y) :
 Mtx ((w.setCell ⟨G, a, none⟩ x).setCell ⟨G, b, none⟩ y) lo (.slice (some ⟨G, 0, none⟩) r cap) (swp nov us a b) (swp [] l a b) := by
 subst hr
 have hl := h.len
 refine h.over (grown_set2 w G a b x y) ?_ ⟨swf a b, fun i hi => ?_, fun i j _ _ e => swf_inj e⟩
 · rw [swp_len]
   unfold swp
   rw [hx, hy]
   exact own_setv (own_setv h.row x ha) y hb
 · rw [swp_len] at hi
   rw [swp_at _ _ (by omega) (by omega), swp_at _ _ ha hb]
   unfold swf
   by_cases e : i = b
   · rw [if_pos e, if_pos e, if_pos e]; exact ⟨ha, rfl, rfl⟩
   · rw [if_neg e, if_neg e, if_neg e]
     by_cases e2 : i = a
     · rw [if_pos e2, if_pos e2, if_pos e2]; exact ⟨hb, rfl, rfl⟩
     · rw [if_neg e2, if_neg e2, if_neg e2]; exact ⟨hi, rfl, rfl⟩
theorem Mtx.rws {w : World} {lo : Nat} {v : Value} {us : List Value} {l : List (List Int)} (h : Mtx w lo v us l) (hw : ∀ i, Wd (l.getD i [])) (hl : l.length <= 5864062014700) : Rws w v l := by
 rcases h.row.2 with ⟨rfl, h0⟩ | ⟨g, cap, cur, rfl, h2, h3, h4, h5, h6, h7⟩
 · have : l = [] := List.length_eq_zero_iff.1 h0
   subst this
   exact rws_nil w
 · refine ⟨_, cap, rfl, hl, h4, fun hne => ⟨g, 0, rfl, own_top h.row g rfl, fun i hi' => ?_⟩⟩
   refine ⟨us.getD i nov, ?_, (hw i).row (h.each i hi')⟩
   rw [Nat.zero_add]
   exact h.cell hi'
end Go.Proofs.YtjhididlcdepdaaGreat
namespace Go.Proofs.YtjhididlcdepdaaGreat
open Go.RowKit Fld
def Bwd (zss : List (List Int)) : Prop := ∀ i, Wd (zss.getD i [])
theorem Bwd.set {zss : List (List Int)} (h : Bwd zss) {k : Nat} {zs : List Int} (hz : Wd zs) : Bwd (zss.set k zs) := fun i => by
 rw [List.getD_eq_getElem?_getD, List.getElem?_set]
 split
 · split
   · exact hz
   · exact wd_nil
 · rw [<- List.getD_eq_getElem?_getD]; exact h i
theorem Mtx.spoilt {w w' : World} {lo : Nat} {v : Value} {us : List Value} {l : List (List Int)} {k : Nat} {zs : List Int} (h : Mtx w lo v us l) (hk : k < l.length) (hg : w.grownBy w' (us.getD k nov).ownBlock) (hO : w'.ownsRow lo 64 1 (us.getD k nov) (l.getD k []).length (vals zs)) : Mtx w' lo v us (l.set k zs) := by
 have hzl := own_len hO
 refine ⟨?_, fun i hi => ?_, fun i j g hi hj => h.dif i j g (by rw [List.length_set] at hi; exact hi) (by rw [List.length_set] at hj; exact hj)⟩
 · rw [List.length_set]
   exact own_kept h.row hg (fun g hgb hc => own_kind h.row (h.each k hk) ne_kinds g hgb hc)
 · rw [List.length_set] at hi
   rw [Rnk.getD_set _ _ _ hk]
   by_cases e : i = k
   · rw [if_pos e, e, hzl]; exact hO
   · rw [if_neg e]
     exact own_kept (h.each i hi) hg (fun g hgb hc => h.dif i k g hi hk e hgb hc)
end Go.Proofs.YtjhididlcdepdaaGreat
