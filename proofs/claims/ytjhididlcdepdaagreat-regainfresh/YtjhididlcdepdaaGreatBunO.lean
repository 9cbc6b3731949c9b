import Derived.ProofKit
import Derived.OpenShut
import Derived.Test.YtjhididlcdepdaaGreatBunQ
set_option linter.unusedVariables false
set_option linter.unusedSimpArgs false
set_option maxRecDepth 100000
set_option maxHeartbeats 4000000
namespace Go.Proofs.YtjhididlcdepdaaGreat
open Go.ChangeShapes Go.WideShapes Go.ChangeAt Go.RowKit
theorem open_row {H : Type} {enc : TypeId × Value -> H} {W : World} {a : Option Addr} {len cap : Nat} {d : DataW H} {p : List MemPlace}
 (h : DataW.Trod enc Tryz.prog W 0 (fun _ => true) true 36 (.slice a len cap) d p) (hsz : ∀ elems spare, d = .slice elems spare -> (elems.length + spare.length) * 8 <= 140737488351232) :
 ∃ xs, Row W (.slice a len cap) xs := by
 obtain ⟨fuel, hf⟩ := h
 rcases open_ints Tryz.underlying36 Tryz.underlying64 (by kernel_rfl) hf with ⟨hcs, _⟩ | ⟨x, l, c, zs, hcs, _, hl, hm, hz, hx, hcell, hwz⟩
 · simp [Value.cells] at hcs
   obtain ⟨rfl, rfl, rfl⟩ := hcs
   exact ⟨[], none, 0, rfl, by simp, by simp, fun h => absurd rfl h⟩
 · simp [Value.cells] at hcs
   obtain ⟨rfl, rfl, rfl⟩ := hcs
   simp only [Prod.mk.injEq] at hx
   have hs := hsz _ _ hx.1
   simp only [lits, List.length_map, List.length_take, List.length_drop] at hs
   have hzc : zs.length = cap := by simpa using hz
   have hlen : (zs.take len).length = len := by rw [List.length_take]; omega
   refine ⟨zs.take len, some x, cap, by rw [hlen], by rw [hlen]; omega, fun n hn => ?_, fun hne => ?_⟩
   · exact bounds_u64 (hwz n (List.mem_of_mem_take hn))
   · have hpos : 0 < len := by
      apply Nat.pos_of_ne_zero; intro h0; rw [h0] at hne; simp at hne
     obtain ⟨b, off, spot⟩ := x
     have hc0 := hcell 0 (by omega)
     have hspot : spot = none := by simpa [Addr.add] using World.cell?_spot hc0
     subst hspot
     have key : ∀ i, i < zs.length -> W.cell? ⟨b, off + i, none⟩ = some (.int .u64 (zs.getD i 0)) := fun i hi => by
      have hadd : (⟨b, off, none⟩ : Addr).add i = ⟨b, off + i, none⟩ := by unfold Addr.add; split <;> simp_all
      rw [<- hadd]; exact hcell i hi
     refine ⟨b, off, rfl, World.block_lt_of_cell? W _ (key 0 (by omega)), fun i hi => ?_⟩
     rw [key i (by rw [hlen] at hi; omega)]
     have : (zs.take len).getD i 0 = zs.getD i 0 := by
      rw [hlen] at hi
      simp [List.getD_eq_getElem?_getD, List.getElem?_take_of_lt hi]
     rw [this]
theorem open_rw {H : Type} {enc : TypeId × Value -> H} {W : World} {a : Option Addr} {len cap : Nat} {d : DataW H} {p : List MemPlace}
 (h : DataW.Trod enc Tryz.prog W 0 (fun _ => true) true 36 (.slice a len cap) d p) (hsz : ∀ elems spare, d = .slice elems spare -> (elems.length + spare.length) * 8 <= 140737488351232) :
 ∃ xs, Rw W (.slice a len cap) xs := by
 obtain ⟨xs, hr⟩ := open_row h hsz
 refine ⟨xs, hr, _, _, _, rfl, ?_⟩
 obtain ⟨fuel, hf⟩ := h
 rcases open_ints Tryz.underlying36 Tryz.underlying64 (by kernel_rfl) hf with ⟨hcs, _⟩ | ⟨x, l, c, zs, hcs, _, hl, hm, hz, hx, hcell, hwz⟩
 · simp [Value.cells] at hcs
   obtain ⟨rfl, rfl, rfl⟩ := hcs
   exact Nat.le_refl _
 · simp [Value.cells] at hcs
   obtain ⟨rfl, rfl, rfl⟩ := hcs
   exact hl
theorem pair {α : Type} (l : List α) (h : l.length = 2) : ∃ a b, l = [a, b] := by
 match l, h with
 | [a, b], _ => exact ⟨a, b, rfl⟩
theorem open_part {H : Type} {enc : TypeId × Value -> H} {W : World} {fuel : Nat} {c : Value} {x : DataW H × List MemPlace} (h : DataW.trod enc Tryz.prog W 0 (fun _ => true) true fuel 36 [c] = some x)
 (hsz : ∀ elems spare, x.1 = .slice elems spare -> (elems.length + spare.length) * 8 <= 140737488351232) : ∃ xs, Rw W c xs := by
 obtain ⟨a, len, cap, rfl⟩ : ∃ a len cap, c = .slice a len cap := by
  rcases open_ints Tryz.underlying36 Tryz.underlying64 (by kernel_rfl) h with ⟨hcs, _⟩ | ⟨a, l, cp, zs, hcs, _⟩
  · simp at hcs; exact ⟨_, _, _, hcs⟩
  · simp at hcs; exact ⟨_, _, _, hcs⟩
 exact open_rw (d := x.1) (p := x.2) ⟨fuel, by simpa [Value.cells] using h⟩ hsz
def Rws (w : World) (v : Value) (xss : List (List Int)) : Prop := ∃ ao cap, v = .slice ao xss.length cap ∧ xss.length <= 5864062014700 ∧ xss.length <= cap ∧
 (xss ≠ [] -> ∃ b off, ao = some ⟨b, off, none⟩ ∧ b < w.heap.size ∧ ∀ i, i < xss.length -> ∃ u, w.cell? ⟨b, off + i, none⟩ = some u ∧ Rw w u (xss.getD i []))
theorem Rws.below {w w' : World} {v : Value} {xss : List (List Int)} (h : Rws w v xss) (hb : Below w.heap.size w w') : Rws w' v xss := by
 obtain ⟨ao, cap, h1, h2, h3, h4⟩ := h
 refine ⟨ao, cap, h1, h2, h3, fun hne => ?_⟩
 obtain ⟨b, off, h5, h6, h7⟩ := h4 hne
 refine ⟨b, off, h5, Nat.lt_of_lt_of_le h6 hb.size, fun i hi => ?_⟩
 obtain ⟨u, h8, h9⟩ := h7 i hi
 exact ⟨u, (hb.cell (p := ⟨b, off + i, none⟩) h6).trans h8, h9.below hb⟩
theorem rws_nil (w : World) : Rws w (.slice none 0 0) [] := ⟨none, 0, rfl, by simp, by simp, fun h => absurd rfl h⟩
theorem weights_part {H : Type} {e : TypeId} {l : List (DataW H)} {y : DataW H} {n : Nat} (hy : y ∈ l) (hn : n ∈ y.weights Tryz.prog e) : n ∈ DataW.weightsAll Tryz.prog e l := by
 induction l with
 | nil => cases hy
 | cons a l ih =>
  simp only [DataW.weightsAll, List.mem_append]
  rcases List.mem_cons.1 hy with rfl | h
  · exact .inl hn
  · exact .inr (ih h)
end Go.Proofs.YtjhididlcdepdaaGreat
namespace Go.Proofs.YtjhididlcdepdaaGreat
open Go.RowKit Fld
def nov : Value := .slice none 0 0
structure Lss (w : World) (lo hi : Nat) (v : Value) (us : List Value) (xss : List (List Int)) : Prop where
 row : w.ownsRow lo 36 1 v xss.length us
 each : ∀ i, i < xss.length -> w.ownsRow lo 64 1 (us.getD i nov) (xss.getD i []).length (vals (xss.getD i []))
 from_ : ∀ i g, (us.getD i nov).ownBlock = some g -> lo <= g
 top : ∀ i g, (us.getD i nov).ownBlock = some g -> g < hi
 up : ∀ i j g k, i < j -> (us.getD i nov).ownBlock = some g -> (us.getD j nov).ownBlock = some k -> g < k
theorem Lss.len {w : World} {lo hi : Nat} {v : Value} {us : List Value} {xss : List (List Int)} (h : Lss w lo hi v us xss) : us.length = xss.length := by have := h.row.1; omega
theorem Lss.below {w w' : World} {lo hi : Nat} {v : Value} {us : List Value} {xss : List (List Int)} (h : Lss w lo hi v us xss) (hb : Below w.heap.size w w') : Lss w' lo hi v us xss :=
 ⟨own_below h.row hb, fun i hi => own_below (h.each i hi) hb, h.from_, h.top, h.up⟩
theorem Lss.nil (w : World) (lo hi : Nat) : Lss w lo hi nov [] [] :=
 ⟨World.ownsRow_nil _ _ _ _, fun i hi => by simp at hi, fun i g h => by simp [nov, Value.ownBlock] at h, fun i g h => by simp [nov, Value.ownBlock] at h, fun i j g k _ h => by simp [nov, Value.ownBlock] at h⟩
theorem own_kind {w : World} {b1 b2 s1 s2 n1 n2 : Nat} {T1 T2 : TypeId} {v1 v2 : Value} {x1 x2 : List Value} (h1 : w.ownsRow b1 T1 s1 v1 n1 x1) (h2 : w.ownsRow b2 T2 s2 v2 n2 x2) (hT : T1 ≠ T2) (g : Nat) (hg : v1.ownBlock = some g) : v2.ownBlock ≠ some g := by
 intro hc
 rcases h1.2 with ⟨rfl, _⟩ | ⟨g1, c1, u1, rfl, _, k1, _⟩
 · simp [Value.ownBlock] at hg
 · rcases h2.2 with ⟨rfl, _⟩ | ⟨g2, c2, u2, rfl, _, k2, _⟩
   · simp [Value.ownBlock] at hc
   · simp [Value.ownBlock] at hg hc
     subst hg hc
     rw [k1] at k2
     injection k2 with k2
     injection k2 with _ k3
     exact hT k3
theorem getD_snoc {α : Type} (l : List α) (x d : α) (i : Nat) : (l ++ [x]).getD i d = if i < l.length then l.getD i d else if i = l.length then x else d := by
 rw [List.getD_eq_getElem?_getD, List.getD_eq_getElem?_getD]
 by_cases h : i < l.length
 · rw [if_pos h, List.getElem?_append_left h]
 · rw [if_neg h, List.getElem?_append_right (by omega)]
   by_cases h2 : i = l.length
   · rw [if_pos h2, h2, Nat.sub_self]; rfl
   · rw [if_neg h2, List.getElem?_eq_none (by simp; omega)]; rfl
theorem ne_kind : 36 ≠ 64 := by decide
theorem Lss.push {w w1 w3 : World} {lo hi H : Nat} {v v3 u : Value} {us : List Value} {xss : List (List Int)} {ys : List Int} {T : TypeId} (h : Lss w1 lo hi v us xss) (hH : hi <= H) (hlo : lo <= H) (hlo2 : w.heap.size <= lo) (hB : Below w.heap.size w w1)
 (hu : w1.ownsRow H 64 1 u ys.length (vals ys)) (h3 : w3.ownsRow lo 36 1 v3 (xss.length + 1) (us ++ [u])) (hg : (w1.alloc (.cells #[u] T)).grownBy w3 v.ownBlock) :
 Lss w3 lo w1.heap.size v3 (us ++ [u]) (xss ++ [ys]) ∧ Below w.heap.size w w3 := by
 have hl := h.len
 have hal := alloc_below w1 (.cells #[u] T)
 have keep : ∀ {b n : Nat} {t : Value} {xs : List Value}, w1.ownsRow b 64 1 t n xs -> w3.ownsRow b 64 1 t n xs := fun hO => (own_below hO hal).kept hg (by
  cases hb : Value.ownBlock _ with
  | none => exact .inl rfl
  | some g => exact .inr (fun hc => own_kind hO h.row (fun e => ne_kind e.symm) g hb hc.symm))
 refine ⟨⟨by rw [List.length_append]; exact h3, fun i hi' => ?_, fun i g hgb => ?_, fun i g hgb => ?_, fun i j g k hij hgb hkb => ?_⟩, ?_⟩
 · rw [getD_snoc, getD_snoc, hl]
   rw [List.length_append] at hi'
   by_cases hi2 : i < xss.length
   · rw [if_pos hi2, if_pos hi2]; exact keep (h.each i hi2)
   · have : i = xss.length := by simp at hi'; omega
     rw [if_neg hi2, if_neg hi2, if_pos this, if_pos this]; exact keep (own_mono hu hlo)
 · rw [getD_snoc] at hgb
   split at hgb
   · exact h.from_ i g hgb
   · split at hgb
     · exact Nat.le_trans hlo (own_base hu g hgb)
     · simp [nov, Value.ownBlock] at hgb
 · rw [getD_snoc] at hgb
   split at hgb
   · have h1 := own_top (h.each i (by omega)) g hgb
     exact h1
   · split at hgb
     · exact own_top hu g hgb
     · simp [nov, Value.ownBlock] at hgb
 · rw [getD_snoc] at hgb hkb
   split at hkb
   · rw [if_pos (by omega)] at hgb
     exact h.up i j g k hij hgb hkb
   · split at hkb
     · rw [if_pos (by omega)] at hgb
       have h1 := h.top i g hgb
       have h2 := own_base hu k hkb
       omega
     · simp [nov, Value.ownBlock] at hkb
 · refine (hB.alloc hB.size _).grown hg ?_ ?_
   · simp; have := hB.size; omega
   · intro k hk
     have := own_base h.row k hk
     omega
theorem Lss.rws {w : World} {lo hi : Nat} {v : Value} {us : List Value} {xss : List (List Int)} (h : Lss w lo hi v us xss) (hw : ∀ i, Wd (xss.getD i [])) (hl : xss.length <= 5864062014700) : Rws w v xss := by
 rcases h.row.2 with ⟨rfl, h0⟩ | ⟨g, cap, cur, rfl, h2, h3, h4, h5, h6, h7⟩
 · have : xss = [] := List.length_eq_zero_iff.1 h0
   subst this
   exact rws_nil w
 · refine ⟨_, cap, rfl, hl, h4, fun hne => ⟨g, 0, rfl, own_top h.row g rfl, fun i hi' => ?_⟩⟩
   refine ⟨us.getD i nov, ?_, (hw i).row (h.each i hi')⟩
   rw [Nat.zero_add]
   have := h.row.cellAt i (by omega)
   rw [this, List.getD_eq_getElem?_getD, List.getElem?_eq_getElem (by rw [h.len]; exact hi')]; rfl
end Go.Proofs.YtjhididlcdepdaaGreat
