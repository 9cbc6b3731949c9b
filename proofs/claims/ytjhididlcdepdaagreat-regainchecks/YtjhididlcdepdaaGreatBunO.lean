import Derived.Test.YtjhididlcdepdaaGreatBunW
import Derived.ProofKit
import Derived.OpenShut
import Derived.ChangeOld
import Derived.SizedLaws
import Derived.Test.YtjhididlcdepdaaGreatBunQ
import Derived.Test.YtjhididlcdepdaaGreatBunP
import Derived.Test.YtjhididlcdepdaaGreatBBas
set_option linter.unusedVariables false
set_option linter.unusedSimpArgs false
set_option maxRecDepth 100000
set_option maxHeartbeats 4000000
namespace Go.Proofs.YtjhididlcdepdaaGreat
open Go.ChangeShapes Go.WideShapes Go.ChangeAt Go.RowKit
theorem open_row {H : Type} {enc : TypeId × Value → H} {W : World} {a : Option Addr} {len cap : Nat} {d : DataW H} {p : List MemPlace}
 (h : DataW.Trod enc Tryz.prog W 0 (fun _ => true) true 36 (.slice a len cap) d p) (hsz : ∀ elems spare, d = .slice elems spare → (elems.length + spare.length) * 8 ≤ 140737488351232) :
 ∃ xs, Row W (.slice a len cap) xs := by
 obtain ⟨fuel, hf⟩ := h
 rcases open_ints Tryz.underlying36 Tryz.underlying64 (by kernel_rfl) hf with ⟨hcs, _⟩ | ⟨x, l, c, zs, hcs, _, hl, hm, hz, hx, hcell, hwz⟩
 · simp [Value.cells] at hcs
   obtain ⟨rfl, rfl, rfl⟩ := hcs
   exact ⟨[], none, 0, rfl, by simp, by simp, fun h => absurd rfl h⟩
 · simp [Value.cells] at hcs
   obtain ⟨rfl, rfl, rfl⟩ := hcs
   simp only [Prod.mk.injEq] at hx
   have hs := hsz _ _ hx.1
   simp only [lits, List.length_map, List.length_take, List.length_drop] at hs
   have hzc : zs.length = cap := by simpa using hz
   have hlen : (zs.take len).length = len := by rw [List.length_take]; omega
   refine ⟨zs.take len, some x, cap, by rw [hlen], by rw [hlen]; omega, fun n hn => ?_, fun hne => ?_⟩
   · exact bounds_u64 (hwz n (List.mem_of_mem_take hn))
   · have hpos : 0 < len := by
      apply Nat.pos_of_ne_zero; intro h0; rw [h0] at hne; simp at hne
     obtain ⟨b, off, spot⟩ := x
     have hc0 := hcell 0 (by omega)
     have hspot : spot = none := by simpa [Addr.add] using World.cell?_spot hc0
     subst hspot
     have key : ∀ i, i < zs.length → W.cell? ⟨b, off + i, none⟩ = some (.int .u64 (zs.getD i 0)) := fun i hi => by
      have hadd : (⟨b, off, none⟩ : Addr).add i = ⟨b, off + i, none⟩ := by unfold Addr.add; split <;> simp_all
      rw [← hadd]; exact hcell i hi
     refine ⟨b, off, rfl, World.block_lt_of_cell? W _ (key 0 (by omega)), fun i hi => ?_⟩
     rw [key i (by rw [hlen] at hi; omega)]
     have : (zs.take len).getD i 0 = zs.getD i 0 := by
      rw [hlen] at hi
      simp [List.getD_eq_getElem?_getD, List.getElem?_take_of_lt hi]
     rw [this]
theorem open_rw {H : Type} {enc : TypeId × Value → H} {W : World} {a : Option Addr} {len cap : Nat} {d : DataW H} {p : List MemPlace}
 (h : DataW.Trod enc Tryz.prog W 0 (fun _ => true) true 36 (.slice a len cap) d p) (hsz : ∀ elems spare, d = .slice elems spare → (elems.length + spare.length) * 8 ≤ 140737488351232) :
 ∃ xs, Rw W (.slice a len cap) xs := by
 obtain ⟨xs, hr⟩ := open_row h hsz
 refine ⟨xs, hr, _, _, _, rfl, ?_⟩
 obtain ⟨fuel, hf⟩ := h
 rcases open_ints Tryz.underlying36 Tryz.underlying64 (by kernel_rfl) hf with ⟨hcs, _⟩ | ⟨x, l, c, zs, hcs, _, hl, hm, hz, hx, hcell, hwz⟩
 · simp [Value.cells] at hcs
   obtain ⟨rfl, rfl, rfl⟩ := hcs
   exact Nat.le_refl _
 · simp [Value.cells] at hcs
   obtain ⟨rfl, rfl, rfl⟩ := hcs
   exact hl
theorem pair {α : Type} (l : List α) (h : l.length = 2) : ∃ a b, l = [a, b] := by
 match l, h with
 | [a, b], _ => exact ⟨a, b, rfl⟩
theorem open_part {H : Type} {enc : TypeId × Value → H} {W : World} {fuel : Nat} {c : Value} {x : DataW H × List MemPlace} (h : DataW.trod enc Tryz.prog W 0 (fun _ => true) true fuel 36 [c] = some x)
 (hsz : ∀ elems spare, x.1 = .slice elems spare → (elems.length + spare.length) * 8 ≤ 140737488351232) : ∃ xs, Rw W c xs := by
 obtain ⟨a, len, cap, rfl⟩ : ∃ a len cap, c = .slice a len cap := by
  rcases open_ints Tryz.underlying36 Tryz.underlying64 (by kernel_rfl) h with ⟨hcs, _⟩ | ⟨a, l, cp, zs, hcs, _⟩
  · simp at hcs; exact ⟨_, _, _, hcs⟩
  · simp at hcs; exact ⟨_, _, _, hcs⟩
 exact open_rw (d := x.1) (p := x.2) ⟨fuel, by simpa [Value.cells] using h⟩ hsz
def Rws (w : World) (v : Value) (xss : List (List Int)) : Prop := ∃ ao cap, v = .slice ao xss.length cap ∧ xss.length ≤ 5864062014700 ∧ xss.length ≤ cap ∧
 (xss ≠ [] → ∃ b off, ao = some ⟨b, off, none⟩ ∧ b < w.heap.size ∧ ∀ i, i < xss.length → ∃ u, w.cell? ⟨b, off + i, none⟩ = some u ∧ Rw w u (xss.getD i []))
theorem Rws.below {w w' : World} {v : Value} {xss : List (List Int)} (h : Rws w v xss) (hb : Below w.heap.size w w') : Rws w' v xss := by
 obtain ⟨ao, cap, h1, h2, h3, h4⟩ := h
 refine ⟨ao, cap, h1, h2, h3, fun hne => ?_⟩
 obtain ⟨b, off, h5, h6, h7⟩ := h4 hne
 refine ⟨b, off, h5, Nat.lt_of_lt_of_le h6 hb.size, fun i hi => ?_⟩
 obtain ⟨u, h8, h9⟩ := h7 i hi
 exact ⟨u, (hb.cell (p := ⟨b, off + i, none⟩) h6).trans h8, h9.below hb⟩
theorem rws_nil (w : World) : Rws w (.slice none 0 0) [] := ⟨none, 0, rfl, by simp, by simp, fun h => absurd rfl h⟩
theorem weights_part {H : Type} {e : TypeId} {l : List (DataW H)} {y : DataW H} {n : Nat} (hy : y ∈ l) (hn : n ∈ y.weights Tryz.prog e) : n ∈ DataW.weightsAll Tryz.prog e l := by
 induction l with
 | nil => cases hy
 | cons a l ih =>
  simp only [DataW.weightsAll, List.mem_append]
  rcases List.mem_cons.1 hy with rfl | h
  · exact .inl hn
  · exact .inr (ih h)
theorem pick_all {W : World} {ad : Addr} : ∀ len : Nat, (∀ i, i < len → ∃ u xs, W.cell? (ad.add i) = some u ∧ Rw W u xs) → ∃ xss : List (List Int), xss.length = len ∧ ∀ i, i < len → ∃ u, W.cell? (ad.add i) = some u ∧ Rw W u (xss.getD i []) := by
 intro len
 induction len with
 | zero => intro _; exact ⟨[], rfl, fun i hi => by omega⟩
 | succ k ih =>
  intro each
  obtain ⟨xss, h1, h2⟩ := ih (fun i hi => each i (by omega))
  obtain ⟨u, xs, h3, h4⟩ := each k (by omega)
  refine ⟨xss ++ [xs], by simp [h1], fun i hi => ?_⟩
  by_cases hk : i < k
  · obtain ⟨u', h5, h6⟩ := h2 i hk
    refine ⟨u', h5, ?_⟩
    rw [List.getD_eq_getElem?_getD, List.getElem?_append_left (by omega), ← List.getD_eq_getElem?_getD]; exact h6
  · obtain rfl : i = k := by omega
    refine ⟨u, h3, ?_⟩
    rw [List.getD_eq_getElem?_getD, List.getElem?_append_right (by omega), h1, Nat.sub_self]; exact h4
theorem open_rws {H : Type} {enc : TypeId × Value → H} {W : World} {a : Option Addr} {len cap : Nat} {d : DataW H} {p : List MemPlace}
 (h : DataW.Trod enc Tryz.prog W 0 (fun _ => true) true 26 (.slice a len cap) d p) (hsz : ∀ n ∈ d.weights Tryz.prog 26, n ≤ 140737488351232) : ∃ xss, Rws W (.slice a len cap) xss ∧ xss.length ≤ 5864062014634 := by
 have hce : Tryz.prog.cellsOf 36 = 1 := by kernel_rfl
 have hb24 : Tryz.prog.bytesOf 36 = 24 := by kernel_rfl
 have hb8 : Tryz.prog.bytesOf 64 = 8 := by kernel_rfl
 obtain ⟨fuel, hf⟩ := h
 rcases DataW.trod_slice Tryz.underlying26 hf with ⟨h0, _⟩ | ⟨ad, l, c, elems, rest, n, _, hcs, hx, _, hl, hm, hlen, hel, _, _⟩
 · simp [Value.cells] at h0
   obtain ⟨rfl, rfl, rfl⟩ := h0
   exact ⟨[], rws_nil W, by simp⟩
 · simp [Value.cells] at hcs
   obtain ⟨rfl, rfl, rfl⟩ := hcs
   have hd : d = .slice (elems.map (·.1)) (rest.map (·.1)) := congrArg Prod.fst hx
   subst hd
   have hW : ∀ k, k ∈ DataW.weightsAll Tryz.prog 36 (elems.map (·.1)) → k ≤ 140737488351232 := fun k hk => hsz k (by
    simp only [DataW.weights, Tryz.underlying26, List.mem_cons, List.mem_append]
    exact .inr (.inl hk))
   have hlen2 : len ≤ 5864062014634 := by
    have := hsz ((elems.map (·.1)).length * 24 + (rest.map (·.1)).length * 24) (by
     simp only [DataW.weights, Tryz.underlying26, hb24, List.mem_cons]
     left; rw [Nat.add_mul])
    simp only [List.length_map] at this
    omega
   have each : ∀ i, i < len → ∃ u xs, W.cell? (ad.add i) = some u ∧ Rw W u xs := by
    intro i hi
    have h1 := hel i hi
    rw [hce, Nat.mul_one, List.getElem?_eq_getElem (by omega), Option.bind_eq_some_iff] at h1
    obtain ⟨cs, hc1, hc2⟩ := h1
    obtain ⟨u, rfl⟩ : ∃ u, cs = [u] := List.length_eq_one_iff.1 (World.cells?_some hc1).2.1
    have hmem : (elems[i]'(by omega)).1 ∈ elems.map (·.1) := List.mem_map.2 ⟨_, List.getElem_mem (by omega), rfl⟩
    obtain ⟨xs, hr⟩ := open_part hc2 (fun el sp he => by
     have := hW ((el.length + sp.length) * Tryz.prog.bytesOf 64) (weights_part hmem (by rw [he]; simp [DataW.weights, Tryz.underlying36]))
     rw [hb8] at this; exact this)
    exact ⟨u, xs, cell_of_cells?_one hc1, hr⟩
   obtain ⟨xss, hxl, hxs⟩ := pick_all len each
   refine ⟨xss, ⟨some ad, cap, by rw [hxl], by omega, by omega, fun hne => ?_⟩, by omega⟩
   have hpos : 0 < len := by rw [← hxl]; exact List.length_pos_iff.2 hne
   obtain ⟨b, off, spot⟩ := ad
   obtain ⟨u0, hc0, _⟩ := hxs 0 hpos
   have hspot : spot = none := by simpa [Addr.add] using World.cell?_spot hc0
   subst hspot
   have hadd : ∀ i, (⟨b, off, none⟩ : Addr).add i = ⟨b, off + i, none⟩ := fun i => by unfold Addr.add; split <;> simp_all
   rw [hadd] at hc0
   refine ⟨b, off, rfl, World.block_lt_of_cell? W _ hc0, fun i hi => ?_⟩
   obtain ⟨u, h5, h6⟩ := hxs i (by omega)
   rw [hadd] at h5
   exact ⟨u, h5, h6⟩
end Go.Proofs.YtjhididlcdepdaaGreat
namespace Go.Proofs.YtjhididlcdepdaaGreat
open Go.RowKit Fld
def nov : Value := .slice none 0 0
structure Lss (w : World) (lo hi : Nat) (v : Value) (us : List Value) (xss : List (List Int)) : Prop where
 row : w.ownsRow lo 36 1 v xss.length us
 each : ∀ i, i < xss.length → w.ownsRow lo 64 1 (us.getD i nov) (xss.getD i []).length (vals (xss.getD i []))
 from_ : ∀ i g, (us.getD i nov).ownBlock = some g → lo ≤ g
 top : ∀ i g, (us.getD i nov).ownBlock = some g → g < hi
 up : ∀ i j g k, i < j → (us.getD i nov).ownBlock = some g → (us.getD j nov).ownBlock = some k → g < k
theorem Lss.len {w : World} {lo hi : Nat} {v : Value} {us : List Value} {xss : List (List Int)} (h : Lss w lo hi v us xss) : us.length = xss.length := by have := h.row.1; omega
theorem Lss.below {w w' : World} {lo hi : Nat} {v : Value} {us : List Value} {xss : List (List Int)} (h : Lss w lo hi v us xss) (hb : Below w.heap.size w w') : Lss w' lo hi v us xss :=
 ⟨own_below h.row hb, fun i hi => own_below (h.each i hi) hb, h.from_, h.top, h.up⟩
theorem Lss.nil (w : World) (lo hi : Nat) : Lss w lo hi nov [] [] :=
 ⟨World.ownsRow_nil _ _ _ _, fun i hi => by simp at hi, fun i g h => by simp [nov, Value.ownBlock] at h, fun i g h => by simp [nov, Value.ownBlock] at h, fun i j g k _ h => by simp [nov, Value.ownBlock] at h⟩
theorem own_kind {w : World} {b1 b2 s1 s2 n1 n2 : Nat} {T1 T2 : TypeId} {v1 v2 : Value} {x1 x2 : List Value} (h1 : w.ownsRow b1 T1 s1 v1 n1 x1) (h2 : w.ownsRow b2 T2 s2 v2 n2 x2) (hT : T1 ≠ T2) (g : Nat) (hg : v1.ownBlock = some g) : v2.ownBlock ≠ some g := by
 intro hc
 rcases h1.2 with ⟨rfl, _⟩ | ⟨g1, c1, u1, rfl, _, k1, _⟩
 · simp [Value.ownBlock] at hg
 · rcases h2.2 with ⟨rfl, _⟩ | ⟨g2, c2, u2, rfl, _, k2, _⟩
   · simp [Value.ownBlock] at hc
   · simp [Value.ownBlock] at hg hc
     subst hg hc
     rw [k1] at k2
     injection k2 with k2
     injection k2 with _ k3
     exact hT k3
theorem getD_snoc {α : Type} (l : List α) (x d : α) (i : Nat) : (l ++ [x]).getD i d = if i < l.length then l.getD i d else if i = l.length then x else d := by
 rw [List.getD_eq_getElem?_getD, List.getD_eq_getElem?_getD]
 by_cases h : i < l.length
 · rw [if_pos h, List.getElem?_append_left h]
 · rw [if_neg h, List.getElem?_append_right (by omega)]
   by_cases h2 : i = l.length
   · rw [if_pos h2, h2, Nat.sub_self]; rfl
   · rw [if_neg h2, List.getElem?_eq_none (by simp; omega)]; rfl
theorem ne_kind : 36 ≠ 64 := by decide
theorem Lss.push {w w1 w3 : World} {lo hi H : Nat} {v v3 u : Value} {us : List Value} {xss : List (List Int)} {ys : List Int} {T : TypeId} (h : Lss w1 lo hi v us xss) (hH : hi ≤ H) (hlo : lo ≤ H) (hlo2 : w.heap.size ≤ lo) (hB : Below w.heap.size w w1)
 (hu : w1.ownsRow H 64 1 u ys.length (vals ys)) (h3 : w3.ownsRow lo 36 1 v3 (xss.length + 1) (us ++ [u])) (hg : (w1.alloc (.cells #[u] T)).grownBy w3 v.ownBlock) :
 Lss w3 lo w1.heap.size v3 (us ++ [u]) (xss ++ [ys]) ∧ Below w.heap.size w w3 := by
 have hl := h.len
 have hal := alloc_below w1 (.cells #[u] T)
 have keep : ∀ {b n : Nat} {t : Value} {xs : List Value}, w1.ownsRow b 64 1 t n xs → w3.ownsRow b 64 1 t n xs := fun hO => (own_below hO hal).kept hg (by
  cases hb : Value.ownBlock _ with
  | none => exact .inl rfl
  | some g => exact .inr (fun hc => own_kind hO h.row (fun e => ne_kind e.symm) g hb hc.symm))
 refine ⟨⟨by rw [List.length_append]; exact h3, fun i hi' => ?_, fun i g hgb => ?_, fun i g hgb => ?_, fun i j g k hij hgb hkb => ?_⟩, ?_⟩
 · rw [getD_snoc, getD_snoc, hl]
   rw [List.length_append] at hi'
   by_cases hi2 : i < xss.length
   · rw [if_pos hi2, if_pos hi2]; exact keep (h.each i hi2)
   · have : i = xss.length := by simp at hi'; omega
     rw [if_neg hi2, if_neg hi2, if_pos this, if_pos this]; exact keep (own_mono hu hlo)
 · rw [getD_snoc] at hgb
   split at hgb
   · exact h.from_ i g hgb
   · split at hgb
     · exact Nat.le_trans hlo (own_base hu g hgb)
     · simp [nov, Value.ownBlock] at hgb
 · rw [getD_snoc] at hgb
   split at hgb
   · have h1 := own_top (h.each i (by omega)) g hgb
     exact h1
   · split at hgb
     · exact own_top hu g hgb
     · simp [nov, Value.ownBlock] at hgb
 · rw [getD_snoc] at hgb hkb
   split at hkb
   · rw [if_pos (by omega)] at hgb
     exact h.up i j g k hij hgb hkb
   · split at hkb
     · rw [if_pos (by omega)] at hgb
       have h1 := h.top i g hgb
       have h2 := own_base hu k hkb
       omega
     · simp [nov, Value.ownBlock] at hkb
 · refine (hB.alloc hB.size _).grown hg ?_ ?_
   · simp; have := hB.size; omega
   · intro k hk
     have := own_base h.row k hk
     omega
theorem Lss.rws {w : World} {lo hi : Nat} {v : Value} {us : List Value} {xss : List (List Int)} (h : Lss w lo hi v us xss) (hw : ∀ i, Wd (xss.getD i [])) (hl : xss.length ≤ 5864062014700) : Rws w v xss := by
 rcases h.row.2 with ⟨rfl, h0⟩ | ⟨g, cap, cur, rfl, h2, h3, h4, h5, h6, h7⟩
 · have : xss = [] := List.length_eq_zero_iff.1 h0
   subst this
   exact rws_nil w
 · refine ⟨_, cap, rfl, hl, h4, fun hne => ⟨g, 0, rfl, own_top h.row g rfl, fun i hi' => ?_⟩⟩
   refine ⟨us.getD i nov, ?_, (hw i).row (h.each i hi')⟩
   rw [Nat.zero_add]
   have := h.row.cellAt i (by omega)
   rw [this, List.getD_eq_getElem?_getD, List.getElem?_eq_getElem (by rw [h.len]; exact hi')]; rfl
def chk (f : Int) (xss : List (List Int)) : Int := if xss.all (inF f) then (if xss.any (fun xs => decide (2048 < xs.length)) then 4 else 0) else 2
theorem getD_mem {xss : List (List Int)} {i : Nat} (h : i < xss.length) : xss.getD i [] ∈ xss := by
 rw [List.getD_eq_getElem?_getD, List.getElem?_eq_getElem h]; exact List.getElem_mem h
theorem mem_getD {xss : List (List Int)} {xs : List Int} (h : xs ∈ xss) : ∃ i, i < xss.length ∧ xss.getD i [] = xs := by
 obtain ⟨i, hi, rfl⟩ := List.mem_iff_getElem.1 h
 exact ⟨i, hi, by rw [List.getD_eq_getElem?_getD, List.getElem?_eq_getElem hi]; rfl⟩
theorem chk_arg {f : Int} {xss : List (List Int)} {k : Nat} (hk : k < xss.length) (h : inF f (xss.getD k []) = false) : chk f xss = 2 := by
 unfold chk
 rw [if_neg]
 intro hc
 rw [List.all_eq_true] at hc
 rw [hc _ (getD_mem hk)] at h; cases h
theorem chk_all {f : Int} {xss : List (List Int)} (h : ∀ i, i < xss.length → inF f (xss.getD i []) = true) : xss.all (inF f) = true := by
 rw [List.all_eq_true]
 intro x hx
 obtain ⟨i, hi, rfl⟩ := mem_getD hx
 exact h i hi
theorem chk_long {f : Int} {xss : List (List Int)} {k : Nat} (h : ∀ i, i < xss.length → inF f (xss.getD i []) = true) (hk : k < xss.length) (hl : 2048 < (xss.getD k []).length) : chk f xss = 4 := by
 unfold chk
 rw [if_pos (chk_all h), if_pos]
 rw [List.any_eq_true]
 exact ⟨_, getD_mem hk, by simpa using hl⟩
theorem chk_ok {f : Int} {xss : List (List Int)} (h : ∀ i, i < xss.length → inF f (xss.getD i []) = true) (hl : ∀ i, i < xss.length → (xss.getD i []).length ≤ 2048) : chk f xss = 0 := by
 unfold chk
 rw [if_pos (chk_all h), if_neg]
 intro hc
 rw [List.any_eq_true] at hc
 obtain ⟨x, hx, h2⟩ := hc
 obtain ⟨i, hi, rfl⟩ := mem_getD hx
 have := hl i hi
 have h2 := of_decide_eq_true h2
 omega
theorem chk_zero {f : Int} {xss : List (List Int)} (h : chk f xss = 0) {xs : List Int} (hx : xs ∈ xss) : inF f xs = true ∧ xs.length ≤ 2048 := by
 unfold chk at h
 by_cases h1 : xss.all (inF f) = true
 · rw [if_pos h1] at h
   by_cases h2 : xss.any (fun xs => decide (2048 < xs.length)) = true
   · rw [if_pos h2] at h; exact absurd h (by decide)
   · rw [List.any_eq_true] at h2
     refine ⟨(List.all_eq_true.1 h1) xs hx, ?_⟩
     apply Nat.le_of_not_lt
     intro hc
     exact h2 ⟨xs, hx, by simpa using hc⟩
 · rw [if_neg h1] at h; exact absurd h (by decide)
theorem inF_fi {f : Int} {xs : List Int} (h : inF f xs = true) : ∃ p wd, Fi f p wd ∧ allIn p xs = true := by
 rcases Fi_or f with ⟨p, wd, hf⟩ | ⟨h1, h2⟩
 · rw [inF_yes hf] at h; exact ⟨p, wd, hf, h⟩
 · rw [inF_no h1 h2] at h; cases h
theorem inF_nil {f : Int} {xs : List Int} (h : inF f xs = true) : inF f [] = true := by
 obtain ⟨p, wd, hf, _⟩ := inF_fi h
 rw [inF_yes hf]; rfl
theorem er_no {f : Int} {xs : List Int} (h : inF f xs = false) (ys : List Int) : er f xs ys = 2 := by unfold er erb; rw [h]; rfl
theorem er_yes2 {f : Int} {xs ys : List Int} (h : inF f xs = true) (h2 : inF f ys = true) : (er f xs ys == 2) = false := by
 unfold er erb; rw [h, h2, if_pos (by rfl)]
 split <;> rfl
theorem tcheck_any (f : Int) (v : Value) (xss : List (List Int)) (w : World) (h : Rws w v xss) :
 Calls Tryz.prog 141 #[.int .u8 f, v] w fun e w' => e = .returned (.int .i64 (chk f xss)) ∧ Below w.heap.size w w' := by
 obtain ⟨ao, cap, rfl, hlen, hcap, hc⟩ := h
 obtain ⟨n, HN⟩ : ∃ n, Hid (xss.length = n) := ⟨_, rfl⟩
 rw [HN.out] at hlen hcap hc ⊢
 go_enter Tryz.func141, Tryz.ntmps141
 go_wp2
 go_loopw [13] (fun vk wr => ∃ k : Nat, k ≤ n ∧ vk = .int .i64 k ∧ Hid (∀ i, i < k → inF f (xss.getD i []) = true) ∧ Below w.heap.size w wr) (fun vk _ => n - (intOf vk).toNat)
 case atStart => exact ⟨0, by omega, rfl, fun i hi => by omega, Below.refl _ _⟩
 case round =>
  obtain ⟨k, hk, rfl, HK, hB⟩ := hrel
  by_cases hlt : k < n
  · obtain ⟨b, off, rfl, hb, hcell⟩ := hc (by intro e; have := HN.out; rw [e] at this; simp at this; omega)
    obtain ⟨u, hu, hr⟩ := hcell k hlt
    have hck := (hB.cell (p := ⟨b, off + k, none⟩) hb).trans hu
    have HA := hide (pAdd_any f u (.slice none 0 0) (xss.getD k []) [] wr (hr.below hB) (rw0 wr))
    obtain ⟨au, cu, rfl, _⟩ := hr.spell
    clear hcell hu hc
    cases hin : inF f (xss.getD k []) with
    | false =>
     rw [er_no hin] at HA
     have HE := hide (chk_arg (by rw [HN.out]; exact hlt) hin)
     clear hin hr
     generalize (xss.getD k []).length = m at *
     go_wp2_with (go_at_call 118; refine HA.out.mono ?_; rintro e w1 ⟨v', rfl, _, hb1⟩)
     go_ret
     exact ⟨ret_i64 HE.out.symm, Below.next hB hb1⟩
    | true =>
     have ht := er_yes2 hin (inF_nil hin)
     have HK2 : Hid (∀ i, i < k + 1 → inF f (xss.getD i []) = true) := fun i hi => by
      by_cases h : i = k
      · rw [h]; exact hin
      · exact HK.out i (by omega)
     clear hin hr HK
     generalize er f (xss.getD k []) [] = e0 at *
     generalize (xss.getD k []).length = m at *
     go_wp2_with (go_at_call 118; refine HA.out.mono ?_; rintro e w1 ⟨v', rfl, _, hb1⟩)
     go_roundw
     case rel => exact ⟨k + 1, by omega, by go_num, HK2, Below.next hB hb1⟩
     case measure => simp [intOf]; omega
  · obtain rfl : n = k := by omega
    have HA : Hid (∀ i, i < xss.length → inF f (xss.getD i []) = true) := fun i hi => HK.out i (by rw [← HN.out]; exact hi)
    clear HK
    go_wp2
    go_loopw [28] (fun vk wr => ∃ k : Nat, k ≤ n ∧ vk = .int .i64 k ∧ Hid (∀ i, i < k → (xss.getD i []).length ≤ 2048) ∧ Below w.heap.size w wr) (fun vk _ => n - (intOf vk).toNat)
    case atStart => exact ⟨0, by omega, rfl, fun i hi => by omega, hB⟩
    case round =>
     clear hB
     obtain ⟨k, hk, rfl, HK, hB⟩ := hrel
     by_cases hlt : k < n
     · obtain ⟨b, off, rfl, hb, hcell⟩ := hc (by intro e; have := HN.out; rw [e] at this; simp at this; omega)
       obtain ⟨u, hu, hr⟩ := hcell k hlt
       have hck := (hB.cell (p := ⟨b, off + k, none⟩) hb).trans hu
       obtain ⟨au, cu, rfl, _⟩ := hr.spell
       have hml := hr.len
       clear hcell hu hc
       by_cases hm : 2048 < (xss.getD k []).length
       · have HE := hide (chk_long HA.out (by rw [HN.out]; exact hlt) hm)
         clear hr HK HA
         generalize (xss.getD k []).length = m at *
         go_wp2
         go_ret
         exact ⟨ret_i64 HE.out.symm, hB⟩
       · have HK2 : Hid (∀ i, i < k + 1 → (xss.getD i []).length ≤ 2048) := fun i hi => by
          by_cases h : i = k
          · rw [h]; omega
          · exact HK.out i (by omega)
         clear hr HK HA
         generalize (xss.getD k []).length = m at *
         go_wp2
         go_roundw
         case rel => exact ⟨k + 1, by omega, by go_num, HK2, hB⟩
         case measure => simp [intOf]; omega
     · obtain rfl : n = k := by omega
       have HE := hide (chk_ok HA.out (fun i hi => HK.out i (by rw [← HN.out]; exact hi)))
       clear HA HK hc
       go_wp2
       go_ret
       exact ⟨ret_i64 HE.out.symm, hB⟩
theorem rws_one (w : World) (v : Value) (xs : List Int) (h : Rw w v xs) (T : TypeId) : Rws (w.alloc (.cells #[v] T)) (.slice (some ⟨w.heap.size, 0, none⟩) 1 1) [xs] :=
 ⟨_, 1, rfl, by simp, by simp, fun _ => ⟨w.heap.size, 0, rfl, by simp, fun i hi => by
  have : i = 0 := by simp at hi; omega
  subst this
  exact ⟨v, by simp [go_sem], h.below (alloc_below _ _)⟩⟩⟩
theorem rws_two (w : World) (v u : Value) (xs ys : List Int) (h : Rw w v xs) (h2 : Rw w u ys) (T : TypeId) : Rws (w.alloc (.cells #[v, u] T)) (.slice (some ⟨w.heap.size, 0, none⟩) 2 2) [xs, ys] :=
 ⟨_, 2, rfl, by simp, by simp, fun _ => ⟨w.heap.size, 0, rfl, by simp, fun i hi => by
  obtain rfl | rfl : i = 0 ∨ i = 1 := by simp at hi; omega
  · exact ⟨v, by simp [go_sem], h.below (alloc_below _ _)⟩
  · exact ⟨u, by simp [go_sem], h2.below (alloc_below _ _)⟩⟩⟩
theorem tcheck_one (f : Int) (v : Value) (xs : List Int) (w : World) (h : Rw w v xs) (T : TypeId) :
 Calls Tryz.prog 141 #[.int .u8 f, .slice (some ⟨w.heap.size, 0, none⟩) 1 1] (w.alloc (.cells #[v] T)) fun e w' => e = .returned (.int .i64 (chk f [xs])) ∧ Below w.heap.size w w' :=
 (tcheck_any f _ [xs] _ (rws_one w v xs h T)).mono fun e w' ⟨he, hb⟩ => ⟨he, below_one hb⟩
theorem tcheck_two (f : Int) (v u : Value) (xs ys : List Int) (w : World) (h : Rw w v xs) (h2 : Rw w u ys) (T : TypeId) :
 Calls Tryz.prog 141 #[.int .u8 f, .slice (some ⟨w.heap.size, 0, none⟩) 2 2] (w.alloc (.cells #[v, u] T)) fun e w' => e = .returned (.int .i64 (chk f [xs, ys])) ∧ Below w.heap.size w w' :=
 (tcheck_any f _ [xs, ys] _ (rws_two w v u xs ys h h2 T)).mono fun e w' ⟨he, hb⟩ => ⟨he, below_one hb⟩
theorem drewN_below (w : World) (m : Nat) : Below w.heap.size w (w.drewN m) := below_drewN (Below.refl _ w) m
theorem eq_getD {α : Type} {xs ys : List α} {d : α} (hl : xs.length = ys.length) (h : ∀ j, j < xs.length → xs.getD j d = ys.getD j d) : xs = ys := by
 refine List.ext_getElem hl (fun j h1 h2 => ?_)
 have := h j h1
 rw [List.getD_eq_getElem?_getD, List.getD_eq_getElem?_getD, List.getElem?_eq_getElem h1, List.getElem?_eq_getElem h2] at this
 exact this
theorem Same_dec (v1 v2 : Value) (xs ys : List Int) (w : World) (h1 : Row w v1 xs) (h2 : Row w v2 ys) :
 Calls Tryz.prog 21 #[v1, v2] w fun e w' => e = .returned (.bool (decide (xs = ys))) ∧ ∃ m, w' = w.drewN m := by
 obtain ⟨a1, c1, rfl, hlen, _, hc1⟩ := h1
 obtain ⟨a2, c2, rfl, hlen2, _, hc2⟩ := h2
 by_cases hl : xs.length = ys.length
 · rw [← hl] at hlen2 ⊢
   have HL := hide hl
   go_enter Tryz.func21, Tryz.ntmps21
   clear hl
   go_wp2
   go_loopw [5] (fun vi wr => ∃ k m : Nat, k ≤ xs.length ∧ vi = .int .i64 k ∧ Hid (wr = w.drewN m) ∧ Hid (∀ j, j < k → xs.getD j 0 = ys.getD j 0)) (fun vi _ => xs.length - (intOf vi).toNat)
   case atStart => exact ⟨0, 0, Nat.zero_le _, rfl, rfl, fun j hj => absurd hj (Nat.not_lt_zero _)⟩
   case round =>
    obtain ⟨k, m, hk, rfl, HM, HE⟩ := hrel
    have hB : Below w.heap.size w wr := by rw [HM.out]; exact drewN_below w m
    by_cases hlt : k < xs.length
    · have hne : xs ≠ [] := by intro h; rw [h] at hlt; simp at hlt
      have hne2 : ys ≠ [] := by intro h; have := HL.out; rw [h] at this; simp at this; rw [this] at hlt; simp at hlt
      obtain ⟨b1, o1, rfl, l1, g1⟩ := hc1 hne
      obtain ⟨b2, o2, rfl, l2, g2⟩ := hc2 hne2
      have d1 := (hB.cell (p := ⟨b1, o1 + k, none⟩) l1).trans (g1 k hlt)
      have d2 := (hB.cell (p := ⟨b2, o2 + k, none⟩) l2).trans (g2 k (by rw [← HL.out]; exact hlt))
      have k0 : (0 : Int) ≤ (k : Int) := Int.natCast_nonneg _
      have k1 : (k : Int) < (xs.length : Int) := by omega
      by_cases hxy : xs.getD k 0 = ys.getD k 0
      · have HE2 : Hid (∀ j, j < k + 1 → xs.getD j 0 = ys.getD j 0) := fun j hj => by
         rcases Nat.lt_succ_iff_lt_or_eq.1 hj with h | h
         · exact HE.out j h
         · rw [h]; exact hxy
        rw [← hxy] at d2
        clear g1 g2 hc1 hc2 hne hne2 hB HE hxy
        generalize xs.getD k 0 = x at d1 d2
        go_wp2_with fail
        go_quiet (fail)
        have HM2 : Hid (wr.drewN nq = w.drewN (m + nq)) := by show _ = _; rw [HM.out, World.drewN_drewN]
        clear HM
        go_wp2
        go_roundw
        case rel => exact ⟨k + 1, m + nq, by omega, by go_num, HM2, HE2⟩
        case measure => simp [intOf]; omega
      · have hno : Hid (decide (xs = ys) = false) := by show _ = _; exact decide_eq_false (fun h => hxy (by rw [h]))
        clear g1 g2 hc1 hc2 hne hne2 hB HE
        generalize xs.getD k 0 = x at d1 hxy
        generalize ys.getD k 0 = y at d2 hxy
        go_wp2_with fail
        go_quiet (fail)
        have HM2 : Hid (wr.drewN nq = w.drewN (m + nq)) := by show _ = _; rw [HM.out, World.drewN_drewN]
        clear HM
        go_wp2
        go_ret
        exact ⟨by rw [hno.out]; rfl, m + nq, HM2.out⟩
    · have hyes : Hid (decide (xs = ys) = true) := by show _ = _; exact decide_eq_true (eq_getD HL.out (fun j hj => HE.out j (by omega)))
      clear hc1 hc2 hB HE
      go_wp2
      go_ret
      exact ⟨by rw [hyes.out]; rfl, m, HM.out⟩
 · have hno : Hid (decide (xs = ys) = false) := by show _ = _; exact decide_eq_false (fun h => hl (by rw [h]))
   rw [hno.out]
   have hl2 : ¬ ((xs.length : Int) = (ys.length : Int)) := by omega
   clear hc1 hc2
   generalize xs.length = n1 at *
   generalize ys.length = n2 at *
   go_enter Tryz.func21, Tryz.ntmps21
   go_wp2
   go_ret
   exact ⟨rfl, 0, rfl⟩
theorem Rows_dec (v1 v2 : Value) (xss yss : List (List Int)) (w : World) (h1 : Rws w v1 xss) (h2 : Rws w v2 yss) :
 Calls Tryz.prog 23 #[v1, v2] w fun e w' => e = .returned (.bool (decide (xss = yss))) ∧ Below w.heap.size w w' := by
 obtain ⟨a1, c1, rfl, hlen, _, hc1⟩ := h1
 obtain ⟨a2, c2, rfl, hlen2, _, hc2⟩ := h2
 by_cases hl : xss.length = yss.length
 · rw [← hl] at hlen2 ⊢
   have HL := hide hl
   go_enter Tryz.func23, Tryz.ntmps23
   clear hl
   go_wp2
   go_loopw [5] (fun vi wr => ∃ k m : Nat, k ≤ xss.length ∧ vi = .int .i64 k ∧ Hid (wr = w.drewN m) ∧ Hid (∀ j, j < k → xss.getD j [] = yss.getD j [])) (fun vi _ => xss.length - (intOf vi).toNat)
   case atStart => exact ⟨0, 0, Nat.zero_le _, rfl, rfl, fun j hj => absurd hj (Nat.not_lt_zero _)⟩
   case round =>
    obtain ⟨k, m, hk, rfl, HM, HE⟩ := hrel
    have hB : Below w.heap.size w wr := by rw [HM.out]; exact drewN_below w m
    by_cases hlt : k < xss.length
    · have hne : xss ≠ [] := by intro h; rw [h] at hlt; simp at hlt
      have hne2 : yss ≠ [] := by intro h; have := HL.out; rw [h] at this; simp at this; rw [this] at hlt; simp at hlt
      obtain ⟨b1, o1, rfl, l1, g1⟩ := hc1 hne
      obtain ⟨b2, o2, rfl, l2, g2⟩ := hc2 hne2
      obtain ⟨q1, e1, r1⟩ := g1 k hlt
      obtain ⟨q2, e2, r2⟩ := g2 k (by rw [← HL.out]; exact hlt)
      have d1 := (hB.cell (p := ⟨b1, o1 + k, none⟩) l1).trans e1
      have d2 := (hB.cell (p := ⟨b2, o2 + k, none⟩) l2).trans e2
      have HS := hide (fun n => Same_dec q1 q2 _ _ (wr.drewN n) ((r1.below (Below.next hB (drewN_below wr n))).1) ((r2.below (Below.next hB (drewN_below wr n))).1))
      obtain ⟨z1, y1, rfl, _⟩ := r1.spell
      obtain ⟨z2, y2, rfl, _⟩ := r2.spell
      have k0 : (0 : Int) ≤ (k : Int) := Int.natCast_nonneg _
      have k1 : (k : Int) < (xss.length : Int) := by omega
      by_cases hxy : xss.getD k [] = yss.getD k []
      · have HE2 : Hid (∀ j, j < k + 1 → xss.getD j [] = yss.getD j []) := fun j hj => by
         rcases Nat.lt_succ_iff_lt_or_eq.1 hj with h | h
         · exact HE.out j h
         · rw [h]; exact hxy
        have hd : decide (xss.getD k [] = yss.getD k []) = true := decide_eq_true hxy
        rw [hd] at HS
        clear g1 g2 hc1 hc2 hne hne2 hB e1 e2 r1 r2 HE hxy hd
        generalize (xss.getD k []).length = ln at *
        generalize (yss.getD k []).length = ln2 at *
        go_wp2_with fail
        go_quiet ((first
         | (go_at_call 21; exact Calls.quiet_of (HS.out _))))
        have HM2 : Hid (wr.drewN nq = w.drewN (m + nq)) := by show _ = _; rw [HM.out, World.drewN_drewN]
        clear HM
        go_wp2
        go_roundw
        case rel => exact ⟨k + 1, m + nq, by omega, by go_num, HM2, HE2⟩
        case measure => simp [intOf]; omega
      · have hd : decide (xss.getD k [] = yss.getD k []) = false := decide_eq_false hxy
        rw [hd] at HS
        have hno : Hid (decide (xss = yss) = false) := by show _ = _; exact decide_eq_false (fun h => hxy (by rw [h]))
        clear g1 g2 hc1 hc2 hne hne2 hB e1 e2 r1 r2 HE hxy hd
        generalize (xss.getD k []).length = ln at *
        generalize (yss.getD k []).length = ln2 at *
        go_wp2_with fail
        go_quiet ((first
         | (go_at_call 21; exact Calls.quiet_of (HS.out _))))
        have hB2 : Below w.heap.size w (wr.drewN nq) := by rw [HM.out]; exact below_drewN (drewN_below w m) nq
        clear HM
        go_wp2
        go_ret
        exact ⟨by rw [hno.out]; rfl, hB2⟩
    · have hyes : Hid (decide (xss = yss) = true) := by show _ = _; exact decide_eq_true (eq_getD HL.out (fun j hj => HE.out j (by omega)))
      clear hc1 hc2 HE
      go_wp2
      go_ret
      exact ⟨by rw [hyes.out]; rfl, hB⟩
 · have hno : Hid (decide (xss = yss) = false) := by show _ = _; exact decide_eq_false (fun h => hl (by rw [h]))
   rw [hno.out]
   have hl2 : ¬ ((xss.length : Int) = (yss.length : Int)) := by omega
   clear hc1 hc2
   generalize xss.length = n1 at *
   generalize yss.length = n2 at *
   go_enter Tryz.func23, Tryz.ntmps23
   go_wp2
   go_ret
   exact ⟨rfl, Below.refl _ _⟩
end Go.Proofs.YtjhididlcdepdaaGreat
namespace Go.Proofs.YtjhididlcdepdaaGreat
open Go.RowKit Fld Rnk
theorem own_setv {W : World} {base g n cap k : Nat} {T : TypeId} {xs : List Value} (h : W.ownsRow base T 1 (.slice (some ⟨g, 0, none⟩) n cap) n xs) (u : Value) (hk : k < n) : (W.setCell ⟨g, k, none⟩ u).ownsRow base T 1 (.slice (some ⟨g, 0, none⟩) n cap) n (xs.set k u) := by
 refine ⟨by rw [List.length_set]; exact h.1, ?_⟩
 rcases h.2 with ⟨e, _⟩ | ⟨g', cap', cur, e, h2, h3, h4, h5, h6, h7⟩
 · cases e
 · cases e
   refine .inr ⟨g, cap, cur.setIfInBounds k u, rfl, h2, set_blk h3 k u, h4, h5, by rw [Array.size_setIfInBounds]; exact h6, ?_⟩
   rw [Array.toList_setIfInBounds, ← h7, List.take_set]
theorem free_own {W : World} {base g n cap : Nat} {T : TypeId} {xs : List Value} (h : W.ownsRow base T 1 (.slice (some ⟨g, 0, none⟩) n cap) n xs) (k : Nat) : W.frozen? ⟨g, k, none⟩ = false := by
 rcases h.2 with ⟨e, _⟩ | ⟨g', cap', cur, e, h2, h3, h4, h5, h6, h7⟩
 · cases e
 · cases e
   simp [World.frozen?, h3]
structure Mtx (w : World) (lo : Nat) (v : Value) (us : List Value) (l : List (List Int)) : Prop where
 row : w.ownsRow lo 36 1 v l.length us
 each : ∀ i, i < l.length → w.ownsRow lo 64 1 (us.getD i nov) (l.getD i []).length (vals (l.getD i []))
 dif : ∀ i j g, i < l.length → j < l.length → i ≠ j → (us.getD i nov).ownBlock = some g → (us.getD j nov).ownBlock ≠ some g
theorem Lss.mtx {w : World} {lo hi : Nat} {v : Value} {us : List Value} {l : List (List Int)} (h : Lss w lo hi v us l) : Mtx w lo v us l :=
 ⟨h.row, h.each, fun i j g _ _ hne h1 h2 => by
  rcases Nat.lt_or_gt_of_ne hne with c | c
  · have := h.up i j g g c h1 h2; omega
  · have := h.up j i g g c h2 h1; omega⟩
theorem Mtx.low {w : World} {lo lo' : Nat} {v : Value} {us : List Value} {l : List (List Int)} (h : Mtx w lo v us l) (hl : lo' ≤ lo) : Mtx w lo' v us l :=
 ⟨own_mono h.row hl, fun i hi => own_mono (h.each i hi) hl, h.dif⟩
theorem Mtx.below {w w' : World} {lo : Nat} {v : Value} {us : List Value} {l : List (List Int)} (h : Mtx w lo v us l) (hb : Below w.heap.size w w') : Mtx w' lo v us l :=
 ⟨own_below h.row hb, fun i hi => own_below (h.each i hi) hb, h.dif⟩
theorem Mtx.len {w : World} {lo : Nat} {v : Value} {us : List Value} {l : List (List Int)} (h : Mtx w lo v us l) : us.length = l.length := by have := h.row.1; omega
theorem Mtx.cell {w : World} {lo G r cap : Nat} {us : List Value} {l : List (List Int)} (h : Mtx w lo (.slice (some ⟨G, 0, none⟩) r cap) us l) {i : Nat} (hi : i < l.length) : w.cell? ⟨G, i, none⟩ = some (us.getD i nov) := by
 have hl := h.len
 have hr : r = l.length := by
  rcases h.row.2 with ⟨e, _⟩ | ⟨g', cap', cur, e, _⟩
  · cases e
  · cases e; rfl
 subst hr
 have := h.row.cellAt i (by omega)
 rw [this, List.getD_eq_getElem?_getD, List.getElem?_eq_getElem (by omega)]; rfl
theorem Mtx.at {w : World} {lo g c cap : Nat} {v : Value} {us : List Value} {l : List (List Int)} (h : Mtx w lo v us l) {i : Nat} (hi : i < l.length) (hu : us.getD i nov = .slice (some ⟨g, 0, none⟩) c cap) (hc : (l.getD i []).length = c) {m : Nat} (hm : m < c) : w.cell? ⟨g, m, none⟩ = some (.int .u64 (mx l i m)) ∧ w.frozen? ⟨g, m, none⟩ = false := by
 have hO := h.each i hi
 rw [hu] at hO
 subst hc
 exact ⟨own_cell hO rfl hm, free_own hO m⟩
theorem ne_kinds : (36 : Nat) ≠ 64 := by decide
theorem Mtx.put {w : World} {lo g c cap : Nat} {v : Value} {us : List Value} {l : List (List Int)} (h : Mtx w lo v us l) {k : Nat} (hk : k < l.length) (hu : us.getD k nov = .slice (some ⟨g, 0, none⟩) c cap) (hc : c = (l.getD k []).length) (m : Nat) (x : Int) : Mtx (w.setCell ⟨g, m, none⟩ (.int .u64 x)) lo v us (l.set k ((l.getD k []).set m x)) := by
 have hO := h.each k hk
 rw [hu] at hO
 subst hc
 refine ⟨?_, fun i hi => ?_, fun i j g' h1 h2 => h.dif i j g' (by simpa using h1) (by simpa using h2)⟩
 · rw [List.length_set]
   exact own_other h.row (fun e => own_kind h.row hO ne_kinds g e rfl)
 · rw [List.length_set] at hi
   rw [Rnk.getD_set _ _ _ hk]
   by_cases e : i = k
   · rw [if_pos e, e, hu, List.length_set]
     exact own_here hO
   · rw [if_neg e]
     exact own_other (h.each i hi) (fun e2 => h.dif i k g hi hk e e2 (by rw [hu]; rfl))
theorem Mtx.rws {w : World} {lo : Nat} {v : Value} {us : List Value} {l : List (List Int)} (h : Mtx w lo v us l) (hw : ∀ i, Wd (l.getD i [])) (hl : l.length ≤ 5864062014700) : Rws w v l := by
 rcases h.row.2 with ⟨rfl, h0⟩ | ⟨g, cap, cur, rfl, h2, h3, h4, h5, h6, h7⟩
 · have : l = [] := List.length_eq_zero_iff.1 h0
   subst this
   exact rws_nil w
 · refine ⟨_, cap, rfl, hl, h4, fun hne => ⟨g, 0, rfl, own_top h.row g rfl, fun i hi' => ?_⟩⟩
   refine ⟨us.getD i nov, ?_, (hw i).row (h.each i hi')⟩
   rw [Nat.zero_add]
   exact h.cell hi'
end Go.Proofs.YtjhididlcdepdaaGreat
