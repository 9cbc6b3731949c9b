import Derived.Test.YtpibiagohfnbmaaBTreA
import Derived.Test.YtpibiagohfnbmaaBLawPA
import Derived.Test.YtpibiagohfnbmaaBunO
set_option linter.unusedVariables false
set_option linter.unusedSimpArgs false
set_option maxRecDepth 100000
set_option maxHeartbeats 4000000
namespace Go.Proofs.Ytpibiagohfnbmaa
open Go.RowKit Fld
def nov : Value := .slice none 0 0
structure Lss (w : World) (lo hi : Nat) (v : Value) (us : List Value) (xss : List (List Int)) : Prop where
 row : w.ownsRow lo 25 1 v xss.length us
 each : ∀ i, i < xss.length -> w.ownsRow lo 49 1 (us.getD i nov) (xss.getD i []).length (vals (xss.getD i []))
 from_ : ∀ i g, (us.getD i nov).ownBlock = some g -> lo <= g
 top : ∀ i g, (us.getD i nov).ownBlock = some g -> g < hi
 up : ∀ i j g k, i < j -> (us.getD i nov).ownBlock = some g -> (us.getD j nov).ownBlock = some k -> g < k
theorem Lss.len {w : World} {lo hi : Nat} {v : Value} {us : List Value} {xss : List (List Int)} (h : Lss w lo hi v us xss) : us.length = xss.length := by have := h.row.1; omega
theorem Lss.below {w w' : World} {lo hi : Nat} {v : Value} {us : List Value} {xss : List (List Int)} (h : Lss w lo hi v us xss) (hb : Below w.heap.size w w') : Lss w' lo hi v us xss :=
 ⟨own_below h.row hb, fun i hi => own_below (h.each i hi) hb, h.from_, h.top, h.up⟩
theorem Lss.nil (w : World) (lo hi : Nat) : Lss w lo hi nov [] [] :=
 ⟨World.ownsRow_nil _ _ _ _, fun i hi => by simp at hi, fun i g h => by simp [nov, Value.ownBlock] at h, fun i g h => by simp [nov, Value.ownBlock] at h, fun i j g k _ h => by simp [nov, Value.ownBlock] at h⟩
theorem own_kind {w : World} {b1 b2 s1 s2 n1 n2 : Nat} {T1 T2 : TypeId} {v1 v2 : Value} {x1 x2 : List Value} (h1 : w.ownsRow b1 T1 s1 v1 n1 x1) (h2 : w.ownsRow b2 T2 s2 v2 n2 x2) (hT : T1 ≠ T2) (g : Nat) (hg : v1.ownBlock = some g) : v2.ownBlock ≠ some g := by
 intro hc
 rcases h1.2 with ⟨rfl, _⟩ | ⟨g1, c1, u1, rfl, _, k1, _⟩
 · simp [Value.ownBlock] at hg
 · rcases h2.2 with ⟨rfl, _⟩ | ⟨g2, c2, u2, rfl, _, k2, _⟩
   · simp [Value.ownBlock] at hc
   · simp [Value.ownBlock] at hg hc
     subst hg hc
     rw [k1] at k2
     injection k2 with k2
     injection k2 with _ k3
     exact hT k3
theorem getD_snoc {α : Type} (l : List α) (x d : α) (i : Nat) : (l ++ [x]).getD i d = if i < l.length then l.getD i d else if i = l.length then x else d := by
 rw [List.getD_eq_getElem?_getD, List.getD_eq_getElem?_getD]
 by_cases h : i < l.length
 · rw [if_pos h, List.getElem?_append_left h]
 · rw [if_neg h, List.getElem?_append_right (by omega)]
   by_cases h2 : i = l.length
   · rw [if_pos h2, h2, Nat.sub_self]; rfl
   · rw [if_neg h2, List.getElem?_eq_none (by simp; omega)]; rfl
theorem ne_kind : 25 ≠ 49 := by decide
theorem Lss.push {w w1 w3 : World} {lo hi H : Nat} {v v3 u : Value} {us : List Value} {xss : List (List Int)} {ys : List Int} {T : TypeId} (h : Lss w1 lo hi v us xss) (hH : hi <= H) (hlo : lo <= H) (hlo2 : w.heap.size <= lo) (hB : Below w.heap.size w w1)
 (hu : w1.ownsRow H 49 1 u ys.length (vals ys)) (h3 : w3.ownsRow lo 25 1 v3 (xss.length + 1) (us ++ [u])) (hg : (w1.alloc (.cells #[u] T)).grownBy w3 v.ownBlock) :
 Lss w3 lo w1.heap.size v3 (us ++ [u]) (xss ++ [ys]) ∧ Below w.heap.size w w3 := by
 have hl := h.len
 have hal := alloc_below w1 (.cells #[u] T)
 have keep : ∀ {b n : Nat} {t : Value} {xs : List Value}, w1.ownsRow b 49 1 t n xs -> w3.ownsRow b 49 1 t n xs := fun hO => (own_below hO hal).kept hg (by
  cases hb : Value.ownBlock _ with
  | none => exact .inl rfl
  | some g => exact .inr (fun hc => own_kind hO h.row (fun e => ne_kind e.symm) g hb hc.symm))
 refine ⟨⟨by rw [List.length_append]; exact h3, fun i hi' => ?_, fun i g hgb => ?_, fun i g hgb => ?_, fun i j g k hij hgb hkb => ?_⟩, ?_⟩
 · rw [getD_snoc, getD_snoc, hl]
   rw [List.length_append] at hi'
   by_cases hi2 : i < xss.length
   · rw [if_pos hi2, if_pos hi2]; exact keep (h.each i hi2)
   · have : i = xss.length := by simp at hi'; omega
     rw [if_neg hi2, if_neg hi2, if_pos this, if_pos this]; exact keep (own_mono hu hlo)
 · rw [getD_snoc] at hgb
   split at hgb
   · exact h.from_ i g hgb
   · split at hgb
     · exact Nat.le_trans hlo (own_base hu g hgb)
     · simp [nov, Value.ownBlock] at hgb
 · rw [getD_snoc] at hgb
   split at hgb
   · have h1 := own_top (h.each i (by omega)) g hgb
     exact h1
   · split at hgb
     · exact own_top hu g hgb
     · simp [nov, Value.ownBlock] at hgb
 · rw [getD_snoc] at hgb hkb
   split at hkb
   · rw [if_pos (by omega)] at hgb
     exact h.up i j g k hij hgb hkb
   · split at hkb
     · rw [if_pos (by omega)] at hgb
       have h1 := h.top i g hgb
       have h2 := own_base hu k hkb
       omega
     · simp [nov, Value.ownBlock] at hkb
 · refine (hB.alloc hB.size _).grown hg ?_ ?_
   · simp; have := hB.size; omega
   · intro k hk
     have := own_base h.row k hk
     omega
end Go.Proofs.Ytpibiagohfnbmaa
