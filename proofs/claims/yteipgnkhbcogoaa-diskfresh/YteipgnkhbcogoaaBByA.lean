import Derived.Test.YteipgnkhbcogoaaBunQ
import Derived.Test.YteipgnkhbcogoaaBWirA
set_option linter.unusedVariables false
set_option linter.unusedSimpArgs false
set_option maxRecDepth 100000
set_option maxHeartbeats 4000000
namespace Go.Proofs.Yteipgnkhbcogoaa
open Go.RowKit Fld
def valb (bs : List Int) : List Value := bs.map (Value.int .u8)
theorem valb_length (bs : List Int) : (valb bs).length = bs.length := by simp [valb]
theorem valb_at (bs : List Int) (j : Nat) (h : j < bs.length) : (valb bs)[j]? = some (.int .u8 (bs.getD j 0)) := by
 simp [valb, List.getD_eq_getElem?_getD, h]
theorem valb_one (bs : List Int) : ∀ u ∈ valb bs, u.oneCell' = true := by
 intro u hu
 obtain ⟨x, _, rfl⟩ := List.mem_map.1 hu
 rfl
def Rb (w : World) (v : Value) (bs : List Int) : Prop :=
 ∃ ao cap, v = .slice ao bs.length cap ∧ (bs.length <= cap ∧ bs.length <= 140737488500000 ∧ (ao = none -> cap = 0)) ∧ By bs ∧
  (bs ≠ [] -> ∃ b off, ao = some ⟨b, off, none⟩ ∧ b < w.heap.size ∧ ∀ i, i < bs.length -> w.cell? ⟨b, off + i, none⟩ = some (.int .u8 (bs.getD i 0)))
theorem Rb.below {w w' : World} {v : Value} {bs : List Int} (h : Rb w v bs) (hb : Below w.heap.size w w') : Rb w' v bs := by
 obtain ⟨ao, cap, rfl, h1, h2, h3⟩ := h
 refine ⟨ao, cap, rfl, h1, h2, fun hne => ?_⟩
 obtain ⟨b, off, rfl, hbl, hc⟩ := h3 hne
 exact ⟨b, off, rfl, Nat.lt_of_lt_of_le hbl hb.size, fun i hi => (hb.cell (p := ⟨b, off + i, none⟩) hbl).trans (hc i hi)⟩
theorem Rb.spell {w : World} {v : Value} {bs : List Int} (h : Rb w v bs) : ∃ ao cap, v = .slice ao bs.length cap ∧ bs.length <= cap := by
 obtain ⟨ao, cap, h1, h2, _⟩ := h; exact ⟨ao, cap, h1, h2.1⟩
theorem Rb.by {w : World} {v : Value} {bs : List Int} (h : Rb w v bs) : By bs := by obtain ⟨_, _, _, _, h, _⟩ := h; exact h
theorem Rb.none_ {w : World} {n cap : Nat} {bs : List Int} (h : Rb w (.slice none n cap) bs) : n = 0 ∧ cap = 0 ∧ bs = [] := by
 obtain ⟨ao, cap', h1, h2, h3, h4⟩ := h
 cases h1
 have : bs = [] := by
  apply Classical.byContradiction; intro hne
  obtain ⟨b, off, h5, _⟩ := h4 hne; cases h5
 exact ⟨by rw [this]; rfl, h2.2.2 rfl, this⟩
theorem rb_nil (w : World) : Rb w (.slice none 0 0) [] := ⟨none, 0, rfl, ⟨Nat.le_refl _, by simp, fun _ => rfl⟩, By.nil, fun h => absurd rfl h⟩
theorem Rb.at_ {w : World} {b off n cap : Nat} {bs : List Int} (h : Rb w (.slice (some ⟨b, off, none⟩) n cap) bs) {k : Nat} (hk : k < bs.length) : b < w.heap.size ∧ w.cell? ⟨b, off + k, none⟩ = some (.int .u8 (bs.getD k 0)) ∧ 0 <= bs.getD k 0 ∧ bs.getD k 0 <= 255 := by
 obtain ⟨ao, cap', h1, h2, h3, h4⟩ := h
 cases h1
 obtain ⟨b', off', h5, hb, hc⟩ := h4 (by intro h; rw [h] at hk; simp at hk)
 cases h5
 refine ⟨hb, hc k hk, ?_⟩
 have : bs.getD k 0 = bs[k] := by rw [List.getD_eq_getElem?_getD, List.getElem?_eq_getElem hk]; rfl
 rw [this]; exact h3 _ (List.getElem_mem hk)
theorem Rb.form {w : World} {v : Value} {bs : List Int} (h : Rb w v bs) (h0 : 0 < bs.length) : ∃ b off cap, v = .slice (some ⟨b, off, none⟩) bs.length cap ∧ bs.length <= cap ∧ b < w.heap.size := by
 obtain ⟨ao, cap, rfl, h1, h2, h3⟩ := h
 obtain ⟨b, off, rfl, hb, _⟩ := h3 (by intro h; rw [h] at h0; simp at h0)
 exact ⟨b, off, cap, rfl, h1.1, hb⟩
theorem rb_of_own {w : World} {base n : Nat} {v : Value} {bs : List Int} {T : TypeId} (h : w.ownsRow base T 1 v n (valb bs)) (hb : By bs) (hl : bs.length <= 140737488500000) : Rb w v bs := by
 have hn : bs.length = n := by have := h.1; rw [valb_length] at this; omega
 subst hn
 rcases h.2 with ⟨rfl, h0⟩ | ⟨g, cap, cur, rfl, hbs, hh, h1, h2, h3, h4⟩
 · exact ⟨none, 0, by rw [h0], ⟨by omega, hl, fun _ => rfl⟩, hb, fun hne => absurd (List.length_eq_zero_iff.1 h0) hne⟩
 · refine ⟨_, cap, rfl, ⟨h1, hl, fun h => by cases h⟩, hb, fun hne => ⟨g, 0, rfl, ?_, fun i hi => ?_⟩⟩
   · apply Nat.lt_of_not_le; intro hc; rw [Array.getElem?_eq_none hc] at hh; cases hh
   · rw [cell_of_row w g (0 + i) cur T (0, 0) hh, Nat.zero_add]
     have e1 : cur[i]? = cur.toList[i]? := by simp
     have e2 : cur.toList[i]? = (valb bs)[i]? := by rw [<- h4, List.getElem?_take_of_lt (by omega)]
     rw [e1, e2, valb_at bs i hi]
theorem Rb.news {w : World} {ad : Addr} {n cap : Nat} {bs : List Int} (h : Rb w (.slice (some ad) n cap) bs) : ∀ j u, (valb bs)[j]? = some u -> w.cell? (ad.add j) = some u := by
 intro j u hj
 have hjl : j < bs.length := by
  apply Nat.lt_of_not_le; intro hcn; rw [List.getElem?_eq_none (by rw [valb_length]; exact hcn)] at hj; cases hj
 obtain ⟨ao, cap', h1, h2, h3, h4⟩ := h
 cases h1
 obtain ⟨b, off, h5, hb, hc⟩ := h4 (by intro h; rw [h] at hjl; simp at hjl)
 cases h5
 have hadd : (⟨b, off, none⟩ : Addr).add j = ⟨b, off + j, none⟩ := by unfold Addr.add; split <;> simp_all
 rw [valb_at bs j hjl] at hj
 rw [hadd, hc j hjl]; exact hj
end Go.Proofs.Yteipgnkhbcogoaa
