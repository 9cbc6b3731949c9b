/-
  Layer 14: the document's own package: Open where shares and names may be.
-/
import Derived.Test.YtnjcljnijgkoiaaGreatBShdE
namespace Go.Proofs.YtnjcljnijgkoiaaGreat
open Go.RowKit Fld Pln Shr
set_option linter.unusedVariables false
set_option linter.unusedSimpArgs false

theorem opB_zero {p : Pn} {who : List Int} {l : List (List Int)} (h : opB p who l = 0) : (∀ x ∈ who, 0 ≤ x ∧ x < p.n) ∧ bdE p l (p.k + p.t) = 0 ∧ (who.length : Int) = p.k + p.t := by
  unfold opB at h
  split at h
  · cases h
  · rename_i h1
    have hA := h
    unfold opA at h
    split at h
    · rename_i h2
      refine ⟨whoB_iff.1 h2, h, ?_⟩
      exact Classical.byContradiction (fun hc => h1 ⟨hA, hc⟩)
    · cases h
theorem bd_zero {p : Pn} {l : List (List Int)} {n : Int} (hm : mayP p = true) (h : bdE p l n = 0) (w1 : ∀ b ∈ l, Wd b) : ∃ q wd, Fi p.f q wd ∧ (∀ b ∈ l, Els q b) ∧ (∀ b ∈ l, b.length = p.w.toNat) ∧ (l.length : Int) = n := by
  unfold bdE at h
  split at h
  · rename_i h1
    split at h
    · rename_i h2
      obtain ⟨a1, a2⟩ := blkB_iff.1 h2
      obtain ⟨q, wd, hf⟩ := may_field hm
      exact ⟨q, wd, hf, fun b hb => els_of ((elsB_iff hf).1 h1 b hb) (w1 b hb).2, fun b hb => by have := a1 b hb; omega, a2⟩
    · cases h
  · cases h
/-- The error while names are held against each other. -/
def ndE (who : List Int) (k : Nat) : Int := if (who.take k).Nodup then 0 else 6
def inE (who : List Int) (k j : Nat) : Int := if who.getD k 0 ∈ who.take j then 6 else 0
theorem inE_eq {who : List Int} {k j : Nat} (hj : j < who.length) (h : who.getD k 0 = who.getD j 0) : inE who k (j + 1) = 6 := by
  unfold inE
  rw [← take_snocI hj, if_pos (List.mem_append.2 (.inr (List.mem_singleton.2 h)))]
theorem inE_ne {who : List Int} {k j : Nat} (hj : j < who.length) (h : ¬ who.getD k 0 = who.getD j 0) : inE who k (j + 1) = inE who k j := by
  unfold inE
  rw [← take_snocI hj]
  by_cases hc : who.getD k 0 ∈ who.take j
  · rw [if_pos hc, if_pos (List.mem_append.2 (.inl hc))]
  · rw [if_neg hc, if_neg (fun h2 => by
      rcases List.mem_append.1 h2 with h3 | h3
      · exact hc h3
      · exact h (List.mem_singleton.1 h3))]
theorem inE_end {who : List Int} {k : Nat} (hk : k < who.length) (hn : (who.take k).Nodup) : inE who k k = ndE who (k + 1) := by
  unfold inE ndE
  rw [← take_snocI hk]
  by_cases hc : who.getD k 0 ∈ who.take k
  · rw [if_pos hc, if_neg (fun h2 => (List.nodup_append.1 h2).2.2 _ hc _ (List.mem_singleton.2 rfl) rfl)]
  · rw [if_neg hc, if_pos (List.nodup_append.2 ⟨hn, by simp, fun a ha b hb e => hc (by rw [← List.mem_singleton.1 hb, ← e]; exact ha)⟩)]
theorem nmd_snoc {p : Pn} {who : List Int} {k : Nat} (hk : k < who.length) : nmd p (who.take k) ++ [co (outL p) (who.getD k 0).toNat] = nmd p (who.take (k + 1)) := by
  rw [← take_snocI hk]
  unfold nmd
  rw [List.map_append]; rfl
/-- Lists of lists cut in two. -/
theorem Rws.cutH {w : World} {g off n cap : Nat} {l : List (List Int)} (h : Rws w (.slice (some ⟨g, off, none⟩) n cap) l) {k : Nat} (hk : k ≤ l.length) : Rws w (.slice (some ⟨g, off, none⟩) k cap) (l.take k) := by
  obtain ⟨ao, cap', e, h1, h2, h3⟩ := h
  cases e
  have hl : (l.take k).length = k := by rw [List.length_take]; omega
  refine ⟨_, cap, by rw [hl], by omega, by omega, fun hne => ?_⟩
  obtain ⟨b, off', e, hb, hc⟩ := h3 (by intro e; rw [e] at hne; simp at hne)
  cases e
  refine ⟨g, off, rfl, hb, fun i hi => ?_⟩
  rw [hl] at hi
  obtain ⟨u, h5, h6⟩ := hc i (by omega)
  refine ⟨u, h5, ?_⟩
  rw [List.getD_eq_getElem?_getD, List.getElem?_take_of_lt hi, ← List.getD_eq_getElem?_getD]
  exact h6
theorem Rws.restH {w : World} {g off n cap : Nat} {l : List (List Int)} (h : Rws w (.slice (some ⟨g, off, none⟩) n cap) l) {k : Nat} (hk : k ≤ l.length) : Rws w (.slice (some ⟨g, off + k, none⟩) (l.length - k) (cap - k)) (l.drop k) := by
  obtain ⟨ao, cap', e, h1, h2, h3⟩ := h
  cases e
  have hl : (l.drop k).length = l.length - k := List.length_drop ..
  refine ⟨_, cap - k, by rw [hl], by omega, by omega, fun hne => ?_⟩
  obtain ⟨b, off', e, hb, hc⟩ := h3 (by intro e; rw [e] at hne; simp at hne)
  cases e
  refine ⟨g, off + k, rfl, hb, fun i hi => ?_⟩
  rw [hl] at hi
  obtain ⟨u, h5, h6⟩ := hc (k + i) (by omega)
  refine ⟨u, by rw [Nat.add_assoc]; exact h5, ?_⟩
  rw [List.getD_eq_getElem?_getD, List.getElem?_drop, ← List.getD_eq_getElem?_getD]
  exact h6
theorem rws_empty (w : World) (ao : Option Addr) (c : Nat) : Rws w (.slice ao 0 c) [] := ⟨ao, c, rfl, by simp, by simp, fun h => absurd rfl h⟩
/-- What Open answers, out of one list. -/
theorem open_cut {p : Pn} {q : Int} {wd : Bool} (hf : Fi p.f q wd) {who : List Int} {l : List (List Int)} (hm : mayP p = true) (hz : opE p who l = 0) : opdL p who l = ((innL p).map (fun z => (pys q (nmd p who) p.w.toNat l).map (vl q z))).take p.k.toNat ∧ oppL p who l = ((innL p).map (fun z => (pys q (nmd p who) p.w.toNat l).map (vl q z))).drop p.k.toNat := by
  unfold opdL oppL
  rw [if_pos hz, if_pos hz, pOf_eq hf, ← inn_app hm, List.map_append]
  have hl : ((pts 0 p.k.toNat).map (fun z => (pys q (nmd p who) p.w.toNat l).map (vl q z))).length = p.k.toNat := by rw [List.length_map, pts_len]
  refine ⟨?_, ?_⟩
  · rw [List.take_append_of_le_length (by omega), List.take_of_length_le (by omega)]
    exact List.map_congr_left (fun z _ => (shr_pys _ _ _ _ _).symm)
  · rw [List.drop_append_of_le_length (by omega), List.drop_of_length_le (by omega), List.nil_append]
    exact List.map_congr_left (fun z _ => (shr_pys _ _ _ _ _).symm)

end Go.Proofs.YtnjcljnijgkoiaaGreat
