import Derived.Test.YtcglbbglapomgaaBNdtA
set_option linter.unusedVariables false
set_option linter.unusedSimpArgs false
set_option maxRecDepth 100000
set_option maxHeartbeats 4000000
namespace Go.Proofs.Ytcglbbglapomgaa
open Go.RowKit Fld
theorem app_dk {W : World} {lo n1 m c : Nat} {x : Value} {es1 ps : List Dk} {ad : Addr} (h : W.ownsRow lo 40 3 x n1 (es1.flatMap dkc)) (hps : ps.length = m) (hc : ∀ j u, (ps.flatMap dkc)[j]? = some u -> W.cell? (ad.add j) = some u) (h1 : ∀ e ∈ ps, ∀ x ∈ dkc e, x.oneCell' = true) (hl : n1 + m <= 3000000000000) (hb : lo <= W.heap.size) :
 ∃ (a' : Option Addr) (c' : Nat) (W' : World), (Builtin.append_ #[27, 27] 27 #[x, .slice (some ad) m c]).run Try.prog W = .ok (.slice a' (n1 + m) c') W' ∧ W'.ownsRow lo 40 3 (.slice a' (n1 + m) c') (n1 + m) ((es1 ++ ps).flatMap dkc) ∧ W.grownBy W' x.ownBlock ∧ (∀ j, (Value.slice a' (n1 + m) c').ownBlock = some j -> x.ownBlock = some j ∨ W.heap.size = j) ∧ (x ≠ .slice none 0 0 -> ∃ r, a' = some ⟨r, 0, none⟩) := by
 obtain ⟨i0, hi0, hz0, hz1, hz2⟩ := info_parts apk_info
 subst hps
 obtain ⟨v', W', hr, ho, hg, hnl, hat⟩ := run_append_own_at (P := Try.prog) (w := W) lo 27 27 40 i0 (.agg #[.int .i64 0, .int .i64 0, .slice none 0 0]) 3 40 Try.underlying27 hi0 hz0 hz1 hz2 rfl (by decide) x n1 (es1.flatMap dkc) h ad ps.length c (ps.flatMap dkc) (flat_len dkc 3 dkc_len ps) hc (fun u hu => by
  obtain ⟨e, he, hx⟩ := List.mem_flatMap.1 hu
  exact h1 e he u hx) (by unfold maxLen; omega) (by omega) hb
 rw [<- List.flatMap_append] at ho
 obtain ⟨a', c', rfl, _⟩ := own_spellO ho
 refine ⟨a', c', W', hr, ho, hg, fun j hj => ?_, fun hx => ?_⟩
 · rcases hat with e | e
   · exact .inl (e.symm.trans hj)
   · rw [e] at hj; cases hj; exact .inr rfl
 · rcases ho.2 with ⟨e, _⟩ | ⟨r, _, _, e, _⟩
   · exact absurd (hnl.1 e).1 hx
   · injection e with e1 _ _
     exact ⟨r, e1⟩
end Go.Proofs.Ytcglbbglapomgaa
