import Derived.Test.YtcglbbglapomgaaBNdtB
set_option linter.unusedVariables false
set_option linter.unusedSimpArgs false
set_option maxRecDepth 100000
set_option maxHeartbeats 4000000
namespace Go.Proofs.Ytcglbbglapomgaa
open Go.RowKit Fld
theorem Dl.app {w : World} {base : Nat} {v : Value} {es : List Dk} (h : Dl w base v es) (hb : base <= w.heap.size) (a : Addr) (e : Dk) (hc : ∀ j u, (dkc e)[j]? = some u -> w.cell? (a.add j) = some u) (hu : w.ownsRow base 5 1 e.2 e.1.b.length (valb e.1.b) ∧ By e.1.b ∧ e.1.b.length <= 1048576) (hl : es.length <= 2932031006000) :
 ∃ (au : Option Addr) (cu : Nat) (W' : World), (Builtin.append_ #[27, 27] 27 #[v, .slice (some a) 1 1]).run Try.prog w = .ok (.slice au (es.length + 1) cu) W' ∧ Dl W' base (.slice au (es.length + 1) cu) (es ++ [e]) ∧ w.grownBy W' v.ownBlock ∧ ∀ j, (Value.slice au (es.length + 1) cu).ownBlock = some j -> v.ownBlock = some j ∨ w.heap.size <= j := by
 have hone : ∀ x ∈ dkc e, x.oneCell' = true := fun x hx => by
  simp only [dkc, List.mem_cons, List.not_mem_nil, or_false] at hx
  rcases hx with rfl | rfl | rfl
  · rfl
  · rfl
  · obtain ⟨ao, cap, hv, _⟩ := own_spellO hu.1
    rw [hv]; rfl
 obtain ⟨au, cu, W', hr, ho, hg, hat, _⟩ := app_dk (c := 1) (ps := [e]) (m := 1) (ad := a) h.row rfl (by simpa using hc) (fun e' he' => by rw [List.mem_singleton.1 he']; exact hone) (by omega) hb
 have keep : ∀ u n xs, w.ownsRow base 5 1 u n xs -> W'.ownsRow base 5 1 u n xs := fun u n xs hO => own_kept hO hg (fun j hj e2 => own_kindO hO h.row (by decide) j hj e2)
 refine ⟨au, cu, W', hr, ⟨by rw [List.length_append]; exact ho, fun e' he' => ?_⟩, hg, fun j hj => ?_⟩
 · rcases List.mem_append.1 he' with h1 | h1
   · exact ⟨keep _ _ _ (h.each e' h1).1, (h.each e' h1).2⟩
   · rw [List.mem_singleton.1 h1]
     exact ⟨keep _ _ _ hu.1, hu.2⟩
 · rcases hat j hj with e2 | e2
   · exact .inl e2
   · exact .inr (by omega)
end Go.Proofs.Ytcglbbglapomgaa
