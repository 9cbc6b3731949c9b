import Derived.Test.YthialdipnhggnaaBQTail
set_option linter.unusedVariables false
set_option linter.unusedSimpArgs false
set_option maxRecDepth 100000
set_option maxHeartbeats 4000000
namespace Go.Proofs.Ythialdipnhggnaa
theorem wp_region_two {P : Program} {id : Nat} {S : World -> Prop} {Q : Exit -> Act -> World -> Prop} {a : Act} {w : World} {L : List Oper} {s t : Oper} (hm : P.follows .mixedOrders = true) (hT : tailB L = true) (hT2 : tailB L.dropLast = true) (hs : lastL L.dropLast = [s]) (ht : lastL L = [t]) (hS : S w.drew)
 (h : S w.drew -> wpAnyH P .any L.dropLast.dropLast.toArray (tailQ P L.dropLast.toArray s (tailQ P L.toArray t Q)) S L.dropLast.dropLast.toArray.size (Array.replicate L.dropLast.dropLast.toArray.size false) a w.drew) : (Code.region id L.toArray true).wp P Q a w := by
 have h0 := wpAny_of_held _ _ _ _ (h hS)
 unfold tailB at hT hT2
 simp only [Bool.and_eq_true] at hT hT2
 obtain ⟨⟨⟨hne, hb⟩, hg⟩, hc⟩ := hT
 obtain ⟨⟨⟨hne2, hb2⟩, hg2⟩, hc2⟩ := hT2
 obtain ⟨L1, t', hL, h3, h4⟩ := partedT L (by intro h; rw [h] at hne; simp at hne)
 rw [h4] at ht hc
 injection ht with ht
 subst ht
 subst hL
 rw [h3] at hg hc hs hne2 hb2 hg2 hc2 h0
 obtain ⟨l, s', hL, h5, h6⟩ := partedT L1 (by intro h; rw [h] at hne2; simp at hne2)
 rw [h6] at hs hc2
 injection hs with hs
 subst hs
 subst hL
 rw [h5] at hg2 hc2 h0
 have hc : coverS (l ++ [s']) t' = true := by simpa using hc
 have hc2 : coverS l s' = true := by simpa using hc2
 have h1 := any_tail rfl hb2 hg2 hc2 (Q := tailQ P (l ++ [s'] ++ [t']).toArray t' Q) _ (Array.replicate l.length false) a w.drew (by simp) (fun j o _ hj => by rw [none_listed] at hj; cases hj) h0
 have e : (Array.replicate l.length false).push false = Array.replicate (l.length + 1) false := by
  rw [<- Array.replicate_succ]
 rw [e] at h1
 have h2 := any_tail (n := l.length + 1) (by simp) hb hg hc (Q := Q) _ (Array.replicate (l.length + 1) false) a w.drew (by simp) (fun j o _ hj => by rw [none_listed] at hj; cases hj) h1
 have e1 : (Array.replicate (l.length + 1) false).push false = Array.replicate (l ++ [s'] ++ [t']).toArray.size false := by
  rw [<- Array.replicate_succ]; simp
 have e2 : l.toArray.size + 1 + 1 = (l ++ [s'] ++ [t']).toArray.size := by simp
 rw [e1, e2] at h2
 exact wp_region_any hm h2
end Go.Proofs.Ythialdipnhggnaa
