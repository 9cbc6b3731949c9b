import Derived.Test.YtcglbbglapomgaaBLawJD
set_option linter.unusedVariables false
set_option linter.unusedSimpArgs false
set_option maxRecDepth 100000
set_option maxHeartbeats 4000000
namespace Go.Proofs.Ytcglbbglapomgaa
open Go.RowKit Fld
theorem TwoN.self {w W : World} {base g gt : Nat} {N : Nt} (h : TwoN w W base g gt N) : TwoN W W base g gt N := ⟨h.p, h.d, Below.refl _ _, h.sz⟩
theorem TwoN.from_ {w W V : World} {base g gt : Nat} {N M : Nt} (h : TwoN w W base g gt N) (h2 : TwoN W V base g gt M) : TwoN w V base g gt M := ⟨h2.p, h2.d, h.low.trans h2.low, h2.sz⟩
theorem Scr.sq {w wr : World} {b off n cap k : Nat} {ss : List Sq} (h : Scr w (.slice (some ⟨b, off, none⟩) n cap) ss) (hb : Below w.heap.size w wr) (hk : k < ss.length) :
 wr.cell? ⟨b, off + k * 4, none⟩ = some (.int .u8 ss[k].c) ∧ wr.cell? ⟨b, off + k * 4 + 1, none⟩ = some (.int .i64 ss[k].a) ∧ wr.cell? ⟨b, off + k * 4 + 2, none⟩ = some (.int .i64 ss[k].b) ∧ wr.cell? ⟨b, off + k * 4 + 3, none⟩ = some ss[k].u := by
 have hx : ss[k]? = some ss[k] := List.getElem?_eq_getElem hk
 have key : ∀ i u, (sqc ss[k])[i]? = some u -> wr.cell? ⟨b, off + (k * 4 + i), none⟩ = some u := fun i u hu => by
  obtain ⟨hbl, hc⟩ := h.lm.at_ hx hu
  exact (hb.cell (p := ⟨b, off + (k * 4 + i), none⟩) hbl).trans hc
 exact ⟨key 0 _ rfl, key 1 _ rfl, key 2 _ rfl, key 3 _ rfl⟩
theorem Scr.okw {w W : World} {v : Value} {ss : List Sq} (h : Scr w v ss) (hW : Below w.heap.size w W) {k : Nat} (hk : k < ss.length) : ∀ V, Below w.heap.size W V -> Okq21 V ss[k] := fun V hV =>
 (h.below (hW.trans hV)).ok _ (List.getElem_mem hk)
end Go.Proofs.Ytcglbbglapomgaa
