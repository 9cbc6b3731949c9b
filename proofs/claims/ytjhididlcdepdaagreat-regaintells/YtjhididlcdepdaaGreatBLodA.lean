import Derived.Test.YtjhididlcdepdaaGreatBLocH
import Derived.Test.YtjhididlcdepdaaGreatBunM
set_option linter.unusedVariables false
set_option linter.unusedSimpArgs false
set_option maxRecDepth 100000
set_option maxHeartbeats 4000000
namespace Go.Proofs.YtjhididlcdepdaaGreat
open Go.RowKit Fld
theorem Rw.cellAt {w : World} {ao : Option Addr} {n cap : Nat} {xs : List Int} (h : Rw w (.slice ao n cap) xs) (h0 : 0 < xs.length) : ∃ b off, ao = some ⟨b, off, none⟩ ∧ ∀ W, Below w.heap.size w W -> ∀ i, i < xs.length -> W.cell? ⟨b, off + i, none⟩ = some (.int .u64 (co xs i)) := by
 obtain ⟨⟨ao', cap', h1, h2, h3, h4⟩, h5⟩ := h
 cases h1
 obtain ⟨b, off, h6, h7, h8⟩ := h4 (List.length_pos_iff.1 h0)
 exact ⟨b, off, h6, fun W hb i hi => (hb.cell (p := ⟨b, off + i, none⟩) h7).trans (h8 i hi)⟩
end Go.Proofs.YtjhididlcdepdaaGreat
