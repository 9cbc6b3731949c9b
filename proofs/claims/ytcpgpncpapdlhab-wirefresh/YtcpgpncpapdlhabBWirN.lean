/-
  Layer 8: lists as bytes, the document's.
-/
import Derived.Test.YtcpgpncpapdlhabBWirG
import Derived.Deep.RegionHeld3
namespace Go.Proofs.Ytcpgpncpapdlhab
open Go.RowKit Fld
set_option linter.unusedVariables false

theorem own_one8 (w : World) (T : TypeId) (f : Int) : (w.alloc (.cells #[.int .u8 f] T)).ownsRow w.heap.size T 1 (.slice (some ⟨w.heap.size, 0, none⟩) 1 1) 1 (valb [f]) :=
  ⟨by simp [valb], .inr ⟨_, 1, #[.int .u8 f], rfl, Nat.le_refl _, heap_alloc_new w _, Nat.le_refl _, by unfold maxLen; omega, by simp, by simp [valb]⟩⟩

end Go.Proofs.Ytcpgpncpapdlhab
