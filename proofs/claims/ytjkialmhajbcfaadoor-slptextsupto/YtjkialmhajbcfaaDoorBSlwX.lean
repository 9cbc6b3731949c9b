/-
  What the rows' list of variables gives: the library's table and its two errors stand in their variables; a world for the witness. (The numbers of the variables are this seat's.)
-/
import Derived.Test.YtjkialmhajbcfaaDoorRows
import Derived.Test.YtjkialmhajbcfaaDoorBSlwE
import Derived.Lib.LaidTab
import Derived.MakeChecks
import Derived.ProofKit
import Derived.Stop.LaidErr
import Derived.Lib.TrailingZeros
namespace Go.Proofs.YtjkialmhajbcfaaDoor
open Go.RowKit
set_option linter.unusedVariables false

theorem gPow : Tryd.prog.globalNamed "internal/strconv.uint64pow10" = some 0 := by kernel_rfl
theorem gPowType : (Tryd.prog.globals[0]?).map (·.type) = some 118 := by kernel_rfl
theorem cellsPow : Tryd.prog.cellsOf 118 = 20 := by kernel_rfl
theorem cellsU64 : Tryd.prog.cellsOf 45 = 1 := by kernel_rfl
theorem powEq {H : Type} : (Rows.laid_internal_strconv_uint64pow10 : DataW H) = Lib.tabData .u64 Lib.pow10Tab := rfl
theorem gSyn : Tryd.prog.globalNamed "strconv.ErrSyntax" = some 4 := by kernel_rfl
theorem gSynType : (Tryd.prog.globals[4]?).map (·.type) = some 58 := by kernel_rfl
theorem gRng : Tryd.prog.globalNamed "strconv.ErrRange" = some 5 := by kernel_rfl
theorem gRngType : (Tryd.prog.globals[5]?).map (·.type) = some 58 := by kernel_rfl
theorem cellsES : Tryd.prog.cellsOf 145 = 1 := by kernel_rfl
theorem cellsStr : Tryd.prog.cellsOf 9 = 1 := by kernel_rfl
theorem starES : "*" ++ "errors.errorString" = "*errors.errorString" := by decide
theorem rowES (u : TypeId) (h : Tryd.prog.typeName? 3 u = some "*errors.errorString") : u = 143 :=
  typeName_ptr_named (nm := "errors.errorString") (by rw [starES]; kernel_rfl) (by kernel_rfl) (by decide) u (by rw [starES]; exact h)

theorem tb9_of {W : World} (h : laidMetH Tryd.prog [("math/bits.deBruijn32tab", Rows.laid_math_bits_deBruijn32tab), ("math/bits.deBruijn64tab", Rows.laid_math_bits_deBruijn64tab), ("internal/strconv.uint64pow10", Rows.laid_internal_strconv_uint64pow10), ("strconv.ErrRange", Rows.laid_strconv_ErrRange), ("strconv.ErrSyntax", Rows.laid_strconv_ErrSyntax)] W) : Tb9 W := by
  rw [MakeChecks.laidMetH_plain _ _ _ (by kernel_rfl)] at h
  have h3 := h.tail.tail
  have h4 := h3.tail
  have h5 := h4.tail
  obtain ⟨a1, s1, hv1, _, _, _⟩ := laid_sentinel h4 gRng gRngType Tryd.underlying58 rowES Tryd.underlying143 Tryd.underlying145 rfl rfl Tryd.underlying9 cellsES cellsStr
  obtain ⟨a2, s2, hv2, _, _, _⟩ := laid_sentinel h5 gSyn gSynType Tryd.underlying58 rowES Tryd.underlying143 Tryd.underlying145 rfl rfl Tryd.underlying9 cellsES cellsStr
  refine ⟨?_, ⟨_, _, hv2⟩, ⟨_, _, hv1⟩⟩
  obtain ⟨ps, ⟨g0, t0, cs0, f0, p0, q0, hg0, ht0, hv0, hd0, _, _⟩, _, _⟩ := h3
  obtain rfl := Option.some.inj (gPow.symm.trans hg0)
  obtain rfl := Option.some.inj (gPowType.symm.trans ht0)
  rw [powEq] at hd0
  have hcs := Lib.cells_of_tab Tryd.underlying118 Tryd.underlying45 cellsU64 cellsPow hd0
  unfold Lib.TabIs
  rw [hv0, ← hcs]

/-- A world for the witness: the tables hold what their initialisers lay, and so do the two errors. -/
def layN (k : IntKind) (l : List Int) : Obj → Obj
  | .cells _ t frozen => .cells (l.map fun (n : Int) => Value.int k n).toArray t frozen
  | o => o
def layE (b : Nat) : Obj → Obj
  | .cells _ t frozen => .cells #[.iface 143 (.pointer (some ⟨b, 0, none⟩))] t frozen
  | o => o
noncomputable def low9 : Nat := (World.holding Tryd.prog default ⟨#[], #[], []⟩).heap.size
def rngS : ByteArray := ⟨#[118, 97, 108, 117, 101, 32, 111, 117, 116, 32, 111, 102, 32, 114, 97, 110, 103, 101]⟩
def synS : ByteArray := ⟨#[105, 110, 118, 97, 108, 105, 100, 32, 115, 121, 110, 116, 97, 120]⟩
noncomputable def laidWorld (os : Os) : World :=
  let w0 := World.holding Tryd.prog os ⟨#[.cells #[.string rngS] 145, .cells #[.string synS] 145], #[], []⟩
  { w0 with heap := ((((w0.heap.modify 2 (layN .u8 (Lib.deBruijn32tab.map fun (n : Nat) => (n : Int)))).modify 3 (layN .u8 (Lib.deBruijn64tab.map fun (n : Nat) => (n : Int)))).modify 0 (layN .u64 Lib.pow10Tab)).modify 5 (layE low9)).modify 4 (layE (low9 + 1)) }

end Go.Proofs.YtjkialmhajbcfaaDoor
