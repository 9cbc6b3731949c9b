import Derived.Test.YthialdipnhggnaaBunW
import Derived.ProofKit
import Derived.OpenShut
set_option linter.unusedVariables false
set_option linter.unusedSimpArgs false
set_option maxRecDepth 100000
set_option maxHeartbeats 4000000
namespace Go.Proofs.Ythialdipnhggnaa
open Go.ChangeShapes Go.WideShapes Go.ChangeAt Go.RowKit
theorem u8_bytes : Try.prog.bytesOf 5 = 1 := by kernel_rfl
theorem open_rb {H : Type} {enc : TypeId × Value -> H} {W : World} {a : Option Addr} {len cap : Nat} {d : DataW H} {p : List MemPlace}
 (h : DataW.Trod enc Try.prog W 0 (fun _ => true) true 23 (.slice a len cap) d p) (hsz : ∀ elems spare, d = .slice elems spare -> (elems.length + spare.length) * 1 <= 140737488351232) :
 ∃ bs, Rb W (.slice a len cap) bs ∧ bs.length <= 140737488351232 := by
 obtain ⟨fuel, hf⟩ := h
 rcases open_ints Try.underlying23 Try.underlying5 (by kernel_rfl) hf with ⟨hcs, _⟩ | ⟨x, l, c, zs, hcs, _, hl, hm, hz, hx, hcell, hwz⟩
 · simp [Value.cells] at hcs
   obtain ⟨rfl, rfl, rfl⟩ := hcs
   exact ⟨[], rb_nil W, by simp⟩
 · simp [Value.cells] at hcs
   obtain ⟨rfl, rfl, rfl⟩ := hcs
   simp only [Prod.mk.injEq] at hx
   have hs := hsz _ _ hx.1
   simp only [lits, List.length_map, List.length_take, List.length_drop] at hs
   have hzc : zs.length = cap := by simpa using hz
   have hlen : (zs.take len).length = len := by rw [List.length_take]; omega
   refine ⟨zs.take len, ⟨some x, cap, by rw [hlen], ⟨by rw [hlen]; exact hl, by rw [hlen]; omega, fun h => by cases h⟩, fun n hn => ?_, fun hne => ?_⟩, by rw [hlen]; omega⟩
   · exact bounds_u8 (hwz n (List.mem_of_mem_take hn))
   · have hpos : 0 < len := by
      apply Nat.pos_of_ne_zero; intro h0; rw [h0] at hne; simp at hne
     obtain ⟨b, off, spot⟩ := x
     have hc0 := hcell 0 (by omega)
     have hspot : spot = none := by simpa [Addr.add] using World.cell?_spot hc0
     subst hspot
     have key : ∀ i, i < zs.length -> W.cell? ⟨b, off + i, none⟩ = some (.int .u8 (zs.getD i 0)) := fun i hi => by
      have hadd : (⟨b, off, none⟩ : Addr).add i = ⟨b, off + i, none⟩ := by unfold Addr.add; split <;> simp_all
      rw [<- hadd]; exact hcell i hi
     refine ⟨b, off, rfl, World.block_lt_of_cell? W _ (key 0 (by omega)), fun i hi => ?_⟩
     rw [key i (by rw [hlen] at hi; omega)]
     have : (zs.take len).getD i 0 = zs.getD i 0 := by
      rw [hlen] at hi
      simp [List.getD_eq_getElem?_getD, List.getElem?_take_of_lt hi]
     rw [this]
end Go.Proofs.Ythialdipnhggnaa
