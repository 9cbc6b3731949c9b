import Derived.ProofKit
import Derived.OpenShut
import Derived.Test.YtaikhiodpieghaaBunQ
set_option linter.unusedVariables false
set_option linter.unusedSimpArgs false
set_option maxRecDepth 100000
set_option maxHeartbeats 4000000
namespace Go.Proofs.Ytaikhiodpieghaa
open Go.ChangeShapes Go.WideShapes Go.ChangeAt Go.RowKit
theorem open_row {H : Type} {enc : TypeId × Value -> H} {W : World} {a : Option Addr} {len cap : Nat} {d : DataW H} {p : List MemPlace}
 (h : DataW.Trod enc Try.prog W 0 (fun _ => true) true 24 (.slice a len cap) d p) (hsz : ∀ elems spare, d = .slice elems spare -> (elems.length + spare.length) * 8 <= 140737488351232) :
 ∃ xs, Row W (.slice a len cap) xs := by
 obtain ⟨fuel, hf⟩ := h
 rcases open_ints Try.underlying24 Try.underlying48 (by kernel_rfl) hf with ⟨hcs, _⟩ | ⟨x, l, c, zs, hcs, _, hl, hm, hz, hx, hcell, hwz⟩
 · simp [Value.cells] at hcs
   obtain ⟨rfl, rfl, rfl⟩ := hcs
   exact ⟨[], none, 0, rfl, by simp, by simp, fun h => absurd rfl h⟩
 · simp [Value.cells] at hcs
   obtain ⟨rfl, rfl, rfl⟩ := hcs
   simp only [Prod.mk.injEq] at hx
   have hs := hsz _ _ hx.1
   simp only [lits, List.length_map, List.length_take, List.length_drop] at hs
   have hzc : zs.length = cap := by simpa using hz
   have hlen : (zs.take len).length = len := by rw [List.length_take]; omega
   refine ⟨zs.take len, some x, cap, by rw [hlen], by rw [hlen]; omega, fun n hn => ?_, fun hne => ?_⟩
   · exact bounds_u64 (hwz n (List.mem_of_mem_take hn))
   · have hpos : 0 < len := by
      apply Nat.pos_of_ne_zero; intro h0; rw [h0] at hne; simp at hne
     obtain ⟨b, off, spot⟩ := x
     have hc0 := hcell 0 (by omega)
     have hspot : spot = none := by simpa [Addr.add] using World.cell?_spot hc0
     subst hspot
     have key : ∀ i, i < zs.length -> W.cell? ⟨b, off + i, none⟩ = some (.int .u64 (zs.getD i 0)) := fun i hi => by
      have hadd : (⟨b, off, none⟩ : Addr).add i = ⟨b, off + i, none⟩ := by unfold Addr.add; split <;> simp_all
      rw [<- hadd]; exact hcell i hi
     refine ⟨b, off, rfl, World.block_lt_of_cell? W _ (key 0 (by omega)), fun i hi => ?_⟩
     rw [key i (by rw [hlen] at hi; omega)]
     have : (zs.take len).getD i 0 = zs.getD i 0 := by
      rw [hlen] at hi
      simp [List.getD_eq_getElem?_getD, List.getElem?_take_of_lt hi]
     rw [this]
theorem open_rw {H : Type} {enc : TypeId × Value -> H} {W : World} {a : Option Addr} {len cap : Nat} {d : DataW H} {p : List MemPlace}
 (h : DataW.Trod enc Try.prog W 0 (fun _ => true) true 24 (.slice a len cap) d p) (hsz : ∀ elems spare, d = .slice elems spare -> (elems.length + spare.length) * 8 <= 140737488351232) :
 ∃ xs, Rw W (.slice a len cap) xs := by
 obtain ⟨xs, hr⟩ := open_row h hsz
 refine ⟨xs, hr, _, _, _, rfl, ?_⟩
 obtain ⟨fuel, hf⟩ := h
 rcases open_ints Try.underlying24 Try.underlying48 (by kernel_rfl) hf with ⟨hcs, _⟩ | ⟨x, l, c, zs, hcs, _, hl, hm, hz, hx, hcell, hwz⟩
 · simp [Value.cells] at hcs
   obtain ⟨rfl, rfl, rfl⟩ := hcs
   exact Nat.le_refl _
 · simp [Value.cells] at hcs
   obtain ⟨rfl, rfl, rfl⟩ := hcs
   exact hl
theorem open_part {H : Type} {enc : TypeId × Value -> H} {W : World} {fuel : Nat} {c : Value} {x : DataW H × List MemPlace} (h : DataW.trod enc Try.prog W 0 (fun _ => true) true fuel 24 [c] = some x)
 (hsz : ∀ elems spare, x.1 = .slice elems spare -> (elems.length + spare.length) * 8 <= 140737488351232) : ∃ xs, Rw W c xs := by
 obtain ⟨a, len, cap, rfl⟩ : ∃ a len cap, c = .slice a len cap := by
  rcases open_ints Try.underlying24 Try.underlying48 (by kernel_rfl) h with ⟨hcs, _⟩ | ⟨a, l, cp, zs, hcs, _⟩
  · simp at hcs; exact ⟨_, _, _, hcs⟩
  · simp at hcs; exact ⟨_, _, _, hcs⟩
 exact open_rw (d := x.1) (p := x.2) ⟨fuel, by simpa [Value.cells] using h⟩ hsz
end Go.Proofs.Ytaikhiodpieghaa
