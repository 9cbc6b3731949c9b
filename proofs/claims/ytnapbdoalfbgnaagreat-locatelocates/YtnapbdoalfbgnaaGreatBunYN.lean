import Derived.Test.YtnapbdoalfbgnaaGreatBunO
import Derived.Test.YtnapbdoalfbgnaaGreatBunM
import Derived.Lib.SmallJoins
set_option linter.unusedVariables false
set_option linter.unusedSimpArgs false
set_option maxRecDepth 100000
set_option maxHeartbeats 4000000
namespace Go.Proofs.YtnapbdoalfbgnaaGreat
open Go.ChangeShapes Go.WideShapes Go.ChangeAt Go.RowKit
theorem add_atH (b off i : Nat) : (⟨b, off, none⟩ : Addr).add i = ⟨b, off + i, none⟩ := by unfold Addr.add; split <;> simp_all
theorem open_lmiY {H : Type} {enc : TypeId × Value → H} {W : World} {a : Option Addr} {len cap : Nat} {d : DataW H} {p : List MemPlace}
 (h : DataW.Trod enc Tryz.prog W 0 (fun _ => true) true 25 (.slice a len cap) d p)
 (hsz : ∀ elems spare, d = .slice elems spare → (elems.length + spare.length) * 8 ≤ 140737488351232) : ∃ xs, Lm iw 1 W (.slice a len cap) xs ∧ Iw xs ∧ xs.length ≤ 17592186043904 := by
 obtain ⟨fuel, hf⟩ := h
 have hf : DataW.trod enc Tryz.prog W 0 (fun _ => true) true fuel 25 [.slice a len cap] = some (d, p) := by simpa [Value.cells] using hf
 rcases open_ints Tryz.underlying25 Tryz.underlying3 (by kernel_rfl) hf with ⟨hcs, _⟩ | ⟨ad, l, cp, zs, hcs, _, hl, hm, hz, hx, hcell, hwz⟩
 · have hcs : Value.slice a len cap = .slice none 0 0 := by simpa using hcs
   rw [hcs]
   exact ⟨[], ⟨none, 0, rfl, ⟨Nat.le_refl _, by decide, fun _ => rfl⟩, fun h => absurd rfl h⟩, (fun x hx => by cases hx), by simp⟩
 · have hcs : Value.slice a len cap = .slice (some ad) l cp := by simpa using hcs
   rw [hcs]
   have hs := hsz _ _ (congrArg Prod.fst hx)
   simp only [lits, List.length_map, List.length_take, List.length_drop] at hs
   have hzc : zs.length = cp := by simpa using hz
   have hlen : (zs.take l).length = l := by rw [List.length_take]; omega
   refine ⟨zs.take l, ⟨some ad, cp, by rw [hlen], ⟨by rw [hlen]; exact hl, by rw [hlen]; omega, fun h => by cases h⟩, fun hne => ?_⟩, fun n hn => bounds_i64 (hwz n (List.mem_of_mem_take hn)), by rw [hlen]; omega⟩
   have hpos : 0 < l := by rw [← hlen]; exact List.length_pos_iff.2 hne
   obtain ⟨b, off, spot⟩ := ad
   have hc0 := hcell 0 (by omega)
   have hspot : spot = none := by simpa [Addr.add] using World.cell?_spot hc0
   subst hspot
   rw [add_atH] at hc0
   refine ⟨b, off, rfl, World.block_lt_of_cell? W _ hc0, fun i x hx j u hu => ?_⟩
   have hj : j = 0 := by have := (List.getElem?_eq_some_iff.1 hu).1; rw [iw_len] at this; omega
   subst hj
   have hi : i < l := by have := (List.getElem?_eq_some_iff.1 hx).1; omega
   have h1 := hcell i (by omega)
   rw [add_atH] at h1
   rw [show off + (i * 1 + 0) = off + i by omega, h1]
   have h2 : zs.getD i 0 = x := by
    rw [List.getElem?_take_of_lt hi] at hx
    rw [List.getD_eq_getElem?_getD, hx]; rfl
   rw [h2]
   simpa [iw] using hu
end Go.Proofs.YtnapbdoalfbgnaaGreat
