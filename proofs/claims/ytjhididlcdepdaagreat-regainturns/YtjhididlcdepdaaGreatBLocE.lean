import Derived.Test.YtjhididlcdepdaaGreatBunW
import Derived.Test.YtjhididlcdepdaaGreatBunAE
import Derived.Test.YtjhididlcdepdaaGreatBunIB
set_option linter.unusedVariables false
set_option linter.unusedSimpArgs false
set_option maxRecDepth 100000
set_option maxHeartbeats 4000000
namespace Go.Proofs.YtjhididlcdepdaaGreat
open Go.RowKit Fld
def dcE (f : Int) (xs ys : List Int) (d w : Int) : Int := if d < -1 ∨ w < 0 then 2 else if bad f xs ys ys.length ≠ 0 then bad f xs ys ys.length else if (xs.length : Int) < d + 2 * w + 1 then 7 else 0
def ofI (p : Int) (P xs ys : List Int) : List Int := (offp p P xs ys).map (fun (i : Nat) => (i : Int))
def Dcd (f : Int) (xs ys : List Int) (d w : Int) (P at' : List Int) (ok : Bool) : Prop :=
 (dcE f xs ys d w ≠ 0 → P = [] ∧ at' = [] ∧ ok = false) ∧
 (dcE f xs ys d w = 0 → (ok = true ∧ Dec (pOf f) (d + 1).toNat w.toNat xs ys P ∧ at' = ofI (pOf f) P xs ys) ∨ (ok = false ∧ P = [] ∧ at' = [] ∧ ∀ R, ¬ Dec (pOf f) (d + 1).toNat w.toNat xs ys R))
theorem dcE_arg {f : Int} {xs ys : List Int} {d w : Int} (h : d < -1 ∨ w < 0) : dcE f xs ys d w = 2 := by unfold dcE; rw [if_pos h]
theorem dcE_bad {f : Int} {xs ys : List Int} {d w : Int} (h : ¬ (d < -1 ∨ w < 0)) (hb : bad f xs ys ys.length ≠ 0) : dcE f xs ys d w = bad f xs ys ys.length := by unfold dcE; rw [if_neg h, if_pos hb]
theorem dcE_short {f : Int} {xs ys : List Int} {d w : Int} (h : ¬ (d < -1 ∨ w < 0)) (hb : bad f xs ys ys.length = 0) (hs : (xs.length : Int) < d + 2 * w + 1) : dcE f xs ys d w = 7 := by unfold dcE; rw [if_neg h, if_neg (fun e => e hb), if_pos hs]
theorem dcE_ok {f : Int} {xs ys : List Int} {d w : Int} (h : ¬ (d < -1 ∨ w < 0)) (hb : bad f xs ys ys.length = 0) (hs : ¬ (xs.length : Int) < d + 2 * w + 1) : dcE f xs ys d w = 0 := by unfold dcE; rw [if_neg h, if_neg (fun e => e hb), if_neg hs]
theorem Dcd.no {f : Int} {xs ys : List Int} {d w e : Int} (h : dcE f xs ys d w = e) (he : e ≠ 0) : Dcd f xs ys d w [] [] false := ⟨fun _ => ⟨rfl, rfl, rfl⟩, fun h0 => absurd (h ▸ h0) he⟩
theorem offp_len (p : Int) (P xs ys : List Int) : (offp p P xs ys).length ≤ xs.length := by have := on_off p P xs ys; omega
theorem ofI_len (p : Int) (P xs ys : List Int) : (ofI p P xs ys).length = (offp p P xs ys).length := by unfold ofI; rw [List.length_map]
end Go.Proofs.YtjhididlcdepdaaGreat
