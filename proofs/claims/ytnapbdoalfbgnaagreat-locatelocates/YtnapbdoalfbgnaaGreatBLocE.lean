import Derived.Test.YtnapbdoalfbgnaaGreatBLocD
import Derived.Test.YtnapbdoalfbgnaaGreatBunAE
import Derived.Test.YtnapbdoalfbgnaaGreatBunIB
set_option linter.unusedVariables false
set_option linter.unusedSimpArgs false
set_option maxRecDepth 100000
set_option maxHeartbeats 4000000
namespace Go.Proofs.YtnapbdoalfbgnaaGreat
open Go.RowKit Fld
def dcE (f : Int) (xs ys : List Int) (d w : Int) : Int := if d < -1 ∨ w < 0 then 2 else if bad f xs ys ys.length ≠ 0 then bad f xs ys ys.length else if (xs.length : Int) < d + 2 * w + 1 then 7 else 0
def ofI (p : Int) (P xs ys : List Int) : List Int := (offp p P xs ys).map (fun (i : Nat) => (i : Int))
def Dcd (f : Int) (xs ys : List Int) (d w : Int) (P at' : List Int) (ok : Bool) : Prop :=
 (dcE f xs ys d w ≠ 0 → P = [] ∧ at' = [] ∧ ok = false) ∧
 (dcE f xs ys d w = 0 → (ok = true ∧ Dec (pOf f) (d + 1).toNat w.toNat xs ys P ∧ at' = ofI (pOf f) P xs ys) ∨ (ok = false ∧ P = [] ∧ at' = [] ∧ ∀ R, ¬ Dec (pOf f) (d + 1).toNat w.toNat xs ys R))
theorem dcE_arg {f : Int} {xs ys : List Int} {d w : Int} (h : d < -1 ∨ w < 0) : dcE f xs ys d w = 2 := by unfold dcE; rw [if_pos h]
theorem dcE_bad {f : Int} {xs ys : List Int} {d w : Int} (h : ¬ (d < -1 ∨ w < 0)) (hb : bad f xs ys ys.length ≠ 0) : dcE f xs ys d w = bad f xs ys ys.length := by unfold dcE; rw [if_neg h, if_pos hb]
theorem dcE_short {f : Int} {xs ys : List Int} {d w : Int} (h : ¬ (d < -1 ∨ w < 0)) (hb : bad f xs ys ys.length = 0) (hs : (xs.length : Int) < d + 2 * w + 1) : dcE f xs ys d w = 7 := by unfold dcE; rw [if_neg h, if_neg (fun e => e hb), if_pos hs]
theorem dcE_ok {f : Int} {xs ys : List Int} {d w : Int} (h : ¬ (d < -1 ∨ w < 0)) (hb : bad f xs ys ys.length = 0) (hs : ¬ (xs.length : Int) < d + 2 * w + 1) : dcE f xs ys d w = 0 := by unfold dcE; rw [if_neg h, if_neg (fun e => e hb), if_neg hs]
theorem dcE_zero {f : Int} {xs ys : List Int} {d w : Int} (h : dcE f xs ys d w = 0) : -1 ≤ d ∧ 0 ≤ w ∧ bad f xs ys ys.length = 0 ∧ d + 2 * w + 1 ≤ xs.length := by
 by_cases h1 : d < -1 ∨ w < 0
 · rw [dcE_arg h1] at h; exact absurd h (by decide)
 · by_cases h2 : bad f xs ys ys.length = 0
   · by_cases h3 : (xs.length : Int) < d + 2 * w + 1
     · rw [dcE_short h1 h2 h3] at h; exact absurd h (by decide)
     · exact ⟨by omega, by omega, h2, by omega⟩
   · rw [dcE_bad h1 h2] at h; exact absurd h h2
theorem dcE_facts {f : Int} {xs ys : List Int} {d w : Int} (hx : ∀ x ∈ xs, 0 ≤ x ∧ x ≤ 18446744073709551615) (hy : ∀ x ∈ ys, 0 ≤ x ∧ x ≤ 18446744073709551615) (h : dcE f xs ys d w = 0) : ∃ p wd, Fi f p wd ∧ pOf f = p ∧ Els p xs ∧ Els p ys ∧ xs.length = ys.length ∧ xs.length ≤ 512 ∧ xs.Nodup ∧ (d + 1).toNat + 2 * w.toNat ≤ xs.length ∧ -1 ≤ d ∧ 0 ≤ w ∧ bad f xs ys ys.length = 0 := by
 obtain ⟨h1, h2, h3, h4⟩ := dcE_zero h
 obtain ⟨p, wd, hf, i1, i2, l1, l2, hn⟩ := bad_zero h3
 exact ⟨p, wd, hf, pOf_eq hf, els_of i1 hx, els_of i2 hy, l1, l2, hn, by omega, h1, h2, h3⟩
theorem Dcd.only {f : Int} {xs ys : List Int} {d w : Int} {P Q a b : List Int} {k l : Bool} (hx : ∀ x ∈ xs, 0 ≤ x ∧ x ≤ 18446744073709551615) (hy : ∀ x ∈ ys, 0 ≤ x ∧ x ≤ 18446744073709551615) (h : Dcd f xs ys d w P a k) (h' : Dcd f xs ys d w Q b l) : P = Q ∧ a = b ∧ k = l := by
 by_cases he : dcE f xs ys d w = 0
 · obtain ⟨p, wd, hf, hp, e1, e2, l1, l2, hn, hl, _⟩ := dcE_facts hx hy he
   have h1 := h.2 he
   have h2 := h'.2 he
   rw [hp] at h1 h2
   rcases h1 with ⟨rfl, h1, rfl⟩ | ⟨rfl, rfl, rfl, h1⟩ <;> rcases h2 with ⟨rfl, h2, rfl⟩ | ⟨rfl, rfl, rfl, h2⟩
   · obtain rfl := Dec.only hf.md e1 hn hl h1 h2
     exact ⟨rfl, rfl, rfl⟩
   · exact absurd h1 (h2 _)
   · exact absurd h2 (h1 _)
   · exact ⟨rfl, rfl, rfl⟩
 · obtain ⟨rfl, rfl, rfl⟩ := h.1 he
   obtain ⟨rfl, rfl, rfl⟩ := h'.1 he
   exact ⟨rfl, rfl, rfl⟩
theorem Dcd.no {f : Int} {xs ys : List Int} {d w e : Int} (h : dcE f xs ys d w = e) (he : e ≠ 0) : Dcd f xs ys d w [] [] false := ⟨fun _ => ⟨rfl, rfl, rfl⟩, fun h0 => absurd (h ▸ h0) he⟩
theorem offp_len (p : Int) (P xs ys : List Int) : (offp p P xs ys).length ≤ xs.length := by have := on_off p P xs ys; omega
theorem ofI_len (p : Int) (P xs ys : List Int) : (ofI p P xs ys).length = (offp p P xs ys).length := by unfold ofI; rw [List.length_map]
end Go.Proofs.YtnapbdoalfbgnaaGreat
