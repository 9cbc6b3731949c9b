import Derived.Test.YtnapbdoalfbgnaaBOpenX
import Derived.Test.YtnapbdoalfbgnaaBunM
set_option linter.unusedVariables false
set_option linter.unusedSimpArgs false
set_option maxRecDepth 100000
set_option maxHeartbeats 4000000
namespace Go.Proofs.Ytnapbdoalfbgnaa
open Go.ChangeShapes Go.WideShapes Go.ChangeAt Go.RowKit
def pw2 (o : Int × Int) : List Value := [.int .u64 o.1, .int .u64 o.2]
theorem pw2_len (o : Int × Int) : (pw2 o).length = 2 := rfl
def Ok2 (o : Int × Int) : Prop := (0 ≤ o.1 ∧ o.1 ≤ 18446744073709551615) ∧ (0 ≤ o.2 ∧ o.2 ≤ 18446744073709551615)
theorem add_at17 (b off i : Nat) : (⟨b, off, none⟩ : Addr).add i = ⟨b, off + i, none⟩ := by unfold Addr.add; split <;> simp_all
theorem open_two {H : Type} {enc : TypeId × Value → H} {W : World} {fuel : Nat} {cs : List Value} {x : DataW H × List MemPlace} (h : DataW.trod enc Try.prog W 0 (fun _ => true) true fuel 43 cs = some x) (hl : cs.length = 2) : ∃ o, cs = pw2 o ∧ Ok2 o := by
 obtain ⟨a, b, rfl⟩ := pair cs hl
 have hce : Try.prog.cellsOf 40 = 1 := by kernel_rfl
 obtain ⟨xs, m, _, hx, _, hl', hel⟩ := DataW.trod_array Try.underlying43 h
 have g0 := hel 0 (by omega)
 have g1 := hel 1 (by omega)
 obtain ⟨y0, y1, rfl⟩ := pair xs hl'
 simp [hce] at g0 g1
 obtain ⟨n0, e0, _, w0⟩ := DataW.trod_int Try.underlying40 g0
 obtain ⟨n1, e1, _, w1⟩ := DataW.trod_int Try.underlying40 g1
 simp at e0 e1
 exact ⟨(n0, n1), by rw [e0, e1]; rfl, bounds_u64 w0, bounds_u64 w1⟩
theorem pick2 {W : World} {ad : Addr} : ∀ len : Nat, (∀ i, i < len → ∃ o, Ok2 o ∧ ∀ j u, (pw2 o)[j]? = some u → W.cell? ((ad.add (i * 2)).add j) = some u) → ∃ os : List (Int × Int), os.length = len ∧ ∀ i o, os[i]? = some o → Ok2 o ∧ ∀ j u, (pw2 o)[j]? = some u → W.cell? ((ad.add (i * 2)).add j) = some u
 | 0, _ => ⟨[], rfl, fun i o h => by simp at h⟩
 | k + 1, each => by
  obtain ⟨os, h1, h2⟩ := pick2 k (fun i hi => each i (by omega))
  obtain ⟨o, h3, h4⟩ := each k (by omega)
  refine ⟨os ++ [o], by simp [h1], fun i q hq => ?_⟩
  rcases Nat.lt_or_ge i k with hi | hi
  · rw [List.getElem?_append_left (by omega)] at hq; exact h2 i q hq
  · have : i = k := by have := (List.getElem?_eq_some_iff.1 hq).1; simp at this; omega
    subst this
    rw [List.getElem?_append_right (by omega), h1, Nat.sub_self] at hq
    have : o = q := by simpa using hq
    subst this
    exact ⟨h3, h4⟩
theorem open_prs {H : Type} {enc : TypeId × Value → H} {W : World} {a : Option Addr} {ln cp : Nat} {d : DataW H} {p : List MemPlace}
 (h : DataW.Trod enc Try.prog W 0 (fun _ => true) true 36 (.slice a ln cp) d p)
 (hsz : ∀ elems spare, d = .slice elems spare → (elems.length + spare.length) * 16 ≤ 140737488351232) : ∃ os, Lm pw2 2 W (.slice a ln cp) os ∧ (∀ o ∈ os, Ok2 o) ∧ os.length * 16 ≤ 140737488351232 := by
 obtain ⟨fuel, hf⟩ := h
 have hf : DataW.trod enc Try.prog W 0 (fun _ => true) true fuel 36 [.slice a ln cp] = some (d, p) := by simpa [Value.cells] using hf
 have hce : Try.prog.cellsOf 43 = 2 := by kernel_rfl
 rcases DataW.trod_slice Try.underlying36 hf with ⟨hcs, _⟩ | ⟨ad, len, cap, elems, rest, n, _, hcs, hx, _, hl, hm, hlen, hel, _, _⟩
 · have hcs : Value.slice a ln cp = .slice none 0 0 := by simpa using hcs
   rw [hcs]
   exact ⟨[], ⟨none, 0, rfl, ⟨Nat.le_refl _, by decide, fun _ => rfl⟩, fun h => absurd rfl h⟩, (fun x hx => by cases hx), by decide⟩
 · have hcs : Value.slice a ln cp = .slice (some ad) len cap := by simpa using hcs
   rw [hcs]
   have hs := hsz _ _ (congrArg Prod.fst hx)
   simp only [List.length_map] at hs
   have each : ∀ i, i < len → ∃ o, Ok2 o ∧ ∀ j u, (pw2 o)[j]? = some u → W.cell? ((ad.add (i * 2)).add j) = some u := by
    intro i hi
    have h1 := hel i hi
    rw [hce, List.getElem?_eq_getElem (by omega), Option.bind_eq_some_iff] at h1
    obtain ⟨cs, hc1, hc2⟩ := h1
    obtain ⟨_, hcl, hcc⟩ := World.cells?_some hc1
    obtain ⟨o, ho, hok⟩ := open_two hc2 hcl
    refine ⟨o, hok, fun j u hu => ?_⟩
    have hj : j < 2 := by have := (List.getElem?_eq_some_iff.1 hu).1; rwa [pw2_len] at this
    rw [hcc j hj, ho]; exact hu
   obtain ⟨os, hol, hos⟩ := pick2 len each
   refine ⟨os, ⟨some ad, cap, by rw [hol], ⟨by omega, by omega, fun h => by cases h⟩, fun hne => ?_⟩, fun o ho => ?_, by omega⟩
   · have hpos : 0 < len := by rw [← hol]; exact List.length_pos_iff.2 hne
     obtain ⟨b, off, spot⟩ := ad
     have hc0 := (hos 0 os[0] (List.getElem?_eq_getElem (by omega))).2 0 _ rfl
     have hspot : spot = none := by
      have := World.cell?_spot hc0
      simpa [Addr.add] using this
     subst hspot
     have hc0' := hc0
     rw [add_at17, add_at17] at hc0'
     refine ⟨b, off, rfl, World.block_lt_of_cell? W _ hc0', fun i x hx j u hu => ?_⟩
     have := (hos i x hx).2 j u hu
     rw [add_at17, add_at17] at this
     rw [← Nat.add_assoc]; exact this
   · obtain ⟨i, hi⟩ := List.getElem?_of_mem ho
     exact (hos i o hi).1
end Go.Proofs.Ytnapbdoalfbgnaa
