import Derived.Test.YteipgnkhbcogoaaBOpenB
import Derived.Test.YteipgnkhbcogoaaBunM
import Derived.Lib.SmallJoins
set_option linter.unusedVariables false
set_option linter.unusedSimpArgs false
set_option maxRecDepth 100000
set_option maxHeartbeats 4000000
namespace Go.Proofs.Yteipgnkhbcogoaa
open Go.ChangeShapes Go.WideShapes Go.ChangeAt Go.RowKit
structure Sq2 where
 c : Int
 n : Int
 m : Int
 o : Bool
def sqc2 (s : Sq2) : List Value := [.int .u8 s.c, .int .i64 s.n, .int .u8 s.m, .bool s.o]
theorem sqc2_len (s : Sq2) : (sqc2 s).length = 4 := rfl
structure Okq22 (s : Sq2) : Prop where
 c : 0 <= s.c ∧ s.c <= 255
 n : -9223372036854775808 <= s.n ∧ s.n <= 9223372036854775807
 m : 0 <= s.m ∧ s.m <= 255
structure Scr2 (W : World) (v : Value) (ss : List Sq2) : Prop where
 lm : Lm sqc2 4 W v ss
 ok : ∀ s ∈ ss, Okq22 s
 len : ss.length <= 5864062014637
theorem add_atG (b off i : Nat) : (⟨b, off, none⟩ : Addr).add i = ⟨b, off + i, none⟩ := by unfold Addr.add; split <;> simp_all
theorem list_fourG {α : Type} {cs : List α} (h : cs.length = 4) : ∃ c0 c1 c2 c3, cs = [c0, c1, c2, c3] := by
 match cs, h with
 | [c0, c1, c2, c3], _ => exact ⟨c0, c1, c2, c3, rfl⟩
theorem open_sq2 {H : Type} {enc : TypeId × Value -> H} {W : World} {fuel : Nat} {cs : List Value} {x : DataW H × List MemPlace} (hf : DataW.trod enc Try.prog W 0 (fun _ => true) true fuel 32 cs = some x) (hl : cs.length = 4) : ∃ s : Sq2, cs = sqc2 s ∧ Okq22 s := by
 obtain ⟨c0, c1, c2, c3, rfl⟩ := list_fourG hl
 obtain ⟨xs, n, _, hx, _, hlen, hg⟩ := DataW.trod_struct Try.underlying32 hf
 have h4 : xs.length = 4 := hlen
 obtain ⟨y0, y1, y2, y3, rfl⟩ := list_fourG h4
 have k0 : Try.prog.cellsOf 5 = 1 := by kernel_rfl
 have k1 : Try.prog.cellsOf 3 = 1 := by kernel_rfl
 have k3 : Try.prog.cellsOf 4 = 1 := by kernel_rfl
 have h0 := hg 0 _ rfl
 have h1 := hg 1 _ rfl
 have h2 := hg 2 _ rfl
 have h3 := hg 3 _ rfl
 simp [k0, k1, k3, Value.cells] at h0 h1 h2 h3
 obtain ⟨n0, e0, _, w0⟩ := DataW.trod_int Try.underlying5 h0
 obtain ⟨n1, e1, _, w1⟩ := DataW.trod_int Try.underlying3 h1
 obtain ⟨n2, e2, _, w2⟩ := DataW.trod_int Try.underlying5 h2
 obtain ⟨n3, e3, _⟩ := DataW.trod_bool Try.underlying4 h3
 simp at e0 e1 e2 e3
 subst e0 e1 e2 e3
 exact ⟨⟨n0, n1, n2, n3⟩, rfl, ⟨bounds_u8 w0, bounds_i64 w1, bounds_u8 w2⟩⟩
theorem pickG {W : World} {ad : Addr} : ∀ len : Nat, (∀ i, i < len -> ∃ o, Okq22 o ∧ ∀ j u, (sqc2 o)[j]? = some u -> W.cell? ((ad.add (i * 4)).add j) = some u) -> ∃ os : List Sq2, os.length = len ∧ ∀ i o, os[i]? = some o -> Okq22 o ∧ ∀ j u, (sqc2 o)[j]? = some u -> W.cell? ((ad.add (i * 4)).add j) = some u
 | 0, _ => ⟨[], rfl, fun i o h => by simp at h⟩
 | k + 1, each => by
  obtain ⟨os, h1, h2⟩ := pickG k (fun i hi => each i (by omega))
  obtain ⟨o, h3, h4⟩ := each k (by omega)
  refine ⟨os ++ [o], by simp [h1], fun i q hq => ?_⟩
  rcases Nat.lt_or_ge i k with hi | hi
  · rw [List.getElem?_append_left (by omega)] at hq; exact h2 i q hq
  · have : i = k := by have := (List.getElem?_eq_some_iff.1 hq).1; simp at this; omega
    subst this
    rw [List.getElem?_append_right (by omega), h1, Nat.sub_self] at hq
    have : o = q := by simpa using hq
    subst this
    exact ⟨h3, h4⟩
theorem open_scr2 {H : Type} {enc : TypeId × Value -> H} {W : World} {a : Option Addr} {ln cp : Nat} {d : DataW H} {p : List MemPlace}
 (h : DataW.Trod enc Try.prog W 0 (fun _ => true) true 22 (.slice a ln cp) d p) (hsz : ∀ n ∈ d.weights Try.prog 22, n <= 140737488351232) : ∃ us, Scr2 W (.slice a ln cp) us := by
 obtain ⟨fuel, hf⟩ := h
 have hf : DataW.trod enc Try.prog W 0 (fun _ => true) true fuel 22 [.slice a ln cp] = some (d, p) := by simpa [Value.cells] using hf
 have hce : Try.prog.cellsOf 32 = 4 := by kernel_rfl
 have hb24 : Try.prog.bytesOf 32 = 24 := by kernel_rfl
 rcases DataW.trod_slice Try.underlying22 hf with ⟨hcs, _⟩ | ⟨ad, len, cap, elems, rest, n, _, hcs, hx, _, hl, hm, hlen, hel, _, _⟩
 · have hcs : Value.slice a ln cp = .slice none 0 0 := by simpa using hcs
   rw [hcs]
   exact ⟨[], lm_nil _ _ _, (fun s hs => by cases hs), by simp⟩
 · have hcs : Value.slice a ln cp = .slice (some ad) len cap := by simpa using hcs
   rw [hcs]
   have hd : d = .slice (elems.map (·.1)) (rest.map (·.1)) := congrArg Prod.fst hx
   subst hd
   have hW : ∀ k, k ∈ DataW.weightsAll Try.prog 32 (elems.map (·.1)) -> k <= 140737488351232 := fun k hk => hsz k (by
    simp only [DataW.weights, Try.underlying22, List.mem_cons, List.mem_append]
    exact .inr (.inl hk))
   have hlen2 : len * 24 <= 140737488351232 := by
    have := hsz ((elems.map (·.1)).length * 24 + (rest.map (·.1)).length * 24) (by
     simp only [DataW.weights, Try.underlying22, hb24, List.mem_cons]
     left; rw [Nat.add_mul])
    simp only [List.length_map] at this
    omega
   have each : ∀ i, i < len -> ∃ o, Okq22 o ∧ ∀ j u, (sqc2 o)[j]? = some u -> W.cell? ((ad.add (i * 4)).add j) = some u := by
    intro i hi
    have h1 := hel i hi
    rw [hce, List.getElem?_eq_getElem (by omega), Option.bind_eq_some_iff] at h1
    obtain ⟨cs, hc1, hc2⟩ := h1
    obtain ⟨_, hcl, hcc⟩ := World.cells?_some hc1
    have hmem : (elems[i]'(by omega)).1 ∈ elems.map (·.1) := List.mem_map.2 ⟨_, List.getElem_mem (by omega), rfl⟩
    obtain ⟨o, ho, hok⟩ := open_sq2 hc2 hcl
    refine ⟨o, hok, fun j u hu => ?_⟩
    have hj : j < 4 := by have := (List.getElem?_eq_some_iff.1 hu).1; rwa [sqc2_len] at this
    rw [hcc j hj, ho]; exact hu
   obtain ⟨os, hol, hos⟩ := pickG len each
   have hok : ∀ o ∈ os, Okq22 o := fun o ho => by
    obtain ⟨i, hi⟩ := List.getElem?_of_mem ho
    exact (hos i o hi).1
   refine ⟨os, ⟨some ad, cap, by rw [hol], ⟨by omega, by omega, fun h => by cases h⟩, fun hne => ?_⟩, hok, by omega⟩
   have hpos : 0 < len := by rw [<- hol]; exact List.length_pos_iff.2 hne
   obtain ⟨b, off, spot⟩ := ad
   have hc0 := (hos 0 os[0] (List.getElem?_eq_getElem (by omega))).2 0 _ rfl
   have hspot : spot = none := by
    have := World.cell?_spot hc0
    simpa [Addr.add] using this
   subst hspot
   have hc0' := hc0
   rw [add_atG, add_atG] at hc0'
   refine ⟨b, off, rfl, World.block_lt_of_cell? W _ hc0', fun i x hx j u hu => ?_⟩
   have := (hos i x hx).2 j u hu
   rw [add_atG, add_atG] at this
   rw [<- Nat.add_assoc]; exact this
end Go.Proofs.Yteipgnkhbcogoaa
