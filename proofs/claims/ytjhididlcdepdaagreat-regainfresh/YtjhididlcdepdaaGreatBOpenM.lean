import Derived.Test.YtjhididlcdepdaaGreatBRgnD
set_option linter.unusedVariables false
set_option linter.unusedSimpArgs false
set_option maxRecDepth 100000
set_option maxHeartbeats 4000000
namespace Go.Proofs.YtjhididlcdepdaaGreat
open Go.ChangeShapes Go.WideShapes Go.ChangeAt Go.RowKit Slp
theorem four {α : Type} (l : List α) (h : l.length = 4) : ∃ a b c d, l = [a, b, c, d] := by
 match l, h with
 | [a, b, c, d], _ => exact ⟨a, b, c, d, rfl⟩
theorem add_at18 (b off i : Nat) : (⟨b, off, none⟩ : Addr).add i = ⟨b, off + i, none⟩ := by unfold Addr.add; split <;> simp_all
theorem pair18 (cs : List Value) (h : cs.length = 2) : ∃ a b, cs = [a, b] := by
 match cs, h with
 | [a, b], _ => exact ⟨a, b, rfl⟩
def Okq (W : World) (r : Rq) : Prop := Rw W r.2.1 r.2.2 ∧ -9223372036854775808 <= r.1 ∧ r.1 <= 9223372036854775807
theorem open_rq {H : Type} {enc : TypeId × Value -> H} {W : World} {fuel : Nat} {cs : List Value} {x : DataW H × List MemPlace} (h : DataW.trod enc Tryz.prog W 0 (fun _ => true) true fuel 38 cs = some x) (hl : cs.length = 2)
 (hsz : ∀ n ∈ x.1.weights Tryz.prog 38, n <= 140737488351232) : ∃ r : Rq, cs = rpw r ∧ Okq W r := by
 obtain ⟨a, b, rfl⟩ := pair18 cs hl
 obtain ⟨y0, y1, n, hx, _, h0, h1⟩ := trod_struct2 Tryz.underlying38 h
 have k1 : Tryz.prog.cellsOf 3 = 1 := by kernel_rfl
 have k2 : Tryz.prog.cellsOf 36 = 1 := by kernel_rfl
 simp [k1, k2, Value.cells] at h0 h1
 have hd : x.1 = .agg [y0.1, y1.1] := congrArg Prod.fst hx
 obtain ⟨i, e3, _, wi⟩ := DataW.trod_int Tryz.underlying3 h0
 have e3' : a = .int .i64 i := by simpa using e3
 subst e3'
 have hb : Tryz.prog.bytesOf 64 = 8 := by kernel_rfl
 obtain ⟨zs, r0⟩ := open_part h1 (fun elems spare he => by
  have := hsz ((elems.length + spare.length) * Tryz.prog.bytesOf 64) (by
   rw [hd]
   simp only [DataW.weights, Tryz.underlying38]
   simp [DataW.weightsEach]
   rw [he]; simp [DataW.weights, Tryz.underlying36])
  rw [hb] at this; exact this)
 exact ⟨(i, b, zs), rfl, r0, bounds_i64 wi⟩
theorem pickq {W : World} {ad : Addr} : ∀ len : Nat, (∀ i, i < len -> ∃ o, Okq W o ∧ ∀ j u, (rpw o)[j]? = some u -> W.cell? ((ad.add (i * 2)).add j) = some u) -> ∃ os : List Rq, os.length = len ∧ ∀ i o, os[i]? = some o -> Okq W o ∧ ∀ j u, (rpw o)[j]? = some u -> W.cell? ((ad.add (i * 2)).add j) = some u
 | 0, _ => ⟨[], rfl, fun i o h => by simp at h⟩
 | k + 1, each => by
  obtain ⟨os, h1, h2⟩ := pickq k (fun i hi => each i (by omega))
  obtain ⟨o, h3, h4⟩ := each k (by omega)
  refine ⟨os ++ [o], by simp [h1], fun i q hq => ?_⟩
  rcases Nat.lt_or_ge i k with hi | hi
  · rw [List.getElem?_append_left (by omega)] at hq; exact h2 i q hq
  · have : i = k := by have := (List.getElem?_eq_some_iff.1 hq).1; simp at this; omega
    subst this
    rw [List.getElem?_append_right (by omega), h1, Nat.sub_self] at hq
    have : o = q := by simpa using hq
    subst this
    exact ⟨h3, h4⟩
theorem open_rpl {H : Type} {enc : TypeId × Value -> H} {W : World} {a : Option Addr} {ln cp : Nat} {d : DataW H} {p : List MemPlace}
 (h : DataW.Trod enc Tryz.prog W 0 (fun _ => true) true 25 (.slice a ln cp) d p) (hsz : ∀ n ∈ d.weights Tryz.prog 25, n <= 140737488351232) : ∃ us, Rpl W (.slice a ln cp) us := by
 obtain ⟨fuel, hf⟩ := h
 have hf : DataW.trod enc Tryz.prog W 0 (fun _ => true) true fuel 25 [.slice a ln cp] = some (d, p) := by simpa [Value.cells] using hf
 have hce : Tryz.prog.cellsOf 38 = 2 := by kernel_rfl
 have hb32 : Tryz.prog.bytesOf 38 = 32 := by kernel_rfl
 rcases DataW.trod_slice Tryz.underlying25 hf with ⟨hcs, _⟩ | ⟨ad, len, cap, elems, rest, n, _, hcs, hx, _, hl, hm, hlen, hel, _, _⟩
 · have hcs : Value.slice a ln cp = .slice none 0 0 := by simpa using hcs
   rw [hcs]
   exact ⟨[], rpl_nil W⟩
 · have hcs : Value.slice a ln cp = .slice (some ad) len cap := by simpa using hcs
   rw [hcs]
   have hd : d = .slice (elems.map (·.1)) (rest.map (·.1)) := congrArg Prod.fst hx
   subst hd
   have hW : ∀ k, k ∈ DataW.weightsAll Tryz.prog 38 (elems.map (·.1)) -> k <= 140737488351232 := fun k hk => hsz k (by
    simp only [DataW.weights, Tryz.underlying25, List.mem_cons, List.mem_append]
    exact .inr (.inl hk))
   have hlen2 : len * 32 <= 140737488351232 := by
    have := hsz ((elems.map (·.1)).length * 32 + (rest.map (·.1)).length * 32) (by
     simp only [DataW.weights, Tryz.underlying25, hb32, List.mem_cons]
     left; rw [Nat.add_mul])
    simp only [List.length_map] at this
    omega
   have each : ∀ i, i < len -> ∃ o, Okq W o ∧ ∀ j u, (rpw o)[j]? = some u -> W.cell? ((ad.add (i * 2)).add j) = some u := by
    intro i hi
    have h1 := hel i hi
    rw [hce, List.getElem?_eq_getElem (by omega), Option.bind_eq_some_iff] at h1
    obtain ⟨cs, hc1, hc2⟩ := h1
    obtain ⟨_, hcl, hcc⟩ := World.cells?_some hc1
    have hmem : (elems[i]'(by omega)).1 ∈ elems.map (·.1) := List.mem_map.2 ⟨_, List.getElem_mem (by omega), rfl⟩
    obtain ⟨o, ho, hok⟩ := open_rq hc2 hcl (fun k hk => hW k (weights_part hmem hk))
    refine ⟨o, hok, fun j u hu => ?_⟩
    have hj : j < 2 := by have := (List.getElem?_eq_some_iff.1 hu).1; rwa [rpw_len] at this
    rw [hcc j hj, ho]; exact hu
   obtain ⟨os, hol, hos⟩ := pickq len each
   have hok : ∀ o ∈ os, Okq W o := fun o ho => by
    obtain ⟨i, hi⟩ := List.getElem?_of_mem ho
    exact (hos i o hi).1
   refine ⟨os, ⟨some ad, cap, by rw [hol], ⟨by omega, by omega, fun h => by cases h⟩, fun hne => ?_⟩, fun o ho => (hok o ho).1, fun o ho => (hok o ho).2, by omega⟩
   have hpos : 0 < len := by rw [<- hol]; exact List.length_pos_iff.2 hne
   obtain ⟨b, off, spot⟩ := ad
   have hc0 := (hos 0 os[0] (List.getElem?_eq_getElem (by omega))).2 0 _ rfl
   have hspot : spot = none := by
    have := World.cell?_spot hc0
    simpa [Addr.add] using this
   subst hspot
   have hc0' := hc0
   rw [add_at18, add_at18] at hc0'
   refine ⟨b, off, rfl, World.block_lt_of_cell? W _ hc0', fun i x hx j u hu => ?_⟩
   have := (hos i x hx).2 j u hu
   rw [add_at18, add_at18] at this
   rw [<- Nat.add_assoc]; exact this
end Go.Proofs.YtjhididlcdepdaaGreat
