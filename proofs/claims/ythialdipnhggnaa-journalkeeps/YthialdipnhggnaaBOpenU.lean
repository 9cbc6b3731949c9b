import Derived.Test.YthialdipnhggnaaBOpenB
import Derived.Lib.SmallJoins
set_option linter.unusedVariables false
set_option linter.unusedSimpArgs false
set_option maxRecDepth 100000
set_option maxHeartbeats 4000000
namespace Go.Proofs.Ythialdipnhggnaa
open Go.ChangeShapes Go.WideShapes Go.ChangeAt Go.RowKit
structure Sq3 where
 c : Int
 u : Value
 bs : List Int
 n : Int
def sqc3 (s : Sq3) : List Value := [.int .u8 s.c, s.u, .int .i64 s.n]
theorem sqc3_len (s : Sq3) : (sqc3 s).length = 3 := rfl
structure Okq23 (W : World) (s : Sq3) : Prop where
 rb : Rb W s.u s.bs
 len : s.bs.length <= 140737488351232
 c : 0 <= s.c ∧ s.c <= 255
 n : -9223372036854775808 <= s.n ∧ s.n <= 9223372036854775807
structure Scr3 (W : World) (v : Value) (ss : List Sq3) : Prop where
 lm : Lm sqc3 3 W v ss
 ok : ∀ s ∈ ss, Okq23 W s
 len : ss.length <= 3518437208780
theorem add_atU (b off i : Nat) : (⟨b, off, none⟩ : Addr).add i = ⟨b, off + i, none⟩ := by unfold Addr.add; split <;> simp_all
theorem form_of_trodU {H : Type} {enc : TypeId × Value -> H} {W : World} {m : Nat} {c : Value} {T E : TypeId} {y : DataW H × List MemPlace} (hT : Try.prog.underlying T = some (.slice E)) (hg : DataW.trod enc Try.prog W 0 (fun _ => true) true m T [c] = some y) : ∃ a len cap, c = .slice a len cap := by
 cases m with
 | zero => simp [DataW.trod] at hg
 | succ m =>
  unfold DataW.trod at hg
  rw [hT] at hg
  cases c <;> simp at hg
  exact ⟨_, _, _, rfl⟩
theorem list_threeU {α : Type} {cs : List α} (h : cs.length = 3) : ∃ c0 c1 c2, cs = [c0, c1, c2] := by
 match cs, h with
 | [c0, c1, c2], _ => exact ⟨c0, c1, c2, rfl⟩
theorem weights_partU {H : Type} {e : TypeId} {l : List (DataW H)} {y : DataW H} {n : Nat} (hy : y ∈ l) (hn : n ∈ y.weights Try.prog e) : n ∈ DataW.weightsAll Try.prog e l := by
 induction l with
 | nil => cases hy
 | cons a l ih =>
  simp only [DataW.weightsAll, List.mem_append]
  rcases List.mem_cons.1 hy with rfl | h
  · exact .inl hn
  · exact .inr (ih h)
theorem open_sq3 {H : Type} {enc : TypeId × Value -> H} {W : World} {fuel : Nat} {cs : List Value} {x : DataW H × List MemPlace} (hf : DataW.trod enc Try.prog W 0 (fun _ => true) true fuel 38 cs = some x) (hl : cs.length = 3)
 (hsz : ∀ n ∈ x.1.weights Try.prog 38, n <= 140737488351232) : ∃ s : Sq3, cs = sqc3 s ∧ Okq23 W s := by
 obtain ⟨c0, c1, c2, rfl⟩ := list_threeU hl
 obtain ⟨xs, n, _, hx, _, hlen, hg⟩ := DataW.trod_struct Try.underlying38 hf
 have h3 : xs.length = 3 := hlen
 obtain ⟨y0, y1, y2, rfl⟩ := list_threeU h3
 have k0 : Try.prog.cellsOf 5 = 1 := by kernel_rfl
 have k1 : Try.prog.cellsOf 23 = 1 := by kernel_rfl
 have k2 : Try.prog.cellsOf 3 = 1 := by kernel_rfl
 have h0 := hg 0 _ rfl
 have h1 := hg 1 _ rfl
 have h2 := hg 2 _ rfl
 simp [k0, k1, k2, Value.cells] at h0 h1 h2
 obtain ⟨n0, e0, _, w0⟩ := DataW.trod_int Try.underlying5 h0
 obtain ⟨n2, e2, _, w2⟩ := DataW.trod_int Try.underlying3 h2
 simp at e0 e2
 subst e0 e2
 have hb : Try.prog.bytesOf 5 = 1 := by kernel_rfl
 have hd : x.1 = .agg ([y0, y1, y2].map (·.1)) := congrArg Prod.fst hx
 obtain ⟨ao, ln, cp, rfl⟩ := form_of_trodU Try.underlying23 h1
 obtain ⟨bs, r0, rl⟩ := open_rb (d := y1.1) (p := y1.2) ⟨_, by simpa [Value.cells] using h1⟩ (fun elems spare he => by
  have := hsz ((elems.length + spare.length) * Try.prog.bytesOf 5) (by
   rw [hd]
   simp only [DataW.weights, Try.underlying38]
   simp [DataW.weightsEach]
   rw [he]; simp [DataW.weights, Try.underlying23])
  rw [hb] at this; exact this)
 exact ⟨⟨n0, .slice ao ln cp, bs, n2⟩, rfl, ⟨r0, rl, bounds_u8 w0, bounds_i64 w2⟩⟩
theorem pickU {W : World} {ad : Addr} : ∀ len : Nat, (∀ i, i < len -> ∃ o, Okq23 W o ∧ ∀ j u, (sqc3 o)[j]? = some u -> W.cell? ((ad.add (i * 3)).add j) = some u) -> ∃ os : List Sq3, os.length = len ∧ ∀ i o, os[i]? = some o -> Okq23 W o ∧ ∀ j u, (sqc3 o)[j]? = some u -> W.cell? ((ad.add (i * 3)).add j) = some u
 | 0, _ => ⟨[], rfl, fun i o h => by simp at h⟩
 | k + 1, each => by
  obtain ⟨os, h1, h2⟩ := pickU k (fun i hi => each i (by omega))
  obtain ⟨o, h3, h4⟩ := each k (by omega)
  refine ⟨os ++ [o], by simp [h1], fun i q hq => ?_⟩
  rcases Nat.lt_or_ge i k with hi | hi
  · rw [List.getElem?_append_left (by omega)] at hq; exact h2 i q hq
  · have : i = k := by have := (List.getElem?_eq_some_iff.1 hq).1; simp at this; omega
    subst this
    rw [List.getElem?_append_right (by omega), h1, Nat.sub_self] at hq
    have : o = q := by simpa using hq
    subst this
    exact ⟨h3, h4⟩
theorem open_scr3 {H : Type} {enc : TypeId × Value -> H} {W : World} {a : Option Addr} {ln cp : Nat} {d : DataW H} {p : List MemPlace}
 (h : DataW.Trod enc Try.prog W 0 (fun _ => true) true 31 (.slice a ln cp) d p) (hsz : ∀ n ∈ d.weights Try.prog 31, n <= 140737488351232) : ∃ us, Scr3 W (.slice a ln cp) us := by
 obtain ⟨fuel, hf⟩ := h
 have hf : DataW.trod enc Try.prog W 0 (fun _ => true) true fuel 31 [.slice a ln cp] = some (d, p) := by simpa [Value.cells] using hf
 have hce : Try.prog.cellsOf 38 = 3 := by kernel_rfl
 have hb48 : Try.prog.bytesOf 38 = 40 := by kernel_rfl
 rcases DataW.trod_slice Try.underlying31 hf with ⟨hcs, _⟩ | ⟨ad, len, cap, elems, rest, n, _, hcs, hx, _, hl, hm, hlen, hel, _, _⟩
 · have hcs : Value.slice a ln cp = .slice none 0 0 := by simpa using hcs
   rw [hcs]
   exact ⟨[], lm_nil _ _ _, (fun s hs => by cases hs), by simp⟩
 · have hcs : Value.slice a ln cp = .slice (some ad) len cap := by simpa using hcs
   rw [hcs]
   have hd : d = .slice (elems.map (·.1)) (rest.map (·.1)) := congrArg Prod.fst hx
   subst hd
   have hW : ∀ k, k ∈ DataW.weightsAll Try.prog 38 (elems.map (·.1)) -> k <= 140737488351232 := fun k hk => hsz k (by
    simp only [DataW.weights, Try.underlying31, List.mem_cons, List.mem_append]
    exact .inr (.inl hk))
   have hlen2 : len * 40 <= 140737488351232 := by
    have := hsz ((elems.map (·.1)).length * 40 + (rest.map (·.1)).length * 40) (by
     simp only [DataW.weights, Try.underlying31, hb48, List.mem_cons]
     left; rw [Nat.add_mul])
    simp only [List.length_map] at this
    omega
   have each : ∀ i, i < len -> ∃ o, Okq23 W o ∧ ∀ j u, (sqc3 o)[j]? = some u -> W.cell? ((ad.add (i * 3)).add j) = some u := by
    intro i hi
    have h1 := hel i hi
    rw [hce, List.getElem?_eq_getElem (by omega), Option.bind_eq_some_iff] at h1
    obtain ⟨cs, hc1, hc2⟩ := h1
    obtain ⟨_, hcl, hcc⟩ := World.cells?_some hc1
    have hmem : (elems[i]'(by omega)).1 ∈ elems.map (·.1) := List.mem_map.2 ⟨_, List.getElem_mem (by omega), rfl⟩
    obtain ⟨o, ho, hok⟩ := open_sq3 hc2 hcl (fun k hk => hW k (weights_partU hmem hk))
    refine ⟨o, hok, fun j u hu => ?_⟩
    have hj : j < 3 := by have := (List.getElem?_eq_some_iff.1 hu).1; rwa [sqc3_len] at this
    rw [hcc j hj, ho]; exact hu
   obtain ⟨os, hol, hos⟩ := pickU len each
   have hok : ∀ o ∈ os, Okq23 W o := fun o ho => by
    obtain ⟨i, hi⟩ := List.getElem?_of_mem ho
    exact (hos i o hi).1
   refine ⟨os, ⟨some ad, cap, by rw [hol], ⟨by omega, by omega, fun h => by cases h⟩, fun hne => ?_⟩, hok, by omega⟩
   have hpos : 0 < len := by rw [<- hol]; exact List.length_pos_iff.2 hne
   obtain ⟨b, off, spot⟩ := ad
   have hc0 := (hos 0 os[0] (List.getElem?_eq_getElem (by omega))).2 0 _ rfl
   have hspot : spot = none := by
    have := World.cell?_spot hc0
    simpa [Addr.add] using this
   subst hspot
   have hc0' := hc0
   rw [add_atU, add_atU] at hc0'
   refine ⟨b, off, rfl, World.block_lt_of_cell? W _ hc0', fun i x hx j u hu => ?_⟩
   have := (hos i x hx).2 j u hu
   rw [add_atU, add_atU] at this
   rw [<- Nat.add_assoc]; exact this
end Go.Proofs.Ythialdipnhggnaa
