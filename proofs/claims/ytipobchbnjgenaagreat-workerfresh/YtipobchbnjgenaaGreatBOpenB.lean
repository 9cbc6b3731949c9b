import Derived.Test.YtipobchbnjgenaaGreatBunS
import Derived.Lib.SmallJoins
set_option linter.unusedVariables false
set_option linter.unusedSimpArgs false
set_option maxRecDepth 100000
set_option maxHeartbeats 4000000
namespace Go.Proofs.YtipobchbnjgenaaGreat
open Go.ChangeShapes Go.WideShapes Go.ChangeAt Go.RowKit
theorem u8_bytes : Tryz.prog.bytesOf 5 = 1 := by kernel_rfl
theorem open_rb {H : Type} {enc : TypeId × Value -> H} {W : World} {a : Option Addr} {len cap : Nat} {d : DataW H} {p : List MemPlace}
 (h : DataW.Trod enc Tryz.prog W 0 (fun _ => true) true 30 (.slice a len cap) d p) (hsz : ∀ elems spare, d = .slice elems spare -> (elems.length + spare.length) * 1 <= 140737488351232) :
 ∃ bs, Rb W (.slice a len cap) bs ∧ bs.length <= 140737488351232 := by
 obtain ⟨fuel, hf⟩ := h
 rcases open_ints Tryz.underlying30 Tryz.underlying5 (by kernel_rfl) hf with ⟨hcs, _⟩ | ⟨x, l, c, zs, hcs, _, hl, hm, hz, hx, hcell, hwz⟩
 · simp [Value.cells] at hcs
   obtain ⟨rfl, rfl, rfl⟩ := hcs
   exact ⟨[], rb_nil W, by simp⟩
 · simp [Value.cells] at hcs
   obtain ⟨rfl, rfl, rfl⟩ := hcs
   simp only [Prod.mk.injEq] at hx
   have hs := hsz _ _ hx.1
   simp only [lits, List.length_map, List.length_take, List.length_drop] at hs
   have hzc : zs.length = cap := by simpa using hz
   have hlen : (zs.take len).length = len := by rw [List.length_take]; omega
   refine ⟨zs.take len, ⟨some x, cap, by rw [hlen], ⟨by rw [hlen]; exact hl, by rw [hlen]; omega, fun h => by cases h⟩, fun n hn => ?_, fun hne => ?_⟩, by rw [hlen]; omega⟩
   · exact bounds_u8 (hwz n (List.mem_of_mem_take hn))
   · have hpos : 0 < len := by
      apply Nat.pos_of_ne_zero; intro h0; rw [h0] at hne; simp at hne
     obtain ⟨b, off, spot⟩ := x
     have hc0 := hcell 0 (by omega)
     have hspot : spot = none := by simpa [Addr.add] using World.cell?_spot hc0
     subst hspot
     have key : ∀ i, i < zs.length -> W.cell? ⟨b, off + i, none⟩ = some (.int .u8 (zs.getD i 0)) := fun i hi => by
      have hadd : (⟨b, off, none⟩ : Addr).add i = ⟨b, off + i, none⟩ := by unfold Addr.add; split <;> simp_all
      rw [<- hadd]; exact hcell i hi
     refine ⟨b, off, rfl, World.block_lt_of_cell? W _ (key 0 (by omega)), fun i hi => ?_⟩
     rw [key i (by rw [hlen] at hi; omega)]
     have : (zs.take len).getD i 0 = zs.getD i 0 := by
      rw [hlen] at hi
      simp [List.getD_eq_getElem?_getD, List.getElem?_take_of_lt hi]
     rw [this]
structure Sq4 where
 c : Int
 u : Value
 bs : List Int
 n : Int
def sqc4 (s : Sq4) : List Value := [.int .u8 s.c, .int .i64 s.n, s.u]
theorem sqc4_len (s : Sq4) : (sqc4 s).length = 3 := rfl
structure Okq24 (W : World) (s : Sq4) : Prop where
 rb : Rb W s.u s.bs
 len : s.bs.length <= 140737488351232
 c : 0 <= s.c ∧ s.c <= 255
 n : -9223372036854775808 <= s.n ∧ s.n <= 9223372036854775807
structure Scr4 (W : World) (v : Value) (ss : List Sq4) : Prop where
 lm : Lm sqc4 3 W v ss
 ok : ∀ s ∈ ss, Okq24 W s
 len : ss.length <= 3518437208780
theorem add_atV (b off i : Nat) : (⟨b, off, none⟩ : Addr).add i = ⟨b, off + i, none⟩ := by unfold Addr.add; split <;> simp_all
theorem form_of_trodV {H : Type} {enc : TypeId × Value -> H} {W : World} {m : Nat} {c : Value} {T E : TypeId} {y : DataW H × List MemPlace} (hT : Tryz.prog.underlying T = some (.slice E)) (hg : DataW.trod enc Tryz.prog W 0 (fun _ => true) true m T [c] = some y) : ∃ a len cap, c = .slice a len cap := by
 cases m with
 | zero => simp [DataW.trod] at hg
 | succ m =>
  unfold DataW.trod at hg
  rw [hT] at hg
  cases c <;> simp at hg
  exact ⟨_, _, _, rfl⟩
theorem list_threeV {α : Type} {cs : List α} (h : cs.length = 3) : ∃ c0 c1 c2, cs = [c0, c1, c2] := by
 match cs, h with
 | [c0, c1, c2], _ => exact ⟨c0, c1, c2, rfl⟩
theorem weights_partV {H : Type} {e : TypeId} {l : List (DataW H)} {y : DataW H} {n : Nat} (hy : y ∈ l) (hn : n ∈ y.weights Tryz.prog e) : n ∈ DataW.weightsAll Tryz.prog e l := by
 induction l with
 | nil => cases hy
 | cons a l ih =>
  simp only [DataW.weightsAll, List.mem_append]
  rcases List.mem_cons.1 hy with rfl | h
  · exact .inl hn
  · exact .inr (ih h)
theorem open_sq4 {H : Type} {enc : TypeId × Value -> H} {W : World} {fuel : Nat} {cs : List Value} {x : DataW H × List MemPlace} (hf : DataW.trod enc Tryz.prog W 0 (fun _ => true) true fuel 32 cs = some x) (hl : cs.length = 3)
 (hsz : ∀ n ∈ x.1.weights Tryz.prog 32, n <= 140737488351232) : ∃ s : Sq4, cs = sqc4 s ∧ Okq24 W s := by
 obtain ⟨c0, c1, c2, rfl⟩ := list_threeV hl
 obtain ⟨xs, n, _, hx, _, hlen, hg⟩ := DataW.trod_struct Tryz.underlying32 hf
 have h3 : xs.length = 3 := hlen
 obtain ⟨y0, y1, y2, rfl⟩ := list_threeV h3
 have k0 : Tryz.prog.cellsOf 5 = 1 := by kernel_rfl
 have k1 : Tryz.prog.cellsOf 3 = 1 := by kernel_rfl
 have k2 : Tryz.prog.cellsOf 30 = 1 := by kernel_rfl
 have h0 := hg 0 _ rfl
 have h1 := hg 1 _ rfl
 have h2 := hg 2 _ rfl
 simp [k0, k1, k2, Value.cells] at h0 h1 h2
 obtain ⟨n0, e0, _, w0⟩ := DataW.trod_int Tryz.underlying5 h0
 obtain ⟨n1, e1, _, w1⟩ := DataW.trod_int Tryz.underlying3 h1
 simp at e0 e1
 subst e0 e1
 have hb : Tryz.prog.bytesOf 5 = 1 := by kernel_rfl
 have hd : x.1 = .agg ([y0, y1, y2].map (·.1)) := congrArg Prod.fst hx
 obtain ⟨ao, ln, cp, rfl⟩ := form_of_trodV Tryz.underlying30 h2
 obtain ⟨bs, r0, rl⟩ := open_rb (d := y2.1) (p := y2.2) ⟨_, by simpa [Value.cells] using h2⟩ (fun elems spare he => by
  have := hsz ((elems.length + spare.length) * Tryz.prog.bytesOf 5) (by
   rw [hd]
   simp only [DataW.weights, Tryz.underlying32]
   simp [DataW.weightsEach]
   rw [he]; simp [DataW.weights, Tryz.underlying30])
  rw [hb] at this; exact this)
 exact ⟨⟨n0, .slice ao ln cp, bs, n1⟩, rfl, ⟨r0, rl, bounds_u8 w0, bounds_i64 w1⟩⟩
theorem pickV {W : World} {ad : Addr} : ∀ len : Nat, (∀ i, i < len -> ∃ o, Okq24 W o ∧ ∀ j u, (sqc4 o)[j]? = some u -> W.cell? ((ad.add (i * 3)).add j) = some u) -> ∃ os : List Sq4, os.length = len ∧ ∀ i o, os[i]? = some o -> Okq24 W o ∧ ∀ j u, (sqc4 o)[j]? = some u -> W.cell? ((ad.add (i * 3)).add j) = some u
 | 0, _ => ⟨[], rfl, fun i o h => by simp at h⟩
 | k + 1, each => by
  obtain ⟨os, h1, h2⟩ := pickV k (fun i hi => each i (by omega))
  obtain ⟨o, h3, h4⟩ := each k (by omega)
  refine ⟨os ++ [o], by simp [h1], fun i q hq => ?_⟩
  rcases Nat.lt_or_ge i k with hi | hi
  · rw [List.getElem?_append_left (by omega)] at hq; exact h2 i q hq
  · have : i = k := by have := (List.getElem?_eq_some_iff.1 hq).1; simp at this; omega
    subst this
    rw [List.getElem?_append_right (by omega), h1, Nat.sub_self] at hq
    have : o = q := by simpa using hq
    subst this
    exact ⟨h3, h4⟩
theorem open_scr4 {H : Type} {enc : TypeId × Value -> H} {W : World} {a : Option Addr} {ln cp : Nat} {d : DataW H} {p : List MemPlace}
 (h : DataW.Trod enc Tryz.prog W 0 (fun _ => true) true 29 (.slice a ln cp) d p) (hsz : ∀ n ∈ d.weights Tryz.prog 29, n <= 140737488351232) : ∃ us, Scr4 W (.slice a ln cp) us := by
 obtain ⟨fuel, hf⟩ := h
 have hf : DataW.trod enc Tryz.prog W 0 (fun _ => true) true fuel 29 [.slice a ln cp] = some (d, p) := by simpa [Value.cells] using hf
 have hce : Tryz.prog.cellsOf 32 = 3 := by kernel_rfl
 have hb48 : Tryz.prog.bytesOf 32 = 40 := by kernel_rfl
 rcases DataW.trod_slice Tryz.underlying29 hf with ⟨hcs, _⟩ | ⟨ad, len, cap, elems, rest, n, _, hcs, hx, _, hl, hm, hlen, hel, _, _⟩
 · have hcs : Value.slice a ln cp = .slice none 0 0 := by simpa using hcs
   rw [hcs]
   exact ⟨[], lm_nil _ _ _, (fun s hs => by cases hs), by simp⟩
 · have hcs : Value.slice a ln cp = .slice (some ad) len cap := by simpa using hcs
   rw [hcs]
   have hd : d = .slice (elems.map (·.1)) (rest.map (·.1)) := congrArg Prod.fst hx
   subst hd
   have hW : ∀ k, k ∈ DataW.weightsAll Tryz.prog 32 (elems.map (·.1)) -> k <= 140737488351232 := fun k hk => hsz k (by
    simp only [DataW.weights, Tryz.underlying29, List.mem_cons, List.mem_append]
    exact .inr (.inl hk))
   have hlen2 : len * 40 <= 140737488351232 := by
    have := hsz ((elems.map (·.1)).length * 40 + (rest.map (·.1)).length * 40) (by
     simp only [DataW.weights, Tryz.underlying29, hb48, List.mem_cons]
     left; rw [Nat.add_mul])
    simp only [List.length_map] at this
    omega
   have each : ∀ i, i < len -> ∃ o, Okq24 W o ∧ ∀ j u, (sqc4 o)[j]? = some u -> W.cell? ((ad.add (i * 3)).add j) = some u := by
    intro i hi
    have h1 := hel i hi
    rw [hce, List.getElem?_eq_getElem (by omega), Option.bind_eq_some_iff] at h1
    obtain ⟨cs, hc1, hc2⟩ := h1
    obtain ⟨_, hcl, hcc⟩ := World.cells?_some hc1
    have hmem : (elems[i]'(by omega)).1 ∈ elems.map (·.1) := List.mem_map.2 ⟨_, List.getElem_mem (by omega), rfl⟩
    obtain ⟨o, ho, hok⟩ := open_sq4 hc2 hcl (fun k hk => hW k (weights_partV hmem hk))
    refine ⟨o, hok, fun j u hu => ?_⟩
    have hj : j < 3 := by have := (List.getElem?_eq_some_iff.1 hu).1; rwa [sqc4_len] at this
    rw [hcc j hj, ho]; exact hu
   obtain ⟨os, hol, hos⟩ := pickV len each
   have hok : ∀ o ∈ os, Okq24 W o := fun o ho => by
    obtain ⟨i, hi⟩ := List.getElem?_of_mem ho
    exact (hos i o hi).1
   refine ⟨os, ⟨some ad, cap, by rw [hol], ⟨by omega, by omega, fun h => by cases h⟩, fun hne => ?_⟩, hok, by omega⟩
   have hpos : 0 < len := by rw [<- hol]; exact List.length_pos_iff.2 hne
   obtain ⟨b, off, spot⟩ := ad
   have hc0 := (hos 0 os[0] (List.getElem?_eq_getElem (by omega))).2 0 _ rfl
   have hspot : spot = none := by
    have := World.cell?_spot hc0
    simpa [Addr.add] using this
   subst hspot
   have hc0' := hc0
   rw [add_atV, add_atV] at hc0'
   refine ⟨b, off, rfl, World.block_lt_of_cell? W _ hc0', fun i x hx j u hu => ?_⟩
   have := (hos i x hx).2 j u hu
   rw [add_atV, add_atV] at this
   rw [<- Nat.add_assoc]; exact this
end Go.Proofs.YtipobchbnjgenaaGreat
