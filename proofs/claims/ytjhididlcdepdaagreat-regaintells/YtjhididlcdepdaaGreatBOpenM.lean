import Derived.Test.YtjhididlcdepdaaGreatBRgnD
set_option linter.unusedVariables false
set_option linter.unusedSimpArgs false
set_option maxRecDepth 100000
set_option maxHeartbeats 4000000
namespace Go.Proofs.YtjhididlcdepdaaGreat
open Go.ChangeShapes Go.WideShapes Go.ChangeAt Go.RowKit Slp
theorem add_atM (b off i : Nat) : (⟨b, off, none⟩ : Addr).add i = ⟨b, off + i, none⟩ := by unfold Addr.add; split <;> simp_all
theorem open_lmi {H : Type} {enc : TypeId × Value -> H} {W : World} {fuel : Nat} {c : Value} {x : DataW H × List MemPlace} (h : DataW.trod enc Tryz.prog W 0 (fun _ => true) true fuel 27 [c] = some x)
 (hsz : ∀ elems spare, x.1 = .slice elems spare -> (elems.length + spare.length) * 8 <= 140737488351232) : ∃ xs, Lm iw 1 W c xs ∧ Iw xs ∧ xs.length * 8 <= 140737488351232 := by
 rcases open_ints Tryz.underlying27 Tryz.underlying3 (by kernel_rfl) h with ⟨hcs, _⟩ | ⟨ad, l, cp, zs, hcs, _, hl, hm, hz, hx, hcell, hwz⟩
 · obtain rfl : c = .slice none 0 0 := by simpa using hcs
   exact ⟨[], ⟨none, 0, rfl, ⟨Nat.le_refl _, by decide, fun _ => rfl⟩, fun h => absurd rfl h⟩, (fun x hx => by cases hx), by decide⟩
 · obtain rfl : c = .slice (some ad) l cp := by simpa using hcs
   have hs := hsz _ _ (congrArg Prod.fst hx)
   simp only [lits, List.length_map, List.length_take, List.length_drop] at hs
   have hzc : zs.length = cp := by simpa using hz
   have hlen : (zs.take l).length = l := by rw [List.length_take]; omega
   refine ⟨zs.take l, ⟨some ad, cp, by rw [hlen], ⟨by rw [hlen]; exact hl, by rw [hlen]; omega, fun h => by cases h⟩, fun hne => ?_⟩, fun n hn => bounds_i64 (hwz n (List.mem_of_mem_take hn)), by rw [hlen]; omega⟩
   have hpos : 0 < l := by rw [<- hlen]; exact List.length_pos_iff.2 hne
   obtain ⟨b, off, spot⟩ := ad
   have hc0 := hcell 0 (by omega)
   have hspot : spot = none := by simpa [Addr.add] using World.cell?_spot hc0
   subst hspot
   rw [add_atM] at hc0
   refine ⟨b, off, rfl, World.block_lt_of_cell? W _ hc0, fun i x hx j u hu => ?_⟩
   have hj : j = 0 := by have := (List.getElem?_eq_some_iff.1 hu).1; rw [iw_len] at this; omega
   subst hj
   have hi : i < l := by have := (List.getElem?_eq_some_iff.1 hx).1; omega
   have h1 := hcell i (by omega)
   rw [add_atM] at h1
   rw [show off + (i * 1 + 0) = off + i by omega, h1]
   have h2 : zs.getD i 0 = x := by
    rw [List.getElem?_take_of_lt hi] at hx
    rw [List.getD_eq_getElem?_getD, hx]; rfl
   rw [h2]
   simpa [iw] using hu
theorem four {α : Type} (l : List α) (h : l.length = 4) : ∃ a b c d, l = [a, b, c, d] := by
 match l, h with
 | [a, b, c, d], _ => exact ⟨a, b, c, d, rfl⟩
theorem open_op {H : Type} {enc : TypeId × Value -> H} {W : World} {fuel : Nat} {cs : List Value} {x : DataW H × List MemPlace} (h : DataW.trod enc Tryz.prog W 0 (fun _ => true) true fuel 159 cs = some x) (hl : cs.length = 4) : ∃ o, cs = opw o ∧ Ok4 o := by
 obtain ⟨a, b, c, d, rfl⟩ := four cs hl
 obtain ⟨y0, y1, y2, y3, n, _, _, h0, h1, h2, h3⟩ := Joins.trod_struct4 Tryz.underlying159 h
 have k1 : Tryz.prog.cellsOf 157 = 1 := by kernel_rfl
 have k2 : Tryz.prog.cellsOf 3 = 1 := by kernel_rfl
 have k3 : Tryz.prog.cellsOf 64 = 1 := by kernel_rfl
 simp [k1, k2, k3] at h0 h1 h2 h3
 obtain ⟨n0, e0, _, w0⟩ := DataW.trod_int Tryz.underlying157 h0
 obtain ⟨n1, e1, _, w1⟩ := DataW.trod_int Tryz.underlying3 h1
 obtain ⟨n2, e2, _, w2⟩ := DataW.trod_int Tryz.underlying3 h2
 obtain ⟨n3, e3, _, w3⟩ := DataW.trod_int Tryz.underlying64 h3
 simp at e0 e1 e2 e3
 refine ⟨⟨n0, n1, n2, n3⟩, by rw [e0, e1, e2, e3]; rfl, bounds_u8 w0, bounds_i64 w1, bounds_i64 w2, bounds_u64 w3⟩
theorem pick4 {W : World} {ad : Addr} : ∀ len : Nat, (∀ i, i < len -> ∃ o, Ok4 o ∧ ∀ j u, (opw o)[j]? = some u -> W.cell? ((ad.add (i * 4)).add j) = some u) -> ∃ os : List O4, os.length = len ∧ ∀ i o, os[i]? = some o -> Ok4 o ∧ ∀ j u, (opw o)[j]? = some u -> W.cell? ((ad.add (i * 4)).add j) = some u
 | 0, _ => ⟨[], rfl, fun i o h => by simp at h⟩
 | k + 1, each => by
  obtain ⟨os, h1, h2⟩ := pick4 k (fun i hi => each i (by omega))
  obtain ⟨o, h3, h4⟩ := each k (by omega)
  refine ⟨os ++ [o], by simp [h1], fun i q hq => ?_⟩
  rcases Nat.lt_or_ge i k with hi | hi
  · rw [List.getElem?_append_left (by omega)] at hq; exact h2 i q hq
  · have : i = k := by have := (List.getElem?_eq_some_iff.1 hq).1; simp at this; omega
    subst this
    rw [List.getElem?_append_right (by omega), h1, Nat.sub_self] at hq
    have : o = q := by simpa using hq
    subst this
    exact ⟨h3, h4⟩
theorem open_lmo {H : Type} {enc : TypeId × Value -> H} {W : World} {fuel : Nat} {c : Value} {x : DataW H × List MemPlace} (h : DataW.trod enc Tryz.prog W 0 (fun _ => true) true fuel 47 [c] = some x)
 (hsz : ∀ elems spare, x.1 = .slice elems spare -> (elems.length + spare.length) * 32 <= 140737488351232) : ∃ os, Lm opw 4 W c os ∧ (∀ o ∈ os, Ok4 o) ∧ os.length * 32 <= 140737488351232 := by
 have hce : Tryz.prog.cellsOf 159 = 4 := by kernel_rfl
 rcases DataW.trod_slice Tryz.underlying47 h with ⟨hcs, _⟩ | ⟨ad, len, cap, elems, rest, n, _, hcs, hx, _, hl, hm, hlen, hel, _, _⟩
 · obtain rfl : c = .slice none 0 0 := by simpa using hcs
   exact ⟨[], ⟨none, 0, rfl, ⟨Nat.le_refl _, by decide, fun _ => rfl⟩, fun h => absurd rfl h⟩, (fun x hx => by cases hx), by decide⟩
 · obtain rfl : c = .slice (some ad) len cap := by simpa using hcs
   have hs := hsz _ _ (congrArg Prod.fst hx)
   simp only [List.length_map] at hs
   have each : ∀ i, i < len -> ∃ o, Ok4 o ∧ ∀ j u, (opw o)[j]? = some u -> W.cell? ((ad.add (i * 4)).add j) = some u := by
    intro i hi
    have h1 := hel i hi
    rw [hce, List.getElem?_eq_getElem (by omega), Option.bind_eq_some_iff] at h1
    obtain ⟨cs, hc1, hc2⟩ := h1
    obtain ⟨_, hcl, hcc⟩ := World.cells?_some hc1
    obtain ⟨o, ho, hok⟩ := open_op hc2 hcl
    refine ⟨o, hok, fun j u hu => ?_⟩
    have hj : j < 4 := by have := (List.getElem?_eq_some_iff.1 hu).1; rwa [opw_len] at this
    rw [hcc j hj, ho]; exact hu
   obtain ⟨os, hol, hos⟩ := pick4 len each
   refine ⟨os, ⟨some ad, cap, by rw [hol], ⟨by omega, by omega, fun h => by cases h⟩, fun hne => ?_⟩, fun o ho => ?_, by omega⟩
   · have hpos : 0 < len := by rw [<- hol]; exact List.length_pos_iff.2 hne
     obtain ⟨b, off, spot⟩ := ad
     have hc0 := (hos 0 os[0] (List.getElem?_eq_getElem (by omega))).2 0 _ rfl
     have hspot : spot = none := by
      have := World.cell?_spot hc0
      simpa [Addr.add] using this
     subst hspot
     have hc0' := hc0
     rw [add_atM, add_atM] at hc0'
     refine ⟨b, off, rfl, World.block_lt_of_cell? W _ hc0', fun i x hx j u hu => ?_⟩
     have := (hos i x hx).2 j u hu
     rw [add_atM, add_atM] at this
     rw [<- Nat.add_assoc]; exact this
   · obtain ⟨i, hi⟩ := List.getElem?_of_mem ho
     exact (hos i o hi).1
theorem open_pmc {H : Type} {enc : TypeId × Value -> H} {W : World} {fuel : Nat} {c0 c1 c2 : Value} {x : DataW H × List MemPlace} (h : DataW.trod enc Tryz.prog W 0 (fun _ => true) true fuel 49 [c0, c1, c2] = some x)
 (hsz : ∀ n ∈ x.1.weights Tryz.prog 49, n <= 140737488351232) : ∃ q, Pm W (.agg #[c0, c1, c2]) q := by
 obtain ⟨y0, y1, y2, n, hx, _, h0, h1, h2⟩ := Go.Deep.trod_struct3 Tryz.underlying49 h
 have k1 : Tryz.prog.cellsOf 3 = 1 := by kernel_rfl
 have k2 : Tryz.prog.cellsOf 47 = 1 := by kernel_rfl
 have k3 : Tryz.prog.cellsOf 27 = 1 := by kernel_rfl
 simp [k1, k2, k3] at h0 h1 h2
 have hd : x.1 = .agg [y0.1, y1.1, y2.1] := congrArg Prod.fst hx
 rw [hd] at hsz
 obtain ⟨n0, e0, _, w0⟩ := DataW.trod_int Tryz.underlying3 h0
 have e0' : c0 = .int .i64 n0 := by simpa using e0
 subst e0'
 have hb8 : Tryz.prog.bytesOf 3 = 8 := by kernel_rfl
 have hb32 : Tryz.prog.bytesOf 159 = 32 := by kernel_rfl
 obtain ⟨os, ho, hok, _⟩ := open_lmo h1 (fun el sp he => by
  have := hsz ((el.length + sp.length) * Tryz.prog.bytesOf 159) (by
   simp only [DataW.weights, Tryz.underlying49]
   rw [he]
   simp [DataW.weightsEach, DataW.weights, Tryz.underlying47])
  rw [hb32] at this; exact this)
 obtain ⟨us, hu, huk, _⟩ := open_lmi h2 (fun el sp he => by
  have := hsz ((el.length + sp.length) * Tryz.prog.bytesOf 3) (by
   simp only [DataW.weights, Tryz.underlying49]
   rw [he]
   simp [DataW.weightsEach, DataW.weights, Tryz.underlying27])
  rw [hb8] at this; exact this)
 exact ⟨⟨n0, os, us⟩, ⟨_, _, rfl, ho, hu⟩, bounds_i64 w0, hok, huk⟩
theorem add_at18 (b off i : Nat) : (⟨b, off, none⟩ : Addr).add i = ⟨b, off + i, none⟩ := by unfold Addr.add; split <;> simp_all
theorem pair18 (cs : List Value) (h : cs.length = 2) : ∃ a b, cs = [a, b] := by
 match cs, h with
 | [a, b], _ => exact ⟨a, b, rfl⟩
def Okq (W : World) (r : Rq) : Prop := Rw W r.2.1 r.2.2 ∧ -9223372036854775808 <= r.1 ∧ r.1 <= 9223372036854775807
theorem open_rq {H : Type} {enc : TypeId × Value -> H} {W : World} {fuel : Nat} {cs : List Value} {x : DataW H × List MemPlace} (h : DataW.trod enc Tryz.prog W 0 (fun _ => true) true fuel 38 cs = some x) (hl : cs.length = 2)
 (hsz : ∀ n ∈ x.1.weights Tryz.prog 38, n <= 140737488351232) : ∃ r : Rq, cs = rpw r ∧ Okq W r := by
 obtain ⟨a, b, rfl⟩ := pair18 cs hl
 obtain ⟨y0, y1, n, hx, _, h0, h1⟩ := trod_struct2 Tryz.underlying38 h
 have k1 : Tryz.prog.cellsOf 3 = 1 := by kernel_rfl
 have k2 : Tryz.prog.cellsOf 36 = 1 := by kernel_rfl
 simp [k1, k2, Value.cells] at h0 h1
 have hd : x.1 = .agg [y0.1, y1.1] := congrArg Prod.fst hx
 obtain ⟨i, e3, _, wi⟩ := DataW.trod_int Tryz.underlying3 h0
 have e3' : a = .int .i64 i := by simpa using e3
 subst e3'
 have hb : Tryz.prog.bytesOf 64 = 8 := by kernel_rfl
 obtain ⟨zs, r0⟩ := open_part h1 (fun elems spare he => by
  have := hsz ((elems.length + spare.length) * Tryz.prog.bytesOf 64) (by
   rw [hd]
   simp only [DataW.weights, Tryz.underlying38]
   simp [DataW.weightsEach]
   rw [he]; simp [DataW.weights, Tryz.underlying36])
  rw [hb] at this; exact this)
 exact ⟨(i, b, zs), rfl, r0, bounds_i64 wi⟩
theorem pickq {W : World} {ad : Addr} : ∀ len : Nat, (∀ i, i < len -> ∃ o, Okq W o ∧ ∀ j u, (rpw o)[j]? = some u -> W.cell? ((ad.add (i * 2)).add j) = some u) -> ∃ os : List Rq, os.length = len ∧ ∀ i o, os[i]? = some o -> Okq W o ∧ ∀ j u, (rpw o)[j]? = some u -> W.cell? ((ad.add (i * 2)).add j) = some u
 | 0, _ => ⟨[], rfl, fun i o h => by simp at h⟩
 | k + 1, each => by
  obtain ⟨os, h1, h2⟩ := pickq k (fun i hi => each i (by omega))
  obtain ⟨o, h3, h4⟩ := each k (by omega)
  refine ⟨os ++ [o], by simp [h1], fun i q hq => ?_⟩
  rcases Nat.lt_or_ge i k with hi | hi
  · rw [List.getElem?_append_left (by omega)] at hq; exact h2 i q hq
  · have : i = k := by have := (List.getElem?_eq_some_iff.1 hq).1; simp at this; omega
    subst this
    rw [List.getElem?_append_right (by omega), h1, Nat.sub_self] at hq
    have : o = q := by simpa using hq
    subst this
    exact ⟨h3, h4⟩
theorem open_rpl {H : Type} {enc : TypeId × Value -> H} {W : World} {a : Option Addr} {ln cp : Nat} {d : DataW H} {p : List MemPlace}
 (h : DataW.Trod enc Tryz.prog W 0 (fun _ => true) true 25 (.slice a ln cp) d p) (hsz : ∀ n ∈ d.weights Tryz.prog 25, n <= 140737488351232) : ∃ us, Rpl W (.slice a ln cp) us := by
 obtain ⟨fuel, hf⟩ := h
 have hf : DataW.trod enc Tryz.prog W 0 (fun _ => true) true fuel 25 [.slice a ln cp] = some (d, p) := by simpa [Value.cells] using hf
 have hce : Tryz.prog.cellsOf 38 = 2 := by kernel_rfl
 have hb32 : Tryz.prog.bytesOf 38 = 32 := by kernel_rfl
 rcases DataW.trod_slice Tryz.underlying25 hf with ⟨hcs, _⟩ | ⟨ad, len, cap, elems, rest, n, _, hcs, hx, _, hl, hm, hlen, hel, _, _⟩
 · have hcs : Value.slice a ln cp = .slice none 0 0 := by simpa using hcs
   rw [hcs]
   exact ⟨[], rpl_nil W⟩
 · have hcs : Value.slice a ln cp = .slice (some ad) len cap := by simpa using hcs
   rw [hcs]
   have hd : d = .slice (elems.map (·.1)) (rest.map (·.1)) := congrArg Prod.fst hx
   subst hd
   have hW : ∀ k, k ∈ DataW.weightsAll Tryz.prog 38 (elems.map (·.1)) -> k <= 140737488351232 := fun k hk => hsz k (by
    simp only [DataW.weights, Tryz.underlying25, List.mem_cons, List.mem_append]
    exact .inr (.inl hk))
   have hlen2 : len * 32 <= 140737488351232 := by
    have := hsz ((elems.map (·.1)).length * 32 + (rest.map (·.1)).length * 32) (by
     simp only [DataW.weights, Tryz.underlying25, hb32, List.mem_cons]
     left; rw [Nat.add_mul])
    simp only [List.length_map] at this
    omega
   have each : ∀ i, i < len -> ∃ o, Okq W o ∧ ∀ j u, (rpw o)[j]? = some u -> W.cell? ((ad.add (i * 2)).add j) = some u := by
    intro i hi
    have h1 := hel i hi
    rw [hce, List.getElem?_eq_getElem (by omega), Option.bind_eq_some_iff] at h1
    obtain ⟨cs, hc1, hc2⟩ := h1
    obtain ⟨_, hcl, hcc⟩ := World.cells?_some hc1
    have hmem : (elems[i]'(by omega)).1 ∈ elems.map (·.1) := List.mem_map.2 ⟨_, List.getElem_mem (by omega), rfl⟩
    obtain ⟨o, ho, hok⟩ := open_rq hc2 hcl (fun k hk => hW k (weights_part hmem hk))
    refine ⟨o, hok, fun j u hu => ?_⟩
    have hj : j < 2 := by have := (List.getElem?_eq_some_iff.1 hu).1; rwa [rpw_len] at this
    rw [hcc j hj, ho]; exact hu
   obtain ⟨os, hol, hos⟩ := pickq len each
   have hok : ∀ o ∈ os, Okq W o := fun o ho => by
    obtain ⟨i, hi⟩ := List.getElem?_of_mem ho
    exact (hos i o hi).1
   refine ⟨os, ⟨some ad, cap, by rw [hol], ⟨by omega, by omega, fun h => by cases h⟩, fun hne => ?_⟩, fun o ho => (hok o ho).1, fun o ho => (hok o ho).2, by omega⟩
   have hpos : 0 < len := by rw [<- hol]; exact List.length_pos_iff.2 hne
   obtain ⟨b, off, spot⟩ := ad
   have hc0 := (hos 0 os[0] (List.getElem?_eq_getElem (by omega))).2 0 _ rfl
   have hspot : spot = none := by
    have := World.cell?_spot hc0
    simpa [Addr.add] using this
   subst hspot
   have hc0' := hc0
   rw [add_at18, add_at18] at hc0'
   refine ⟨b, off, rfl, World.block_lt_of_cell? W _ hc0', fun i x hx j u hu => ?_⟩
   have := (hos i x hx).2 j u hu
   rw [add_at18, add_at18] at this
   rw [<- Nat.add_assoc]; exact this
theorem form_of_trod {H : Type} {enc : TypeId × Value -> H} {W : World} {m : Nat} {c : Value} {T E : TypeId} {y : DataW H × List MemPlace} (hT : Tryz.prog.underlying T = some (.slice E)) (hg : DataW.trod enc Tryz.prog W 0 (fun _ => true) true m T [c] = some y) : ∃ a len cap, c = .slice a len cap := by
 cases m with
 | zero => simp [DataW.trod] at hg
 | succ m =>
  unfold DataW.trod at hg
  rw [hT] at hg
  cases c <;> simp at hg
  exact ⟨_, _, _, rfl⟩
theorem five18 (cs : List Value) (h : cs.length = 5) : ∃ a b c d e, cs = [a, b, c, d, e] := by
 match cs, h with
 | [a, b, c, d, e], _ => exact ⟨a, b, c, d, e, rfl⟩
theorem open_rnd {H : Type} {enc : TypeId × Value -> H} {W : World} {v : Value} {d : DataW H} {p : List MemPlace} {r : Reach} {b0 : Nat}
 (hv : Value.okWide Tryz.prog W r b0 51 v) (h : DataW.Trod enc Tryz.prog W 0 (fun _ => true) true 51 v d p)
 (hsz : ∀ n ∈ d.weights Tryz.prog 51, n <= 140737488351232) : ∃ c0 c1 c2 c3 c4 q xss yss, v = .agg #[c0, c1, c2, c3, c4] ∧ Pm W (.agg #[c0, c1, c2]) q ∧ Rws W c3 xss ∧ Rws W c4 yss := by
 have hC : Tryz.prog.cellsOf 51 = 5 := by kernel_rfl
 obtain ⟨cs, rfl, hs⟩ := okWide_struct Tryz.underlying51 hv
 obtain ⟨fuel, hf⟩ := h
 have hl : cs.toList.length = 5 := by rw [Array.length_toList]; exact hs.trans hC
 obtain ⟨c0, c1, c2, c3, c4, e⟩ := five18 cs.toList hl
 obtain rfl : cs = #[c0, c1, c2, c3, c4] := Array.toList_inj.1 e
 obtain ⟨y0, y1, y2, m, hx, _, h0, h1, h2⟩ := Go.Deep.trod_struct3 Tryz.underlying51 hf
 have k1 : Tryz.prog.cellsOf 49 = 3 := by kernel_rfl
 have k2 : Tryz.prog.cellsOf 26 = 1 := by kernel_rfl
 simp [k1, k2, Value.cells] at h0 h1 h2
 have hd : d = .agg [y0.1, y1.1, y2.1] := congrArg Prod.fst hx
 subst hd
 obtain ⟨q, hq⟩ := open_pmc h0 (fun n hn => hsz n (by
  simp only [DataW.weights, Tryz.underlying51]
  simp [DataW.weightsEach]
  exact .inl hn))
 obtain ⟨a1, l1, p1, rfl⟩ := form_of_trod Tryz.underlying26 h1
 obtain ⟨a2, l2, p2, rfl⟩ := form_of_trod Tryz.underlying26 h2
 obtain ⟨xss, r1, _⟩ := open_rws (d := y1.1) (p := y1.2) ⟨m, by simpa [Value.cells] using h1⟩ (fun n hn => hsz n (by
  simp only [DataW.weights, Tryz.underlying51]
  simp [DataW.weightsEach]
  exact .inr (.inl hn)))
 obtain ⟨yss, r2, _⟩ := open_rws (d := y2.1) (p := y2.2) ⟨m, by simpa [Value.cells] using h2⟩ (fun n hn => hsz n (by
  simp only [DataW.weights, Tryz.underlying51]
  simp [DataW.weightsEach]
  exact .inr (.inr hn)))
 exact ⟨c0, c1, c2, _, _, q, xss, yss, rfl, hq, r1, r2⟩
end Go.Proofs.YtjhididlcdepdaaGreat
