import Derived.Test.YtipobchbnjgenaaGreatBunO
import Derived.Test.YtipobchbnjgenaaGreatBunS
import Derived.Lib.SmallJoins
set_option linter.unusedVariables false
set_option linter.unusedSimpArgs false
set_option maxRecDepth 100000
set_option maxHeartbeats 4000000
namespace Go.Proofs.YtipobchbnjgenaaGreat
open Go.ChangeShapes Go.WideShapes Go.ChangeAt Go.RowKit Slp
theorem add_atM (b off i : Nat) : (⟨b, off, none⟩ : Addr).add i = ⟨b, off + i, none⟩ := by unfold Addr.add; split <;> simp_all
theorem open_lmi {H : Type} {enc : TypeId × Value -> H} {W : World} {fuel : Nat} {c : Value} {x : DataW H × List MemPlace} (h : DataW.trod enc Tryz.prog W 0 (fun _ => true) true fuel 26 [c] = some x)
 (hsz : ∀ elems spare, x.1 = .slice elems spare -> (elems.length + spare.length) * 8 <= 140737488351232) : ∃ xs, Lm iw 1 W c xs ∧ Iw xs ∧ xs.length * 8 <= 140737488351232 := by
 rcases open_ints Tryz.underlying26 Tryz.underlying3 (by kernel_rfl) h with ⟨hcs, _⟩ | ⟨ad, l, cp, zs, hcs, _, hl, hm, hz, hx, hcell, hwz⟩
 · obtain rfl : c = .slice none 0 0 := by simpa using hcs
   exact ⟨[], ⟨none, 0, rfl, ⟨Nat.le_refl _, by decide, fun _ => rfl⟩, fun h => absurd rfl h⟩, (fun x hx => by cases hx), by decide⟩
 · obtain rfl : c = .slice (some ad) l cp := by simpa using hcs
   have hs := hsz _ _ (congrArg Prod.fst hx)
   simp only [lits, List.length_map, List.length_take, List.length_drop] at hs
   have hzc : zs.length = cp := by simpa using hz
   have hlen : (zs.take l).length = l := by rw [List.length_take]; omega
   refine ⟨zs.take l, ⟨some ad, cp, by rw [hlen], ⟨by rw [hlen]; exact hl, by rw [hlen]; omega, fun h => by cases h⟩, fun hne => ?_⟩, fun n hn => bounds_i64 (hwz n (List.mem_of_mem_take hn)), by rw [hlen]; omega⟩
   have hpos : 0 < l := by rw [<- hlen]; exact List.length_pos_iff.2 hne
   obtain ⟨b, off, spot⟩ := ad
   have hc0 := hcell 0 (by omega)
   have hspot : spot = none := by simpa [Addr.add] using World.cell?_spot hc0
   subst hspot
   rw [add_atM] at hc0
   refine ⟨b, off, rfl, World.block_lt_of_cell? W _ hc0, fun i x hx j u hu => ?_⟩
   have hj : j = 0 := by have := (List.getElem?_eq_some_iff.1 hu).1; rw [iw_len] at this; omega
   subst hj
   have hi : i < l := by have := (List.getElem?_eq_some_iff.1 hx).1; omega
   have h1 := hcell i (by omega)
   rw [add_atM] at h1
   rw [show off + (i * 1 + 0) = off + i by omega, h1]
   have h2 : zs.getD i 0 = x := by
    rw [List.getElem?_take_of_lt hi] at hx
    rw [List.getD_eq_getElem?_getD, hx]; rfl
   rw [h2]
   simpa [iw] using hu
theorem four {α : Type} (l : List α) (h : l.length = 4) : ∃ a b c d, l = [a, b, c, d] := by
 match l, h with
 | [a, b, c, d], _ => exact ⟨a, b, c, d, rfl⟩
theorem open_op {H : Type} {enc : TypeId × Value -> H} {W : World} {fuel : Nat} {cs : List Value} {x : DataW H × List MemPlace} (h : DataW.trod enc Tryz.prog W 0 (fun _ => true) true fuel 85 cs = some x) (hl : cs.length = 4) : ∃ o, cs = opw o ∧ Ok4 o := by
 obtain ⟨a, b, c, d, rfl⟩ := four cs hl
 obtain ⟨y0, y1, y2, y3, n, _, _, h0, h1, h2, h3⟩ := Joins.trod_struct4 Tryz.underlying85 h
 have k1 : Tryz.prog.cellsOf 82 = 1 := by kernel_rfl
 have k2 : Tryz.prog.cellsOf 3 = 1 := by kernel_rfl
 have k3 : Tryz.prog.cellsOf 83 = 1 := by kernel_rfl
 simp [k1, k2, k3] at h0 h1 h2 h3
 obtain ⟨n0, e0, _, w0⟩ := DataW.trod_int Tryz.underlying82 h0
 obtain ⟨n1, e1, _, w1⟩ := DataW.trod_int Tryz.underlying3 h1
 obtain ⟨n2, e2, _, w2⟩ := DataW.trod_int Tryz.underlying3 h2
 obtain ⟨n3, e3, _, w3⟩ := DataW.trod_int Tryz.underlying83 h3
 simp at e0 e1 e2 e3
 refine ⟨⟨n0, n1, n2, n3⟩, by rw [e0, e1, e2, e3]; rfl, bounds_u8 w0, bounds_i64 w1, bounds_i64 w2, bounds_u64 w3⟩
theorem pick4 {W : World} {ad : Addr} : ∀ len : Nat, (∀ i, i < len -> ∃ o, Ok4 o ∧ ∀ j u, (opw o)[j]? = some u -> W.cell? ((ad.add (i * 4)).add j) = some u) -> ∃ os : List O4, os.length = len ∧ ∀ i o, os[i]? = some o -> Ok4 o ∧ ∀ j u, (opw o)[j]? = some u -> W.cell? ((ad.add (i * 4)).add j) = some u
 | 0, _ => ⟨[], rfl, fun i o h => by simp at h⟩
 | k + 1, each => by
  obtain ⟨os, h1, h2⟩ := pick4 k (fun i hi => each i (by omega))
  obtain ⟨o, h3, h4⟩ := each k (by omega)
  refine ⟨os ++ [o], by simp [h1], fun i q hq => ?_⟩
  rcases Nat.lt_or_ge i k with hi | hi
  · rw [List.getElem?_append_left (by omega)] at hq; exact h2 i q hq
  · have : i = k := by have := (List.getElem?_eq_some_iff.1 hq).1; simp at this; omega
    subst this
    rw [List.getElem?_append_right (by omega), h1, Nat.sub_self] at hq
    have : o = q := by simpa using hq
    subst this
    exact ⟨h3, h4⟩
theorem open_lmo {H : Type} {enc : TypeId × Value -> H} {W : World} {fuel : Nat} {c : Value} {x : DataW H × List MemPlace} (h : DataW.trod enc Tryz.prog W 0 (fun _ => true) true fuel 25 [c] = some x)
 (hsz : ∀ elems spare, x.1 = .slice elems spare -> (elems.length + spare.length) * 32 <= 140737488351232) : ∃ os, Lm opw 4 W c os ∧ (∀ o ∈ os, Ok4 o) ∧ os.length * 32 <= 140737488351232 := by
 have hce : Tryz.prog.cellsOf 85 = 4 := by kernel_rfl
 rcases DataW.trod_slice Tryz.underlying25 h with ⟨hcs, _⟩ | ⟨ad, len, cap, elems, rest, n, _, hcs, hx, _, hl, hm, hlen, hel, _, _⟩
 · obtain rfl : c = .slice none 0 0 := by simpa using hcs
   exact ⟨[], ⟨none, 0, rfl, ⟨Nat.le_refl _, by decide, fun _ => rfl⟩, fun h => absurd rfl h⟩, (fun x hx => by cases hx), by decide⟩
 · obtain rfl : c = .slice (some ad) len cap := by simpa using hcs
   have hs := hsz _ _ (congrArg Prod.fst hx)
   simp only [List.length_map] at hs
   have each : ∀ i, i < len -> ∃ o, Ok4 o ∧ ∀ j u, (opw o)[j]? = some u -> W.cell? ((ad.add (i * 4)).add j) = some u := by
    intro i hi
    have h1 := hel i hi
    rw [hce, List.getElem?_eq_getElem (by omega), Option.bind_eq_some_iff] at h1
    obtain ⟨cs, hc1, hc2⟩ := h1
    obtain ⟨_, hcl, hcc⟩ := World.cells?_some hc1
    obtain ⟨o, ho, hok⟩ := open_op hc2 hcl
    refine ⟨o, hok, fun j u hu => ?_⟩
    have hj : j < 4 := by have := (List.getElem?_eq_some_iff.1 hu).1; rwa [opw_len] at this
    rw [hcc j hj, ho]; exact hu
   obtain ⟨os, hol, hos⟩ := pick4 len each
   refine ⟨os, ⟨some ad, cap, by rw [hol], ⟨by omega, by omega, fun h => by cases h⟩, fun hne => ?_⟩, fun o ho => ?_, by omega⟩
   · have hpos : 0 < len := by rw [<- hol]; exact List.length_pos_iff.2 hne
     obtain ⟨b, off, spot⟩ := ad
     have hc0 := (hos 0 os[0] (List.getElem?_eq_getElem (by omega))).2 0 _ rfl
     have hspot : spot = none := by
      have := World.cell?_spot hc0
      simpa [Addr.add] using this
     subst hspot
     have hc0' := hc0
     rw [add_atM, add_atM] at hc0'
     refine ⟨b, off, rfl, World.block_lt_of_cell? W _ hc0', fun i x hx j u hu => ?_⟩
     have := (hos i x hx).2 j u hu
     rw [add_atM, add_atM] at this
     rw [<- Nat.add_assoc]; exact this
   · obtain ⟨i, hi⟩ := List.getElem?_of_mem ho
     exact (hos i o hi).1
theorem open_pm {H : Type} {enc : TypeId × Value -> H} {W : World} {v : Value} {d : DataW H} {p : List MemPlace} {r : Reach} {b0 : Nat} (hv : Value.okWide Tryz.prog W r b0 28 v) (h : DataW.Trod enc Tryz.prog W 0 (fun _ => true) true 28 v d p)
 (hsz : ∀ n ∈ d.weights Tryz.prog 28, n <= 140737488351232) : ∃ q, Pm W v q := by
 obtain ⟨v0, v1, v2, y0, y1, y2, n, rfl, rfl, _, h0, h1, h2⟩ := Joins.open_agg3 Tryz.underlying28 (by kernel_rfl) (by kernel_rfl) hv h
 obtain ⟨n0, e0, _, w0⟩ := DataW.trod_int Tryz.underlying3 h0
 have e0' : v0 = .int .i64 n0 := by simpa using e0
 subst e0'
 have hb8 : Tryz.prog.bytesOf 3 = 8 := by kernel_rfl
 have hb32 : Tryz.prog.bytesOf 85 = 32 := by kernel_rfl
 obtain ⟨os, ho, hok, _⟩ := open_lmo h1 (fun el sp he => by
  have := hsz ((el.length + sp.length) * Tryz.prog.bytesOf 85) (by
   simp only [DataW.weights, Tryz.underlying28]
   rw [he]
   simp [DataW.weightsEach, DataW.weights, Tryz.underlying25])
  rw [hb32] at this; exact this)
 obtain ⟨us, hu, huk, _⟩ := open_lmi h2 (fun el sp he => by
  have := hsz ((el.length + sp.length) * Tryz.prog.bytesOf 3) (by
   simp only [DataW.weights, Tryz.underlying28]
   rw [he]
   simp [DataW.weightsEach, DataW.weights, Tryz.underlying26])
  rw [hb8] at this; exact this)
 exact ⟨⟨n0, os, us⟩, ⟨_, _, rfl, ho, hu⟩, bounds_i64 w0, hok, huk⟩
theorem open_pmb {H : Type} {enc : TypeId × Value -> H} {W : World} {v : Value} {d : DataW H} {p : List MemPlace} {r : Reach} {b0 : Nat} (hv : Value.okWide Tryz.prog W r b0 28 v) (h : DataW.Trod enc Tryz.prog W 0 (fun _ => true) true 28 v d p)
 (hsz : ∀ n ∈ d.weights Tryz.prog 28, n <= 140737488351232) : ∃ q, Pm W v q ∧ q.ops.length * 32 <= 140737488351232 ∧ q.outs.length * 8 <= 140737488351232 := by
 obtain ⟨v0, v1, v2, y0, y1, y2, n, rfl, rfl, _, h0, h1, h2⟩ := Joins.open_agg3 Tryz.underlying28 (by kernel_rfl) (by kernel_rfl) hv h
 obtain ⟨n0, e0, _, w0⟩ := DataW.trod_int Tryz.underlying3 h0
 have e0' : v0 = .int .i64 n0 := by simpa using e0
 subst e0'
 have hb8 : Tryz.prog.bytesOf 3 = 8 := by kernel_rfl
 have hb32 : Tryz.prog.bytesOf 85 = 32 := by kernel_rfl
 obtain ⟨os, ho, hok, hlo⟩ := open_lmo h1 (fun el sp he => by
  have := hsz ((el.length + sp.length) * Tryz.prog.bytesOf 85) (by
   simp only [DataW.weights, Tryz.underlying28]
   rw [he]
   simp [DataW.weightsEach, DataW.weights, Tryz.underlying25])
  rw [hb32] at this; exact this)
 obtain ⟨us, hu, huk, hlu⟩ := open_lmi h2 (fun el sp he => by
  have := hsz ((el.length + sp.length) * Tryz.prog.bytesOf 3) (by
   simp only [DataW.weights, Tryz.underlying28]
   rw [he]
   simp [DataW.weightsEach, DataW.weights, Tryz.underlying26])
  rw [hb8] at this; exact this)
 exact ⟨⟨n0, os, us⟩, ⟨⟨_, _, rfl, ho, hu⟩, bounds_i64 w0, hok, huk⟩, hlo, hlu⟩
end Go.Proofs.YtipobchbnjgenaaGreat
