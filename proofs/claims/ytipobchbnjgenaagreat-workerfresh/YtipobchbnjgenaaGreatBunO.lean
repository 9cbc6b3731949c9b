import Derived.ProofKit
import Derived.OpenShut
import Derived.Test.YtipobchbnjgenaaGreatBunQ
set_option linter.unusedVariables false
set_option linter.unusedSimpArgs false
set_option maxRecDepth 100000
set_option maxHeartbeats 4000000
namespace Go.Proofs.YtipobchbnjgenaaGreat
open Go.ChangeShapes Go.WideShapes Go.ChangeAt Go.RowKit
theorem u64_bytes : Tryz.prog.bytesOf 83 = 8 := by kernel_rfl
theorem open_row {H : Type} {enc : TypeId × Value -> H} {W : World} {a : Option Addr} {len cap : Nat} {d : DataW H} {p : List MemPlace}
 (h : DataW.Trod enc Tryz.prog W 0 (fun _ => true) true 54 (.slice a len cap) d p) (hsz : ∀ elems spare, d = .slice elems spare -> (elems.length + spare.length) * 8 <= 140737488351232) :
 ∃ xs, Row W (.slice a len cap) xs := by
 obtain ⟨fuel, hf⟩ := h
 rcases open_ints Tryz.underlying54 Tryz.underlying83 (by kernel_rfl) hf with ⟨hcs, _⟩ | ⟨x, l, c, zs, hcs, _, hl, hm, hz, hx, hcell, hwz⟩
 · simp [Value.cells] at hcs
   obtain ⟨rfl, rfl, rfl⟩ := hcs
   exact ⟨[], none, 0, rfl, by simp, by simp, fun h => absurd rfl h⟩
 · simp [Value.cells] at hcs
   obtain ⟨rfl, rfl, rfl⟩ := hcs
   simp only [Prod.mk.injEq] at hx
   have hs := hsz _ _ hx.1
   simp only [lits, List.length_map, List.length_take, List.length_drop] at hs
   have hzc : zs.length = cap := by simpa using hz
   have hlen : (zs.take len).length = len := by rw [List.length_take]; omega
   refine ⟨zs.take len, some x, cap, by rw [hlen], by rw [hlen]; omega, fun n hn => ?_, fun hne => ?_⟩
   · exact bounds_u64 (hwz n (List.mem_of_mem_take hn))
   · have hpos : 0 < len := by
      apply Nat.pos_of_ne_zero; intro h0; rw [h0] at hne; simp at hne
     obtain ⟨b, off, spot⟩ := x
     have hc0 := hcell 0 (by omega)
     have hspot : spot = none := by simpa [Addr.add] using World.cell?_spot hc0
     subst hspot
     have key : ∀ i, i < zs.length -> W.cell? ⟨b, off + i, none⟩ = some (.int .u64 (zs.getD i 0)) := fun i hi => by
      have hadd : (⟨b, off, none⟩ : Addr).add i = ⟨b, off + i, none⟩ := by unfold Addr.add; split <;> simp_all
      rw [<- hadd]; exact hcell i hi
     refine ⟨b, off, rfl, World.block_lt_of_cell? W _ (key 0 (by omega)), fun i hi => ?_⟩
     rw [key i (by rw [hlen] at hi; omega)]
     have : (zs.take len).getD i 0 = zs.getD i 0 := by
      rw [hlen] at hi
      simp [List.getD_eq_getElem?_getD, List.getElem?_take_of_lt hi]
     rw [this]
theorem open_rw {H : Type} {enc : TypeId × Value -> H} {W : World} {a : Option Addr} {len cap : Nat} {d : DataW H} {p : List MemPlace}
 (h : DataW.Trod enc Tryz.prog W 0 (fun _ => true) true 54 (.slice a len cap) d p) (hsz : ∀ elems spare, d = .slice elems spare -> (elems.length + spare.length) * 8 <= 140737488351232) :
 ∃ xs, Rw W (.slice a len cap) xs := by
 obtain ⟨xs, hr⟩ := open_row h hsz
 refine ⟨xs, hr, _, _, _, rfl, ?_⟩
 obtain ⟨fuel, hf⟩ := h
 rcases open_ints Tryz.underlying54 Tryz.underlying83 (by kernel_rfl) hf with ⟨hcs, _⟩ | ⟨x, l, c, zs, hcs, _, hl, hm, hz, hx, hcell, hwz⟩
 · simp [Value.cells] at hcs
   obtain ⟨rfl, rfl, rfl⟩ := hcs
   exact Nat.le_refl _
 · simp [Value.cells] at hcs
   obtain ⟨rfl, rfl, rfl⟩ := hcs
   exact hl
end Go.Proofs.YtipobchbnjgenaaGreat
namespace Go.Proofs.YtipobchbnjgenaaGreat
open Go.RowKit Fld
theorem inF_fi {f : Int} {xs : List Int} (h : inF f xs = true) : ∃ p wd, Fi f p wd ∧ allIn p xs = true := by
 rcases Fi_or f with ⟨p, wd, hf⟩ | ⟨h1, h2⟩
 · rw [inF_yes hf] at h; exact ⟨p, wd, hf, h⟩
 · rw [inF_no h1 h2] at h; cases h
theorem inF_nil {f : Int} {xs : List Int} (h : inF f xs = true) : inF f [] = true := by
 obtain ⟨p, wd, hf, _⟩ := inF_fi h
 rw [inF_yes hf]; rfl
theorem drewN_below (w : World) (m : Nat) : Below w.heap.size w (w.drewN m) := below_drewN (Below.refl _ w) m
theorem eq_getD {α : Type} {xs ys : List α} {d : α} (hl : xs.length = ys.length) (h : ∀ j, j < xs.length -> xs.getD j d = ys.getD j d) : xs = ys := by
 refine List.ext_getElem hl (fun j h1 h2 => ?_)
 have := h j h1
 rw [List.getD_eq_getElem?_getD, List.getD_eq_getElem?_getD, List.getElem?_eq_getElem h1, List.getElem?_eq_getElem h2] at this
 exact this
theorem Same_dec (v1 v2 : Value) (xs ys : List Int) (w : World) (h1 : Row w v1 xs) (h2 : Row w v2 ys) :
 Calls Tryz.prog 16 #[v1, v2] w fun e w' => e = .returned (.bool (decide (xs = ys))) ∧ ∃ m, w' = w.drewN m := by
 obtain ⟨a1, c1, rfl, hlen, _, hc1⟩ := h1
 obtain ⟨a2, c2, rfl, hlen2, _, hc2⟩ := h2
 by_cases hl : xs.length = ys.length
 · rw [<- hl] at hlen2 ⊢
   have HL := hide hl
   go_enter Tryz.func16, Tryz.ntmps16
   clear hl
   go_wp2
   go_loopw [5] (fun vi wr => ∃ k m : Nat, k <= xs.length ∧ vi = .int .i64 k ∧ Hid (wr = w.drewN m) ∧ Hid (∀ j, j < k -> xs.getD j 0 = ys.getD j 0)) (fun vi _ => xs.length - (intOf vi).toNat)
   case atStart => exact ⟨0, 0, Nat.zero_le _, rfl, rfl, fun j hj => absurd hj (Nat.not_lt_zero _)⟩
   case round =>
    obtain ⟨k, m, hk, rfl, HM, HE⟩ := hrel
    have hB : Below w.heap.size w wr := by rw [HM.out]; exact drewN_below w m
    by_cases hlt : k < xs.length
    · have hne : xs ≠ [] := by intro h; rw [h] at hlt; simp at hlt
      have hne2 : ys ≠ [] := by intro h; have := HL.out; rw [h] at this; simp at this; rw [this] at hlt; simp at hlt
      obtain ⟨b1, o1, rfl, l1, g1⟩ := hc1 hne
      obtain ⟨b2, o2, rfl, l2, g2⟩ := hc2 hne2
      have d1 := (hB.cell (p := ⟨b1, o1 + k, none⟩) l1).trans (g1 k hlt)
      have d2 := (hB.cell (p := ⟨b2, o2 + k, none⟩) l2).trans (g2 k (by rw [<- HL.out]; exact hlt))
      have k0 : (0 : Int) <= (k : Int) := Int.natCast_nonneg _
      have k1 : (k : Int) < (xs.length : Int) := by omega
      by_cases hxy : xs.getD k 0 = ys.getD k 0
      · have HE2 : Hid (∀ j, j < k + 1 -> xs.getD j 0 = ys.getD j 0) := fun j hj => by
         rcases Nat.lt_succ_iff_lt_or_eq.1 hj with h | h
         · exact HE.out j h
         · rw [h]; exact hxy
        rw [<- hxy] at d2
        clear g1 g2 hc1 hc2 hne hne2 hB HE hxy
        generalize xs.getD k 0 = x at d1 d2
        go_wp2_with fail
        go_quiet (fail)
        have HM2 : Hid (wr.drewN nq = w.drewN (m + nq)) := by show _ = _; rw [HM.out, World.drewN_drewN]
        clear HM
        go_wp2
        go_roundw
        case rel => exact ⟨k + 1, m + nq, by omega, by go_num, HM2, HE2⟩
        case measure => simp [intOf]; omega
      · have hno : Hid (decide (xs = ys) = false) := by show _ = _; exact decide_eq_false (fun h => hxy (by rw [h]))
        clear g1 g2 hc1 hc2 hne hne2 hB HE
        generalize xs.getD k 0 = x at d1 hxy
        generalize ys.getD k 0 = y at d2 hxy
        go_wp2_with fail
        go_quiet (fail)
        have HM2 : Hid (wr.drewN nq = w.drewN (m + nq)) := by show _ = _; rw [HM.out, World.drewN_drewN]
        clear HM
        go_wp2
        go_ret
        exact ⟨by rw [hno.out]; rfl, m + nq, HM2.out⟩
    · have hyes : Hid (decide (xs = ys) = true) := by show _ = _; exact decide_eq_true (eq_getD HL.out (fun j hj => HE.out j (by omega)))
      clear hc1 hc2 hB HE
      go_wp2
      go_ret
      exact ⟨by rw [hyes.out]; rfl, m, HM.out⟩
 · have hno : Hid (decide (xs = ys) = false) := by show _ = _; exact decide_eq_false (fun h => hl (by rw [h]))
   rw [hno.out]
   have hl2 : ¬ ((xs.length : Int) = (ys.length : Int)) := by omega
   clear hc1 hc2
   generalize xs.length = n1 at *
   generalize ys.length = n2 at *
   go_enter Tryz.func16, Tryz.ntmps16
   go_wp2
   go_ret
   exact ⟨rfl, 0, rfl⟩
end Go.Proofs.YtipobchbnjgenaaGreat
namespace Go.Proofs.YtipobchbnjgenaaGreat
open Go.RowKit Fld Rnk
end Go.Proofs.YtipobchbnjgenaaGreat
