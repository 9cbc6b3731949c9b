/-
  The field's inverses: all of a list at one time, in new memory.
-/
import Derived.Test.YtepbfcioocohgabWalkC
import Derived.Test.YtepbfcioocohgabWalkD
import Derived.Test.YtepbfcioocohgabModI
import Derived.Test.YtepbfcioocohgabElems
import Derived.OwnWalk
import Derived.Laws.OwnMore
import Derived.Deep.RegionWith
namespace Go.Proofs.Ytepbfcioocohgab
open Go.RowKit Fld
set_option linter.unusedVariables false

theorem own_below {w w' : World} {base e size n : Nat} {v : Value} {xs : List Value} (h : w.ownsRow base e size v n xs) (hb : Below w.heap.size w w') : w'.ownsRow base e size v n xs := by
  refine ⟨h.1, ?_⟩
  rcases h.2 with h1 | ⟨g, cap, cur, h1, h2, h3, h4⟩
  · exact .inl h1
  · refine .inr ⟨g, cap, cur, h1, h2, ?_, h4⟩
    have hlt : g < w.heap.size := by
      apply Nat.lt_of_not_le; intro hc; rw [Array.getElem?_eq_none hc] at h3; cases h3
    rw [hb.block g hlt]; exact h3

theorem addr_ne {a b i j : Nat} (h : a ≠ b) : (⟨a, i, none⟩ : Addr) ≠ ⟨b, j, none⟩ := fun e => h (congrArg Addr.block e)
theorem Boxed.set {w W : World} {p : Int} {wd : Bool} {g k : Nat} (h : Boxed w p wd W) (hg : w.heap.size < g) (u : Value) : Boxed w p wd (W.setCell ⟨g, k, none⟩ u) := by
  obtain ⟨h1, h2, h3, h4⟩ := h
  exact ⟨(World.cell?_setCell_other W _ _ u (addr_ne (by omega))).trans h1, (World.cell?_setCell_other W _ _ u (addr_ne (by omega))).trans h2, by simpa using h3, h4.setCell (Nat.le_of_lt hg) u⟩

theorem vals_set (ys : List Int) (k : Nat) (x : Int) : (vals ys).set k (.int .u64 x) = vals (ys.set k x) := by simp [vals, List.map_set]
theorem vals_at (ys : List Int) (k : Nat) (h : k < ys.length) : (vals ys)[k]? = some (.int .u64 (ys.getD k 0)) := by simp [vals, h, List.getD_eq_getElem?_getD]

/-- What the two loops keep of the new row: it lies behind the box. -/
def Own (w wr : World) (n : Nat) (ys : List Int) : Prop := wr.ownsRow w.heap.size 31 1 (.slice (some ⟨w.heap.size + 1, 0, none⟩) n n) n (vals ys)

theorem Own.cell {w wr : World} {n : Nat} {ys : List Int} (h : Own w wr n ys) (hl : ys.length = n) (k : Nat) (hk : k < n) : wr.cell? ⟨w.heap.size + 1, k, none⟩ = some (.int .u64 (ys.getD k 0)) := by
  rw [h.cellAt k (by omega), vals_at ys k (by omega)]
theorem Own.free {w wr : World} {n : Nat} {ys : List Int} (h : Own w wr n ys) (k : Nat) : wr.frozen? ⟨w.heap.size + 1, k, none⟩ = false := h.frozenAt k
theorem Own.set {w wr : World} {n : Nat} {ys : List Int} (h : Own w wr n ys) (k : Nat) (x : Int) : Own w (wr.setCell ⟨w.heap.size + 1, k, none⟩ (.int .u64 x)) n (ys.set k x) := by
  have := (h.stored k (.int .u64 x)).1
  rw [vals_set] at this; exact this

theorem Own.made {w w1 : World} {n : Nat} {p : Int} {wd : Bool} {T : TypeId} (h : w1.ownsRow w.heap.size 31 1 (.slice (some ⟨(w.alloc (.cells #[.int .u64 p, .bool wd] T)).heap.size, 0, none⟩) n n) n (madeCells (Value.int .u64 0).cells (n * 1)).toList) : Own w w1 n (List.replicate n 0) := by
  have e : (madeCells (Value.int .u64 0).cells (n * 1)).toList = vals (List.replicate n 0) := by
    show (madeCells #[.int .u64 0] (n * 1)).toList = _
    rw [toList_madeCells_one, Nat.mul_one]; simp [vals]
  have e2 : (w.alloc (.cells #[.int .u64 p, .bool wd] T)).heap.size = w.heap.size + 1 := by simp
  rw [e, e2] at h; exact h
theorem below_grown_none {W w1 : World} (h : W.grownBy w1 none) : Below W.heap.size W w1 := (Below.refl _ W).grown h (Nat.le_refl _) (fun k hk => by cases hk)

/-- One round of the first loop. -/
theorem inv1_step {w wr w2 : World} {p P : Int} {wd : Bool} {n k : Nat} {ys : List Int} (hB : Boxed w p wd wr) (hO : Own w wr n ys)
    (hb : Below (wr.setCell ⟨w.heap.size + 1, k, none⟩ (.int .u64 P)).heap.size (wr.setCell ⟨w.heap.size + 1, k, none⟩ (.int .u64 P)) w2) : Boxed w p wd w2 ∧ Own w w2 n (ys.set k P) :=
  ⟨(hB.set (Nat.lt_succ_self _) _).below hb, own_below (hO.set k P) hb⟩

theorem upto_set {p P : Int} {xs ys : List Int} {k : Nat} (h : ∀ j, j < k → ys.getD j 0 = pr p xs j) (hk : k < ys.length) (hP : pr p xs k = P) : ∀ j, j < k + 1 → (ys.set k P).getD j 0 = pr p xs j := by
  intro j hj
  rw [set_getD ys k j P hk]
  by_cases he : j = k
  · rw [if_pos he, he, hP]
  · rw [if_neg he]; exact h j (by omega)

theorem keep3 {W w1 : World} {a1 a2 a3 : Addr} {v1 v2 v3 : Value} (hb : Below W.heap.size W w1) (h : W.cell? a1 = some v1 ∧ W.cell? a2 = some v2 ∧ W.cell? a3 = some v3) :
    w1.cell? a1 = some v1 ∧ w1.cell? a2 = some v2 ∧ w1.cell? a3 = some v3 :=
  ⟨(hb.cell (World.block_lt_of_cell? _ _ h.1)).trans h.1, (hb.cell (World.block_lt_of_cell? _ _ h.2.1)).trans h.2.1, (hb.cell (World.block_lt_of_cell? _ _ h.2.2)).trans h.2.2⟩

theorem inv2_set {p P R x : Int} {xs zs : List Int} {k : Nat} (h : ∀ j, j < xs.length → zs.getD j 0 = if j < k + 1 then pr p xs j else inv p (xs.getD j 0)) (hk : k < xs.length) (hl : zs.length = xs.length)
    (hx : xs.getD k 0 = x) (e1 : mul p P R = inv p x) : ∀ j, j < xs.length → (zs.set k (mul p P R)).getD j 0 = if j < k then pr p xs j else inv p (xs.getD j 0) := by
  intro j hj
  rw [set_getD zs k j _ (by omega)]
  by_cases he : j = k
  · rw [if_pos he, if_neg (by omega), e1, he, hx]
  · rw [if_neg he, h j hj]
    by_cases h2 : j < k
    · rw [if_pos (by omega), if_pos h2]
    · rw [if_neg (by omega), if_neg h2]

theorem all_before {p : Int} {xs ys : List Int} (h : ∀ j, j < xs.length → ys.getD j 0 = pr p xs j) : ∀ j, j < xs.length → ys.getD j 0 = if j < xs.length then pr p xs j else inv p (xs.getD j 0) := by
  intro j hj; rw [if_pos hj]; exact h j hj

set_option maxRecDepth 100000 in
set_option maxHeartbeats 200000 in
theorem inverses_any (p : Int) (wd : Bool) (v : Value) (xs : List Int) (w : World) (hm : Md p wd) (hr : Row w v xs) (hu : ∀ i, i < xs.length → Un p (xs.getD i 0)) :
    Calls Try.prog 13 #[.agg #[.int .u64 p, .bool wd], v] w fun e w' => ∃ v', e = .returned v' ∧
      w'.ownsRow w.heap.size 31 1 v' xs.length (vals (xs.map (inv p))) ∧ Below w.heap.size w w' := by
  obtain ⟨ao, cap, rfl, hlen, hw, hc⟩ := hr
  obtain ⟨i0, hi0, hz0, hz1, hz2⟩ := info_parts u64_info
  have hp0 : 0 < p := by have := hm.bounds; omega
  have HU := hide hu
  clear hu
  go_enter Try.func13, Try.ntmps13
  go_wp2_with (at_make; refine wpList_make_full _ rfl _ _ 22 rfl w.heap.size 31 i0 (.int .u64 0) 1 Try.underlying22 hi0 hz0 hz1 .i64 .i64 _ _ xs.length rfl rfl (by omega) (by omega) (by rw [hz2]; omega) (by unfold maxLen; omega) (by simp) ?_; intro w1 hown hgrow)
  have hO := Own.made hown
  have hB := (Boxed.first w p wd 39).below (below_grown_none hgrow)
  clear hown hgrow
  go_loopw [6, 16] (fun vp vi wr => ∃ (k : Nat) (ys : List Int), k ≤ xs.length ∧ vi = .int .i64 k ∧ vp = .int .u64 (pr p xs k) ∧ ys.length = xs.length ∧ Own w wr xs.length ys ∧ Hid (∀ j, j < k → ys.getD j 0 = pr p xs j) ∧ Boxed w p wd wr) (fun _ vi _ => xs.length - (intOf vi).toNat)
  case atStart => exact ⟨0, _, Nat.zero_le _, rfl, rfl, by simp, hO, fun j hj => by omega, hB⟩
  case round =>
    clear hO hB
    obtain ⟨k, ys, hk, rfl, rfl, hyl, hO, HY, hB⟩ := hrel
    have hc0 := hB.1
    have hc1 := hB.2.1
    by_cases hlt : k < xs.length
    · obtain ⟨b, off, rfl, hbl, hcell⟩ := hc (by intro h; rw [h] at hlt; simp at hlt)
      have hck : wr.cell? ⟨b, off + k, none⟩ = some (.int .u64 (xs.getD k 0)) := by rw [hB.2.2.2.cell (p := ⟨b, off + k, none⟩) hbl]; exact hcell k hlt
      have ho := hO.cell hyl k hlt
      have hfr := hO.free k
      have hx := (HU.out k hlt).1
      have hPe := (pr_un hm xs HU.out k hk).1
      have HS := hide (pr_succ p xs k hlt)
      have HT := hide (upto_set (P := pr p xs k) HY.out (by omega) rfl)
      generalize hxx : xs.getD k 0 = x at *
      generalize hpp : pr p xs k = P at *
      generalize hyy : ys.getD k 0 = y at *
      clear hcell hc hxx hpp hyy
      go_wp2_with (go_at_call 21; refine (mul_any p P x wd _ hm hPe hx).mono ?_; rintro e w2 ⟨rfl, hb⟩)
      obtain ⟨R1, R2⟩ := inv1_step hB hO hb
      go_roundw
      case rel => exact ⟨k + 1, _, by omega, by go_num, by rw [HS.out], by simpa using hyl, R2, HT.out, R1⟩
      case measure => simp [intOf]; omega
    · have hkl : k = xs.length := by omega
      subst hkl
      have hPu := pr_un hm xs HU.out xs.length (Nat.le_refl _)
      have hP0 := hPu.pos
      have hP1 := hPu.1.2
      have HY2 := hide (all_before (p := p) (xs := xs) (ys := ys) HY.out)
      clear hPu HY
      go_wp2_with (go_at_call 22; refine (inverse_any p _ wd _ hm hP0 hP1).mono ?_; rintro e w2 ⟨rfl, hb⟩)
      have hB := hB.below hb
      have hO := own_below hO hb
      clear hc0 hc1 hb
      go_loopw [9, 10] (fun vr vi wr => ∃ (k : Nat) (ys : List Int), k ≤ xs.length ∧ vi = .int .i64 ((k : Int) - 1) ∧ vr = .int .u64 (inv p (pr p xs k)) ∧ ys.length = xs.length ∧ Own w wr xs.length ys ∧ Hid (∀ j, j < xs.length → ys.getD j 0 = if j < k then pr p xs j else inv p (xs.getD j 0)) ∧ Boxed w p wd wr) (fun _ vi _ => (intOf vi + 1).toNat)
      case atStart => exact ⟨xs.length, ys, Nat.le_refl _, rfl, rfl, hyl, hO, HY2, hB⟩
      case round =>
        clear hO hB HY2
        obtain ⟨k, zs, hk, rfl, rfl, hzl, hO, HZ, hB⟩ := hrel
        have hc0 := hB.1
        have hc1 := hB.2.1
        by_cases hpos : 0 < k
        · obtain ⟨k, rfl⟩ : ∃ j, k = j + 1 := ⟨k - 1, by omega⟩
          have ek : (((k + 1 : Nat) : Int) - 1) = (k : Int) := by omega
          rw [ek]
          clear ek
          have hlt : k < xs.length := by omega
          obtain ⟨b, off, rfl, hbl, hcell⟩ := hc (by intro h; rw [h] at hlt; simp at hlt)
          have hck : wr.cell? ⟨b, off + k, none⟩ = some (.int .u64 (xs.getD k 0)) := by rw [hB.2.2.2.cell (p := ⟨b, off + k, none⟩) hbl]; exact hcell k hlt
          have HCW := hide (hcell k hlt)
          have ho := hO.cell hzl k hlt
          have hy : zs.getD k 0 = pr p xs k := by rw [HZ.out k hlt, if_pos (by omega)]
          rw [hy] at ho
          have hfr := hO.free k
          have hxu := HU.out k hlt
          have hPu := pr_un hm xs HU.out k (by omega)
          have hRu := inv_un hm (pr_un hm xs HU.out (k + 1) hk)
          have hx := hxu.1
          have hPe := hPu.1
          have hRe := hRu.1
          have e1 := apart_fst hm hPu hxu
          have e2 := apart_snd hm hPu hxu
          rw [← pr_succ p xs k hlt] at e1 e2
          have E1 := hide e1
          have E2 := hide e2
          clear e1 e2 hy hPu hxu hRu
          have k0 : (0 : Int) ≤ (k : Int) := Int.natCast_nonneg _
          have k1 : (k : Int) < (xs.length : Int) := by omega
          generalize hxx : xs.getD k 0 = x at *
          generalize hpp : pr p xs k = P at *
          generalize hrr : inv p (pr p xs (k + 1)) = R at *
          have HXX := hide hxx
          have HPP := hide hpp
          clear hcell hc hxx hpp hrr
          go_wp2_with fail
          go_region_with (go_at_call 21; refine (mul_any p P R wd _ hm hPe hRe).mono ?_; rintro e w3 ⟨rfl, hb⟩; have hO3 := own_below (World.ownsRow.drew hO) hb; have ho3 := Own.cell hO3 hzl k hlt; have hfr3 := Own.free hO3 k)
          all_goals
            have hB4 := ((hB.below (Below.refl _ wr).drew).below hb).set (k := k) (Nat.lt_succ_self _) (.int .u64 (mul p P R))
            have hO4 := Own.set hO3 k (mul p P R)
            have hck4 := (hB4.2.2.2.cell (p := ⟨b, off + k, none⟩) hbl).trans HCW.out
            clear hO3 ho3 hfr3 hb hck ho hfr hc0 hc1
            have hc0 := hB4.1
            have hc1 := hB4.2.1
            go_wp2_with fail
            go_region_held3 (fun w' => w'.cell? ⟨w.heap.size, 0, none⟩ = some (.int .u64 p) ∧ w'.cell? ⟨w.heap.size, 1, none⟩ = some (.bool wd) ∧ w'.cell? ⟨b, off + k, none⟩ = some (.int .u64 x))
              (first | exact ⟨hB4.1, hB4.2.1, hck4⟩ | exact hS)
              (first | (go_at_call 21; refine (mul_any p R x wd _ hm hRe hx).mono ?_; rintro e w5 ⟨rfl, hb5⟩; have hS := keep3 hb5 ⟨hB4.1, hB4.2.1, hck4⟩))
            have hB5 := (hB4.below (Below.refl _ _).drew).below hb5
            have hO5 := own_below (World.ownsRow.drew hO4) hb5
            have HZ5 := hide (inv2_set HZ.out hlt hzl HXX.out E1.out)
            clear hS hb5 hB4 hO4 hck4 hc0 hc1
            go_wp2
            go_roundw
            case rel => exact ⟨k, _, by omega, rfl, by rw [E2.out, HPP.out], by simpa using hzl, hO5, HZ5, hB5⟩
            case measure => simp [intOf]
        · have hk0 : k = 0 := by omega
          subst hk0
          have HE := hide (ext_getD zs (xs.map (inv p)) (by simpa using hzl) (fun j hj => by rw [HZ.out j (by omega), if_neg (by omega), map_getD _ _ _ (by omega)]))
          clear HZ hc
          go_wp2
          go_ret
          refine ⟨_, rfl, ?_, hB.2.2.2⟩
          have := hO
          unfold Own at this
          rw [HE.out] at this; exact this

end Go.Proofs.Ytepbfcioocohgab
