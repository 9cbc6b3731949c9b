/-
  Layer 10: what Outs hang on: the document's inner call.
-/
import Derived.Test.YtfbipnhhnmlhfabBunG
import Derived.Laws.MakeOwn
namespace Go.Proofs.Ytfbipnhhnmlhfab
open Go.RowKit Fld Slp
set_option linter.unusedVariables false
set_option linter.unusedSimpArgs false

/-- The program at b0, a row at b2. -/
structure Dm {α : Type} (f : α → Value) (T : TypeId) (m : Nat) (w W : World) (p : Pr) (vo vu : Value) (b0 b2 : Nat) (xs : List α) : Prop where
  lo : w.heap.size ≤ b0
  l1 : b0 < b2
  pb : W.heap[b0]? = some (.cells #[.int .i64 p.inp, vo, vu] 25 (0, 0))
  ab : Ar f T m W b2 xs
  bl : Below w.heap.size w W
section
variable {α : Type} {f : α → Value} {T : TypeId} {m : Nat} {w W W' : World} {p : Pr} {vo vu : Value} {b0 b2 : Nat} {xs : List α}
theorem Dm.below (h : Dm f T m w W p vo vu b0 b2 xs) (hb : Below W.heap.size W W') : Dm f T m w W' p vo vu b0 b2 xs :=
  ⟨h.lo, h.l1, (hb.block _ (Array.getElem?_eq_some_iff.1 h.pb).1).trans h.pb, h.ab.below hb, Below.next h.bl hb⟩
theorem Dm.set (h : Dm f T m w W p vo vu b0 b2 xs) (k : Nat) (x : α) : Dm f T m w (W.setCell ⟨b2, k, none⟩ (f x)) p vo vu b0 b2 (xs.set k x) := by
  have := h.l1
  have := h.lo
  exact ⟨h.lo, h.l1, (Below.heap_setCell _ _ _ b0 (by show b0 ≠ b2; omega)).trans h.pb, h.ab.set k x, h.bl.setCell (p := ⟨b2, k, none⟩) (by show w.heap.size ≤ b2; omega) _⟩
end
theorem info_of {t : TypeId} {z : Value} {s b : Nat} (h : (Try.prog.info? t).map (fun i => (i.zero, i.size, i.bytes)) = some (some z, s, b)) : ∃ i, Try.prog.info? t = some i ∧ i.zero = some z ∧ i.size = s ∧ i.bytes = b := by
  cases hq : Try.prog.info? t with
  | none => rw [hq] at h; cases h
  | some i => rw [hq] at h; simp at h; exact ⟨i, rfl, h.1, h.2.1, h.2.2⟩
theorem made_list (z : Value) (n : Nat) : madeCells #[z] (n * 1) = (List.replicate n z).toArray := by
  apply Array.ext'
  rw [toList_madeCells_one, Nat.mul_one]
theorem bool_info : (Try.prog.info? 4).map (fun i => (i.zero, i.size, i.bytes)) = some (some (.bool false), 1, 1) := by kernel_rfl
theorem makeB (n : Nat) (hn : n ≤ 1000) (W : World) : (Instr.makeSlice 89 (.int .i64 (n : Int)) (.int .i64 (n : Int))).run Try.prog W = .ok (.slice (some ⟨W.heap.size, 0, none⟩) n n) (W.alloc (.cells ((List.replicate n false).map Value.bool).toArray 4)) := by
  obtain ⟨i, hi, hz, hs, hb⟩ := info_of bool_info
  have := run_make (P := Try.prog) W 89 4 i (.bool false) Try.underlying89 hi hz .i64 .i64 (n : Int) (n : Int) (by omega) (Int.le_refl _) (by rw [hb]; omega) (by omega)
  rw [Int.toNat_natCast, hs] at this
  rw [this]
  show Result.ok _ (W.alloc (.cells (madeCells #[.bool false] (n * 1)) 4)) = _
  rw [made_list, List.map_replicate]
theorem makeI (n : Nat) (hn : n ≤ 1000) (W : World) : (Instr.makeSlice 23 (.int .i64 (n : Int)) (.int .i64 (n : Int))).run Try.prog W = .ok (.slice (some ⟨W.heap.size, 0, none⟩) n n) (W.alloc (.cells ((List.replicate n (0 : Int)).map (Value.int .i64)).toArray 3)) := by
  obtain ⟨i, hi, hz, hs, hb⟩ := info_of int_info
  have := run_make (P := Try.prog) W 23 3 i (.int .i64 0) Try.underlying23 hi hz .i64 .i64 (n : Int) (n : Int) (by omega) (Int.le_refl _) (by rw [hb]; omega) (by omega)
  rw [Int.toNat_natCast, hs] at this
  rw [this]
  show Result.ok _ (W.alloc (.cells (madeCells #[.int .i64 0] (n * 1)) 3)) = _
  rw [made_list, List.map_replicate]

set_option maxRecDepth 100000 in
set_option maxHeartbeats 400000 in
theorem dWanted (v : Value) (p : Pr) (w : World) (h : Pm w v p) (hm : mayB p = true) : Calls Try.prog 47 #[v] w fun e w' => ∃ g, e = .returned (.slice (some ⟨g, 0, none⟩) (wtd p).length (wtd p).length) ∧ Ar Value.bool 4 (wtd p).length w' g (wtd p) ∧ w.heap.size ≤ g ∧ Below w.heap.size w w' := by
  obtain ⟨⟨i0, i1, l1, l2⟩, mo, mu⟩ := mayB_iff.1 hm
  have HAr := hide (fun i hi hk => may_args hm i hi hk)
  have HOu := hide (fun v hv => may_out hm v hv)
  obtain ⟨n, hn⟩ := Int.eq_ofNat_of_zero_le i0
  have hN : p.inp.toNat = n := by omega
  rw [hN] at HAr HOu
  have HWl := hide (wtJ_len p)
  rw [hN] at HWl
  obtain ⟨m, HM⟩ : ∃ m, Hid (n + p.ops.length = m) := ⟨_, rfl⟩
  have hm1 : m ≤ 320 := by have := HM.out; omega
  have hmi : (n : Int) + (p.ops.length : Int) = (m : Int) := by have := HM.out; omega
  have HW0 : Hid (wtJ p 0 = List.replicate m false) := by
    show _ = _
    unfold wtJ
    rw [List.take_zero, List.foldl_nil, hN, HM.out]
  have HWn : Hid ((wtd p).length = m) := by show _ = _; rw [wtd_len, hN]; exact HM.out
  rw [HWn.out]
  have HWe : Hid (wtD n p.ops p.ops.length (wt0 p) = wtd p) := by show _ = _; unfold wtd; rw [hN]
  obtain ⟨vo, vu, rfl, ho, hu⟩ := h.form
  obtain ⟨ao, co, rfl, _⟩ := ho.spell
  obtain ⟨au, cu, rfl, _⟩ := hu.spell
  have HO := hide ho
  have HU := hide hu
  have hmk := makeB m (by omega)
  have hA := alloc_below w (.cells #[.int .i64 (n : Int), .slice ao p.ops.length co, .slice au p.outs.length cu] 25)
  have hNw := heap_alloc_new w (.cells #[.int .i64 (n : Int), .slice ao p.ops.length co, .slice au p.outs.length cu] 25)
  have Hn := hide hn
  have hn64 : n ≤ 64 := by omega
  rw [hn]
  clear h hm mo mu ho hu i0 hN hn i1
  go_enter Try.func47, Try.ntmps47
  go_upto_region 2 with fail
  have eR : Array.replicate m (Value.bool false) = ((List.replicate m false).map Value.bool).toArray := by simp
  rw [eR]
  have D0 : Dm Value.bool 4 m w ((w.alloc (.cells #[.int .i64 (n : Int), .slice ao p.ops.length co, .slice au p.outs.length cu] 25)).alloc (.cells ((List.replicate m false).map Value.bool).toArray 4)) p (.slice ao p.ops.length co) (.slice au p.outs.length cu) w.heap.size (w.heap.size + 1) (wtJ p 0) := by
    obtain ⟨n1, n2, hB⟩ := alloc2 w (.cells #[.int .i64 (n : Int), .slice ao p.ops.length co, .slice au p.outs.length cu] 25) (.cells ((List.replicate m false).map Value.bool).toArray 4)
    rw [HW0.out]
    exact ⟨Nat.le_refl _, Nat.lt_succ_self _, by rw [Hn.out]; exact n1, ⟨List.length_replicate, n2⟩, hB⟩
  generalize (w.alloc (.cells #[.int .i64 (n : Int), .slice ao p.ops.length co, .slice au p.outs.length cu] 25)).alloc (.cells ((List.replicate m false).map Value.bool).toArray 4) = W0 at *
  generalize w.heap.size + 1 = b2 at *
  clear eR hmk hA hNw
  have HPb : Hid (∀ W xs, Dm Value.bool 4 m w W p (.slice ao p.ops.length co) (.slice au p.outs.length cu) w.heap.size b2 xs → W.heap[w.heap.size]? = some (.cells #[.int .i64 (n : Int), .slice ao p.ops.length co, .slice au p.outs.length cu] 25 (0, 0))) := fun W xs h => by have := h.pb; rw [Hn.out] at this; exact this
  go_wp2_with fail
  go_loopw [4] (fun vi wr => ∃ (j : Nat), j ≤ p.outs.length ∧ vi = .int .i64 j ∧ Hid (Dm Value.bool 4 m w wr p (.slice ao p.ops.length co) (.slice au p.outs.length cu) w.heap.size b2 (wtJ p j))) (fun vi _ => p.outs.length - (intOf vi).toNat)
  case atStart => exact ⟨0, by omega, rfl, D0⟩
  case round =>
    clear D0
    obtain ⟨j, hj, rfl, F⟩ := hrel
    obtain ⟨p0, p1, p2⟩ := cell3 (HPb.out _ _ F.out)
    by_cases hlt : j < p.outs.length
    · obtain ⟨b, off, cu', hv, _, hbl⟩ := HU.out.form (by omega)
      cases hv
      have ca := HU.out.int F.out.bl hlt
      have hok := HOu.out _ (List.getElem_mem hlt)
      have HNx := hide (wtJ_next p hlt)
      generalize p.outs[j] = u at *
      obtain ⟨a, rfl⟩ := Int.eq_ofNat_of_zero_le hok.1
      rw [Int.toNat_natCast] at hok HNx
      have a0 : (0 : Int) ≤ (a : Int) := by omega
      have a1 : (a : Int) < (m : Int) := by omega
      have cA := F.out.ab.cell a false (by omega)
      have fA := F.out.ab.free a
      have F2 := F.out.set a true
      rw [← HNx.out] at F2
      have HF2 := hide F2
      have hj0 : (0 : Int) ≤ (j : Int) := by omega
      have hj1 : (j : Int) < (p.outs.length : Int) := by omega
      clear F2 hok
      go_wp2_with fail
      go_roundw
      case rel => exact ⟨j + 1, by omega, by go_num, HF2⟩
      case measure => simp [intOf]; omega
    · obtain rfl : j = p.outs.length := by omega
      have HE := hide (wtJ_end p)
      rw [HE.out] at F
      have HL0 : Hid ((wt0 p).length = n + p.ops.length) := by show _ = _; rw [← HE.out]; exact HWl.out _
      clear HW0 HE hlt
      go_wp2_with fail
      go_loopw [5] (fun vi wr => ∃ (k : Nat) (L : List Bool), k ≤ p.ops.length ∧ vi = .int .i64 ((k : Int) - 1) ∧ Hid (wtD n p.ops k L = wtd p) ∧ Hid (Dm Value.bool 4 m w wr p (.slice ao p.ops.length co) (.slice au p.outs.length cu) w.heap.size b2 L)) (fun vi _ => (intOf vi + 1).toNat)
      case atStart => exact ⟨p.ops.length, wt0 p, Nat.le_refl _, rfl, HWe, F⟩
      case round =>
        clear F p0 p1 p2 HL0
        obtain ⟨k, L, hk, rfl, HL, F⟩ := hrel
        obtain ⟨p0, p1, p2⟩ := cell3 (HPb.out _ _ F.out)
        by_cases hpos : 0 < k
        · obtain ⟨i, HI⟩ : ∃ i, Hid (k = i + 1) := ⟨k - 1, by show k = k - 1 + 1; omega⟩
          have hki : (k : Int) - 1 = (i : Int) := by have := HI.out; omega
          have hlt : i < p.ops.length := by have := HI.out; omega
          obtain ⟨b, off, co', hv, _, hbl⟩ := HO.out.form (by omega)
          cases hv
          obtain ⟨ca, cb, cc, cd⟩ := HO.out.op F.out.bl hlt
          have hAr := HAr.out i hlt
          have HNx : Hid (wtD n p.ops i (wtS n L i p.ops[i]) = wtd p) := by
            have := HL.out
            rw [HI.out] at this
            have e : p.ops.getD i ⟨0, 0, 0, 0⟩ = p.ops[i] := by rw [List.getD_eq_getElem?_getD, List.getElem?_eq_getElem hlt]; rfl
            rw [← e]; exact this
          generalize p.ops[i] = o at *
          obtain ⟨ok, oa, ob, oc⟩ := o
          dsimp only at *
          have HF := hide (F.out.below (alloc_below wr (.cells #[.int .u8 ok, .int .i64 oa, .int .i64 ob, .int .u64 oc] 67)))
          obtain ⟨q0, q1, q2⟩ := cell3 (HPb.out _ _ HF.out)
          have hm9 : n + i < m := by have := HM.out; omega
          have cN := HF.out.ab.cell (n + i) false hm9
          have ij0 : (0 : Int) ≤ (n : Int) + (i : Int) := by omega
          have ij1 : (n : Int) + (i : Int) < (m : Int) := by omega
          have ijn : ((n : Int) + (i : Int)).toNat = n + i := by omega
          have hi0 : (0 : Int) ≤ (i : Int) := by omega
          have hi1 : (i : Int) < (p.ops.length : Int) := by omega
          cases hmk : L.getD (n + i) false with
          | false =>
            rw [hmk] at cN
            have HS : Hid (wtS n L i ⟨ok, oa, ob, oc⟩ = L) := by show _ = _; unfold wtS; rw [if_neg (by rw [hmk]; simp)]
            rw [HS.out] at HNx
            clear hmk
            go_wp2_with fail
            go_roundw
            case rel => exact ⟨i, L, by omega, by go_num, HNx, HF⟩
            case measure => simp [intOf]; omega
          | true =>
            rw [hmk] at cN
            by_cases h4 : ok = 4
            · subst h4
              have HS : Hid (wtS n L i ⟨4, oa, ob, oc⟩ = L) := by show _ = _; unfold wtS; rw [if_neg (by simp)]
              rw [HS.out] at HNx
              clear hmk
              go_wp2_with fail
              go_roundw
              case rel => exact ⟨i, L, by omega, by go_num, HNx, HF⟩
              case measure => simp [intOf]; omega
            · have HS : Hid (wtS n L i ⟨ok, oa, ob, oc⟩ = (L.set oa.toNat true).set ob.toNat true) := by show _ = _; unfold wtS; rw [if_pos ⟨hmk, h4⟩]
              rw [HS.out] at HNx
              obtain ⟨⟨a0, a1⟩, a2, a3⟩ := hAr h4
              obtain ⟨a, rfl⟩ := Int.eq_ofNat_of_zero_le a0
              obtain ⟨c, rfl⟩ := Int.eq_ofNat_of_zero_le a1
              rw [Int.toNat_natCast] at a2 a3
              rw [Int.toNat_natCast, Int.toNat_natCast] at HNx
              have hne : (ok != 4) = true := bne_iff_ne.2 h4
              clear hmk hAr
              go_upto_region 11 with fail
              have HG := hide HF.out
              obtain ⟨g, Hg⟩ : ∃ g, Hid (wr.heap.size = g) := ⟨_, rfl⟩
              have hb2g : b2 < g := by rw [← Hg.out]; exact F.out.ab.lt
              have o1 : (wr.alloc (.cells #[.int .u8 ok, .int .i64 (a : Int), .int .i64 (c : Int), .int .u64 oc] 67)).cell? ⟨wr.heap.size, 1, none⟩ = some (.int .i64 (a : Int)) := by simp [go_sem]
              have o2 : (wr.alloc (.cells #[.int .u8 ok, .int .i64 (a : Int), .int .i64 (c : Int), .int .u64 oc] 67)).cell? ⟨wr.heap.size, 2, none⟩ = some (.int .i64 (c : Int)) := by simp [go_sem]
              rw [Hg.out] at o1 o2
              simp only [Hg.out]
              generalize wr.alloc (.cells #[.int .u8 ok, .int .i64 (a : Int), .int .i64 (c : Int), .int .u64 oc] 67) = w3 at *
              have G1 := HG.out.set a true
              have G2 := G1.set c true
              have HG2 := hide G2
              have cA := HG.out.ab.cell a false (by omega)
              have fA := HG.out.ab.free a
              have cC := G1.ab.cell c false (by omega)
              have fC := G1.ab.free c
              have o2' : (w3.setCell ⟨b2, a, none⟩ (.bool true)).cell? ⟨g, 2, none⟩ = some (.int .i64 (c : Int)) := (World.cell?_setCell_other w3 _ _ _ (addr_ne (by show _ ≠ _; omega))).trans o2
              have aa0 : (0 : Int) ≤ (a : Int) := by omega
              have aa1 : (a : Int) < (m : Int) := by omega
              have cc0 : (0 : Int) ≤ (c : Int) := by omega
              have cc1 : (c : Int) < (m : Int) := by omega
              clear G1 G2 q0 q1 q2 ca cb cc cd p0 p1 p2 cN a2 a3
              go_region
              have HG3 := hide (HG2.out.below (Below.refl _ _).drew)
              clear cA fA cC fC o1 o2 o2'
              go_wp2_with fail
              go_roundw
              case rel => exact ⟨i, _, by omega, by go_num, HNx, HG3⟩
              case measure => simp [intOf]; omega
        · obtain rfl : k = 0 := by omega
          have HV : Hid (L = wtd p) := HL.out
          rw [HV.out] at F
          go_wp2_with fail
          go_ret
          exact ⟨_, rfl, F.out.ab, by have := F.out.l1; omega, F.out.bl⟩

end Go.Proofs.Ytfbipnhhnmlhfab
