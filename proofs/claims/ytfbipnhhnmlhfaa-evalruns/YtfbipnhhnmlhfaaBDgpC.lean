/-
  Layer 10: what Outs hang on, in an array: the program's inner call.
-/
import Derived.Test.YtfbipnhhnmlhfaaBDgpB
namespace Go.Proofs.Ytfbipnhhnmlhfaa
open Go.RowKit Fld Slp
set_option linter.unusedVariables false
set_option linter.unusedSimpArgs false

theorem ar9_put {α : Type} {z : α} {l : List α} {k : Nat} (h : k < l.length) (x : α) : (ar9 z l).set k x = ar9 z (l.set k x) := by
  unfold ar9
  rw [List.set_append_left _ _ h, List.length_set]
theorem bools_zero : (Try.prog.info? 93).bind (·.zero) = some (.agg ((List.replicate 320 false).map Value.bool).toArray) := by kernel_rfl
theorem bools_size : (Try.prog.info? 93).map (·.size) = some 320 := by kernel_rfl
theorem bv_size {xs : List Bool} (h : xs.length = 320) : (Try.prog.info? 93).map (·.size) = some (xs.map Value.bool).toArray.size := by rw [bools_size]; simp [h]
theorem bv_one (xs : List Bool) : (xs.map Value.bool).toArray.all (·.oneCell') = true := by simp [Value.oneCell']
/-- The marks when so many of Outs are marked. -/
def wtJ (p : Pr) (j : Nat) : List Bool := (p.outs.take j).foldl (fun w v => w.set v.toNat true) (List.replicate (p.inp.toNat + p.ops.length) false)
theorem wtJ_len (p : Pr) (j : Nat) : (wtJ p j).length = p.inp.toNat + p.ops.length := by
  have key : ∀ (os : List Int) (w : List Bool), (os.foldl (fun w v => w.set v.toNat true) w).length = w.length := by
    intro os
    induction os with
    | nil => intro w; rfl
    | cons o os ih => intro w; rw [List.foldl_cons, ih]; simp
  unfold wtJ; rw [key]; simp
theorem wtJ_next (p : Pr) {j : Nat} (h : j < p.outs.length) : wtJ p (j + 1) = (wtJ p j).set p.outs[j].toNat true := by
  unfold wtJ; rw [List.take_succ_eq_append_getElem h, List.foldl_append]; rfl
theorem wtJ_end (p : Pr) : wtJ p p.outs.length = wt0 p := by unfold wtJ wt0; rw [List.take_length]
theorem ar9_rep {α : Type} (z : α) {n : Nat} (h : n ≤ 320) : ar9 z (List.replicate n z) = ar9 z [] := by
  unfold ar9
  simp only [List.length_replicate, List.nil_append, List.length_nil, Nat.sub_zero, List.replicate_append_replicate]
  congr 1; omega

set_option maxRecDepth 100000 in
set_option maxHeartbeats 400000 in
theorem gWanted (v : Value) (p : Pr) (w : World) (h : Pm w v p) (hm : mayB p = true) : Calls Try.prog 56 #[v] w fun e w' => e = .returned (.agg ((ar9 false (wtd p)).map Value.bool).toArray) ∧ Below w.heap.size w w' := by
  obtain ⟨⟨i0, i1, l1, l2⟩, mo, mu⟩ := mayB_iff.1 hm
  have HAr := hide (fun i hi hk => may_args hm i hi hk)
  have HOu := hide (fun v hv => may_out hm v hv)
  obtain ⟨n, hn⟩ := Int.eq_ofNat_of_zero_le i0
  have hN : p.inp.toNat = n := by omega
  rw [hN] at HAr HOu
  have HWl := hide (wtJ_len p)
  rw [hN] at HWl
  have HW0 : Hid (ar9 false (wtJ p 0) = ar9 false []) := by
    show _ = _
    unfold wtJ
    rw [List.take_zero, List.foldl_nil, hN]
    exact ar9_rep false (by omega)
  have HWe : Hid (wtD n p.ops p.ops.length (wt0 p) = wtd p) := by show _ = _; unfold wtd; rw [hN]
  obtain ⟨vo, vu, rfl, ho, hu⟩ := h.form
  obtain ⟨ao, co, rfl, _⟩ := ho.spell
  obtain ⟨au, cu, rfl, _⟩ := hu.spell
  have HO := hide ho
  have HU := hide hu
  clear h hm mo mu ho hu i0 hN
  go_enter Try.func56, Try.ntmps56
  go_upto_region 0 with fail
  refine wp_region_lit ?_
  refine rowOp (w1 := w.alloc (.cells #[.int .i64 p.inp, .slice ao p.ops.length co, .slice au p.outs.length cu] 25)) rfl (.pointer (some ⟨w.heap.size, 0, none⟩)) (by simp [go_sem, execOp]) ?_
  refine wpList_alloc_row rfl _ rfl _ bools_zero ?_
  go_upto_region 1 with fail
  refine wp_region_lit ?_
  refine wpList_alloc_row rfl _ rfl _ bools_zero ?_
  have D0 := dw_new Value.bool 93 w p (.slice ao p.ops.length co) (.slice au p.outs.length cu) false
  generalize (((w.alloc (.cells #[.int .i64 p.inp, .slice ao p.ops.length co, .slice au p.outs.length cu] 25)).alloc (.cells ((List.replicate 320 false).map Value.bool).toArray 93)).alloc (.cells ((List.replicate 320 false).map Value.bool).toArray 93)) = W0 at *
  generalize ((w.alloc (.cells #[.int .i64 p.inp, .slice ao p.ops.length co, .slice au p.outs.length cu] 25)).alloc (.cells ((List.replicate 320 false).map Value.bool).toArray 93)).heap.size = b2 at *
  generalize (w.alloc (.cells #[.int .i64 p.inp, .slice ao p.ops.length co, .slice au p.outs.length cu] 25)).heap.size = b1 at *
  obtain ⟨p0, p1, p2⟩ := cell3 D0.pb
  rw [← HW0.out] at D0
  go_wp2_with fail
  go_loopw [11] (fun vi wr => ∃ (j : Nat), j ≤ p.outs.length ∧ vi = .int .i64 j ∧ Hid (Dw Value.bool 93 w wr p (.slice ao p.ops.length co) (.slice au p.outs.length cu) w.heap.size b1 b2 false (ar9 false (wtJ p j)))) (fun vi _ => p.outs.length - (intOf vi).toNat)
  case atStart => exact ⟨0, by omega, rfl, D0⟩
  case round =>
    clear D0 p0 p1 p2
    obtain ⟨j, hj, rfl, F⟩ := hrel
    by_cases hlt : j < p.outs.length
    · obtain ⟨b, off, cu', hv, _, hbl⟩ := HU.out.form (by omega)
      cases hv
      have ca := HU.out.int F.out.bl hlt
      have hok := HOu.out _ (List.getElem_mem hlt)
      have HNx := hide (wtJ_next p hlt)
      generalize p.outs[j] = u at *
      obtain ⟨a, rfl⟩ := Int.eq_ofNat_of_zero_le hok.1
      rw [Int.toNat_natCast] at hok HNx
      have a0 : (0 : Int) ≤ (a : Int) := by omega
      have a1 : (a : Int) < 320 := by omega
      have cA := F.out.ab.cell a false (by omega)
      have fA := F.out.ab.free a
      have F2 := F.out.set a true
      rw [ar9_put (by rw [HWl.out]; exact hok.2), ← HNx.out] at F2
      have HF2 := hide F2
      clear F2 hok
      go_wp2_with fail
      go_roundw
      case rel => exact ⟨j + 1, by omega, by go_num, HF2⟩
      case measure => simp [intOf]; omega
    · obtain rfl : j = p.outs.length := by omega
      have HE := hide (wtJ_end p)
      rw [HE.out] at F
      obtain ⟨p0, p1, p2⟩ := cell3 F.out.pb
      have HL0 : Hid ((wt0 p).length = n + p.ops.length) := by show _ = _; rw [← HE.out]; exact HWl.out _
      clear HW0 HE hlt
      go_wp2_with fail
      go_loopw [6] (fun vi wr => ∃ (k : Nat) (L : List Bool), k ≤ p.ops.length ∧ vi = .int .i64 ((k : Int) - 1) ∧ Hid (L.length = n + p.ops.length ∧ wtD n p.ops k L = wtd p) ∧ Hid (Dw Value.bool 93 w wr p (.slice ao p.ops.length co) (.slice au p.outs.length cu) w.heap.size b1 b2 false (ar9 false L))) (fun vi _ => (intOf vi + 1).toNat)
      case atStart => exact ⟨p.ops.length, wt0 p, Nat.le_refl _, rfl, ⟨HL0.out, HWe.out⟩, F⟩
      case round =>
        clear F p0 p1 p2 HL0
        obtain ⟨k, L, hk, rfl, HL, F⟩ := hrel
        obtain ⟨p0, p1, p2⟩ := cell3 F.out.pb
        by_cases hpos : 0 < k
        · obtain ⟨i, HI⟩ : ∃ i, Hid (k = i + 1) := ⟨k - 1, by show k = k - 1 + 1; omega⟩
          have hki : (k : Int) - 1 = (i : Int) := by have := HI.out; omega
          have hlt : i < p.ops.length := by have := HI.out; omega
          obtain ⟨b, off, co', hv, _, hbl⟩ := HO.out.form (by omega)
          cases hv
          obtain ⟨ca, cb, cc, cd⟩ := HO.out.op F.out.bl hlt
          have hAr := HAr.out i hlt
          have HNx : Hid (wtD n p.ops i (wtS n L i p.ops[i]) = wtd p) := by
            have := HL.out.2
            rw [HI.out] at this
            have e : p.ops.getD i ⟨0, 0, 0, 0⟩ = p.ops[i] := by rw [List.getD_eq_getElem?_getD, List.getElem?_eq_getElem hlt]; rfl
            rw [← e]; exact this
          generalize p.ops[i] = o at *
          obtain ⟨ok, oa, ob, oc⟩ := o
          dsimp only at *
          have HF := hide (F.out.below (alloc_below wr (.cells #[.int .u8 ok, .int .i64 oa, .int .i64 ob, .int .u64 oc] 68)))
          have G := HF.out
          obtain ⟨q0, q1, q2⟩ := cell3 G.pb
          have cN := G.ab.cell (n + i) false (by omega)
          rw [ar9_get] at cN
          have ij0 : (0 : Int) ≤ (n : Int) + (i : Int) := by omega
          have ij1 : (n : Int) + (i : Int) < 320 := by omega
          have ijn : ((n : Int) + (i : Int)).toNat = n + i := by omega
          have hi0 : (0 : Int) ≤ (i : Int) := by omega
          have hi1 : (i : Int) < (p.ops.length : Int) := by omega
          cases hmk : L.getD (n + i) false with
          | false =>
            rw [hmk] at cN
            have HS : Hid (wtS n L i ⟨ok, oa, ob, oc⟩ = L) := by show _ = _; unfold wtS; rw [if_neg (by rw [hmk]; simp)]
            rw [HS.out] at HNx
            clear hmk G
            go_wp2_with fail
            go_roundw
            case rel => exact ⟨i, L, by omega, by go_num, ⟨HL.out.1, HNx.out⟩, HF⟩
            case measure => simp [intOf]; omega
          | true =>
            rw [hmk] at cN
            by_cases h4 : ok = 4
            · subst h4
              have HS : Hid (wtS n L i ⟨4, oa, ob, oc⟩ = L) := by show _ = _; unfold wtS; rw [if_neg (by simp)]
              rw [HS.out] at HNx
              clear hmk G
              go_wp2_with fail
              go_roundw
              case rel => exact ⟨i, L, by omega, by go_num, ⟨HL.out.1, HNx.out⟩, HF⟩
              case measure => simp [intOf]; omega
            · have HS : Hid (wtS n L i ⟨ok, oa, ob, oc⟩ = (L.set oa.toNat true).set ob.toNat true) := by show _ = _; unfold wtS; rw [if_pos ⟨hmk, h4⟩]
              rw [HS.out] at HNx
              obtain ⟨⟨a0, a1⟩, a2, a3⟩ := hAr h4
              obtain ⟨a, rfl⟩ := Int.eq_ofNat_of_zero_le a0
              obtain ⟨c, rfl⟩ := Int.eq_ofNat_of_zero_le a1
              rw [Int.toNat_natCast] at a2 a3
              rw [Int.toNat_natCast, Int.toNat_natCast] at HNx
              have hne : (ok != 4) = true := bne_iff_ne.2 h4
              clear hmk hAr
              go_upto_region 12 with fail
              have HG := hide HF.out
              obtain ⟨g, Hg⟩ : ∃ g, Hid (wr.heap.size = g) := ⟨_, rfl⟩
              have hb2g : b2 < g := by rw [← Hg.out]; exact F.out.ab.lt
              have o1 : (wr.alloc (.cells #[.int .u8 ok, .int .i64 (a : Int), .int .i64 (c : Int), .int .u64 oc] 68)).cell? ⟨wr.heap.size, 1, none⟩ = some (.int .i64 (a : Int)) := by simp [go_sem]
              have o2 : (wr.alloc (.cells #[.int .u8 ok, .int .i64 (a : Int), .int .i64 (c : Int), .int .u64 oc] 68)).cell? ⟨wr.heap.size, 2, none⟩ = some (.int .i64 (c : Int)) := by simp [go_sem]
              rw [Hg.out] at o1 o2
              simp only [Hg.out]
              generalize wr.alloc (.cells #[.int .u8 ok, .int .i64 (a : Int), .int .i64 (c : Int), .int .u64 oc] 68) = w3 at *
              have G1 := HG.out.set a true
              rw [ar9_put (by rw [HL.out.1]; omega)] at G1
              have G2 := G1.set c true
              rw [ar9_put (by rw [List.length_set, HL.out.1]; omega)] at G2
              have HG2 : Hid (Dw Value.bool 93 w ((w3.setCell ⟨b2, a, none⟩ (.bool true)).setCell ⟨b2, c, none⟩ (.bool true)) p (.slice (some ⟨b, off, none⟩) p.ops.length co) (.slice au p.outs.length cu) w.heap.size b1 b2 false (ar9 false ((L.set a true).set c true))) := G2
              have cA := HG.out.ab.cell a false (by omega)
              have fA := HG.out.ab.free a
              have cC := G1.ab.cell c false (by omega)
              have fC := G1.ab.free c
              have o2' : (w3.setCell ⟨b2, a, none⟩ (.bool true)).cell? ⟨g, 2, none⟩ = some (.int .i64 (c : Int)) := (World.cell?_setCell_other w3 _ _ _ (addr_ne (by show _ ≠ _; omega))).trans o2
              have aa0 : (0 : Int) ≤ (a : Int) := by omega
              have aa1 : (a : Int) < 320 := by omega
              have cc0 : (0 : Int) ≤ (c : Int) := by omega
              have cc1 : (c : Int) < 320 := by omega
              clear G G1 G2 q0 q1 q2 ca cb cc cd p0 p1 p2 cN a2 a3
              go_region
              have HG3 := hide (HG2.out.below (Below.refl _ _).drew)
              have HL2 : Hid (((L.set a true).set c true).length = n + p.ops.length) := by show _ = _; rw [List.length_set, List.length_set]; exact HL.out.1
              clear cA fA cC fC o1 o2 o2'
              go_wp2_with fail
              go_roundw
              case rel => exact ⟨i, _, by omega, by go_num, ⟨HL2.out, HNx.out⟩, HG3⟩
              case measure => simp [intOf]; omega
        · obtain rfl : k = 0 := by omega
          have HV : Hid (L = wtd p) := HL.out.2
          rw [HV.out] at F
          have hl := F.out.ab.1
          have hz : (List.replicate 320 false).length = 320 := List.length_replicate
          go_upto_region 13 with fail
          refine wp_region_lit ?_
          refine rowLoad rfl _ _ rfl b2 320 4 _ _ rfl F.out.ab.2 Try.underlying93 (bv_size hl) ?_
          refine rowStore rfl _ _ _ rfl b1 _ _ _ rfl rfl F.out.rb.2 (bv_size hl) (by rw [List.size_toArray, List.size_toArray, List.length_map, List.length_map, hz, hl]) (bv_one _) ?_
          go_wp2
          refine bodyPost_ret (v := .agg ((ar9 false (wtd p)).map Value.bool).toArray) ?_ rfl ⟨rfl, below_setRow F.out.bl (by have := F.out.l1; omega) _⟩
          have hl := run_loadVar_row (P := Try.prog) _ b1 _ 93 _ _ _ (setRow_heap wr _ _ ((ar9 false (wtd p)).map Value.bool).toArray _ _ F.out.rb.2) Try.underlying93 rfl (bv_size hl)
          exact resCell1 Try.results56 rfl hl

end Go.Proofs.Ytfbipnhhnmlhfaa
