/- Texts laid together: AppI, PrvK. -/
import Derived.Test.YtpbfgcepmbpkdaaGreatBunM
import Derived.Test.YtpbfgcepmbpkdaaGreatBunYD
import Derived.Test.YtpbfgcepmbpkdaaGreatBunYE
namespace Go.Proofs.YtpbfgcepmbpkdaaGreat
open Go.RowKit
set_option linter.unusedVariables false
set_option linter.unusedSimpArgs false

/-- An empty list of the call's own. -/
theorem own_zero (W : World) (T : TypeId) (s B : Nat) (hB : B ≤ W.heap.size) : (W.alloc (.cells #[] T)).ownsRow B T s (.slice (some ⟨W.heap.size, 0, none⟩) 0 0) 0 [] :=
  ⟨by simp, .inr ⟨W.heap.size, 0, #[], rfl, hB, heap_alloc_new W _, Nat.le_refl _, by unfold maxLen; omega, by simp, by simp⟩⟩
/-- Numbers appended to a list of the call's own. -/
theorem appI (W : World) (base : Nat) (u : Value) (A B : List Int) (vb : Value) (hO : W.ownsRow base 3 1 u A.length (A.flatMap iw)) (hB : Lm iw 1 W vb B) (hl : A.length + B.length ≤ 17592186044416) (hb : base ≤ W.heap.size) :
    ∃ v' W', (Builtin.append_ #[25, 25] 25 #[u, vb]).run Tryz.prog W = .ok v' W' ∧ W'.ownsRow base 3 1 v' (A.length + B.length) ((A ++ B).flatMap iw) ∧ Below base W W' ∧ W.grownBy W' u.ownBlock ∧ (v'.ownBlock = u.ownBlock ∨ v'.ownBlock = some W.heap.size) := by
  obtain ⟨i0, hi0, hz0, hz1, hz2⟩ := info_parts int_info
  obtain ⟨ao, cap, rfl, h1, h2⟩ := hB
  cases ao with
  | some ad =>
    obtain ⟨v', W', hr, ho, hg, _, hbk⟩ := run_append_own_at (P := Tryz.prog) (w := W) base 25 25 3 i0 (.int .i64 0) 1 8 Tryz.underlying25 hi0 hz0 hz1 hz2 rfl (by decide) u A.length (A.flatMap iw) hO ad B.length cap (B.flatMap iw) (flat_len iw 1 iw_len B) (Lm.news iw_len (by decide) ⟨some ad, cap, rfl, h1, h2⟩) (fun x hx => by
      obtain ⟨o, _, ho⟩ := List.mem_flatMap.1 hx
      simp [iw] at ho
      rw [ho]; rfl) (by unfold maxLen; omega) (by omega) hb
    refine ⟨v', W', hr, ?_, (Below.refl base W).grown hg hb (fun k hk => own_base hO k hk), hg, hbk⟩
    rw [List.flatMap_append]; exact ho
  | none =>
    have hB0 : B = [] := by
      cases B with
      | nil => rfl
      | cons o B => obtain ⟨b, off, e, _⟩ := h2 (by simp); cases e
    have hc0 := h1.2.2 rfl
    subst hB0 hc0
    refine ⟨u, W, run_append_owned_none (P := Tryz.prog) W base 25 25 3 i0 1 Tryz.underlying25 hi0 u A.length (A.flatMap iw) hO, by rw [List.append_nil]; exact hO, Below.refl _ _, ⟨rfl, rfl, rfl, Nat.le_refl _, fun _ _ _ => rfl⟩, .inl rfl⟩
/-- One number appended. -/
theorem appI1 (W : World) (base : Nat) (u : Value) (A : List Int) (a : Addr) (x : Int) (hO : W.ownsRow base 3 1 u A.length (A.flatMap iw)) (hc : W.cell? a = some (.int .i64 x)) (hl : A.length ≤ 100000) (hb : base ≤ W.heap.size) :
    ∃ (au' : Option Addr) (cu' : Nat) (W' : World), (Builtin.append_ #[25, 25] 25 #[u, .slice (some a) 1 1]).run Tryz.prog W = .ok (.slice au' (A.length + 1) cu') W' ∧ W'.ownsRow base 3 1 (.slice au' (A.length + 1) cu') (A ++ [x]).length ((A ++ [x]).flatMap iw) ∧ Below base W W' ∧ W.grownBy W' u.ownBlock ∧ ((Value.slice au' (A.length + 1) cu').ownBlock = u.ownBlock ∨ (Value.slice au' (A.length + 1) cu').ownBlock = some W.heap.size) := by
  obtain ⟨i0, hi0, hz0, hz1, hz2⟩ := info_parts int_info
  obtain ⟨v', W', hr, ho, hg, _, hbk⟩ := run_append_own_at (P := Tryz.prog) (w := W) base 25 25 3 i0 (.int .i64 0) 1 8 Tryz.underlying25 hi0 hz0 hz1 hz2 rfl (by decide) u A.length (A.flatMap iw) hO a 1 1 [.int .i64 x] rfl (fun j u hj => by
    cases j with
    | zero => simp at hj; rw [← hj]; exact hc
    | succ j => simp at hj) (by simp [Value.oneCell']) (by unfold maxLen; omega) (by omega) hb
  obtain ⟨au', cu', rfl⟩ := own_slice ho
  refine ⟨au', cu', W', hr, ?_, (Below.refl base W).grown hg hb (fun k hk => own_base hO k hk), hg, hbk⟩
  rw [List.flatMap_append, List.length_append]; exact ho

end Go.Proofs.YtpbfgcepmbpkdaaGreat

namespace Go.Proofs.YtpbfgcepmbpkdaaGreat
open Go.RowKit Fld Pln Shr
set_option linter.unusedVariables false
set_option linter.unusedSimpArgs false

theorem run_mark {bs : List Bool} (hb : bs.length = 64) {i : Nat} (hi : i < 64) (W : World) : (Instr.index 78 (.agg (bs.map Value.bool).toArray) (.int .i64 (i : Int))).run Tryz.prog W = .ok (.bool (bs.getD i false)) W := by
  have hl : i < bs.length := by omega
  have h0 : (0 : Int) ≤ (i : Int) ∧ (i : Int) < (64 : Nat) := by omega
  have e : (bs.map Value.bool).toArray[i]? = some (.bool (bs.getD i false)) := by
    simp [List.getD_eq_getElem?_getD, hl]
  simp [Instr.index, run_underlying Tryz.underlying78, asIntOf, h0, go_sem, part, e]
  rw [if_pos hi, List.getElem?_eq_getElem hl]; rfl

set_option maxRecDepth 100000 in
set_option maxHeartbeats 200000 in
theorem pCloneI (v : Value) (xs : List Int) (w : World) (h : Lm iw 1 w v xs) (hl : xs.length ≤ 100000) : Calls Tryz.prog 47 #[v] w fun e w' => ∃ v', e = .returned v' ∧ w'.ownsRow w.heap.size 3 1 v' xs.length (xs.flatMap iw) ∧ Below w.heap.size w w' := by
  obtain ⟨a, c, rfl, hc⟩ := h.spell
  cases a with
  | none =>
    obtain ⟨h1, h2, rfl⟩ := h.none_
    subst h2
    clear h hc hl h1
    have hq := Lib.run_eql_slice_nil (P := Tryz.prog)
    go_enter Tryz.func47, Tryz.ntmps47
    go_wp2
    go_ret
    exact ⟨_, rfl, own_nil _ _ _ _, Below.refl _ _⟩
  | some ad =>
    have hB := alloc_below w (.cells #[] 3)
    obtain ⟨v', W', hr, ho, hb, hg, _⟩ := appI (w.alloc (.cells #[] 3)) w.heap.size _ [] xs (.slice (some ad) xs.length c) (own_zero w 3 1 w.heap.size (Nat.le_refl _)) (h.below hB) (by simp; omega) hB.size
    rw [List.nil_append, List.length_nil, Nat.zero_add] at ho
    have HO := hide ho
    have hq := Lib.run_eql_slice_nil (P := Tryz.prog)
    clear ho h
    go_enter Tryz.func47, Tryz.ntmps47
    go_wp2_with (at_builtin; refine Lib.wpList_append_run _ rfl _ _ _ _ rfl _ _ rfl rfl _ _ hr ?_)
    go_ret
    exact ⟨_, rfl, HO.out, hB.trans hb⟩

/-- How far it has come: the first i numbers were looked at. -/
def fil (who : List Int) (i : Nat) : List Int := who ++ oth who i
theorem fil_yes {who : List Int} {i : Nat} (h : (i : Int) ∈ who) : fil who (i + 1) = fil who i := by
  unfold fil; rw [oth_yes (List.contains_iff_mem.2 h)]
theorem fil_no {who : List Int} {i : Nat} (h : ¬ (i : Int) ∈ who) : fil who (i + 1) = fil who i ++ [(i : Int)] := by
  unfold fil
  rw [oth_no (by cases hc : who.contains (i : Int) with | false => rfl | true => exact absurd (List.contains_iff_mem.1 hc) h), List.append_assoc]
theorem fil_len (who : List Int) (i : Nat) : (fil who i).length = who.length + (oth who i).length := List.length_append ..

set_option maxRecDepth 100000 in
set_option maxHeartbeats 400000 in
theorem gFilled (p : Pn) (v : Value) (who : List Int) (w : World) (h : Lm iw 1 w v who) (hw : ∀ x ∈ who, 0 ≤ x ∧ x < 64) (hn : who.Nodup) (hl : (who.length : Int) ≤ p.t) (ht : p.t ≤ 63) :
    Calls Tryz.prog 23 #[plv p, v] w fun e w' => ∃ v', e = .returned v' ∧ w'.ownsRow w.heap.size 3 1 v' (fxN who p.t.toNat).length ((fxN who p.t.toNat).flatMap iw) ∧ Below w.heap.size w w' := by
  obtain ⟨t, Ht⟩ : ∃ t : Nat, Hid (p.t.toNat = t) := ⟨_, rfl⟩
  rw [Ht.out]
  have hpt : p.t = (t : Int) := by have := Ht.out; omega
  have HM := hide (fun W (hb : Below w.heap.size w W) => gMarked v who W (h.below hb) hw)
  have HC := hide (fun W (hb : Below w.heap.size w W) => pCloneI v who W (h.below hb) (by omega))
  have HE : Hid (∀ i, i ≤ t → (fil who i).length = t → fil who i = fxN who t) := fun i hi he => fx_end (by rw [← fil_len]; exact he) hi
  have HMo : Hid (∀ i, i ≤ t → (fil who i).length ≤ t → ¬ (fil who i).length = t → i < t) := fun i hi h1 h2 => fx_more (who := who) (by rw [fil_len] at h1 h2; omega)
  have HF0 : Hid (fil who 0 = who) := by show _ = _; unfold fil; rw [oth_zero, List.append_nil]
  obtain ⟨pb, hA⟩ := pb_box (w := w) p
  have HPb := hide pb
  obtain ⟨c0, c1, c2, c3, c4, c5, c6, c7⟩ := pb.cells
  have hlt : who.length ≤ t := by omega
  have ht63 : t ≤ 63 := by omega
  obtain ⟨ao, cap, rfl, hcap⟩ := h.spell
  clear pb h hw hl ht Ht
  obtain ⟨pf, pn, pk, pt, ps, pe, pw, pd⟩ := p
  dsimp only at *
  subst hpt
  rw [plan_eq] at *
  dsimp only at *
  go_enter Tryz.func23, Tryz.ntmps23
  go_wp2_with fail
  go_step3
  go_upto_region 1 with fail
  generalize w.alloc (.cells #[.int .u8 pf, .int .i64 pn, .int .i64 pk, .int .i64 (t : Int), .int .i64 ps, .int .i64 pe, .int .i64 pd, .int .i64 pw] 24) = W0 at *
  refine wp_region_lit ?_
  refine rowVal rfl (.slice ao who.length cap) (by simp [go_sem, execOp]) ?_
  refine rowCall rfl 40 #[.slice ao who.length cap] (by simp [go_sem, execOp]) (HM.out _ hA) ?_
  rintro e w2 ⟨bs, rfl, hbn, hmem, hb2⟩
  have hmem := hide (hmem hn)
  refine ⟨_, rfl, ?_⟩
  refine rowVal rfl (.tuple #[.agg (bs.map Value.bool).toArray, .bool (!decide who.Nodup)]) (by simp [go_sem, execOp]) ?_
  refine rowVal rfl (.agg (bs.map Value.bool).toArray) (by simp [go_sem, execOp]) ?_
  refine rowVal rfl (.bool (!decide who.Nodup)) (by simp [go_sem, execOp]) ?_
  refine wpList_alloc_row rfl _ rfl _ marks_zero ?_
  refine rowStore rfl _ _ _ rfl w2.heap.size _ _ _ (by kernel_rfl) (by kernel_rfl) (heap_alloc_last w2 _) (mk_size hbn) (by rw [List.size_toArray, List.size_toArray, List.length_map, List.length_map, List.length_replicate, hbn]) (mk_one _) ?_
  rw [World.setRow_alloc_new]
  have hbl : (w2.alloc (.cells (bs.map Value.bool).toArray 78)).heap[w2.heap.size]? = some (.cells (bs.map Value.bool).toArray 78 (0, 0)) := heap_alloc_last w2 _
  have hC3 := Below.next hb2 (alloc_below w2 (.cells (bs.map Value.bool).toArray 78))
  generalize w2.alloc (.cells (bs.map Value.bool).toArray 78) = w3 at *
  have hg3 : w2.heap.size < w3.heap.size := (Array.getElem?_eq_some_iff.1 hbl).1
  generalize w2.heap.size = g3 at *
  clear hb2 c0 c1 c2 c3 c4 c5 c6 c7
  generalize (!decide who.Nodup) = bn at *
  go_wp2_with (go_at_call 47; refine (HC.out _ (Below.next hA hC3)).mono ?_; rintro e w4 ⟨v4, rfl, hO4, hb4⟩)
  have hC4 := Below.next hC3 hb4
  have hbl4 := (hb4.block _ hg3).trans hbl
  have HO4 : Hid (w4.ownsRow W0.heap.size 3 1 v4 (fil who 0).length ((fil who 0).flatMap iw)) := by
    rw [HF0.out]; exact own_mono hO4 hC3.size
  obtain ⟨a4, c4, rfl⟩ := own_form hO4
  have hl0 : (fil who 0).length ≤ t := by rw [HF0.out]; exact hlt
  have hsz4 : w.heap.size ≤ w4.heap.size := Nat.le_trans hA.size hC4.size
  have hln : who.length = (fil who 0).length := by rw [HF0.out]
  clear hbl hC3 hb4 hO4 HM HC hlt HF0
  go_step3
  go_upto_region 3 with fail
  refine wp_region_lit ?_
  refine rowLoad rfl _ _ rfl g3 64 4 _ _ (by kernel_rfl) hbl4 Tryz.underlying78 (mk_size hbn) ?_
  have HIx := hide (fun i hi W => run_mark hbn (i := i) hi W)
  have HSz := hide (mk_size hbn)
  generalize (bs.map Value.bool).toArray = arr at *
  rw [hln] at HO4 ⊢
  clear hln
  go_wp2_with fail
  go_loopw [7, 18] (fun va vi wr => ∃ (i : Nat) (a : Option Addr) (c : Nat), i ≤ t ∧ vi = .int .i64 i ∧ va = .slice a (fil who i).length c ∧ (fil who i).length ≤ t ∧ Hid (wr.ownsRow W0.heap.size 3 1 (.slice a (fil who i).length c) (fil who i).length ((fil who i).flatMap iw)) ∧ Below W0.heap.size W0 wr) (fun _ vi _ => 64 - (intOf vi).toNat)
  case atStart => exact ⟨0, a4, c4, Nat.zero_le _, rfl, rfl, hl0, HO4, hC4⟩
  case round =>
    clear HO4 hC4 hl0 hbl4 hsz4
    obtain ⟨i, a, c, hi, rfl, rfl, hl, HO, hB⟩ := hrel
    obtain ⟨c0, c1, c2, c3, c4', c5, c6, c7⟩ := (HPb.out.below hB).cells
    dsimp only at c0 c1 c2 c3 c4' c5 c6 c7
    have i0 : (0 : Int) ≤ (i : Int) := by omega
    have i1 : (i : Int) < 64 := by omega
    have hix := HIx.out i (by omega)
    have hm := hmem.out i (by omega)
    by_cases he : (fil who i).length = t
    · have HR : Hid (w.heap.size ≤ W0.heap.size) := hA.size
      have HF : Hid (wr.ownsRow W0.heap.size 3 1 (.slice a (fil who i).length c) (fxN who t).length ((fxN who t).flatMap iw)) := by
        have := HO.out
        rw [HE.out i hi he] at this ⊢
        exact this
      have ht : (((fil who i).length : Int) == (t : Int)) = true := beq_iff_eq.2 (by omega)
      clear HO HE HMo hmem hm he HIx
      generalize (fil who i).length = m at *
      go_wp2_with fail
      rw [Exit.noGoto_ret]
      go_ret
      exact ⟨_, rfl, own_mono HF.out HR.out, Below.next hA hB⟩
    · have ht : (((fil who i).length : Int) == (t : Int)) = false := beq_eq_false_iff_ne.2 (by omega)
      have hit := HMo.out i hi hl he
      cases hb : bs.getD i false with
      | true =>
        have HY := hide (fil_yes (hm.1 hb))
        rw [hb] at hix
        have HO2 := HO
        rw [← HY.out] at HO2
        have hl2 : (fil who (i + 1)).length ≤ t := by rw [HY.out]; exact hl
        have HV : Hid (Value.slice a (fil who i).length c = .slice a (fil who (i + 1)).length c) := by show _ = _; rw [HY.out]
        clear HE HMo hmem hm he HIx HO hb
        generalize hgm : (fil who i).length = m at *
        clear hgm
        go_wp2_with fail
        go_roundw
        case rel => exact ⟨i + 1, a, c, by omega, by go_num, HV.out, hl2, HO2, hB⟩
        case measure => simp [intOf]; omega
      | false =>
        have hnm : ¬ (i : Int) ∈ who := fun h => by rw [hm.2 h] at hb; cases hb
        have HY := hide (fil_no hnm)
        rw [hb] at hix
        have hal := alloc_below wr (.cells #[.int .i64 (i : Int)] 3)
        have hc9 : (wr.alloc (.cells #[.int .i64 (i : Int)] 3)).cell? ⟨wr.heap.size, 0, none⟩ = some (.int .i64 (i : Int)) := by simp [go_sem]
        obtain ⟨au, cu, W5, hr5, ho5, hb5, _, _⟩ := appI1 (wr.alloc (.cells #[.int .i64 (i : Int)] 3)) W0.heap.size _ (fil who i) ⟨wr.heap.size, 0, none⟩ (i : Int) (own_below HO.out hal) hc9 (by omega) (Nat.le_trans hB.size hal.size)
        rw [← HY.out] at ho5
        have HL2 : Hid ((fil who (i + 1)).length = (fil who i).length + 1) := by show _ = _; rw [HY.out, List.length_append]; rfl
        have HO5 := hide ho5
        have hB5 := (hB.trans (hal.mono hB.size)).trans hb5
        have hl2 : (fil who (i + 1)).length ≤ t := by rw [HL2.out]; omega
        clear HE HMo hmem hm he HIx HO hb hnm ho5 hal hc9 hb5
        generalize hgm : (fil who i).length = m at *
        clear hgm
        go_wp2_with (at_builtin; refine Lib.wpList_append_run _ rfl _ _ _ _ rfl _ _ rfl rfl _ _ hr5 ?_)
        go_roundw
        case rel => exact ⟨i + 1, au, cu, by omega, by go_num, by rw [HL2.out], hl2, by rw [← HL2.out] at HO5; exact HO5, hB5⟩
        case measure => simp [intOf]; omega

end Go.Proofs.YtpbfgcepmbpkdaaGreat

