/- Texts laid together: AppI, PrvK, QCall, PrvH. -/
import Derived.Test.YtpbfgcepmbpkdaaGreatBunM
import Derived.Test.YtpbfgcepmbpkdaaGreatBunYD
import Derived.Test.YtpbfgcepmbpkdaaGreatBunYE
import Derived.Test.YtpbfgcepmbpkdaaGreatBQMute
import Derived.Test.YtpbfgcepmbpkdaaGreatBunYA
import Derived.Test.YtpbfgcepmbpkdaaGreatBunHB
namespace Go.Proofs.YtpbfgcepmbpkdaaGreat
open Go.RowKit
set_option linter.unusedVariables false
set_option linter.unusedSimpArgs false

/-- An empty list of the call's own. -/
theorem own_zero (W : World) (T : TypeId) (s B : Nat) (hB : B ≤ W.heap.size) : (W.alloc (.cells #[] T)).ownsRow B T s (.slice (some ⟨W.heap.size, 0, none⟩) 0 0) 0 [] :=
  ⟨by simp, .inr ⟨W.heap.size, 0, #[], rfl, hB, heap_alloc_new W _, Nat.le_refl _, by unfold maxLen; omega, by simp, by simp⟩⟩
/-- Numbers appended to a list of the call's own. -/
theorem appI (W : World) (base : Nat) (u : Value) (A B : List Int) (vb : Value) (hO : W.ownsRow base 3 1 u A.length (A.flatMap iw)) (hB : Lm iw 1 W vb B) (hl : A.length + B.length ≤ 17592186044416) (hb : base ≤ W.heap.size) :
    ∃ v' W', (Builtin.append_ #[25, 25] 25 #[u, vb]).run Tryz.prog W = .ok v' W' ∧ W'.ownsRow base 3 1 v' (A.length + B.length) ((A ++ B).flatMap iw) ∧ Below base W W' ∧ W.grownBy W' u.ownBlock ∧ (v'.ownBlock = u.ownBlock ∨ v'.ownBlock = some W.heap.size) := by
  obtain ⟨i0, hi0, hz0, hz1, hz2⟩ := info_parts int_info
  obtain ⟨ao, cap, rfl, h1, h2⟩ := hB
  cases ao with
  | some ad =>
    obtain ⟨v', W', hr, ho, hg, _, hbk⟩ := run_append_own_at (P := Tryz.prog) (w := W) base 25 25 3 i0 (.int .i64 0) 1 8 Tryz.underlying25 hi0 hz0 hz1 hz2 rfl (by decide) u A.length (A.flatMap iw) hO ad B.length cap (B.flatMap iw) (flat_len iw 1 iw_len B) (Lm.news iw_len (by decide) ⟨some ad, cap, rfl, h1, h2⟩) (fun x hx => by
      obtain ⟨o, _, ho⟩ := List.mem_flatMap.1 hx
      simp [iw] at ho
      rw [ho]; rfl) (by unfold maxLen; omega) (by omega) hb
    refine ⟨v', W', hr, ?_, (Below.refl base W).grown hg hb (fun k hk => own_base hO k hk), hg, hbk⟩
    rw [List.flatMap_append]; exact ho
  | none =>
    have hB0 : B = [] := by
      cases B with
      | nil => rfl
      | cons o B => obtain ⟨b, off, e, _⟩ := h2 (by simp); cases e
    have hc0 := h1.2.2 rfl
    subst hB0 hc0
    refine ⟨u, W, run_append_owned_none (P := Tryz.prog) W base 25 25 3 i0 1 Tryz.underlying25 hi0 u A.length (A.flatMap iw) hO, by rw [List.append_nil]; exact hO, Below.refl _ _, ⟨rfl, rfl, rfl, Nat.le_refl _, fun _ _ _ => rfl⟩, .inl rfl⟩
/-- One number appended. -/
theorem appI1 (W : World) (base : Nat) (u : Value) (A : List Int) (a : Addr) (x : Int) (hO : W.ownsRow base 3 1 u A.length (A.flatMap iw)) (hc : W.cell? a = some (.int .i64 x)) (hl : A.length ≤ 100000) (hb : base ≤ W.heap.size) :
    ∃ (au' : Option Addr) (cu' : Nat) (W' : World), (Builtin.append_ #[25, 25] 25 #[u, .slice (some a) 1 1]).run Tryz.prog W = .ok (.slice au' (A.length + 1) cu') W' ∧ W'.ownsRow base 3 1 (.slice au' (A.length + 1) cu') (A ++ [x]).length ((A ++ [x]).flatMap iw) ∧ Below base W W' ∧ W.grownBy W' u.ownBlock ∧ ((Value.slice au' (A.length + 1) cu').ownBlock = u.ownBlock ∨ (Value.slice au' (A.length + 1) cu').ownBlock = some W.heap.size) := by
  obtain ⟨i0, hi0, hz0, hz1, hz2⟩ := info_parts int_info
  obtain ⟨v', W', hr, ho, hg, _, hbk⟩ := run_append_own_at (P := Tryz.prog) (w := W) base 25 25 3 i0 (.int .i64 0) 1 8 Tryz.underlying25 hi0 hz0 hz1 hz2 rfl (by decide) u A.length (A.flatMap iw) hO a 1 1 [.int .i64 x] rfl (fun j u hj => by
    cases j with
    | zero => simp at hj; rw [← hj]; exact hc
    | succ j => simp at hj) (by simp [Value.oneCell']) (by unfold maxLen; omega) (by omega) hb
  obtain ⟨au', cu', rfl⟩ := own_slice ho
  refine ⟨au', cu', W', hr, ?_, (Below.refl base W).grown hg hb (fun k hk => own_base hO k hk), hg, hbk⟩
  rw [List.flatMap_append, List.length_append]; exact ho

end Go.Proofs.YtpbfgcepmbpkdaaGreat

namespace Go.Proofs.YtpbfgcepmbpkdaaGreat
open Go.RowKit Fld Pln Shr
set_option linter.unusedVariables false
set_option linter.unusedSimpArgs false

theorem run_mark {bs : List Bool} (hb : bs.length = 64) {i : Nat} (hi : i < 64) (W : World) : (Instr.index 78 (.agg (bs.map Value.bool).toArray) (.int .i64 (i : Int))).run Tryz.prog W = .ok (.bool (bs.getD i false)) W := by
  have hl : i < bs.length := by omega
  have h0 : (0 : Int) ≤ (i : Int) ∧ (i : Int) < (64 : Nat) := by omega
  have e : (bs.map Value.bool).toArray[i]? = some (.bool (bs.getD i false)) := by
    simp [List.getD_eq_getElem?_getD, hl]
  simp [Instr.index, run_underlying Tryz.underlying78, asIntOf, h0, go_sem, part, e]
  rw [if_pos hi, List.getElem?_eq_getElem hl]; rfl

set_option maxRecDepth 100000 in
set_option maxHeartbeats 200000 in
theorem pCloneI (v : Value) (xs : List Int) (w : World) (h : Lm iw 1 w v xs) (hl : xs.length ≤ 100000) : Calls Tryz.prog 47 #[v] w fun e w' => ∃ v', e = .returned v' ∧ w'.ownsRow w.heap.size 3 1 v' xs.length (xs.flatMap iw) ∧ Below w.heap.size w w' := by
  obtain ⟨a, c, rfl, hc⟩ := h.spell
  cases a with
  | none =>
    obtain ⟨h1, h2, rfl⟩ := h.none_
    subst h2
    clear h hc hl h1
    have hq := Lib.run_eql_slice_nil (P := Tryz.prog)
    go_enter Tryz.func47, Tryz.ntmps47
    go_wp2
    go_ret
    exact ⟨_, rfl, own_nil _ _ _ _, Below.refl _ _⟩
  | some ad =>
    have hB := alloc_below w (.cells #[] 3)
    obtain ⟨v', W', hr, ho, hb, hg, _⟩ := appI (w.alloc (.cells #[] 3)) w.heap.size _ [] xs (.slice (some ad) xs.length c) (own_zero w 3 1 w.heap.size (Nat.le_refl _)) (h.below hB) (by simp; omega) hB.size
    rw [List.nil_append, List.length_nil, Nat.zero_add] at ho
    have HO := hide ho
    have hq := Lib.run_eql_slice_nil (P := Tryz.prog)
    clear ho h
    go_enter Tryz.func47, Tryz.ntmps47
    go_wp2_with (at_builtin; refine Lib.wpList_append_run _ rfl _ _ _ _ rfl _ _ rfl rfl _ _ hr ?_)
    go_ret
    exact ⟨_, rfl, HO.out, hB.trans hb⟩

/-- How far it has come: the first i numbers were looked at. -/
def fil (who : List Int) (i : Nat) : List Int := who ++ oth who i
theorem fil_yes {who : List Int} {i : Nat} (h : (i : Int) ∈ who) : fil who (i + 1) = fil who i := by
  unfold fil; rw [oth_yes (List.contains_iff_mem.2 h)]
theorem fil_no {who : List Int} {i : Nat} (h : ¬ (i : Int) ∈ who) : fil who (i + 1) = fil who i ++ [(i : Int)] := by
  unfold fil
  rw [oth_no (by cases hc : who.contains (i : Int) with | false => rfl | true => exact absurd (List.contains_iff_mem.1 hc) h), List.append_assoc]
theorem fil_len (who : List Int) (i : Nat) : (fil who i).length = who.length + (oth who i).length := List.length_append ..

set_option maxRecDepth 100000 in
set_option maxHeartbeats 400000 in
theorem gFilled (p : Pn) (v : Value) (who : List Int) (w : World) (h : Lm iw 1 w v who) (hw : ∀ x ∈ who, 0 ≤ x ∧ x < 64) (hn : who.Nodup) (hl : (who.length : Int) ≤ p.t) (ht : p.t ≤ 63) :
    Calls Tryz.prog 23 #[plv p, v] w fun e w' => ∃ v', e = .returned v' ∧ w'.ownsRow w.heap.size 3 1 v' (fxN who p.t.toNat).length ((fxN who p.t.toNat).flatMap iw) ∧ Below w.heap.size w w' := by
  obtain ⟨t, Ht⟩ : ∃ t : Nat, Hid (p.t.toNat = t) := ⟨_, rfl⟩
  rw [Ht.out]
  have hpt : p.t = (t : Int) := by have := Ht.out; omega
  have HM := hide (fun W (hb : Below w.heap.size w W) => gMarked v who W (h.below hb) hw)
  have HC := hide (fun W (hb : Below w.heap.size w W) => pCloneI v who W (h.below hb) (by omega))
  have HE : Hid (∀ i, i ≤ t → (fil who i).length = t → fil who i = fxN who t) := fun i hi he => fx_end (by rw [← fil_len]; exact he) hi
  have HMo : Hid (∀ i, i ≤ t → (fil who i).length ≤ t → ¬ (fil who i).length = t → i < t) := fun i hi h1 h2 => fx_more (who := who) (by rw [fil_len] at h1 h2; omega)
  have HF0 : Hid (fil who 0 = who) := by show _ = _; unfold fil; rw [oth_zero, List.append_nil]
  obtain ⟨pb, hA⟩ := pb_box (w := w) p
  have HPb := hide pb
  obtain ⟨c0, c1, c2, c3, c4, c5, c6, c7⟩ := pb.cells
  have hlt : who.length ≤ t := by omega
  have ht63 : t ≤ 63 := by omega
  obtain ⟨ao, cap, rfl, hcap⟩ := h.spell
  clear pb h hw hl ht Ht
  obtain ⟨pf, pn, pk, pt, ps, pe, pw, pd⟩ := p
  dsimp only at *
  subst hpt
  rw [plan_eq] at *
  dsimp only at *
  go_enter Tryz.func23, Tryz.ntmps23
  go_wp2_with fail
  go_step3
  go_upto_region 1 with fail
  generalize w.alloc (.cells #[.int .u8 pf, .int .i64 pn, .int .i64 pk, .int .i64 (t : Int), .int .i64 ps, .int .i64 pe, .int .i64 pd, .int .i64 pw] 24) = W0 at *
  refine wp_region_lit ?_
  refine rowVal rfl (.slice ao who.length cap) (by simp [go_sem, execOp]) ?_
  refine rowCall rfl 40 #[.slice ao who.length cap] (by simp [go_sem, execOp]) (HM.out _ hA) ?_
  rintro e w2 ⟨bs, rfl, hbn, hmem, hb2⟩
  have hmem := hide (hmem hn)
  refine ⟨_, rfl, ?_⟩
  refine rowVal rfl (.tuple #[.agg (bs.map Value.bool).toArray, .bool (!decide who.Nodup)]) (by simp [go_sem, execOp]) ?_
  refine rowVal rfl (.agg (bs.map Value.bool).toArray) (by simp [go_sem, execOp]) ?_
  refine rowVal rfl (.bool (!decide who.Nodup)) (by simp [go_sem, execOp]) ?_
  refine wpList_alloc_row rfl _ rfl _ marks_zero ?_
  refine rowStore rfl _ _ _ rfl w2.heap.size _ _ _ (by kernel_rfl) (by kernel_rfl) (heap_alloc_last w2 _) (mk_size hbn) (by rw [List.size_toArray, List.size_toArray, List.length_map, List.length_map, List.length_replicate, hbn]) (mk_one _) ?_
  rw [World.setRow_alloc_new]
  have hbl : (w2.alloc (.cells (bs.map Value.bool).toArray 78)).heap[w2.heap.size]? = some (.cells (bs.map Value.bool).toArray 78 (0, 0)) := heap_alloc_last w2 _
  have hC3 := Below.next hb2 (alloc_below w2 (.cells (bs.map Value.bool).toArray 78))
  generalize w2.alloc (.cells (bs.map Value.bool).toArray 78) = w3 at *
  have hg3 : w2.heap.size < w3.heap.size := (Array.getElem?_eq_some_iff.1 hbl).1
  generalize w2.heap.size = g3 at *
  clear hb2 c0 c1 c2 c3 c4 c5 c6 c7
  generalize (!decide who.Nodup) = bn at *
  go_wp2_with (go_at_call 47; refine (HC.out _ (Below.next hA hC3)).mono ?_; rintro e w4 ⟨v4, rfl, hO4, hb4⟩)
  have hC4 := Below.next hC3 hb4
  have hbl4 := (hb4.block _ hg3).trans hbl
  have HO4 : Hid (w4.ownsRow W0.heap.size 3 1 v4 (fil who 0).length ((fil who 0).flatMap iw)) := by
    rw [HF0.out]; exact own_mono hO4 hC3.size
  obtain ⟨a4, c4, rfl⟩ := own_form hO4
  have hl0 : (fil who 0).length ≤ t := by rw [HF0.out]; exact hlt
  have hsz4 : w.heap.size ≤ w4.heap.size := Nat.le_trans hA.size hC4.size
  have hln : who.length = (fil who 0).length := by rw [HF0.out]
  clear hbl hC3 hb4 hO4 HM HC hlt HF0
  go_step3
  go_upto_region 3 with fail
  refine wp_region_lit ?_
  refine rowLoad rfl _ _ rfl g3 64 4 _ _ (by kernel_rfl) hbl4 Tryz.underlying78 (mk_size hbn) ?_
  have HIx := hide (fun i hi W => run_mark hbn (i := i) hi W)
  have HSz := hide (mk_size hbn)
  generalize (bs.map Value.bool).toArray = arr at *
  rw [hln] at HO4 ⊢
  clear hln
  go_wp2_with fail
  go_loopw [7, 18] (fun va vi wr => ∃ (i : Nat) (a : Option Addr) (c : Nat), i ≤ t ∧ vi = .int .i64 i ∧ va = .slice a (fil who i).length c ∧ (fil who i).length ≤ t ∧ Hid (wr.ownsRow W0.heap.size 3 1 (.slice a (fil who i).length c) (fil who i).length ((fil who i).flatMap iw)) ∧ Below W0.heap.size W0 wr) (fun _ vi _ => 64 - (intOf vi).toNat)
  case atStart => exact ⟨0, a4, c4, Nat.zero_le _, rfl, rfl, hl0, HO4, hC4⟩
  case round =>
    clear HO4 hC4 hl0 hbl4 hsz4
    obtain ⟨i, a, c, hi, rfl, rfl, hl, HO, hB⟩ := hrel
    obtain ⟨c0, c1, c2, c3, c4', c5, c6, c7⟩ := (HPb.out.below hB).cells
    dsimp only at c0 c1 c2 c3 c4' c5 c6 c7
    have i0 : (0 : Int) ≤ (i : Int) := by omega
    have i1 : (i : Int) < 64 := by omega
    have hix := HIx.out i (by omega)
    have hm := hmem.out i (by omega)
    by_cases he : (fil who i).length = t
    · have HR : Hid (w.heap.size ≤ W0.heap.size) := hA.size
      have HF : Hid (wr.ownsRow W0.heap.size 3 1 (.slice a (fil who i).length c) (fxN who t).length ((fxN who t).flatMap iw)) := by
        have := HO.out
        rw [HE.out i hi he] at this ⊢
        exact this
      have ht : (((fil who i).length : Int) == (t : Int)) = true := beq_iff_eq.2 (by omega)
      clear HO HE HMo hmem hm he HIx
      generalize (fil who i).length = m at *
      go_wp2_with fail
      rw [Exit.noGoto_ret]
      go_ret
      exact ⟨_, rfl, own_mono HF.out HR.out, Below.next hA hB⟩
    · have ht : (((fil who i).length : Int) == (t : Int)) = false := beq_eq_false_iff_ne.2 (by omega)
      have hit := HMo.out i hi hl he
      cases hb : bs.getD i false with
      | true =>
        have HY := hide (fil_yes (hm.1 hb))
        rw [hb] at hix
        have HO2 := HO
        rw [← HY.out] at HO2
        have hl2 : (fil who (i + 1)).length ≤ t := by rw [HY.out]; exact hl
        have HV : Hid (Value.slice a (fil who i).length c = .slice a (fil who (i + 1)).length c) := by show _ = _; rw [HY.out]
        clear HE HMo hmem hm he HIx HO hb
        generalize hgm : (fil who i).length = m at *
        clear hgm
        go_wp2_with fail
        go_roundw
        case rel => exact ⟨i + 1, a, c, by omega, by go_num, HV.out, hl2, HO2, hB⟩
        case measure => simp [intOf]; omega
      | false =>
        have hnm : ¬ (i : Int) ∈ who := fun h => by rw [hm.2 h] at hb; cases hb
        have HY := hide (fil_no hnm)
        rw [hb] at hix
        have hal := alloc_below wr (.cells #[.int .i64 (i : Int)] 3)
        have hc9 : (wr.alloc (.cells #[.int .i64 (i : Int)] 3)).cell? ⟨wr.heap.size, 0, none⟩ = some (.int .i64 (i : Int)) := by simp [go_sem]
        obtain ⟨au, cu, W5, hr5, ho5, hb5, _, _⟩ := appI1 (wr.alloc (.cells #[.int .i64 (i : Int)] 3)) W0.heap.size _ (fil who i) ⟨wr.heap.size, 0, none⟩ (i : Int) (own_below HO.out hal) hc9 (by omega) (Nat.le_trans hB.size hal.size)
        rw [← HY.out] at ho5
        have HL2 : Hid ((fil who (i + 1)).length = (fil who i).length + 1) := by show _ = _; rw [HY.out, List.length_append]; rfl
        have HO5 := hide ho5
        have hB5 := (hB.trans (hal.mono hB.size)).trans hb5
        have hl2 : (fil who (i + 1)).length ≤ t := by rw [HL2.out]; omega
        clear HE HMo hmem hm he HIx HO hb hnm ho5 hal hc9 hb5
        generalize hgm : (fil who i).length = m at *
        clear hgm
        go_wp2_with (at_builtin; refine Lib.wpList_append_run _ rfl _ _ _ _ rfl _ _ rfl rfl _ _ hr5 ?_)
        go_roundw
        case rel => exact ⟨i + 1, au, cu, by omega, by go_num, by rw [HL2.out], hl2, by rw [← HL2.out] at HO5; exact HO5, hB5⟩
        case measure => simp [intOf]; omega

end Go.Proofs.YtpbfgcepmbpkdaaGreat

namespace Go.Proofs.YtpbfgcepmbpkdaaGreat
set_option linter.unusedVariables false

/-- Its last operation made a mere nothing. -/
def muteS (s : Oper) : Oper := { s with op := .move (match s.dst with | none => .const undef | some d => .tmp d) }
def muteLS : List Oper → List Oper
  | [] => []
  | [s] => [muteS s]
  | o :: o2 :: r => o :: muteLS (o2 :: r)
theorem partedS : ∀ (L : List Oper), L ≠ [] → ∃ l s, L = l ++ [s] ∧ muteLS L = l ++ [muteS s] ∧ L.dropLast = l ∧ lastL L = [s]
  | [], h => absurd rfl h
  | [s], _ => ⟨[], s, rfl, rfl, rfl, rfl⟩
  | o :: o2 :: r, _ => by
    obtain ⟨l, s, h1, h2, h3, h4⟩ := partedS (o2 :: r) (List.cons_ne_nil _ _)
    refine ⟨o :: l, s, by rw [h1]; rfl, ?_, ?_, ?_⟩
    · show o :: muteLS (o2 :: r) = _; rw [h2]; rfl
    · show o :: (o2 :: r).dropLast = _; rw [h3]
    · show lastL (o2 :: r) = _; rw [h4]

/-- The last waits for all, itself or by others, and has no guard. -/
def coverS (L : List Oper) (s : Oper) : Bool := s.guard.isNone && (List.range L.length).all fun i => covN L s 8 i
def lastS (L : List Oper) : Bool := !L.isEmpty && backB L && ((lastL L).all fun s => coverS L.dropLast s)

section
variable {P : Program} {C : World → Prop}

/-- Its own slot. -/
def selfS (s : Oper) : Operand := match s.dst with | none => .const undef | some d => .tmp d
theorem put_self (s : Oper) (a : Act) : a.put s.dst (a.eval (selfS s)) = a := by
  unfold selfS
  cases h : s.dst with
  | none => rfl
  | some d =>
    show ({ a with tmps := _ } : Act) = a
    have : a.tmps.setIfInBounds d (a.tmps.getD d undef) = a.tmps := by
      apply Array.ext
      · simp
      · intro i h1 h2
        rw [Array.getElem_setIfInBounds]
        split
        · rename_i e; subst e; simp [Array.getD, h2]
        · rfl
    show ({ tmps := a.tmps.setIfInBounds d (a.tmps.getD d undef), defers := a.defers } : Act) = a
    rw [this]

theorem yielded_muteS (l : List Oper) (s : Oper) (tmps : Array Value) : yielded (l ++ [muteS s]).toArray tmps = yielded (l ++ [s]).toArray tmps := by
  funext j
  unfold yielded
  have : (((l ++ [muteS s]).toArray)[j]?).bind (·.dst) = (((l ++ [s]).toArray)[j]?).bind (·.dst) := by
    simp only [List.getElem?_toArray]
    by_cases h : j < l.length
    · rw [List.getElem?_append_left h, List.getElem?_append_left h]
    · rw [List.getElem?_append_right (by omega), List.getElem?_append_right (by omega)]
      cases h2 : j - l.length with
      | zero => rfl
      | succ k => rfl
  rw [this]

theorem ready_muteS (l : List Oper) (s : Oper) (listed : Array Bool) : Region.ready .any (l ++ [muteS s]).toArray listed = Region.ready .any (l ++ [s]).toArray listed := by
  unfold Region.ready
  have hs : ((l ++ [muteS s]).toArray).size = ((l ++ [s]).toArray).size := by simp
  rw [hs]
  apply List.filter_congr
  intro j _
  congr 1
  simp only [List.getElem?_toArray]
  by_cases h : j < l.length
  · rw [List.getElem?_append_left h, List.getElem?_append_left h]
  · rw [List.getElem?_append_right (by omega), List.getElem?_append_right (by omega)]
    cases h2 : j - l.length with
    | zero => rfl
    | succ k => rfl

theorem quiet_muteS (ops : Array Oper) (Q : Act → Prop) (s : Oper) (hg : s.guard = none) (a : Act) (h : Q a) : wpQuiet P ops C Q [muteS s] a := by
  have hw : Region.wanted (muteS s) (yielded ops a.tmps) = true := by
    have : (muteS s).guard = none := hg
    simp [Region.wanted, this]
  show (if Region.wanted (muteS s) (yielded ops a.tmps) = true then _ else _)
  rw [if_pos hw]
  refine ⟨a.eval (selfS s), fun w hw => ?_, ?_⟩
  · unfold Oper.quietAt
    show Oper.quietUpon P C w (a.eval (selfS s)) ((execOp a.eval (muteS s)).run P w)
    have e : (execOp a.eval (muteS s)).run P w = .ok (.value (a.eval (selfS s))) w := rfl
    rw [e]
    simp [Oper.quietUpon]
  · show Q (a.put s.dst (a.eval (selfS s)))
    rw [put_self]
    exact h

theorem all_listedS {l : List Oper} {s : Oper} {n : Nat} (hc : coverS l s = true) (hn : l.length = n) {listed : Array Bool} (hcl : Closed (l ++ [s]) listed) (hr : n ∈ Region.ready .any (l ++ [s]).toArray listed) : Region.ready .any (l ++ [s]).toArray (listed.setIfInBounds n true) = [] := by
  obtain ⟨hu, o, ho, hall⟩ := mem_ready.1 hr
  have hos : o = s := by
    simp only [List.getElem?_toArray] at ho
    rw [List.getElem?_append_right (by omega), hn, Nat.sub_self] at ho
    simpa using ho.symm
  subst hos
  cases he : Region.ready .any (l ++ [o]).toArray (listed.setIfInBounds n true) with
  | nil => rfl
  | cons j r =>
    exfalso
    have hj : j ∈ Region.ready .any (l ++ [o]).toArray (listed.setIfInBounds n true) := by rw [he]; exact List.mem_cons_self
    obtain ⟨hju, oj, hoj, _⟩ := mem_ready.1 hj
    have hjl : j < l.length + 1 := by
      apply Nat.lt_of_not_le; intro hcn
      simp only [List.getElem?_toArray] at hoj
      rw [List.getElem?_eq_none (by simp; omega)] at hoj; cases hoj
    by_cases hjn : j = n
    · subst hjn
      by_cases hsz : j < listed.size
      · simp [hsz] at hju
      · simp [hsz] at hju
    · have h1 : listed.getD j true = false := by rw [getD_set_ne true (fun h => hjn h.symm)] at hju; exact hju
      unfold coverS at hc
      simp only [Bool.and_eq_true] at hc
      have h2 := List.all_eq_true.1 hc.2 j (List.mem_range.2 (by omega))
      have h3 := covN_listed hall hcl 8 j h2
      by_cases hsz : j < listed.size
      · simp [hsz] at h1 h3
        rw [h1] at h3; cases h3
      · simp [hsz] at h3

theorem any_lastS {l : List Oper} {s : Oper} {n : Nat} (hn : l.length = n) (hb : backB (l ++ [s]) = true) (hc : coverS l s = true) {Q : Exit → Act → World → Prop} :
    ∀ (fuel : Nat) (listed : Array Bool) (a : Act) (w : World), C w → listed.size = n + 1 → listed.getD n true = false → Closed (l ++ [s]) listed →
    wpAnyQ P .any (l ++ [muteS s]).toArray C (fun a' => ∀ w', C w' → wpList P (l ++ [s]).toArray Q [s] a' w') fuel listed a → wpAny P .any (l ++ [s]).toArray Q fuel listed a w := by
  have hlen : (l ++ [s]).length = n + 1 := by simp [hn]
  intro fuel
  induction fuel with
  | zero =>
    intro listed a w hw hsz hu hcl h
    have := h.1
    rw [ready_muteS] at this
    exact absurd this (some_ready hb (by omega) n (by omega) hu)
  | succ fuel ih =>
    intro listed a w hw hsz hu hcl h
    refine ⟨fun h0 => absurd h0 (some_ready hb (by omega) n (by omega) hu), fun i hi => ?_⟩
    have h1 := h.2 i (by rw [ready_muteS]; exact hi)
    by_cases hin : i = n
    · subst hin
      have hempty := all_listedS hc hn hcl hi
      have hcc := hc
      unfold coverS at hcc
      simp only [Bool.and_eq_true, Option.isNone_iff_eq_none] at hcc
      have hls : ((l ++ [s]).toArray)[i]? = some s := by simp [← hn]
      have hlm : ((l ++ [muteS s]).toArray)[i]? = some (muteS s) := by simp [← hn]
      obtain ⟨v, hy, hK⟩ := yieldsIn_of_qOp hlm h1
      have hv : v = a.eval (selfS s) := by
        have hwt : Region.wanted (muteS s) (yielded (l ++ [muteS s]).toArray a.tmps) = true := by
          have : (muteS s).guard = none := hcc.1
          simp [Region.wanted, this]
        rcases hy with ⟨_, hy⟩ | ⟨hy, _⟩
        · have h5 := hy w hw
          unfold Oper.quietAt at h5
          have e : (execOp a.eval (muteS s)).run P w = .ok (.value (a.eval (selfS s))) w := rfl
          have h6 : Oper.quietUpon P C w v ((execOp a.eval (muteS s)).run P w) := h5
          rw [e] at h6
          simpa [Oper.quietUpon, eq_comm] using h6
        · rw [hwt] at hy; cases hy
      rw [hv, show (muteS s).dst = s.dst from rfl, put_self] at hK
      have hQ : ∀ w', C w' → wpList P (l ++ [s]).toArray Q [s] a w' := by
        have hK' : wpAnyQ P .any (l ++ [muteS s]).toArray C (fun a' => ∀ w', C w' → wpList P (l ++ [s]).toArray Q [s] a' w') fuel (listed.setIfInBounds i true) a := hK
        cases fuel with
        | zero => exact hK'.2
        | succ fuel => exact hK'.1 (by rw [ready_muteS]; exact hempty)
      have h2 := hQ w hw
      have hnext : ∀ a' w', Q .normal a' w' → wpAny P .any (l ++ [s]).toArray Q fuel (listed.setIfInBounds i true) a' w' := by
        intro a' w' hq
        cases fuel with
        | zero => exact ⟨hempty, hq⟩
        | succ fuel => exact ⟨fun _ => hq, fun j hj => by rw [hempty] at hj; cases hj⟩
      refine wpOp_mono hnext ?_
      unfold wpOp
      simp only [hls]
      exact h2
    · have hil : i < l.length := by
        obtain ⟨_, o, ho, _⟩ := mem_ready.1 hi
        apply Nat.lt_of_not_le; intro hcn
        simp only [List.getElem?_toArray] at ho
        rw [List.getElem?_eq_none (by simp; omega)] at ho; cases ho
      have h2 := wpOp_of_qOp (Q' := Q) (K' := wpAny P .any (l ++ [s]).toArray Q fuel (listed.setIfInBounds i true)) hw (fun a' w' hw' hk => ih _ a' w' hw' (by simpa using hsz) (by rw [getD_set_ne true hin]; exact hu) (hcl.set hi) hk) h1
      have e1 : ((l ++ [muteS s]).toArray)[i]? = ((l ++ [s]).toArray)[i]? := by
        simp only [List.getElem?_toArray]
        rw [List.getElem?_append_left hil, List.getElem?_append_left hil]
      unfold wpOp at h2 ⊢
      rw [e1] at h2
      simp only [yielded_muteS] at h2
      exact h2

theorem wp_region_lastS {id : Nat} {Q : Exit → Act → World → Prop} {a : Act} {w : World} {L : List Oper} (hm : P.follows .mixedOrders = true) (hB : Region.lexB .any (muteLS L).toArray = true) (hL : lastS L = true)
    (h : wpQuiet P L.toArray (fun w' => ∃ n, w' = w.drewN n) (fun a' => ∀ w', (∃ n, w' = w.drewN n) → wpList P L.toArray Q (lastL L) a' w') L.dropLast a) : (Code.region id L.toArray true).wp P Q a w := by
  unfold lastS at hL
  simp only [Bool.and_eq_true] at hL
  obtain ⟨⟨hne, hb⟩, hc⟩ := hL
  obtain ⟨l, s, rfl, h2, h3, h4⟩ := partedS L (by intro h; rw [h] at hne; simp at hne)
  rw [h2] at hB
  rw [h3, h4] at h
  rw [h4] at hc
  have hc : coverS l s = true := by simpa [h3] using hc
  have hcc := hc
  unfold coverS at hcc
  simp only [Bool.and_eq_true, Option.isNone_iff_eq_none] at hcc
  have hq : wpQuiet P (l ++ [muteS s]).toArray (fun w' => ∃ n, w' = w.drewN n) (fun a' => ∀ w', (∃ n, w' = w.drewN n) → wpList P (l ++ [s]).toArray Q [s] a' w') (l ++ [muteS s]) a := by
    refine wpQuiet_app (l ++ [s]).toArray _ _ (fun t => yielded_muteS l s t) [muteS s] l a ?_
    have mono : ∀ (Q1 Q2 : Act → Prop), (∀ a, Q1 a → Q2 a) → ∀ (m : List Oper) (a : Act), wpQuiet P (l ++ [s]).toArray (fun w' => ∃ n, w' = w.drewN n) Q1 m a → wpQuiet P (l ++ [s]).toArray (fun w' => ∃ n, w' = w.drewN n) Q2 m a := by
      intro Q1 Q2 h12 m
      induction m with
      | nil => intro a h; exact h12 a h
      | cons o m ihm =>
        intro a h
        unfold wpQuiet at h ⊢
        split
        · rename_i hw; rw [if_pos hw] at h; exact Oper.quiet_mono ihm h
        · rename_i hw; rw [if_neg hw] at h; exact ihm _ h
    exact mono _ _ (fun a' h' => quiet_muteS _ _ s hcc.1 a' h') l a h
  simp only [Region.lexB, Bool.and_eq_true] at hB
  have hlex := wpAnyQ_lex (C := fun w' => ∃ n, w' = w.drewN n) (md := .any) hB.1 (l ++ [muteS s]) 0 (Array.replicate (l ++ [muteS s]).toArray.size false) a (by simp) (by simpa using hB.2) hq
  refine wp_region_any hm ?_
  have e : ((l ++ [s]).toArray).size = (l ++ [muteS s]).length := by simp
  have e2 : (l ++ [muteS s]).toArray.size = (l ++ [muteS s]).length := by simp
  rw [e]
  rw [e2] at hlex
  exact any_lastS rfl hb hc _ _ _ _ ⟨1, rfl⟩ (by simp) (by simp [Array.getD]) (fun j o _ hj => by rw [none_listed] at hj; cases hj) hlex

end
end Go.Proofs.YtpbfgcepmbpkdaaGreat

namespace Go.Proofs.YtpbfgcepmbpkdaaGreat
open Go.RowKit Fld Rnk
set_option linter.unusedVariables false
set_option linter.unusedSimpArgs false

/-- The equations' list; nothing else that is old was written. -/
structure Eqs (W0 wr : World) (base g N : Nat) (zs : List Int) : Prop where
  own : wr.ownsRow base 50 1 (.slice (some ⟨g, 0, none⟩) N N) N (vals zs)
  grown : W0.grownBy wr (some g)
theorem Eqs.below {W0 wr w1 : World} {base g N : Nat} {zs : List Int} (h : Eqs W0 wr base g N zs) (hb : Below wr.heap.size wr w1) : Eqs W0 w1 base g N zs := ⟨own_below h.own hb, grown_trans h.grown (grown_of hb _)⟩
theorem Eqs.next {W0 wr w1 : World} {base g N : Nat} {zs zs' : List Int} (h : Eqs W0 wr base g N zs) (hO : w1.ownsRow base 50 1 (.slice (some ⟨g, 0, none⟩) N N) N (vals zs')) (hg : wr.grownBy w1 (some g)) : Eqs W0 w1 base g N zs' := ⟨hO, grown_trans h.grown hg⟩
theorem Eqs.cell {W0 wr : World} {base g N : Nat} {zs : List Int} (h : Eqs W0 wr base g N zs) {k : Nat} (hk : k < N) : wr.cell? ⟨g, k, none⟩ = some (.int .u64 (co zs k)) := own_cell h.own (own_len h.own) hk

set_option maxRecDepth 100000 in
set_option maxHeartbeats 400000 in
theorem pSolved (q : Int) (wd : Bool) (g N T W s base : Nat) (zs0 : List Int) (X : Nat → Nat → Int) (w : World) (hm : Md q wd) (hs : s = T + W) (hN : N = T * s) (hT : T ≤ 64) (hW : W ≤ 64) (hW0 : 0 < W)
    (hO : w.ownsRow base 50 1 (.slice (some ⟨g, 0, none⟩) N N) N (vals zs0)) (hE : Ev q T W s X 0 zs0) (hX : ∀ t m, t < T → m < W → El q (X t m)) :
    Calls Tryz.prog 24 #[.agg #[.int .u64 q, .slice (some ⟨g, 0, none⟩) N N, .int .i64 T, .int .i64 W]] w fun e w' => ∃ v' us, e = .returned v' ∧ Mtx w' w.heap.size v' us (mkl T (fun r => mk W (fun t => X r t))) ∧ w.grownBy w' (some g) := by
  have hp0 : 0 < q := by have := hm.bounds; omega
  have hgt : g < w.heap.size := own_top hO g rfl
  have hNb : N ≤ 64 * 128 := by rw [hN]; exact Nat.mul_le_mul (by omega) (by omega)
  have hs1 : s ≤ 128 := by omega
  have hTs : T < s := by omega
  have HsW : Hid (s - T = W) := by show _ = _; omega
  have HRow := hide (fun i W' (hi : i < T) => pRow q g N N T W s i W' hs hN hT hW hW0 hi (Nat.le_refl _))
  have HFit : Hid (∀ r, r < T → r * s + s ≤ N) := fun r hr => by
    have := fl_end (T := T) (s := s) (r := r) (m := s) hr (Nat.le_refl s)
    rw [← hN] at this; exact this
  have HInv : Hid (∀ (zs : List Int) k W', Els q zs → Calls Tryz.prog 50 #[.int .u64 q, .int .u64 (co zs k)] W' fun e w' => e = .returned (.int .u64 (inv q (co zs k))) ∧ ∃ n, w' = W'.drewN n) := fun zs k W' hz => pInverse q _ wd W' hm (hz.co hp0 _)
  have HScl : Hid (∀ (W' : World) (zs : List Int) o n c, Els q zs → El q c → o + n ≤ N → W'.ownsRow base 50 1 (.slice (some ⟨g, 0, none⟩) N N) N (vals zs) → Calls Tryz.prog 49 #[.int .u64 q, .slice (some ⟨g, o, none⟩) n n, .int .u64 c] W' fun e w' => e = .returned (.tuple #[]) ∧ w'.ownsRow base 50 1 (.slice (some ⟨g, 0, none⟩) N N) N (vals (scl q zs o n c)) ∧ W'.grownBy w' (some g)) := fun W' zs o n c h1 h2 h3 h4 => pScale q c wd g o n N N n base zs W' hm h2 h1 h4 h3 (by omega) (Nat.le_refl _)
  have HTko : Hid (∀ (W' : World) (zs : List Int) o n c o2, Els q zs → El q c → o + n ≤ N → o2 + n ≤ N → (o2 + n ≤ o ∨ o + n ≤ o2) → W'.ownsRow base 50 1 (.slice (some ⟨g, 0, none⟩) N N) N (vals zs) → Calls Tryz.prog 43 #[.int .u64 q, .slice (some ⟨g, o, none⟩) n n, .int .u64 c, .slice (some ⟨g, o2, none⟩) n n] W' fun e w' => e = .returned (.tuple #[]) ∧ w'.ownsRow base 50 1 (.slice (some ⟨g, 0, none⟩) N N) N (vals (tko q zs o n c o2)) ∧ W'.grownBy w' (some g)) := fun W' zs o n c o2 h1 h2 h3 h5 h6 h4 => pTakeOff q c wd g o n N N n base g o2 n zs (fun k => co zs (o2 + k)) W' hm h2 h1 h4 h3 (by omega) (Nat.le_refl _) (Nat.le_refl _) (fun k hk => h1.co hp0 _) (rdb_near W' (own_len h4) h5 h6)
  have HEs := hide (fun i zs (h : Ev q T W s X i zs) hi => h.scale hm hs hi)
  have HEo := hide (fun i j zs (h : Ew q T W s X i j zs) hi hj hij => h.off hm hs hi hj hij)
  have HEf := hide (fun zs (h : Ev q T W s X T zs) r t hr ht => h.found hm hX (r := r) (w := t) hr ht)
  have HAp : Hid (∀ i j m, j ≠ i → m ≤ s → i * s + m + (s - m) ≤ j * s + m ∨ j * s + m + (s - m) ≤ i * s + m) := fun i j m h1 h2 => rows_apart (T := T) h1 h2
  have HEl : Hid (∀ (zs : List Int) k, Els q zs → El q (co zs k)) := fun zs k h => h.co hp0 k
  have HIl : Hid (∀ a, El q (inv q a)) := fun a => pow_el hp0
  have hA := alloc_below w (.cells #[.int .u64 q, .slice (some ⟨g, 0, none⟩) N N, .int .i64 T, .int .i64 W] 56)
  have HS : Hid (Syb (w.alloc (.cells #[.int .u64 q, .slice (some ⟨g, 0, none⟩) N N, .int .i64 T, .int .i64 W] 56)) w.heap.size q g N N T W) := heap_alloc_last w _
  have HQ0 : Hid (Eqs (w.alloc (.cells #[.int .u64 q, .slice (some ⟨g, 0, none⟩) N N, .int .i64 T, .int .i64 W] 56)) (w.alloc (.cells #[.int .u64 q, .slice (some ⟨g, 0, none⟩) N N, .int .i64 T, .int .i64 W] 56)) base g N zs0) := ⟨own_below hO hA, grown_refl _ _⟩
  have HE0 := hide hE
  obtain ⟨d0, d1, d2, d3⟩ := HS.out.cells
  clear hO hE hX hm hs hN hp0
  go_enter Tryz.func24, Tryz.ntmps24
  go_upto_region 1 with fail
  generalize w.alloc (.cells #[.int .u64 q, .slice (some ⟨g, 0, none⟩) N N, .int .i64 T, .int .i64 W] 56) = W0 at *
  have hne : w.heap.size ≠ g := by omega
  go_wp2_with fail
  clear d0 d1 d2 d3
  go_loopw [11] (fun vi wr => ∃ (i : Nat) (zs : List Int), i ≤ T ∧ vi = .int .i64 i ∧ Hid (Eqs W0 wr base g N zs) ∧ Hid (Ev q T W s X i zs)) (fun vi _ => T - (intOf vi).toNat)
  case atStart => exact ⟨0, zs0, Nat.zero_le _, rfl, HQ0, HE0⟩
  case round =>
    clear HQ0 HE0
    obtain ⟨i, zs, hi, rfl, HQ, HE⟩ := hrel
    obtain ⟨d0, d1, d2, d3⟩ := (HS.out.grown HQ.out.grown hne).cells
    by_cases hlt : i < T
    · have HR1 := hide (fun W' => HRow.out i W' hlt)
      have hF := HFit.out i hlt
      obtain ⟨L, HL⟩ : ∃ L, Hid (i * s = L) := ⟨_, rfl⟩
      rw [HL.out] at HR1 hF
      have i0 : (0 : Int) ≤ (i : Int) := by omega
      have i1 : (i : Int) ≤ (s : Int) := by omega
      have i2 : ¬ s = i := by omega
      have i3 : (i : Int) < (T : Int) := by omega
      go_upto_region 5 with (go_at_call 48; refine (HR1.out _).mono ?_; rintro e w1 ⟨rfl, hb1⟩)
      have HQ1 := hide (HQ.out.below hb1)
      clear d0 d1 d2 d3 HR1
      obtain ⟨d0, d1, d2, d3⟩ := (HS.out.grown HQ1.out.grown hne).cells
      have d4 := HQ1.out.cell (k := L + i) (by omega)
      have HI1 := hide (fun W' => HInv.out zs (L + i) W' HE.out.els)
      have HSc1 := hide (fun W' (h : World.ownsRow W' base 50 1 (.slice (some ⟨g, 0, none⟩) N N) N (vals zs)) => HScl.out W' zs (L + i) (s - i) (inv q (co zs (L + i))) HE.out.els (HIl.out _) (by omega) h)
      have HEw := hide (HEs.out i zs HE.out hlt)
      rw [HL.out] at HEw
      generalize scl q zs (L + i) (s - i) (inv q (co zs (L + i))) = zs1 at *
      generalize inv q (co zs (L + i)) = c at *
      generalize co zs (L + i) = x at *
      have n1 : (0 : Int) < ((s - i : Nat) : Int) := by omega
      refine wp_region_lastS (by kernel_rfl) (by kernel_rfl) (by kernel_rfl) ?_
      simp only [List.dropLast]
      repeat (go_big_quiet_step (first
          | (go_at_call 50; exact Calls.quiet_of (HI1.out _))))
      refine wpQuiet_nil ?_
      intro _ hw'
      obtain ⟨nq, hw''⟩ := hw'
      subst hw''
      simp only [lastL]
      have hdq : Below w1.heap.size w1 (w1.drewN nq) := below_drewN (Below.refl _ w1) nq
      have HQ2 := hide (HQ1.out.below hdq)
      clear d4 HI1 hdq
      go_upto_region 6 with (go_at_call 49; refine (HSc1.out _ HQ2.out.own).mono ?_; rintro e w2 ⟨rfl, hO2, hG2⟩)
      have HQ3 := hide (HQ2.out.next hO2 hG2)
      clear hO2 hG2 HQ2 HQ1 HQ HSc1 hb1 d0 d1 d2 d3
      obtain ⟨d0, d1, d2, d3⟩ := (HS.out.grown HQ3.out.grown hne).cells
      clear HE
      go_wp2_with fail
      clear d0 d1 d2 d3
      go_loopw [31] (fun vj wr => ∃ (j : Nat) (zs : List Int), j ≤ T ∧ vj = .int .i64 j ∧ Hid (Eqs W0 wr base g N zs) ∧ Hid (Ew q T W s X i j zs)) (fun vj _ => T - (intOf vj).toNat)
      case atStart => exact ⟨0, zs1, Nat.zero_le _, rfl, HQ3, HEw⟩
      case round =>
        clear HQ3 HEw
        obtain ⟨j, ys, hj, rfl, HQ, HE⟩ := hrel
        obtain ⟨d0, d1, d2, d3⟩ := (HS.out.grown HQ.out.grown hne).cells
        by_cases hjt : j < T
        · have HR1 := hide (fun W' => HRow.out j W' hjt)
          have hFj := HFit.out j hjt
          obtain ⟨M, HM⟩ : ∃ M, Hid (j * s = M) := ⟨_, rfl⟩
          rw [HM.out] at HR1 hFj
          have j0 : (0 : Int) ≤ (j : Int) := by omega
          have j3 : (j : Int) < (T : Int) := by omega
          by_cases hji : j = i
          · have HE2 : Hid (Ew q T W s X i (j + 1) ys) := by
              have := HE.out
              rw [hji] at this ⊢
              exact this.skip
            subst hji
            go_wp2_with (go_at_call 48; refine (HR1.out _).mono ?_; rintro e w3 ⟨rfl, hb3⟩)
            have HQ1 := hide (HQ.out.below hb3)
            go_roundw
            case rel => exact ⟨j + 1, ys, by omega, by go_num, HQ1, HE2⟩
            case measure => simp [intOf]; omega
          · have hjn : ((j : Int) != (i : Int)) = true := bne_iff_ne.2 (by omega)
            have HE2 := hide (HEo.out i j ys HE.out hlt hjt hji)
            have HT2 := hide (fun W' (h : World.ownsRow W' base 50 1 (.slice (some ⟨g, 0, none⟩) N N) N (vals ys)) => HTko.out W' ys (M + i) (s - i) (co ys (M + i)) (L + i) HE.out.els (HEl.out _ _ HE.out.els) (by omega) (by omega) (by have := HAp.out i j i hji (by omega); rw [HL.out, HM.out] at this; exact this) h)
            rw [HL.out, HM.out] at HE2
            clear hji
            go_upto_region 11 with (go_at_call 48; refine (HR1.out _).mono ?_; rintro e w3 ⟨rfl, hb3⟩)
            have HQ1 := hide (HQ.out.below hb3)
            clear d0 d1 d2 d3 HR1 HQ hb3 HE
            obtain ⟨d0, d1, d2, d3⟩ := (HS.out.grown HQ1.out.grown hne).cells
            have d4 := HQ1.out.cell (k := M + i) (by omega)
            generalize tko q ys (M + i) (s - i) (co ys (M + i)) (L + i) = zs2 at *
            generalize co ys (M + i) = x2 at *
            refine wp_region_lastS (by kernel_rfl) (by kernel_rfl) (by kernel_rfl) ?_
            simp only [List.dropLast]
            repeat (go_big_quiet_step (fail))
            refine wpQuiet_nil ?_
            intro _ hw'
            obtain ⟨nq2, hw''⟩ := hw'
            subst hw''
            simp only [lastL]
            have hdq : Below w3.heap.size w3 (w3.drewN nq2) := below_drewN (Below.refl _ w3) nq2
            have HQ2 := hide (HQ1.out.below hdq)
            clear d4 hdq
            go_wp2_with (go_at_call 43; refine (HT2.out _ HQ2.out.own).mono ?_; rintro e w4 ⟨rfl, hO4, hG4⟩)
            have HQ3 := hide (HQ2.out.next hO4 hG4)
            clear hO4 hG4 HQ2 HQ1 HT2 d0 d1 d2 d3
            go_roundw
            case rel => exact ⟨j + 1, zs2, by omega, by go_num, HQ3, HE2⟩
            case measure => simp [intOf]; omega
        · obtain rfl : j = T := by omega
          have HE2 := hide (HE.out.next hlt)
          clear HE
          go_wp2_with fail
          go_roundw
          case rel => exact ⟨i + 1, ys, by omega, by go_num, HQ, HE2⟩
          case measure => simp [intOf]; omega
    · obtain rfl : i = T := by omega
      have HF : Hid (∀ r t, r < i → t < W → co zs (r * s + i + t) = X r t) := fun r t hr ht => HEf.out zs HE.out r t hr ht
      have hmk := makeN i (by omega)
      have hal := alloc_below wr (.cells (nvs i).toArray 45)
      have hws : w.heap.size ≤ wr.heap.size := Nat.le_trans hA.size HQ.out.grown.size
      have HM0 := hide (mtx_new wr (lo := w.heap.size) (n := i) hws (by omega) (fun r => if r < 0 then mk W (fun t => X r t) else []) (fun t ht => if_neg (by omega)))
      have HQ1 := hide (HQ.out.below hal)
      have hGn : wr.heap.size ≠ g := by omega
      have hGW : W0.heap.size ≤ wr.heap.size := HQ.out.grown.size
      clear HEf HEo HEs HTko HScl HInv HAp HEl HIl HQ HE
      go_wp2_with fail
      clear hmk d0 d1 d2 d3
      generalize wr.alloc (.cells (nvs i).toArray 45) = V at *
      generalize hGG : wr.heap.size = G at *
      clear hal hGG
      go_loopw [57] (fun vk wq => ∃ (k : Nat) (us : List Value), k ≤ i ∧ vk = .int .i64 k ∧ Hid (Mtx wq w.heap.size (.slice (some ⟨G, 0, none⟩) i i) us (mkl i (fun r => if r < k then mk W (fun t => X r t) else []))) ∧ Hid (Eqs W0 wq base g N zs)) (fun vk _ => i - (intOf vk).toNat)
      case atStart => exact ⟨0, _, Nat.zero_le _, rfl, HM0, HQ1⟩
      case round =>
        clear HM0 HQ1
        obtain ⟨k, us, hk, rfl, HM, HQ⟩ := hrel
        obtain ⟨d0, d1, d2, d3⟩ := (HS.out.grown HQ.out.grown hne).cells
        by_cases hlk : k < i
        · have HR1 := hide (fun W' => HRow.out k W' hlk)
          have hFk := HFit.out k hlk
          obtain ⟨L, HL⟩ : ∃ L, Hid (k * s = L) := ⟨_, rfl⟩
          rw [HL.out] at HR1 hFk
          have k0 : (0 : Int) ≤ (k : Int) := by omega
          have k1 : (k : Int) < (i : Int) := by omega
          have i0 : (0 : Int) ≤ (i : Int) := by omega
          have i1 : (i : Int) ≤ (s : Int) := by omega
          have i2 : ¬ s = i := by omega
          have hdr : Below wr.heap.size wr wr.drew := (Below.refl _ wr).drew
          have HSy : Hid (∀ V', Below wr.heap.size wr V' → V'.cell? ⟨w.heap.size, 0, none⟩ = some (.int .u64 q) ∧ V'.cell? ⟨w.heap.size, 1, none⟩ = some (.slice (some ⟨g, 0, none⟩) N N) ∧ V'.cell? ⟨w.heap.size, 2, none⟩ = some (.int .i64 i) ∧ V'.cell? ⟨w.heap.size, 3, none⟩ = some (.int .i64 W)) := fun V' hb => ((HS.out.grown HQ.out.grown hne).below hb).cells
          have hS0 := HSy.out _ hdr
          have HCl : Hid (∀ W', Below wr.heap.size wr W' → Calls Tryz.prog 42 #[.slice (some ⟨g, L + i, none⟩) (s - i) (s - i)] W' fun e w' => ∃ v', e = .returned v' ∧ w'.ownsRow W'.heap.size 50 1 v' (mk W (fun t => X k t)).length (vals (mk W (fun t => X k t))) ∧ Below W'.heap.size W' w') := fun W' hb => by
            have hq := HQ.out.below hb
            have hw := HsW.out
            have := pCloneW g (L + i) (s - i) (s - i) (mk W (fun t => X k t)) W' (by rw [mk_len]; omega) (by omega) (by omega) (Nat.le_refl _) (own_top hq.own g rfl) (fun t ht => by
              rw [hq.cell (k := L + i + t) (by omega), co_mk, if_pos (by omega), ← HL.out, HF.out k t hlk (by omega)])
            have e : (mk W (fun t => X k t)).length = s - i := by rw [mk_len]; omega
            rw [e]
            exact this
          have HLay : Hid (∀ V' v', Below wr.heap.size wr V' → V'.ownsRow wr.heap.size 50 1 v' (mk W (fun t => X k t)).length (vals (mk W (fun t => X k t))) → V'.cell? ⟨G, k, none⟩ = some (us.getD k nov) ∧ V'.frozen? ⟨G, k, none⟩ = false ∧ Mtx (V'.setCell ⟨G, k, none⟩ v') w.heap.size (.slice (some ⟨G, 0, none⟩) i i) (us.set k v') (mkl i (fun r => if r < k + 1 then mk W (fun t => X r t) else [])) ∧ Eqs W0 (V'.setCell ⟨G, k, none⟩ v') base g N zs) := fun V' v' hb hO => by
            have hMV := HM.out.below hb
            have hml : (mkl i (fun r => if r < k then mk W (fun t => X r t) else [])).length = i := mkl_len _ _
            have hQV := HQ.out.below hb
            have hGV : G < V'.heap.size := own_top hMV.row G rfl
            refine ⟨hMV.cell (i := k) (by rw [hml]; exact hlk), free_own (by have := hMV.row; rw [hml] at this; exact this) k, ?_, ?_⟩
            · have := hMV.lay hml.symm (k := k) (by rw [hml]; exact hlk) (own_mono hO (Nat.le_trans hA.size HQ.out.grown.size)) (fun r x hr hne2 hx e => by
                have h1 := HM.out.tops hr hx
                have h2 := own_base hO x e
                omega)
              rw [mkl_set _ hlk] at this
              refine (mkl_congr (fun r hr => ?_)) ▸ this
              by_cases e : r = k
              · rw [if_pos e, if_pos (by omega), e]
              · rw [if_neg e]
                by_cases e2 : r < k
                · rw [if_pos e2, if_pos (by omega)]
                · rw [if_neg e2, if_neg (by omega)]
            · exact ⟨own_other hQV.own (fun e => hGn (by simpa [Value.ownBlock] using e.symm)), grown_far hQV.grown (grown_set1 V' G k v') (.inr hGW)⟩
          clear HM HQ HF hk d0 d1 d2 d3
          generalize mk W (fun t => X k t) = xs at *
          generalize us.getD k nov = u0 at *
          go_upto_region 18 with fail
          refine wp_region_mute (S := (fun V' => V'.cell? ⟨w.heap.size, 0, none⟩ = some (.int .u64 q) ∧ V'.cell? ⟨w.heap.size, 1, none⟩ = some (.slice (some ⟨g, 0, none⟩) N N) ∧ V'.cell? ⟨w.heap.size, 2, none⟩ = some (.int .i64 i) ∧ V'.cell? ⟨w.heap.size, 3, none⟩ = some (.int .i64 W))) (by kernel_rfl) (by kernel_rfl) rfl (by ((try dsimp only) <;> (first | with_reducible exact hS4 | with_reducible exact hS3 | with_reducible exact hS0))) (fun hHeld => ?_)
          simp only [muteL, mute]
          (refine wpAnyH_take (i := 0) (oi := _) (v := ?v87) rfl (by kernel_rfl) (by kernel_rfl) (by kernel_rfl) (fun _ _ _ h => h) (Or.inl ⟨by rfl, ?hy87⟩) (by assumption) ?rest87; (case hy87 => (first | (intro w hSw; (try dsimp only at hSw); go_simp; done) | (intro w hSw; (try dsimp only at hSw); go_simp; with_reducible rfl))); (try simp only [Act.put, List.getElem_toArray, List.getElem_cons_succ, List.getElem_cons_zero, List.setIfInBounds_toArray, List.set_cons_zero, List.set_cons_succ]))
          (refine wpAnyH_take (i := 1) (oi := _) (v := ?v88) rfl (by kernel_rfl) (by kernel_rfl) (by kernel_rfl) (fun _ _ _ h => h) (Or.inl ⟨by rfl, ?hy88⟩) (by assumption) ?rest88; (case hy88 => (first | (intro w hSw; (try dsimp only at hSw); go_simp; done) | (intro w hSw; (try dsimp only at hSw); go_simp; with_reducible rfl))); (try simp only [Act.put, List.getElem_toArray, List.getElem_cons_succ, List.getElem_cons_zero, List.setIfInBounds_toArray, List.set_cons_zero, List.set_cons_succ]))
          (refine wpAnyH_take (i := 2) (oi := _) (v := ?v89) rfl (by kernel_rfl) (by kernel_rfl) (by kernel_rfl) (fun _ _ _ h => h) (Or.inl ⟨by rfl, ?hy89⟩) (by assumption) ?rest89; (case hy89 => (first | (intro w hSw; (try dsimp only at hSw); go_simp; done) | (intro w hSw; (try dsimp only at hSw); go_simp; with_reducible rfl))); (try simp only [Act.put, List.getElem_toArray, List.getElem_cons_succ, List.getElem_cons_zero, List.setIfInBounds_toArray, List.set_cons_zero, List.set_cons_succ]))
          (refine wpAnyH_take (i := 3) (oi := _) (v := ?v90) rfl (by kernel_rfl) (by kernel_rfl) (by kernel_rfl) (fun _ _ _ h => h) (Or.inl ⟨by rfl, ?hy90⟩) (by assumption) ?rest90; (case hy90 => (first | (intro w hSw; (try dsimp only at hSw); go_simp; done) | (intro w hSw; (try dsimp only at hSw); go_simp; with_reducible rfl))); (try simp only [Act.put, List.getElem_toArray, List.getElem_cons_succ, List.getElem_cons_zero, List.setIfInBounds_toArray, List.set_cons_zero, List.set_cons_succ]))
          (refine wpAnyH_take (i := 5) (oi := _) (v := ?v91) rfl (by kernel_rfl) (by kernel_rfl) (by kernel_rfl) (fun _ _ _ h => h) (Or.inl ⟨by rfl, ?hy91⟩) (by assumption) ?rest91; (case hy91 => (first | (intro w hSw; (try dsimp only at hSw); go_simp; done) | (intro w hSw; (try dsimp only at hSw); go_simp; with_reducible rfl))); (try simp only [Act.put, List.getElem_toArray, List.getElem_cons_succ, List.getElem_cons_zero, List.setIfInBounds_toArray, List.set_cons_zero, List.set_cons_succ]))
          (refine wpAnyH_take (i := 6) (oi := _) (v := ?v92) rfl (by kernel_rfl) (by kernel_rfl) (by kernel_rfl) (fun _ _ _ h => h) (Or.inl ⟨by rfl, ?hy92⟩) (by assumption) ?rest92; (case hy92 => (first | (intro w hSw; (try dsimp only at hSw); go_simp; done) | (intro w hSw; (try dsimp only at hSw); go_simp; with_reducible rfl))); (try simp only [Act.put, List.getElem_toArray, List.getElem_cons_succ, List.getElem_cons_zero, List.setIfInBounds_toArray, List.set_cons_zero, List.set_cons_succ]))
          refine wpAnyH_ready (rs := [4]) (by kernel_rfl) (by simp) ?_
          refine AllReadyH.cons (o := _) rfl (fun K hK => ?_) AllReadyH.nil
          try simp only [List.getElem_toArray, List.getElem_cons_succ, List.getElem_cons_zero]
          go_simp
          (first
                | (go_at_call 48; refine (HR1.out _).mono ?_; rintro e w3 ⟨rfl, hb3⟩; have hC3 := Below.next hdr hb3; have hS3 := HSy.out _ hC3)
                | (go_at_call 42; refine (HCl.out _ hC3).mono ?_; rintro e w4 ⟨v4, rfl, hO4, hb4⟩; have hC4 := Below.next hC3 hb4; have hS4 := HSy.out _ hC4; have hO4' := own_mono hO4 hC3.size; obtain ⟨a4, c4, rfl⟩ := own_form hO4; clear hO4))
          first | (refine hK.out _ _ (by ((try dsimp only) <;> (first | with_reducible exact hS4 | with_reducible exact hS3 | with_reducible exact hS0))) (fun hHeld => ?_)) | (go_wp2_with fail; refine hK.out _ _ (by ((try dsimp only) <;> (first | with_reducible exact hS4 | with_reducible exact hS3 | with_reducible exact hS0))) (fun hHeld => ?_))
          clear hK K
          (try simp only [Act.put, List.getElem_toArray, List.getElem_cons_succ, List.getElem_cons_zero, List.setIfInBounds_toArray, List.set_cons_zero, List.set_cons_succ])
          refine wpAnyH_ready (rs := [7]) (by kernel_rfl) (by simp) ?_
          refine AllReadyH.cons (o := _) rfl (fun K hK => ?_) AllReadyH.nil
          try simp only [List.getElem_toArray, List.getElem_cons_succ, List.getElem_cons_zero]
          go_simp
          refine hK.out _ _ (by ((try dsimp only) <;> (first | with_reducible exact hS4 | with_reducible exact hS3 | with_reducible exact hS0))) (fun hHeld => ?_)
          clear hK K
          (try simp only [Act.put, List.getElem_toArray, List.getElem_cons_succ, List.getElem_cons_zero, List.setIfInBounds_toArray, List.set_cons_zero, List.set_cons_succ])
          refine wpAnyH_ready (rs := [8]) (by kernel_rfl) (by simp) ?_
          refine AllReadyH.cons (o := _) rfl (fun K hK => ?_) AllReadyH.nil
          try simp only [List.getElem_toArray, List.getElem_cons_succ, List.getElem_cons_zero]
          go_simp
          (first
                | (go_at_call 48; refine (HR1.out _).mono ?_; rintro e w3 ⟨rfl, hb3⟩; have hC3 := Below.next hdr hb3; have hS3 := HSy.out _ hC3)
                | (go_at_call 42; refine (HCl.out _ hC3).mono ?_; rintro e w4 ⟨v4, rfl, hO4, hb4⟩; have hC4 := Below.next hC3 hb4; have hS4 := HSy.out _ hC4; have hO4' := own_mono hO4 hC3.size; obtain ⟨a4, c4, rfl⟩ := own_form hO4; clear hO4))
          first | (refine hK.out _ _ (by ((try dsimp only) <;> (first | with_reducible exact hS4 | with_reducible exact hS3 | with_reducible exact hS0))) (fun hHeld => ?_)) | (go_wp2_with fail; refine hK.out _ _ (by ((try dsimp only) <;> (first | with_reducible exact hS4 | with_reducible exact hS3 | with_reducible exact hS0))) (fun hHeld => ?_))
          clear hK K
          (try simp only [Act.put, List.getElem_toArray, List.getElem_cons_succ, List.getElem_cons_zero, List.setIfInBounds_toArray, List.set_cons_zero, List.set_cons_succ])
          (refine wpAnyH_take (i := 9) (oi := _) (v := ?v93) rfl (by kernel_rfl) (by kernel_rfl) (by kernel_rfl) (fun _ _ _ h => h) (Or.inl ⟨by rfl, ?hy93⟩) (by assumption) ?rest93; (case hy93 => (first | (intro w hSw; (try dsimp only at hSw); go_simp; done) | (intro w hSw; (try dsimp only at hSw); go_simp; with_reducible rfl))); (try simp only [Act.put, List.getElem_toArray, List.getElem_cons_succ, List.getElem_cons_zero, List.setIfInBounds_toArray, List.set_cons_zero, List.set_cons_succ]))
          (refine wpAnyH_take (i := 10) (oi := _) (v := ?v94) rfl (by kernel_rfl) (by kernel_rfl) (by kernel_rfl) (fun _ _ _ h => h) (Or.inl ⟨by rfl, ?hy94⟩) (by assumption) ?rest94; (case hy94 => (first | (intro w hSw; (try dsimp only at hSw); go_simp; done) | (intro w hSw; (try dsimp only at hSw); go_simp; with_reducible rfl))); (try simp only [Act.put, List.getElem_toArray, List.getElem_cons_succ, List.getElem_cons_zero, List.setIfInBounds_toArray, List.set_cons_zero, List.set_cons_succ]))
          refine wpAnyH_done (by kernel_rfl) ?_ _
          simp only [muteQ]
          obtain ⟨x1, x2, HM5, HQ5⟩ := HLay.out _ _ hC4 hO4'
          have HM5 := hide HM5
          have HQ5 := hide HQ5
          clear HLay HCl HR1 HSy hS0 hS3 hS4 hO4'
          go_wp2_with fail
          go_roundw
          case rel => exact ⟨k + 1, _, by omega, by go_num, HM5, HQ5⟩
          case measure => simp [intOf]; omega
        · obtain rfl : k = i := by omega
          have HM2 : Hid (Mtx wr w.heap.size (.slice (some ⟨G, 0, none⟩) k k) us (mkl k (fun r => mk W (fun t => X r t)))) := by
            have e : mkl k (fun r => if r < k then mk W (fun t => X r t) else []) = mkl k (fun r => mk W (fun t => X r t)) := mkl_congr (fun r hr => if_pos hr)
            have := HM.out
            rw [e] at this
            exact this
          have hG2 := grown_trans (grown_of hA (some g)) HQ.out.grown
          clear HM HF
          go_wp2_with fail
          go_ret
          exact ⟨_, us, rfl, HM2.out, hG2⟩

end Go.Proofs.YtpbfgcepmbpkdaaGreat

