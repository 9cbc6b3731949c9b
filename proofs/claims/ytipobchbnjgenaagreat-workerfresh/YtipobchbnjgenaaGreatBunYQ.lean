import Derived.Test.YtipobchbnjgenaaGreatBRowA
import Derived.Test.YtipobchbnjgenaaGreatBEvlC
set_option linter.unusedVariables false
set_option linter.unusedSimpArgs false
set_option maxRecDepth 100000
set_option maxHeartbeats 4000000
namespace Go.Proofs.YtipobchbnjgenaaGreat
open Go.RowKit Fld
def Ow (w : World) (g n : Nat) (ys : List Int) : Prop := w.ownsRow g 83 1 (.slice (some ⟨g, 0, none⟩) n n) n (vals ys)
theorem Ow.cell {wr : World} {g n : Nat} {ys : List Int} (h : Ow wr g n ys) (k : Nat) (hk : k < n) : wr.cell? ⟨g, k, none⟩ = some (.int .u64 (ys.getD k 0)) := by
 have := own_len h
 rw [h.cellAt k (by omega), vals_at ys k (by omega)]
theorem Ow.free {wr : World} {g n : Nat} {ys : List Int} (h : Ow wr g n ys) (k : Nat) : wr.frozen? ⟨g, k, none⟩ = false := h.frozenAt k
theorem Ow.set {wr : World} {g n : Nat} {ys : List Int} (h : Ow wr g n ys) (k : Nat) (x : Int) : Ow (wr.setCell ⟨g, k, none⟩ (.int .u64 x)) g n (ys.set k x) := by
 have := (h.stored k (.int .u64 x)).1
 rw [vals_set] at this; exact this
theorem fill_step {F : Nat -> Int} {ys : List Int} {k : Nat} {x : Int} (h : ∀ j, j < k -> co ys j = F j) (hk : k < ys.length) (hx : F k = x) : ∀ j, j < k + 1 -> co (ys.set k x) j = F j := by
 intro j hj
 rw [co_set _ _ _ _ hk]
 by_cases he : j = k
 · rw [if_pos he, he, hx]
 · rw [if_neg he]; exact h j (by omega)
theorem fill_end {F : Nat -> Int} {ys : List Int} {n : Nat} (h : ∀ j, j < n -> co ys j = F j) (hl : ys.length = n) : ys = mk n F :=
 ext_co (by rw [mk_len, hl]) (fun i hi => by rw [co_mk, if_pos (by omega), h i (by omega)])
end Go.Proofs.YtipobchbnjgenaaGreat
namespace Go.Proofs.YtipobchbnjgenaaGreat
open Go.RowKit Fld Slp
theorem makeU (n m : Nat) (hm : n + m <= 1000) (W : World) : (Instr.makeSlice 54 (.int .i64 (n : Int)) (.int .i64 ((n : Int) + (m : Int)))).run Tryz.prog W = .ok (.slice (some ⟨W.heap.size, 0, none⟩) n (n + m)) (W.alloc (.cells (vals (List.replicate (n + m) 0)).toArray 83)) := by
 obtain ⟨i, hi, hz, hs, hb⟩ := info_parts u64_info
 have := run_make (P := Tryz.prog) W 54 83 i (.int .u64 0) Tryz.underlying54 hi hz .i64 .i64 (n : Int) ((n : Int) + (m : Int)) (by omega) (by omega) (by rw [hb]; omega) (by omega)
 rw [this, hs, Int.toNat_natCast, show ((n : Int) + (m : Int)).toNat = n + m by omega]
 show Result.ok _ (W.alloc (.cells (madeCells #[.int .u64 0] ((n + m) * 1)) 83)) = _
 rw [made_list]
 unfold vals
 rw [List.map_replicate]
theorem makeU1 (n : Nat) (hm : n <= 1000) (W : World) : (Instr.makeSlice 54 (.int .i64 (n : Int)) (.int .i64 (n : Int))).run Tryz.prog W = .ok (.slice (some ⟨W.heap.size, 0, none⟩) n n) (W.alloc (.cells (vals (List.replicate n 0)).toArray 83)) := by
 have := makeU n 0 (by omega) W
 rw [show (n : Int) + ((0 : Nat) : Int) = n by omega] at this
 exact this
theorem own_room {W : World} {base g n c : Nat} {T : TypeId} {cs xs : List Value} (hb : base <= g) (h : W.heap[g]? = some (.cells cs.toArray T (0, 0))) (hl : cs.length = c) (hx : xs.length = n) (hn : n <= c) (hc : c <= 1000) (ht : cs.take n = xs) : W.ownsRow base T 1 (.slice (some ⟨g, 0, none⟩) n c) n xs :=
 ⟨by rw [hx, Nat.mul_one], .inr ⟨g, c, cs.toArray, rfl, hb, h, hn, by unfold maxLen; omega, by rw [List.size_toArray, hl, Nat.mul_one], by rw [Nat.mul_one]; exact ht⟩⟩
theorem splice_take (cs xs : List Value) (h : xs.length <= cs.length) : (splice cs 0 xs).take xs.length = xs ∧ (splice cs 0 xs).length = cs.length := by
 unfold splice
 constructor
 · simp
 · simp; omega
theorem eValues (f p : Int) (wd : Bool) (q : Pr) (vp vi : Value) (xs : List Int) (w : World) (h : Fi f p wd) (hp : Pm w vp q) (hm : mayB q = true) (hr : Rw w vi xs) (hx : Els p xs) (hl : xs.length = q.inp.toNat) :
 Calls Tryz.prog 175 #[elI f, vp, vi] w fun e w' => ∃ v', e = .returned v' ∧ w'.ownsRow w.heap.size 83 1 v' (rns (Rf f) q xs).length (vals (rns (Rf f) q xs)) ∧ Below w.heap.size w w' := by
 obtain ⟨i0, hi0, hz0, hz1, hz2⟩ := info_parts u64_info
 obtain ⟨⟨j0, j1, l1, l2⟩, mo, mu⟩ := mayB_iff.1 hm
 have hl64 : xs.length <= 64 := by omega
 have HR := hide hr
 have HAll := hide (fun k => el_all h (q.ops.take k) xs hx)
 have HLen : Hid (∀ k, k <= q.ops.length -> (rnL (Rf f) xs (q.ops.take k)).length = xs.length + k) := fun k hk => by rw [rnL_len, List.length_take, Nat.min_eq_left hk]
 have HOp : Hid (∀ j (hj : j < q.ops.length), (q.ops[j].k = 1 ∨ q.ops[j].k = 2 ∨ q.ops[j].k = 3 ∨ q.ops[j].k = 4) ∧ (¬ q.ops[j].k = 4 -> (0 <= q.ops[j].a ∧ 0 <= q.ops[j].b) ∧ q.ops[j].a.toNat < xs.length + j ∧ q.ops[j].b.toNat < xs.length + j) ∧ Ok4 q.ops[j]) := fun j hj =>
  ⟨op_kinds hm _ (List.getElem_mem hj), fun h4 => by rw [hl]; exact may_args hm j hj h4, hp.okb _ (List.getElem_mem hj)⟩
 have HV := hide (fun o v ys W (hr : Row W v ys) (hx : Els p ys) => eValueOf f p wd o v ys W h hr hx)
 have HW := hide (fun ys (hy : Els p ys) => els_words hy h.top)
 obtain ⟨vo, vu, rfl, ho, hu⟩ := hp.form
 obtain ⟨ao, co, rfl, _⟩ := ho.spell
 obtain ⟨au, cu, rfl, _⟩ := hu.spell
 obtain ⟨ai, ci, rfl, hci⟩ := hr.spell
 have HO := hide ho
 clear ho hu hp hr hm mo mu h hl j0 j1 hx
 have HM := hide (fun W => makeU xs.length q.ops.length (by omega) W)
 go_enter Tryz.func175, Tryz.ntmps175
 have hmk := fun W => HM.out W
 go_upto_region 2 with fail
 obtain ⟨n1, n2, hB0⟩ := alloc2 w (.cells #[.int .i64 q.inp, .slice ao q.ops.length co, .slice au q.outs.length cu] 28) (.cells (vals (List.replicate (xs.length + q.ops.length) 0)).toArray 83)
 generalize ((w.alloc (.cells #[.int .i64 q.inp, .slice ao q.ops.length co, .slice au q.outs.length cu] 28)).alloc (.cells (vals (List.replicate (xs.length + q.ops.length) 0)).toArray 83)) = W0 at *
 clear hmk
 have hlv : (vals (List.replicate (xs.length + q.ops.length) 0)).length = xs.length + q.ops.length := by rw [vals_length]; simp
 have HT := hide (splice_take (vals (List.replicate (xs.length + q.ops.length) 0)) (vals xs) (by rw [hlv, vals_length]; omega))
 rw [vals_length, hlv] at HT
 have HN := hide (fun (hp : 0 < (vals xs).length) => row_news (HR.out.below hB0).1 (by rw [<- vals_length]; exact hp))
 have hvl := vals_length xs
 go_upto_region 3 with (refine wpList_copy_splice rfl _ _ _ _ rfl 83 Tryz.underlying54 u64_size _ _ _ _ _ _ rfl rfl (w.heap.size + 1) 0 (vals (List.replicate (xs.length + q.ops.length) 0)) 83 n2 (vals xs) (by rw [hvl]; simp) (fun hp => ⟨rfl, HN.out hp⟩) (by rw [hvl, hlv]; omega) (vals_one xs) (w.heap.size + 1) W0 (Below.refl _ _) (Nat.le_refl _) ?_; intro w1 HG hB1)
 have n3 := (hB1.block w.heap.size (by omega)).trans n1
 have hB2 : Below w.heap.size w w1 := hB0.trans (hB1.mono (by omega))
 have hO := own_room (base := w.heap.size) (n := xs.length) (by omega) HG.out HT.out.2 hvl (by omega) (by omega) HT.out.1
 clear HT HN hlv hvl n1 n2 HG HM hB1 hB0
 obtain ⟨p0, p1, p2⟩ := cell3 n3
 go_wp2
 go_loopw [7, 25] (fun va vi wr => ∃ j : Nat, j <= q.ops.length ∧ vi = .int .i64 j ∧ Hid (wr.ownsRow w.heap.size 83 1 va (xs.length + j) (vals (rnL (Rf f) xs (q.ops.take j)))) ∧ Below w.heap.size w wr) (fun _ vi _ => q.ops.length - (intOf vi).toNat)
 case atStart => exact ⟨0, Nat.zero_le _, rfl, hO, hB2⟩
 case round =>
  obtain ⟨j, hj, rfl, Hown, hB⟩ := hrel
  by_cases hlt : j < q.ops.length
  · obtain ⟨b, off, cp, heq, _, hbl⟩ := HO.out.form (by omega)
    cases heq
    obtain ⟨o0, o1, o2, o3⟩ := HO.out.op hB hlt
    obtain ⟨hk, ha, hok⟩ := HOp.out j hlt
    have HS : Hid (rnL (Rf f) xs (q.ops.take j) ++ [rnS (Rf f) (rnL (Rf f) xs (q.ops.take j)) q.ops[j]] = rnL (Rf f) xs (q.ops.take (j + 1))) := (rnL_next (Rf f) q.ops xs hlt).symm
    have hln := HLen.out j hj
    have hel : Els p (rnL (Rf f) xs (q.ops.take j)) := HAll.out j
    have hrow := row_of_own Hown.out (by omega) (by omega) (HW.out _ hel)
    have hbs := hB.size
    have k0 : (0 : Int) <= (j : Int) := by omega
    have k1 : (j : Int) < (q.ops.length : Int) := by omega
    obtain ⟨aw, cw, rfl⟩ := own_form Hown.out
    rw [<- hln] at ha
    have HC := hide (fun W (hb : Below wr.heap.size wr W) => HV.out q.ops[j] _ _ W (hrow.below hb) hel hk ha hok.2.2.2.1)
    have hA := alloc_below wr (.cells #[.int .u8 q.ops[j].k, .int .i64 q.ops[j].a, .int .i64 q.ops[j].b, .int .u64 q.ops[j].c] 85)
    unfold opv at HC
    have HL : Hid (xs.length + j = (rnL (Rf f) xs (q.ops.take j)).length) := hln.symm
    generalize rnS (Rf f) (rnL (Rf f) xs (q.ops.take j)) q.ops[j] = y at *
    generalize rnL (Rf f) xs (q.ops.take j) = ys at *
    generalize q.ops[j] = o at *
    clear hln hel hrow hk ha
    go_wp2_with (first
     | (go_at_call 191; refine (HC.out _ hA).mono ?_; rintro e w2 ⟨rfl, hb⟩; have hb2 := Below.next hA hb; have hown2 := own_below Hown.out hb2; have hB2 := Below.next hB hb2; have hsz2 := hB2.size)
     | (at_builtin; refine wpList_append_lies _ rfl _ _ _ rfl w.heap.size 83 i0 _ 1 8 Tryz.underlying54 hi0 hz0 hz1 hz2 rfl (by omega) (.slice aw (xs.length + j) cw) (xs.length + j) _ rfl (hown2.alloc _) ⟨w2.heap.size, 0, none⟩ 1 1 [.int .u64 y] rfl rfl (World.news_of_block (cs := #[.int .u64 y]) (t := 83) (fr := (0, 0)) (heap_alloc_new w2 _)) (by simp [Value.oneCell']) (by omega) (by unfold maxLen; omega) (by omega) (by simp; omega) (w2.heap.size + 1) (by simp) ?_; intro gg cap2 w3 hown3 hgrow hat hltg))
    have R := hide (push_step hB2 hown2 hown3 hgrow HS.out)
    clear hown3 hgrow hat hltg hown2
    go_roundw
    case rel => exact ⟨j + 1, by omega, by go_num, R.out.1, R.out.2⟩
    case measure => simp [intOf]; omega
  · obtain rfl : j = q.ops.length := by omega
    have hln := HLen.out q.ops.length (Nat.le_refl _)
    rw [List.take_length] at hln Hown
    go_wp2
    go_ret
    refine ⟨u7, rfl, ?_, hB⟩
    unfold rns
    rw [hln]
    exact Hown.out
theorem mk_map (us : List Int) (ys : List Int) : mk us.length (fun j => ys.getD (us.getD j 0).toNat 0) = us.map (fun v => ys.getD v.toNat 0) := by
 refine ext_co (by rw [mk_len]; simp) (fun i hi => ?_)
 rw [mk_len] at hi
 rw [co_mk, if_pos hi]
 unfold co
 rw [List.getD_eq_getElem?_getD, List.getD_eq_getElem?_getD, List.getD_eq_getElem?_getD, List.getElem?_map, List.getElem?_eq_getElem hi]
 simp
theorem eComing (q : Pr) (vp va : Value) (ys : List Int) (w : World) (hp : Pm w vp q) (hm : mayB q = true) (hr : Rw w va ys) (hl : ys.length = q.inp.toNat + q.ops.length) :
 Calls Tryz.prog 141 #[vp, va] w fun e w' => ∃ v', e = .returned v' ∧ w'.ownsRow w.heap.size 83 1 v' q.outs.length (vals (q.outs.map (fun v => ys.getD v.toNat 0))) ∧ Below w.heap.size w w' := by
 obtain ⟨⟨j0, j1, l1, l2⟩, mo, mu⟩ := mayB_iff.1 hm
 have HOu : Hid (∀ j (hj : j < q.outs.length), 0 <= q.outs[j] ∧ q.outs[j].toNat < ys.length) := fun j hj => by
  have := may_out hm q.outs[j] (List.getElem_mem hj); rw [hl]; exact this
 have HMk := hide (mk_map q.outs ys)
 obtain ⟨vo, vu, rfl, ho, hu⟩ := hp.form
 obtain ⟨ao, co', rfl, _⟩ := ho.spell
 obtain ⟨au, cu, rfl, _⟩ := hu.spell
 obtain ⟨⟨ai, ci, hvi, hl2, hw, hc⟩, _⟩ := hr
 subst hvi
 have HU := hide hu
 have HC := hide hc
 clear ho hu hp hm mo mu hl j0 j1 hc
 generalize hF : (fun j : Nat => ys.getD (q.outs.getD j 0).toNat 0) = F at *
 have HF := hide hF
 clear hF
 rw [<- HMk.out]
 clear HMk
 have hmk := fun W => makeU1 q.outs.length (by omega) W
 go_enter Tryz.func141, Tryz.ntmps141
 go_upto_region 2 with fail
 obtain ⟨n1, n2, hB0⟩ := alloc2 w (.cells #[.int .i64 q.inp, .slice ao q.ops.length co', .slice au q.outs.length cu] 28) (.cells (vals (List.replicate q.outs.length 0)).toArray 83)
 generalize ((w.alloc (.cells #[.int .i64 q.inp, .slice ao q.ops.length co', .slice au q.outs.length cu] 28)).alloc (.cells (vals (List.replicate q.outs.length 0)).toArray 83)) = W0 at *
 clear hmk
 obtain ⟨p0, p1, p2⟩ := cell3 n1
 have hO := own_of_block (base := w.heap.size + 1) (n := q.outs.length) (Nat.le_refl _) n2 (by simp) (by omega)
 clear n2
 go_wp2
 go_loopw [15] (fun vi wr => ∃ (k : Nat) (zs : List Int), k <= q.outs.length ∧ vi = .int .i64 k ∧ zs.length = q.outs.length ∧ Ow wr (w.heap.size + 1) q.outs.length zs ∧ Hid (∀ j, j < k -> co zs j = F j) ∧ Below w.heap.size w wr) (fun vi _ => q.outs.length - (intOf vi).toNat)
 case atStart => exact ⟨0, _, Nat.zero_le _, rfl, by simp, hO, fun j hj => by omega, hB0⟩
 case round =>
  obtain ⟨k, zs, hk, rfl, hzl, hOw, HY, hB⟩ := hrel
  by_cases hlt : k < q.outs.length
  · obtain ⟨b, off, cp, heq, _, hbl⟩ := HU.out.form (by omega)
    cases heq
    have hcu := HU.out.int hB hlt
    obtain ⟨ho0, ho1⟩ := HOu.out k hlt
    obtain ⟨b2, off2, rfl, hbl2, hcell⟩ := HC.out (by intro h0; rw [h0] at ho1; simp at ho1)
    have HS : Hid (F k = ys.getD q.outs[k].toNat 0) := by
     show _ = _
     rw [<- HF.out]
     show ys.getD (q.outs.getD k 0).toNat 0 = _
     rw [List.getD_eq_getElem?_getD (l := q.outs), List.getElem?_eq_getElem hlt]; rfl
    have hca := (hB.cell (p := ⟨b2, off2 + q.outs[k].toNat, none⟩) hbl2).trans (hcell _ ho1)
    have HT2 := hide (fill_step HY.out (by omega) HS.out)
    generalize q.outs[k] = o at *
    obtain ⟨i, rfl⟩ : ∃ i : Nat, o = i := ⟨o.toNat, by omega⟩
    simp only [Int.toNat_natCast] at *
    generalize ys.getD i 0 = y at *
    have k0 : (0 : Int) <= (k : Int) := by omega
    have k1 : (k : Int) < (q.outs.length : Int) := by omega
    have i1 : (i : Int) < (ys.length : Int) := by omega
    have hoc := hOw.cell k hlt
    have hfr := hOw.free k
    clear hcell HS ho1
    go_wp2
    have R1 := hOw.set k y
    have R3 := hB.setCell (p := ⟨w.heap.size + 1, k, none⟩) (Nat.le_succ _) (.int .u64 y)
    go_roundw
    case rel => exact ⟨k + 1, _, by omega, by go_num, by simpa using hzl, R1, HT2, R3⟩
    case measure => simp [intOf]; omega
  · obtain rfl : k = q.outs.length := by omega
    have HV : Hid (zs = mk q.outs.length F) := fill_end HY.out hzl
    go_wp2
    go_ret
    rw [HV.out] at hOw
    exact ⟨_, rfl, own_mono hOw (Nat.le_succ _), hB⟩
theorem eGround (f : Int) (q : Pr) (vp : Value) (w : World) (hp : Pm w vp q) : Calls Tryz.prog 173 #[.int .u8 f, vp] w fun e w' => e = .returned (.bool (mayB q && inF f [])) ∧ Below w.heap.size w w' := by
 have HM := hide (fun W (hb : Below w.heap.size w W) => sMay vp q W (hp.below hb))
 have HI := hide (fun W => In_any f (.slice none 0 0) [] W (row0 W))
 obtain ⟨vo, vu, rfl, ho, hu⟩ := hp.form
 obtain ⟨ao, co', rfl, _⟩ := ho.spell
 obtain ⟨au, cu, rfl, _⟩ := hu.spell
 have hA := alloc_below w (.cells #[.int .i64 q.inp, .slice ao q.ops.length co', .slice au q.outs.length cu] 28)
 clear ho hu hp
 cases hm : mayB q with
 | false =>
  rw [hm] at HM
  clear hm
  go_enter Tryz.func173, Tryz.ntmps173
  go_wp2_with (go_at_call 160; refine (HM.out _ hA).mono ?_; rintro e w1 ⟨rfl, hb1⟩)
  go_ret
  exact ⟨rfl, Below.next hA hb1⟩
 | true =>
  rw [hm] at HM
  clear hm
  generalize inF f [] = r at *
  go_enter Tryz.func173, Tryz.ntmps173
  go_wp2_with (first
   | (go_at_call 160; refine (HM.out _ hA).mono ?_; rintro e w1 ⟨rfl, hb1⟩)
   | (go_at_call 176; refine (HI.out _).mono ?_; rintro e w2 ⟨rfl, hb2⟩))
  go_ret
  exact ⟨by simp, Below.next (Below.next hA hb1) hb2⟩
theorem eCheckRow (f : Int) (q : Pr) (vp vi : Value) (xs : List Int) (w : World) (hp : Pm w vp q) (hr : Rw w vi xs) : Calls Tryz.prog 174 #[.int .u8 f, vp, vi] w fun e w' => e = .returned (.int .i64 (rwE f q xs)) ∧ Below w.heap.size w w' := by
 have HI := hide (fun W (hb : Below w.heap.size w W) => In_any f vi xs W (hr.below hb).1)
 obtain ⟨vo, vu, rfl, ho, hu⟩ := hp.form
 obtain ⟨ao, co', rfl, _⟩ := ho.spell
 obtain ⟨au, cu, rfl, _⟩ := hu.spell
 obtain ⟨ai, ci, rfl, hci⟩ := hr.spell
 have hA := alloc_below w (.cells #[.int .i64 q.inp, .slice ao q.ops.length co', .slice au q.outs.length cu] 28)
 have hN := heap_alloc_new w (.cells #[.int .i64 q.inp, .slice ao q.ops.length co', .slice au q.outs.length cu] 28)
 have hinb := hp.inb
 clear ho hu hp hr
 unfold rwE
 cases hi : inF f xs with
 | false =>
  rw [hi] at HI
  go_enter Tryz.func174, Tryz.ntmps174
  go_wp2_with (go_at_call 176; refine (HI.out _ hA).mono ?_; rintro e w1 ⟨rfl, hb1⟩)
  go_ret
  exact ⟨by simp, Below.next hA hb1⟩
 | true =>
  rw [hi] at HI
  by_cases he : (xs.length : Int) = q.inp
  · have ht : ((xs.length : Int) != q.inp) = false := by simp [he]
    have HE := hide he
    clear he
    go_enter Tryz.func174, Tryz.ntmps174
    go_wp2_with (go_at_call 176; refine (HI.out _ hA).mono ?_; rintro e w1 ⟨rfl, hb1⟩; obtain ⟨p0, p1, p2⟩ := cell3 ((hb1.block _ (Array.getElem?_eq_some_iff.1 hN).1).trans hN))
    go_ret
    exact ⟨rfl, Below.next hA hb1⟩
  · have ht : ((xs.length : Int) != q.inp) = true := by simp [he]
    have HE := hide he
    clear he
    go_enter Tryz.func174, Tryz.ntmps174
    go_wp2_with (go_at_call 176; refine (HI.out _ hA).mono ?_; rintro e w1 ⟨rfl, hb1⟩; obtain ⟨p0, p1, p2⟩ := cell3 ((hb1.block _ (Array.getElem?_eq_some_iff.1 hN).1).trans hN))
    go_ret
    exact ⟨rfl, Below.next hA hb1⟩
theorem eSteps (f : Int) (q : Pr) (vp vi : Value) (xs : List Int) (w : World) (hp : Pm w vp q) (hr : Rw w vi xs) : Gives 140 #[.int .u8 f, vp, vi] w (stL f q xs) (evE f q xs) := by
 have HG := hide (fun W (hb : Below w.heap.size w W) => eGround f q vp W (hp.below hb))
 have HC := hide (fun W (hb : Below w.heap.size w W) => eCheckRow f q vp vi xs W (hp.below hb) (hr.below hb))
 have HV : Hid (mayB q = true -> rwE f q xs = 0 -> ∀ W (hb : Below w.heap.size w W), Calls Tryz.prog 175 #[elI f, vp, vi] W fun e w' => ∃ v', e = .returned v' ∧ w'.ownsRow W.heap.size 83 1 v' (rns (Rf f) q xs).length (vals (rns (Rf f) q xs)) ∧ Below W.heap.size W w') := fun hm he W hb => by
  obtain ⟨h1, h2⟩ := rwE_zero he
  obtain ⟨p, wd, hf, hi⟩ := inF_fi h1
  exact eValues f p wd q vp vi xs W hf (hp.below hb) hm (hr.below hb) (els_of hi hr.words) (by omega)
 obtain ⟨vo, vu, rfl, ho, hu⟩ := hp.form
 obtain ⟨ao, co', rfl, _⟩ := ho.spell
 obtain ⟨au, cu, rfl, _⟩ := hu.spell
 obtain ⟨ai, ci, rfl, hci⟩ := hr.spell
 have hA := alloc_below w (.cells #[.int .i64 q.inp, .slice ao q.ops.length co', .slice au q.outs.length cu] 28)
 have hN := heap_alloc_new w (.cells #[.int .i64 q.inp, .slice ao q.ops.length co', .slice au q.outs.length cu] 28)
 clear ho hu hp hr
 cases hg : (mayB q && inF f []) with
 | false =>
  have e1 : evE f q xs = 2 := evE_nof xs hg
  have e2 : stL f q xs = [] := by unfold stL; rw [e1]; rfl
  rw [e1, e2]
  rw [hg] at HG
  clear hg e1 e2
  apply Gives.none
  go_enter Tryz.func140, Tryz.ntmps140
  go_wp2_with (go_at_call 173; refine (HG.out _ hA).mono ?_; rintro e w1 ⟨rfl, hb1⟩)
  go_ret2
  exact ⟨rfl, Below.next hA hb1⟩
 | true =>
  obtain ⟨hm, e1⟩ := evE_yes xs hg
  rw [hg] at HG
  rw [e1]
  by_cases he : rwE f q xs = 0
  · have e2 : stL f q xs = rns (Rf f) q xs := by unfold stL; rw [e1, if_pos he]
    have HV2 := hide (HV.out hm he)
    rw [e2]
    rw [he] at HC ⊢
    clear e2 e1 hm hg HV he
    generalize rns (Rf f) q xs = zs at *
    unfold elI elv at HV2
    show Calls _ _ _ _ _
    go_enter Tryz.func140, Tryz.ntmps140
    go_wp2_with (first
     | (go_at_call 173; refine (HG.out _ hA).mono ?_; rintro e w1 ⟨rfl, hb1⟩; have hB1 := Below.next hA hb1; have n1 := (hb1.block _ (Array.getElem?_eq_some_iff.1 hN).1).trans hN; obtain ⟨p0, p1, p2⟩ := cell3 n1)
     | (go_at_call 174; refine (HC.out _ hB1).mono ?_; rintro e w2 ⟨rfl, hb2⟩; have hB2 := Below.next hB1 hb2; have n2 := (hb2.block _ (Array.getElem?_eq_some_iff.1 n1).1).trans n1; clear p0 p1 p2; obtain ⟨p0, p1, p2⟩ := cell3 n2)
     | (go_at_call 175; refine (HV2.out _ hB2).mono ?_; rintro e w3 ⟨v3, rfl, ho3, hb3⟩; have hB3 := Below.next hB2 hb3))
    go_ret2
    exact ⟨_, rfl, own_mono ho3 hB2.size, hB3⟩
  · have e2 : stL f q xs = [] := by unfold stL; rw [e1, if_neg he]
    rw [e2]
    have ht : (rwE f q xs != 0) = true := bne_iff_ne.2 he
    clear e2 e1 hm hg HV he
    generalize rwE f q xs = r at *
    apply Gives.none
    go_enter Tryz.func140, Tryz.ntmps140
    go_wp2_with (first
     | (go_at_call 173; refine (HG.out _ hA).mono ?_; rintro e w1 ⟨rfl, hb1⟩; have hB1 := Below.next hA hb1; have n1 := (hb1.block _ (Array.getElem?_eq_some_iff.1 hN).1).trans hN; obtain ⟨p0, p1, p2⟩ := cell3 n1)
     | (go_at_call 174; refine (HC.out _ hB1).mono ?_; rintro e w2 ⟨rfl, hb2⟩; have hB2 := Below.next hB1 hb2))
    go_ret2
    exact ⟨rfl, hB2⟩
theorem eRun (f : Int) (q : Pr) (vp vi : Value) (xs : List Int) (w : World) (hp : Pm w vp q) (hr : Rw w vi xs) : Gives 108 #[.int .u8 f, vp, vi] w (ruL f q xs) (evE f q xs) := by
 have HS := hide (fun W (hb : Below w.heap.size w W) => eSteps f q vp vi xs W (hp.below hb) (hr.below hb))
 unfold Gives at HS
 have HC : Hid (evE f q xs = 0 -> ∀ W B v' (hb : Below w.heap.size w W) (ho : W.ownsRow B 83 1 v' (rns (Rf f) q xs).length (vals (rns (Rf f) q xs))), Calls Tryz.prog 141 #[vp, v'] W fun e w' => ∃ v', e = .returned v' ∧ w'.ownsRow W.heap.size 83 1 v' (rnO (Rf f) q xs).length (vals (rnO (Rf f) q xs)) ∧ Below W.heap.size W w') := fun he W B v' hb ho => by
  obtain ⟨hm, h1, h2⟩ := evE_zero he
  obtain ⟨p, wd, hf, hi⟩ := inF_fi h1
  have hx := els_of hi hr.words
  obtain ⟨⟨j0, j1, l1, l2⟩, _, _⟩ := mayB_iff.1 hm
  have hl : (rns (Rf f) q xs).length = q.inp.toNat + q.ops.length := by unfold rns; rw [rnL_len]; omega
  rw [rnO_len]
  exact eComing q vp v' _ W (hp.below hb) hm (rw_of_own ho (by omega) (els_words (el_all hf q.ops xs hx) hf.top)) hl
 obtain ⟨vo, vu, rfl, ho, hu⟩ := hp.form
 obtain ⟨ao, co', rfl, _⟩ := ho.spell
 obtain ⟨au, cu, rfl, _⟩ := hu.spell
 obtain ⟨ai, ci, rfl, hci⟩ := hr.spell
 have hA := alloc_below w (.cells #[.int .i64 q.inp, .slice ao q.ops.length co', .slice au q.outs.length cu] 28)
 have hN := heap_alloc_new w (.cells #[.int .i64 q.inp, .slice ao q.ops.length co', .slice au q.outs.length cu] 28)
 clear ho hu hp hr
 by_cases he : evE f q xs = 0
 · have e1 : ruL f q xs = rnO (Rf f) q xs := by unfold ruL; rw [if_pos he]
   have e2 : stL f q xs = rns (Rf f) q xs := by unfold stL; rw [if_pos he]
   have HC2 := hide (HC.out he)
   rw [e1, he]
   rw [he, e2] at HS
   clear e1 e2 he HC
   generalize rnO (Rf f) q xs = zs at *
   generalize rns (Rf f) q xs = ys at *
   show Calls _ _ _ _ _
   go_enter Tryz.func108, Tryz.ntmps108
   go_wp2_with (first
    | (go_at_call 140; refine (HS.out _ hA).mono ?_; rintro e w1 ⟨v1, rfl, ho1, hb1⟩; have hB1 := Below.next hA hb1; have n1 := (hb1.block _ (Array.getElem?_eq_some_iff.1 hN).1).trans hN; obtain ⟨p0, p1, p2⟩ := cell3 n1)
    | (go_at_call 141; refine (HC2.out _ _ _ hB1 ho1).mono ?_; rintro e w2 ⟨v2, rfl, ho2, hb2⟩))
   go_ret2
   exact ⟨_, rfl, own_mono ho2 hB1.size, Below.next hB1 hb2⟩
 · have e1 : ruL f q xs = [] := by unfold ruL; rw [if_neg he]
   rw [e1]
   have ht : (evE f q xs != 0) = true := bne_iff_ne.2 he
   clear e1 he HC
   generalize evE f q xs = r at *
   apply Gives.none
   go_enter Tryz.func108, Tryz.ntmps108
   go_wp2_with (go_at_call 140; refine (HS.out _ hA).mono ?_; rintro e w1 ⟨v1, rfl, ho1, hb1⟩)
   go_ret2
   exact ⟨rfl, Below.next hA hb1⟩
end Go.Proofs.YtipobchbnjgenaaGreat
