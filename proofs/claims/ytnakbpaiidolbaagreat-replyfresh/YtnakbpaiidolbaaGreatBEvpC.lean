import Derived.Test.YtnakbpaiidolbaaGreatBEvpB
import Derived.Test.YtnakbpaiidolbaaGreatBunG
import Derived.Test.YtnakbpaiidolbaaGreatBunQ
namespace Go.Proofs.YtnakbpaiidolbaaGreat
open Go.RowKit Fld Slp
set_option linter.unusedVariables false
set_option linter.unusedSimpArgs false
theorem makeU (n m : Nat) (hm : n + m ≤ 1000) (W : World) : (Instr.makeSlice 30 (.int .i64 (n : Int)) (.int .i64 ((n : Int) + (m : Int)))).run Tryz.prog W = .ok (.slice (some ⟨W.heap.size, 0, none⟩) n (n + m)) (W.alloc (.cells (vals (List.replicate (n + m) 0)).toArray 58)) := by
 obtain ⟨i, hi, hz, hs, hb⟩ := info_parts u64_info
 have := run_make (P := Tryz.prog) W 30 58 i (.int .u64 0) Tryz.underlying30 hi hz .i64 .i64 (n : Int) ((n : Int) + (m : Int)) (by omega) (by omega) (by rw [hb]; omega) (by omega)
 rw [this, hs, Int.toNat_natCast, show ((n : Int) + (m : Int)).toNat = n + m by omega]
 show Result.ok _ (W.alloc (.cells (madeCells #[.int .u64 0] ((n + m) * 1)) 58)) = _
 rw [made_list]
 unfold vals
 rw [List.map_replicate]
theorem makeU1 (n : Nat) (hm : n ≤ 1000) (W : World) : (Instr.makeSlice 30 (.int .i64 (n : Int)) (.int .i64 (n : Int))).run Tryz.prog W = .ok (.slice (some ⟨W.heap.size, 0, none⟩) n n) (W.alloc (.cells (vals (List.replicate n 0)).toArray 58)) := by
 have := makeU n 0 (by omega) W
 rw [show (n : Int) + ((0 : Nat) : Int) = n by omega] at this
 exact this
theorem own_room {W : World} {base g n c : Nat} {T : TypeId} {cs xs : List Value} (hb : base ≤ g) (h : W.heap[g]? = some (.cells cs.toArray T (0, 0))) (hl : cs.length = c) (hx : xs.length = n) (hn : n ≤ c) (hc : c ≤ 1000) (ht : cs.take n = xs) : W.ownsRow base T 1 (.slice (some ⟨g, 0, none⟩) n c) n xs :=
 ⟨by rw [hx, Nat.mul_one], .inr ⟨g, c, cs.toArray, rfl, hb, h, hn, by unfold maxLen; omega, by rw [List.size_toArray, hl, Nat.mul_one], by rw [Nat.mul_one]; exact ht⟩⟩
theorem splice_take (cs xs : List Value) (h : xs.length ≤ cs.length) : (splice cs 0 xs).take xs.length = xs ∧ (splice cs 0 xs).length = cs.length := by
 unfold splice
 constructor
 · simp
 · simp; omega
set_option maxRecDepth 100000 in
set_option maxHeartbeats 400000 in
theorem eValues (f p : Int) (wd : Bool) (q : Pr) (vp vi : Value) (xs : List Int) (w : World) (h : Fi f p wd) (hp : Pm w vp q) (hm : mayB q = true) (hr : Rw w vi xs) (hx : Els p xs) (hl : xs.length = q.inp.toNat) :
 Calls Tryz.prog 83 #[elI f, vp, vi] w fun e w' => ∃ v', e = .returned v' ∧ w'.ownsRow w.heap.size 58 1 v' (rns (Rf f) q xs).length (vals (rns (Rf f) q xs)) ∧ Below w.heap.size w w' := by
 obtain ⟨i0, hi0, hz0, hz1, hz2⟩ := info_parts u64_info
 obtain ⟨⟨j0, j1, l1, l2⟩, mo, mu⟩ := mayB_iff.1 hm
 have hl64 : xs.length ≤ 64 := by omega
 have HR := hide hr
 have HAll := hide (fun k => el_all h (q.ops.take k) xs hx)
 have HLen : Hid (∀ k, k ≤ q.ops.length → (rnL (Rf f) xs (q.ops.take k)).length = xs.length + k) := fun k hk => by rw [rnL_len, List.length_take, Nat.min_eq_left hk]
 have HOp : Hid (∀ j (hj : j < q.ops.length), (q.ops[j].k = 1 ∨ q.ops[j].k = 2 ∨ q.ops[j].k = 3 ∨ q.ops[j].k = 4) ∧ (¬ q.ops[j].k = 4 → (0 ≤ q.ops[j].a ∧ 0 ≤ q.ops[j].b) ∧ q.ops[j].a.toNat < xs.length + j ∧ q.ops[j].b.toNat < xs.length + j) ∧ Ok4 q.ops[j]) := fun j hj =>
  ⟨op_kinds hm _ (List.getElem_mem hj), fun h4 => by rw [hl]; exact may_args hm j hj h4, hp.okb _ (List.getElem_mem hj)⟩
 have HV := hide (fun o v ys W (hr : Row W v ys) (hx : Els p ys) => eValueOf f p wd o v ys W h hr hx)
 have HW := hide (fun ys (hy : Els p ys) => els_words hy h.top)
 obtain ⟨vo, vu, rfl, ho, hu⟩ := hp.form
 obtain ⟨ao, co, rfl, _⟩ := ho.spell
 obtain ⟨au, cu, rfl, _⟩ := hu.spell
 obtain ⟨ai, ci, rfl, hci⟩ := hr.spell
 have HO := hide ho
 clear ho hu hp hr hm mo mu h hl j0 j1 hx
 have HM := hide (fun W => makeU xs.length q.ops.length (by omega) W)
 go_enter Tryz.func83, Tryz.ntmps83
 have hmk := fun W => HM.out W
 go_upto_region 2 with fail
 obtain ⟨n1, n2, hB0⟩ := alloc2 w (.cells #[.int .i64 q.inp, .slice ao q.ops.length co, .slice au q.outs.length cu] 28) (.cells (vals (List.replicate (xs.length + q.ops.length) 0)).toArray 58)
 generalize ((w.alloc (.cells #[.int .i64 q.inp, .slice ao q.ops.length co, .slice au q.outs.length cu] 28)).alloc (.cells (vals (List.replicate (xs.length + q.ops.length) 0)).toArray 58)) = W0 at *
 clear hmk
 have hlv : (vals (List.replicate (xs.length + q.ops.length) 0)).length = xs.length + q.ops.length := by rw [vals_length]; simp
 have HT := hide (splice_take (vals (List.replicate (xs.length + q.ops.length) 0)) (vals xs) (by rw [hlv, vals_length]; omega))
 rw [vals_length, hlv] at HT
 have HN := hide (fun (hp : 0 < (vals xs).length) => row_news (HR.out.below hB0).1 (by rw [← vals_length]; exact hp))
 have hvl := vals_length xs
 go_upto_region 3 with (refine wpList_copy_splice rfl _ _ _ _ rfl 58 Tryz.underlying30 u64_size _ _ _ _ _ _ rfl rfl (w.heap.size + 1) 0 (vals (List.replicate (xs.length + q.ops.length) 0)) 58 n2 (vals xs) (by rw [hvl]; simp) (fun hp => ⟨rfl, HN.out hp⟩) (by rw [hvl, hlv]; omega) (vals_one xs) (w.heap.size + 1) W0 (Below.refl _ _) (Nat.le_refl _) ?_; intro w1 HG hB1)
 have n3 := (hB1.block w.heap.size (by omega)).trans n1
 have hB2 : Below w.heap.size w w1 := hB0.trans (hB1.mono (by omega))
 have hO := own_room (base := w.heap.size) (n := xs.length) (by omega) HG.out HT.out.2 hvl (by omega) (by omega) HT.out.1
 clear HT HN hlv hvl n1 n2 HG HM hB1 hB0
 obtain ⟨p0, p1, p2⟩ := cell3 n3
 go_wp2
 go_loopw [7, 25] (fun va vi wr => ∃ j : Nat, j ≤ q.ops.length ∧ vi = .int .i64 j ∧ Hid (wr.ownsRow w.heap.size 58 1 va (xs.length + j) (vals (rnL (Rf f) xs (q.ops.take j)))) ∧ Below w.heap.size w wr) (fun _ vi _ => q.ops.length - (intOf vi).toNat)
 case atStart => exact ⟨0, Nat.zero_le _, rfl, hO, hB2⟩
 case round =>
  obtain ⟨j, hj, rfl, Hown, hB⟩ := hrel
  by_cases hlt : j < q.ops.length
  · obtain ⟨b, off, cp, heq, _, hbl⟩ := HO.out.form (by omega)
    cases heq
    obtain ⟨o0, o1, o2, o3⟩ := HO.out.op hB hlt
    obtain ⟨hk, ha, hok⟩ := HOp.out j hlt
    have HS : Hid (rnL (Rf f) xs (q.ops.take j) ++ [rnS (Rf f) (rnL (Rf f) xs (q.ops.take j)) q.ops[j]] = rnL (Rf f) xs (q.ops.take (j + 1))) := (rnL_next (Rf f) q.ops xs hlt).symm
    have hln := HLen.out j hj
    have hel : Els p (rnL (Rf f) xs (q.ops.take j)) := HAll.out j
    have hrow := row_of_own Hown.out (by omega) (by omega) (HW.out _ hel)
    have hbs := hB.size
    have k0 : (0 : Int) ≤ (j : Int) := by omega
    have k1 : (j : Int) < (q.ops.length : Int) := by omega
    obtain ⟨aw, cw, rfl⟩ := own_form Hown.out
    rw [← hln] at ha
    have HC := hide (fun W (hb : Below wr.heap.size wr W) => HV.out q.ops[j] _ _ W (hrow.below hb) hel hk ha hok.2.2.2.1)
    have hA := alloc_below wr (.cells #[.int .u8 q.ops[j].k, .int .i64 q.ops[j].a, .int .i64 q.ops[j].b, .int .u64 q.ops[j].c] 78)
    unfold opv at HC
    have HL : Hid (xs.length + j = (rnL (Rf f) xs (q.ops.take j)).length) := hln.symm
    generalize rnS (Rf f) (rnL (Rf f) xs (q.ops.take j)) q.ops[j] = y at *
    generalize rnL (Rf f) xs (q.ops.take j) = ys at *
    generalize q.ops[j] = o at *
    clear hln hel hrow hk ha
    go_wp2_with (first
     | (go_at_call 115; refine (HC.out _ hA).mono ?_; rintro e w2 ⟨rfl, hb⟩; have hb2 := Below.next hA hb; have hown2 := own_below Hown.out hb2; have hB2 := Below.next hB hb2; have hsz2 := hB2.size)
     | (at_builtin; refine wpList_append_lies _ rfl _ _ _ rfl w.heap.size 58 i0 _ 1 8 Tryz.underlying30 hi0 hz0 hz1 hz2 rfl (by omega) (.slice aw (xs.length + j) cw) (xs.length + j) _ rfl (hown2.alloc _) ⟨w2.heap.size, 0, none⟩ 1 1 [.int .u64 y] rfl rfl (World.news_of_block (cs := #[.int .u64 y]) (t := 58) (fr := (0, 0)) (heap_alloc_new w2 _)) (by simp [Value.oneCell']) (by omega) (by unfold maxLen; omega) (by omega) (by simp; omega) (w2.heap.size + 1) (by simp) ?_; intro gg cap2 w3 hown3 hgrow hat hltg))
    have R := hide (push_step hB2 hown2 hown3 hgrow HS.out)
    clear hown3 hgrow hat hltg hown2
    go_roundw
    case rel => exact ⟨j + 1, by omega, by go_num, R.out.1, R.out.2⟩
    case measure => simp [intOf]; omega
  · obtain rfl : j = q.ops.length := by omega
    have hln := HLen.out q.ops.length (Nat.le_refl _)
    rw [List.take_length] at hln Hown
    go_wp2
    go_ret
    refine ⟨u7, rfl, ?_, hB⟩
    unfold rns
    rw [hln]
    exact Hown.out
end Go.Proofs.YtnakbpaiidolbaaGreat
