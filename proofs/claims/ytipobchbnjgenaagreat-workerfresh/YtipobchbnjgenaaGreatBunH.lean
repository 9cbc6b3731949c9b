import Derived.Test.YtipobchbnjgenaaGreatBRowA
import Derived.Test.YtipobchbnjgenaaGreatBMemB
set_option linter.unusedVariables false
set_option linter.unusedSimpArgs false
set_option maxRecDepth 100000
set_option maxHeartbeats 4000000
namespace Go.Proofs.YtipobchbnjgenaaGreat
open Go.RowKit Fld Slp
theorem lCloneI (v : Value) (xs : List Int) (w : World) (h : Lm iw 1 w v xs) (hl : xs.length <= 100000) : Calls Tryz.prog 43 #[v] w fun e w' => ∃ v', e = .returned v' ∧ w'.ownsRow w.heap.size 3 1 v' xs.length (xs.flatMap iw) ∧ Below w.heap.size w w' := by
 obtain ⟨a, c, rfl, hc⟩ := h.spell
 cases a with
 | none =>
  obtain ⟨h1, h2, rfl⟩ := h.none_
  subst h2
  clear h hc hl h1
  have hq := Lib.run_eql_slice_nil (P := Tryz.prog)
  go_enter Tryz.func43, Tryz.ntmps43
  go_wp2
  go_ret
  exact ⟨_, rfl, own_nil _ _ _ _, Below.refl _ _⟩
 | some ad =>
  have hB := alloc_below w (.cells #[] 3)
  obtain ⟨v', W', hr, ho, hb, hg, _⟩ := appI (w.alloc (.cells #[] 3)) w.heap.size _ [] xs (.slice (some ad) xs.length c) (own_zero w 3 1 w.heap.size (Nat.le_refl _)) (h.below hB) (by simp; omega) hB.size
  rw [List.nil_append, List.length_nil, Nat.zero_add] at ho
  have HO := hide ho
  have hq := Lib.run_eql_slice_nil (P := Tryz.prog)
  clear ho h
  go_enter Tryz.func43, Tryz.ntmps43
  go_wp2_with (at_builtin; refine Lib.wpList_append_run _ rfl _ _ _ _ rfl _ _ rfl rfl _ _ hr ?_)
  go_ret
  exact ⟨_, rfl, HO.out, hB.trans hb⟩
def ofE (p : Pr) : Int := if mayB p = true then (if cpO p = 1025 then 4 else 0) else 2
def ofV (p : Pr) : Int := if ofE p = 0 then (cpO p : Int) else 0
def usJ (p : Pr) (n : Nat) : List Int := ((List.range n).filter (fun i => (wtd p).getD i false)).map (fun i : Nat => (i : Int))
def usE (p : Pr) : Int := if mayB p = true then 0 else 2
def usL (p : Pr) : List Int := if mayB p = true then usJ p p.inp.toNat else []
def IsOf (N : Nat) (v : Value) (w : World) (p : Pr) : Prop := Calls Tryz.prog N #[v] w fun e w' => e = .returned (.tuple #[.int .i64 (ofV p), .int .i64 (ofE p)]) ∧ Below w.heap.size w w'
theorem cps_len (p : Pr) : (cps p).length = p.inp.toNat + p.ops.length := by unfold cps; rw [dgL_len, List.length_replicate]
theorem cps_le (p : Pr) : ∀ d ∈ cps p, d <= 1025 := dgL_cap _ _ (fun d hd => by rw [(List.mem_replicate.1 hd).2]; decide)
theorem own_move {w w' : World} {b s n : Nat} {T : TypeId} {v : Value} {xs : List Value} (h : w.ownsRow b T s v n xs) (hb : Below w.heap.size w w') : w'.ownsRow b T s v n xs := own_kept h (below_own hb) (fun g _ => by simp)
def ofJ (p : Pr) (j : Nat) : Nat := mxl ((p.outs.take j).map (fun v => (cps p).getD v.toNat 0))
theorem ofJ_next (p : Pr) {j : Nat} (h : j < p.outs.length) : ofJ p (j + 1) = max (ofJ p j) ((cps p).getD p.outs[j].toNat 0) := by
 unfold ofJ; rw [List.take_succ_eq_append_getElem h, List.map_append, List.map_singleton, mxl_snoc]
theorem ofJ_end (p : Pr) : ofJ p p.outs.length = cpO p := by unfold ofJ cpO; rw [List.take_length]
theorem ofJ_le (p : Pr) (j : Nat) : ofJ p j <= 1025 := mxl_le.2 (fun x hx => by
 obtain ⟨v, _, rfl⟩ := List.mem_map.1 hx
 rw [List.getD_eq_getElem?_getD]
 by_cases h : v.toNat < (cps p).length
 · rw [List.getElem?_eq_getElem h]; exact cps_le p _ (List.getElem_mem h)
 · rw [List.getElem?_eq_none (by omega)]; exact Nat.zero_le _)
theorem gOf (v : Value) (p : Pr) (w : World) (h : Pm w v p) : IsOf 122 v w p := by
 unfold IsOf
 have M := hide (fun W (hb : Below w.heap.size w W) => sMay v p W (h.below hb))
 have HP := hide h
 obtain ⟨vo, vu, rfl, ho, hu⟩ := h.form
 obtain ⟨ao, co, rfl, _⟩ := ho.spell
 obtain ⟨au, cu, rfl, _⟩ := hu.spell
 have HU := hide hu
 have hA := alloc_below w (.cells #[.int .i64 p.inp, .slice ao p.ops.length co, .slice au p.outs.length cu] 28)
 have hN := heap_alloc_new w (.cells #[.int .i64 p.inp, .slice ao p.ops.length co, .slice au p.outs.length cu] 28)
 clear h ho hu
 cases hm : mayB p with
 | false =>
  have e1 : ofE p = 2 := by unfold ofE; rw [hm]; rfl
  have e2 : ofV p = 0 := by unfold ofV; rw [e1]; rfl
  rw [e1, e2]
  rw [hm] at M
  clear hm e1 e2
  go_enter Tryz.func122, Tryz.ntmps122
  go_wp2_with (go_at_call 160; refine (M.out _ hA).mono ?_; rintro e w1 ⟨rfl, hb1⟩)
  go_ret2
  exact ⟨rfl, Below.next hA hb1⟩
 | true =>
  rw [hm] at M
  have HD := hide (fun W (hb : Below w.heap.size w W) => gDegrees _ p W (HP.out.below hb) hm)
  have HOu := hide (fun v hv => may_out hm v hv)
  obtain ⟨⟨i0, i1, l1, l2⟩, _, _⟩ := mayB_iff.1 hm
  have HE : Hid (ofE p = if cpO p = 1025 then 4 else 0) := by show _ = _; unfold ofE; rw [if_pos hm]
  have hlen : (iz (cps p)).length = p.inp.toNat + p.ops.length := by rw [iz_len, cps_len]
  clear hm
  go_enter Tryz.func122, Tryz.ntmps122
  go_upto_region 3 with (go_at_call 160; refine (M.out _ hA).mono ?_; rintro e w1 ⟨rfl, hb1⟩; have hB1 := Below.next hA hb1; have n1 := (hb1.block _ (Array.getElem?_eq_some_iff.1 hN).1).trans hN; obtain ⟨p0, p1, p2⟩ := cell3 n1)
  refine wp_region_lit ?_
  refine rowVal rfl (.agg #[.int .i64 p.inp, .slice ao p.ops.length co, .slice au p.outs.length cu]) (by simp [go_sem, execOp, p0, p1, p2]) ?_
  refine rowCall rfl 161 #[.agg #[.int .i64 p.inp, .slice ao p.ops.length co, .slice au p.outs.length cu]] (by simp [go_sem, execOp]) (HD.out _ hB1) ?_
  rintro e w2 ⟨rfl, hb2⟩
  refine ⟨_, rfl, ?_⟩
  have hl9 : (ar9 0 (iz (cps p))).length = 320 := ar9_len (by rw [hlen]; omega)
  refine wpList_alloc_row rfl _ rfl _ ints_zero ?_
  refine rowStore rfl _ _ _ rfl w2.heap.size _ _ _ rfl rfl (heap_alloc_last w2 _) (iv_size hl9) (by rw [List.size_toArray, List.size_toArray, List.length_map, List.length_map, List.length_replicate, hl9]) (iv_one _) ?_
  rw [World.setRow_alloc_new]
  have hA2 := alloc_below w2 (.cells ((ar9 0 (iz (cps p))).map (Value.int .i64)).toArray 221)
  have A2 : Ar (Value.int .i64) 221 320 (w2.alloc (.cells ((ar9 0 (iz (cps p))).map (Value.int .i64)).toArray 221)) w2.heap.size (ar9 0 (iz (cps p))) := ar_new w2 _ hl9
  have hB3 := Below.next (Below.next hB1 hb2) hA2
  have n3 := (hA2.block _ (Nat.lt_of_lt_of_le (Array.getElem?_eq_some_iff.1 n1).1 hb2.size)).trans ((hb2.block _ (Array.getElem?_eq_some_iff.1 n1).1).trans n1)
  generalize w2.alloc (.cells ((ar9 0 (iz (cps p))).map (Value.int .i64)).toArray 221) = w3 at *
  generalize w2.heap.size = g at *
  obtain ⟨q0, q1, q2⟩ := cell3 n3
  have HA2 := hide A2
  clear A2 n1 n3 p0 p1 p2 HD M hlen
  go_wp2_with fail
  go_loop [5, 16] (fun vg vi => ∃ j : Nat, j <= p.outs.length ∧ vi = .int .i64 j ∧ vg = .int .i64 ((ofJ p j : Nat) : Int)) (fun _ vi => p.outs.length - (intOf vi).toNat)
  case atStart => exact ⟨0, Nat.zero_le _, rfl, rfl⟩
  case round =>
   obtain ⟨j, hj, rfl, rfl⟩ := hrel
   by_cases hlt : j < p.outs.length
   · obtain ⟨b, off, cu', hv, _, hbl⟩ := HU.out.form (by omega)
     cases hv
     have ca := HU.out.int hB3 hlt
     have hok := HOu.out _ (List.getElem_mem hlt)
     have HNx := hide (ofJ_next p hlt)
     generalize p.outs[j] = u at *
     obtain ⟨a, rfl⟩ := Int.eq_ofNat_of_zero_le hok.1
     rw [Int.toNat_natCast] at hok HNx
     have a0 : (0 : Int) <= (a : Int) := by omega
     have a1 : (a : Int) < 320 := by omega
     have cA := HA2.out.cell a 0 (by omega)
     rw [ar9_get, iz_get] at cA
     clear hok
     generalize (cps p).getD a 0 = A at *
     generalize ofJ p j = G at *
     by_cases hx : (G : Int) < (A : Int)
     · have e : ofJ p (j + 1) = A := by rw [HNx.out]; omega
       have HEq := hide e
       clear e
       go_wp2_with fail
       go_round
       case rel => exact ⟨j + 1, by omega, by go_num, by rw [HEq.out]⟩
       case measure => simp [intOf]; omega
     · have e : ofJ p (j + 1) = G := by rw [HNx.out]; omega
       have HEq := hide e
       clear e
       go_wp2_with fail
       go_round
       case rel => exact ⟨j + 1, by omega, by go_num, by rw [HEq.out]⟩
       case measure => simp [intOf]; omega
   · obtain rfl : j = p.outs.length := by omega
     have HEn := hide (ofJ_end p)
     rw [HEn.out]
     by_cases hc : cpO p = 1025
     · have e1 : ofE p = 4 := by rw [HE.out, if_pos hc]
       have E1 := hide e1
       have E2 : Hid (ofV p = 0) := by show _ = _; unfold ofV; rw [e1]; rfl
       rw [hc]
       clear e1 hc
       go_wp2_with fail
       go_ret2
       rw [E1.out, E2.out]
       exact ⟨rfl, hB3⟩
     · have e1 : ofE p = 0 := by rw [HE.out, if_neg hc]
       have E1 := hide e1
       have E2 : Hid (ofV p = (cpO p : Int)) := by show _ = _; unfold ofV; rw [e1]; rfl
       have hd : (((cpO p : Nat) : Int) == 1025) = false := by simpa using (fun h : ((cpO p : Nat) : Int) = 1025 => hc (by omega))
       clear e1 hc
       generalize cpO p = x at *
       go_wp2_with fail
       go_ret2
       rw [E1.out, E2.out]
       exact ⟨rfl, hB3⟩
theorem iz_rep (n : Nat) : iz (List.replicate (n + 1) 1) = iz (List.replicate n 1) ++ [1] := by rw [List.replicate_succ', iz_snoc]; rfl
theorem dCapped (v : Value) (p : Pr) (w : World) (h : Pm w v p) (hm : mayB p = true) : Calls Tryz.prog 115 #[v] w fun e w' => ∃ v', e = .returned v' ∧ w'.ownsRow w.heap.size 3 1 v' (cps p).length ((iz (cps p)).flatMap iw) ∧ Below w.heap.size w w' := by
 obtain ⟨⟨i0, i1, l1, l2⟩, mo, mu⟩ := mayB_iff.1 hm
 obtain ⟨n, hn⟩ := Int.eq_ofNat_of_zero_le i0
 have HV : Hid (dgL cap9 (List.replicate n 1) p.ops = cps p ∧ (cps p).length = n + p.ops.length) := by
  have e : dgL cap9 (List.replicate n 1) p.ops = cps p := by unfold cps; rw [hn, Int.toNat_natCast]
  exact ⟨e, by rw [<- e, dgL_len, List.length_replicate]⟩
 obtain ⟨vo, vu, rfl, ho, hu⟩ := h.form
 obtain ⟨ao, co, rfl, _⟩ := ho.spell
 obtain ⟨au, cu, rfl, _⟩ := hu.spell
 have hA := alloc_below w (.cells #[.int .i64 p.inp, .slice ao p.ops.length co, .slice au p.outs.length cu] 28)
 have hN := heap_alloc_new w (.cells #[.int .i64 p.inp, .slice ao p.ops.length co, .slice au p.outs.length cu] 28)
 have HO := hide (Lm.below ho hA)
 have HMo := hide mo
 clear h hm mo mu ho hu i0
 obtain ⟨p0, p1, p2⟩ := cell3 hN
 have hn64 : n <= 64 := by omega
 rw [hn] at hN p0 p1 p2 hA HO HMo ⊢
 clear hn i1
 go_enter Tryz.func115, Tryz.ntmps115
 go_upto_region 2 with fail
 generalize w.alloc (.cells #[.int .i64 (n : Int), .slice ao p.ops.length co, .slice au p.outs.length cu] 28) = w0 at *
 have HN := hide hN
 clear hN
 go_wp2_with fail
 go_loopw [3, 4] (fun vl vi wr => ∃ (i : Nat) (la : Option Addr) (lc : Nat), i <= n ∧ vi = .int .i64 i ∧ vl = .slice la i lc ∧ Hid (wr.ownsRow w0.heap.size 3 1 (.slice la i lc) i ((iz (List.replicate i 1)).flatMap iw)) ∧ Below w0.heap.size w0 wr) (fun _ vi _ => n - (intOf vi).toNat)
 case atStart => exact ⟨0, none, 0, Nat.zero_le _, rfl, rfl, own_nil _ _ _ _, Below.refl _ _⟩
 case round =>
  clear p0 p1 p2
  obtain ⟨i, la, lc, hi, rfl, rfl, F, hBr⟩ := hrel
  obtain ⟨p0, p1, p2⟩ := cell3 ((hBr.block _ (Array.getElem?_eq_some_iff.1 HN.out).1).trans HN.out)
  by_cases hlt : i < n
  · have i2 : (i : Int) < (n : Int) := by omega
    have hA4 := alloc_below wr (.cells #[.int .i64 1] 3)
    have el : (iz (List.replicate i 1)).length = i := by rw [iz_len, List.length_replicate]
    obtain ⟨a4, c4, w4, hr, ho4, hb4, hg4, _⟩ := appI1 (wr.alloc (.cells #[.int .i64 1] 3)) w0.heap.size (.slice la i lc) (iz (List.replicate i 1)) ⟨wr.heap.size, 0, none⟩ 1 (by rw [el]; exact own_move F.out hA4) (by simp [go_sem]) (by rw [el]; omega) (Nat.le_trans hBr.size hA4.size)
    rw [List.length_append, el, <- iz_rep] at ho4
    rw [el] at hr
    have HO4 := hide ho4
    have hB4 : Below w0.heap.size w0 w4 := (Below.next hBr hA4).trans hb4
    clear ho4 hb4 hg4 el F
    go_wp2_with (at_builtin; refine Lib.wpList_append_run _ rfl _ _ _ _ rfl _ _ rfl rfl _ _ hr ?_)
    go_roundw
    case rel => exact ⟨i + 1, a4, c4, by omega, by go_num, rfl, HO4, hB4⟩
    case measure => simp [intOf]; omega
  · obtain rfl : i = n := by omega
    clear hlt
    go_wp2_with fail
    go_loopw [3, 5] (fun vl vi wr => ∃ (j : Nat) (la : Option Addr) (lc : Nat), j <= p.ops.length ∧ vi = .int .i64 j ∧ vl = .slice la (i + j) lc ∧ Hid (wr.ownsRow w0.heap.size 3 1 (.slice la (i + j) lc) (i + j) ((iz (dgL cap9 (List.replicate i 1) (p.ops.take j))).flatMap iw)) ∧ Below w0.heap.size w0 wr) (fun _ vi _ => p.ops.length - (intOf vi).toNat)
    case atStart => exact ⟨0, la, lc, Nat.zero_le _, rfl, rfl, F, hBr⟩
    case round =>
     clear F hBr p0 p1 p2
     obtain ⟨j, la, lc, hj, rfl, rfl, F, hBr⟩ := hrel
     obtain ⟨p0, p1, p2⟩ := cell3 ((hBr.block _ (Array.getElem?_eq_some_iff.1 HN.out).1).trans HN.out)
     by_cases hlt : j < p.ops.length
     · obtain ⟨b, off, co', hv, _, hbl⟩ := HO.out.form (by omega)
       cases hv
       obtain ⟨ca, cb, cc, cd⟩ := HO.out.op hBr hlt
       have HM : Hid (opM p.ops[j] ((i : Int) + (j : Int)) = true) := by
        have := opsM_get (i : Int) p.ops 0 j hlt HMo.out
        rw [Nat.zero_add] at this; exact this
       have HL := hide (dgL_cap (p.ops.take j) (List.replicate i 1) (fun d hd => by rw [(List.mem_replicate.1 hd).2]; decide))
       have HLn : Hid ((iz (dgL cap9 (List.replicate i 1) (p.ops.take j))).length = i + j) := by show _ = _; rw [iz_len, dgL_len, List.length_replicate, List.length_take]; omega
       have HNx := hide (dgL_next cap9 p.ops (List.replicate i 1) hlt)
       generalize dgL cap9 (List.replicate i 1) (p.ops.take j) = L at *
       generalize p.ops[j] = o at *
       obtain ⟨ok, oa, ob, oc⟩ := o
       dsimp only at *
       have hj0 : (0 : Int) <= (j : Int) := by omega
       have hj1 : (j : Int) < (p.ops.length : Int) := by omega
       have hA6 := alloc_below wr (.cells #[.int .u8 ok, .int .i64 oa, .int .i64 ob, .int .u64 oc] 85)
       have hB6 := Below.next hBr hA6
       have HO6 := hide (own_move F.out hA6)
       by_cases h4 : ok = 4
       · have HX : Hid (dgS L ⟨ok, oa, ob, oc⟩ = 0) := by show _ = _; unfold dgS; rw [if_neg (by dsimp only; omega), if_neg (by dsimp only; omega)]
         subst h4
         go_upto_region 17 with fail
         generalize wr.alloc (.cells #[.int .u8 4, .int .i64 oa, .int .i64 ob, .int .u64 oc] 85) = w6 at *
         have EX : Hid (((cap9 (dgS L ⟨4, oa, ob, oc⟩) : Nat) : Int) = 0) := by show _ = _; rw [HX.out]; unfold cap9; omega
         have hA8 := alloc_below w6 (.cells #[.int .i64 (0)] 3)
         obtain ⟨a4, c4, w4, hr, ho4, hb4, hg4, _⟩ := appI1 (w6.alloc (.cells #[.int .i64 (0)] 3)) w0.heap.size (.slice la (i + j) lc) (iz L) ⟨w6.heap.size, 0, none⟩ (0) (by rw [HLn.out]; exact own_move HO6.out hA8) (by simp [go_sem]) (by rw [HLn.out]; omega) (Nat.le_trans hB6.size hA8.size)
         rw [List.length_append, HLn.out] at ho4
         rw [HLn.out] at hr
         have e9 : iz L ++ [0] = iz (dgL cap9 (List.replicate i 1) (p.ops.take (j + 1))) := by rw [HNx.out, iz_snoc, EX.out]
         rw [e9] at ho4
         have HO4 := hide ho4
         have hB4 : Below w0.heap.size w0 w4 := (Below.next hB6 hA8).trans hb4
         clear ho4 hb4 hg4 e9 EX HX hA8 hB6 HO6
         go_wp2_with (at_builtin; refine Lib.wpList_append_run _ rfl _ _ _ _ rfl _ _ rfl rfl _ _ hr ?_)
         go_roundw
         case rel => exact ⟨j + 1, a4, c4, by omega, by go_num, rfl, HO4, hB4⟩
         case measure => simp [intOf]; omega
       · have hok : (ok = 1 ∨ ok = 2 ∨ ok = 3) ∧ 0 <= oa ∧ oa < (i : Int) + (j : Int) ∧ 0 <= ob ∧ ob < (i : Int) + (j : Int) := by
          have := HM.out
          unfold opM at this
          split at this
          · rename_i hh
            have := of_decide_eq_true this
            dsimp only at this hh
            omega
          · exact absurd this (by simp [h4])
         obtain ⟨h123, a0, a1, c0, c1⟩ := hok
         obtain ⟨a, rfl⟩ := Int.eq_ofNat_of_zero_le a0
         obtain ⟨c, rfl⟩ := Int.eq_ofNat_of_zero_le c0
         have HT := hide (lm_of_own iw_len (by decide) HO6.out (by rw [HLn.out]; omega))
         obtain ⟨gt, ot, ct, hv2, _, hgt⟩ := HT.out.form (by rw [HLn.out]; omega)
         injection hv2 with hv3 hv4 hv5
         subst hv3
         clear hv4 hv5
         have hal : a < (iz L).length := by rw [HLn.out]; omega
         have hcl : c < (iz L).length := by rw [HLn.out]; omega
         have cA := HT.out.int (Below.refl _ _) hal
         have cC := HT.out.int (Below.refl _ _) hcl
         have eA : (iz L)[a] = ((L.getD a 0 : Nat) : Int) := by rw [<- iz_get, List.getD_eq_getElem?_getD, List.getElem?_eq_getElem hal]; rfl
         have eC : (iz L)[c] = ((L.getD c 0 : Nat) : Int) := by rw [<- iz_get, List.getD_eq_getElem?_getD, List.getElem?_eq_getElem hcl]; rfl
         rw [eA] at cA
         rw [eC] at cC
         have hA9 : L.getD a 0 <= 1025 := by
          have := HL.out
          have hh : a < L.length := by rw [<- iz_len]; exact hal
          rw [List.getD_eq_getElem?_getD, List.getElem?_eq_getElem hh]; exact this _ (List.getElem_mem hh)
         have hC9 : L.getD c 0 <= 1025 := by
          have := HL.out
          have hh : c < L.length := by rw [<- iz_len]; exact hcl
          rw [List.getD_eq_getElem?_getD, List.getElem?_eq_getElem hh]; exact this _ (List.getElem_mem hh)
         have HD1 : Hid (ok = 1 ∨ ok = 2 -> dgS L ⟨ok, (a : Int), (c : Int), oc⟩ = max (L.getD a 0) (L.getD c 0)) := fun h => by unfold dgS; rw [if_pos h]; rfl
         have HD3 : Hid (ok = 3 -> dgS L ⟨ok, (a : Int), (c : Int), oc⟩ = L.getD a 0 + L.getD c 0) := fun h => by unfold dgS; rw [if_neg (by dsimp only; omega), if_pos h]; rfl
         have aa0 : (0 : Int) <= (a : Int) := by omega
         have cc0 : (0 : Int) <= (c : Int) := by omega
         clear eA eC HT hgt hal hcl
         generalize L.getD a 0 = A at *
         generalize L.getD c 0 = C at *
         by_cases h3 : ok = 3
         · have HX := hide (HD3.out h3)
           subst h3
           clear h123 h4 HD1 HD3
           go_upto_region 16 with fail
           go_quiet (fail)
           have hB7 := below_drewN hB6 nq
           have HO7 := hide (own_move HO6.out (below_drewN (Below.refl _ _) nq))
           clear hB6 HO6
           have hB6 := hB7
           have HO6 := HO7
           go_upto_region 17 with fail
           clear hA6 cA cC
           generalize (wr.alloc (.cells #[.int .u8 3, .int .i64 (a : Int), .int .i64 (c : Int), .int .u64 oc] 85)).drewN nq = w6 at *
           by_cases hX : ¬ (1025 : Int) < (A : Int) + (C : Int)
           · have EX : Hid (((cap9 (dgS L ⟨3, (a : Int), (c : Int), oc⟩) : Nat) : Int) = (A : Int) + (C : Int)) := by show _ = _; rw [HX.out]; unfold cap9; omega
             have hA8 := alloc_below w6 (.cells #[.int .i64 ((A : Int) + (C : Int))] 3)
             obtain ⟨a4, c4, w4, hr, ho4, hb4, hg4, _⟩ := appI1 (w6.alloc (.cells #[.int .i64 ((A : Int) + (C : Int))] 3)) w0.heap.size (.slice (some ⟨gt, ot, none⟩) (i + j) lc) (iz L) ⟨w6.heap.size, 0, none⟩ ((A : Int) + (C : Int)) (by rw [HLn.out]; exact own_move HO6.out hA8) (by simp [go_sem]) (by rw [HLn.out]; omega) (Nat.le_trans hB6.size hA8.size)
             rw [List.length_append, HLn.out] at ho4
             rw [HLn.out] at hr
             have e9 : iz L ++ [(A : Int) + (C : Int)] = iz (dgL cap9 (List.replicate i 1) (p.ops.take (j + 1))) := by rw [HNx.out, iz_snoc, EX.out]
             rw [e9] at ho4
             have HO4 := hide ho4
             have hB4 : Below w0.heap.size w0 w4 := (Below.next hB6 hA8).trans hb4
             clear ho4 hb4 hg4 e9 EX HX hA8 hB6 HO6
             go_wp2_with (at_builtin; refine Lib.wpList_append_run _ rfl _ _ _ _ rfl _ _ rfl rfl _ _ hr ?_)
             go_roundw
             case rel => exact ⟨j + 1, a4, c4, by omega, by go_num, rfl, HO4, hB4⟩
             case measure => simp [intOf]; omega
           · have hX2 : (1025 : Int) < (A : Int) + (C : Int) := by omega
             clear hX
             have EX : Hid (((cap9 (dgS L ⟨3, (a : Int), (c : Int), oc⟩) : Nat) : Int) = 1025) := by show _ = _; rw [HX.out]; unfold cap9; omega
             have hA8 := alloc_below w6 (.cells #[.int .i64 (1025)] 3)
             obtain ⟨a4, c4, w4, hr, ho4, hb4, hg4, _⟩ := appI1 (w6.alloc (.cells #[.int .i64 (1025)] 3)) w0.heap.size (.slice (some ⟨gt, ot, none⟩) (i + j) lc) (iz L) ⟨w6.heap.size, 0, none⟩ (1025) (by rw [HLn.out]; exact own_move HO6.out hA8) (by simp [go_sem]) (by rw [HLn.out]; omega) (Nat.le_trans hB6.size hA8.size)
             rw [List.length_append, HLn.out] at ho4
             rw [HLn.out] at hr
             have e9 : iz L ++ [1025] = iz (dgL cap9 (List.replicate i 1) (p.ops.take (j + 1))) := by rw [HNx.out, iz_snoc, EX.out]
             rw [e9] at ho4
             have HO4 := hide ho4
             have hB4 : Below w0.heap.size w0 w4 := (Below.next hB6 hA8).trans hb4
             clear ho4 hb4 hg4 e9 EX HX hA8 hB6 HO6
             go_wp2_with (at_builtin; refine Lib.wpList_append_run _ rfl _ _ _ _ rfl _ _ rfl rfl _ _ hr ?_)
             go_roundw
             case rel => exact ⟨j + 1, a4, c4, by omega, by go_num, rfl, HO4, hB4⟩
             case measure => simp [intOf]; omega
         · have h12 : ok = 1 ∨ ok = 2 := by omega
           clear h123
           rcases h12 with rfl | rfl
           · have HX := hide (HD1.out (by omega))
             clear HD1 HD3 h3 h4
             go_upto_region 14 with fail
             have hA10 : ¬ (1025 : Int) < (A : Int) := by omega
             have hC10 : ¬ (1025 : Int) < (C : Int) := by omega
             by_cases hx : (A : Int) < (C : Int)
             · go_quiet (fail)
               have hB7 := below_drewN hB6 nq
               have HO7 := hide (own_move HO6.out (below_drewN (Below.refl _ _) nq))
               clear hB6 HO6
               have hB6 := hB7
               have HO6 := HO7
               go_upto_region 17 with fail
               clear hA6 cA cC
               generalize (wr.alloc (.cells #[.int .u8 1, .int .i64 (a : Int), .int .i64 (c : Int), .int .u64 oc] 85)).drewN nq = w6 at *
               have EX : Hid (((cap9 (dgS L ⟨1, (a : Int), (c : Int), oc⟩) : Nat) : Int) = (C : Int)) := by show _ = _; rw [HX.out]; unfold cap9; omega
               have hA8 := alloc_below w6 (.cells #[.int .i64 ((C : Int))] 3)
               obtain ⟨a4, c4, w4, hr, ho4, hb4, hg4, _⟩ := appI1 (w6.alloc (.cells #[.int .i64 ((C : Int))] 3)) w0.heap.size (.slice (some ⟨gt, ot, none⟩) (i + j) lc) (iz L) ⟨w6.heap.size, 0, none⟩ ((C : Int)) (by rw [HLn.out]; exact own_move HO6.out hA8) (by simp [go_sem]) (by rw [HLn.out]; omega) (Nat.le_trans hB6.size hA8.size)
               rw [List.length_append, HLn.out] at ho4
               rw [HLn.out] at hr
               have e9 : iz L ++ [(C : Int)] = iz (dgL cap9 (List.replicate i 1) (p.ops.take (j + 1))) := by rw [HNx.out, iz_snoc, EX.out]
               rw [e9] at ho4
               have HO4 := hide ho4
               have hB4 : Below w0.heap.size w0 w4 := (Below.next hB6 hA8).trans hb4
               clear ho4 hb4 hg4 e9 EX HX hA8 hB6 HO6
               go_wp2_with (at_builtin; refine Lib.wpList_append_run _ rfl _ _ _ _ rfl _ _ rfl rfl _ _ hr ?_)
               go_roundw
               case rel => exact ⟨j + 1, a4, c4, by omega, by go_num, rfl, HO4, hB4⟩
               case measure => simp [intOf]; omega
             · go_quiet (fail)
               have hB7 := below_drewN hB6 nq
               have HO7 := hide (own_move HO6.out (below_drewN (Below.refl _ _) nq))
               clear hB6 HO6
               have hB6 := hB7
               have HO6 := HO7
               go_upto_region 17 with fail
               clear hA6 cA cC
               generalize (wr.alloc (.cells #[.int .u8 1, .int .i64 (a : Int), .int .i64 (c : Int), .int .u64 oc] 85)).drewN nq = w6 at *
               have EX : Hid (((cap9 (dgS L ⟨1, (a : Int), (c : Int), oc⟩) : Nat) : Int) = (A : Int)) := by show _ = _; rw [HX.out]; unfold cap9; omega
               have hA8 := alloc_below w6 (.cells #[.int .i64 ((A : Int))] 3)
               obtain ⟨a4, c4, w4, hr, ho4, hb4, hg4, _⟩ := appI1 (w6.alloc (.cells #[.int .i64 ((A : Int))] 3)) w0.heap.size (.slice (some ⟨gt, ot, none⟩) (i + j) lc) (iz L) ⟨w6.heap.size, 0, none⟩ ((A : Int)) (by rw [HLn.out]; exact own_move HO6.out hA8) (by simp [go_sem]) (by rw [HLn.out]; omega) (Nat.le_trans hB6.size hA8.size)
               rw [List.length_append, HLn.out] at ho4
               rw [HLn.out] at hr
               have e9 : iz L ++ [(A : Int)] = iz (dgL cap9 (List.replicate i 1) (p.ops.take (j + 1))) := by rw [HNx.out, iz_snoc, EX.out]
               rw [e9] at ho4
               have HO4 := hide ho4
               have hB4 : Below w0.heap.size w0 w4 := (Below.next hB6 hA8).trans hb4
               clear ho4 hb4 hg4 e9 EX HX hA8 hB6 HO6
               go_wp2_with (at_builtin; refine Lib.wpList_append_run _ rfl _ _ _ _ rfl _ _ rfl rfl _ _ hr ?_)
               go_roundw
               case rel => exact ⟨j + 1, a4, c4, by omega, by go_num, rfl, HO4, hB4⟩
               case measure => simp [intOf]; omega
           · have HX := hide (HD1.out (by omega))
             clear HD1 HD3 h3 h4
             go_upto_region 14 with fail
             have hA10 : ¬ (1025 : Int) < (A : Int) := by omega
             have hC10 : ¬ (1025 : Int) < (C : Int) := by omega
             by_cases hx : (A : Int) < (C : Int)
             · go_quiet (fail)
               have hB7 := below_drewN hB6 nq
               have HO7 := hide (own_move HO6.out (below_drewN (Below.refl _ _) nq))
               clear hB6 HO6
               have hB6 := hB7
               have HO6 := HO7
               go_upto_region 17 with fail
               clear hA6 cA cC
               generalize (wr.alloc (.cells #[.int .u8 2, .int .i64 (a : Int), .int .i64 (c : Int), .int .u64 oc] 85)).drewN nq = w6 at *
               have EX : Hid (((cap9 (dgS L ⟨2, (a : Int), (c : Int), oc⟩) : Nat) : Int) = (C : Int)) := by show _ = _; rw [HX.out]; unfold cap9; omega
               have hA8 := alloc_below w6 (.cells #[.int .i64 ((C : Int))] 3)
               obtain ⟨a4, c4, w4, hr, ho4, hb4, hg4, _⟩ := appI1 (w6.alloc (.cells #[.int .i64 ((C : Int))] 3)) w0.heap.size (.slice (some ⟨gt, ot, none⟩) (i + j) lc) (iz L) ⟨w6.heap.size, 0, none⟩ ((C : Int)) (by rw [HLn.out]; exact own_move HO6.out hA8) (by simp [go_sem]) (by rw [HLn.out]; omega) (Nat.le_trans hB6.size hA8.size)
               rw [List.length_append, HLn.out] at ho4
               rw [HLn.out] at hr
               have e9 : iz L ++ [(C : Int)] = iz (dgL cap9 (List.replicate i 1) (p.ops.take (j + 1))) := by rw [HNx.out, iz_snoc, EX.out]
               rw [e9] at ho4
               have HO4 := hide ho4
               have hB4 : Below w0.heap.size w0 w4 := (Below.next hB6 hA8).trans hb4
               clear ho4 hb4 hg4 e9 EX HX hA8 hB6 HO6
               go_wp2_with (at_builtin; refine Lib.wpList_append_run _ rfl _ _ _ _ rfl _ _ rfl rfl _ _ hr ?_)
               go_roundw
               case rel => exact ⟨j + 1, a4, c4, by omega, by go_num, rfl, HO4, hB4⟩
               case measure => simp [intOf]; omega
             · go_quiet (fail)
               have hB7 := below_drewN hB6 nq
               have HO7 := hide (own_move HO6.out (below_drewN (Below.refl _ _) nq))
               clear hB6 HO6
               have hB6 := hB7
               have HO6 := HO7
               go_upto_region 17 with fail
               clear hA6 cA cC
               generalize (wr.alloc (.cells #[.int .u8 2, .int .i64 (a : Int), .int .i64 (c : Int), .int .u64 oc] 85)).drewN nq = w6 at *
               have EX : Hid (((cap9 (dgS L ⟨2, (a : Int), (c : Int), oc⟩) : Nat) : Int) = (A : Int)) := by show _ = _; rw [HX.out]; unfold cap9; omega
               have hA8 := alloc_below w6 (.cells #[.int .i64 ((A : Int))] 3)
               obtain ⟨a4, c4, w4, hr, ho4, hb4, hg4, _⟩ := appI1 (w6.alloc (.cells #[.int .i64 ((A : Int))] 3)) w0.heap.size (.slice (some ⟨gt, ot, none⟩) (i + j) lc) (iz L) ⟨w6.heap.size, 0, none⟩ ((A : Int)) (by rw [HLn.out]; exact own_move HO6.out hA8) (by simp [go_sem]) (by rw [HLn.out]; omega) (Nat.le_trans hB6.size hA8.size)
               rw [List.length_append, HLn.out] at ho4
               rw [HLn.out] at hr
               have e9 : iz L ++ [(A : Int)] = iz (dgL cap9 (List.replicate i 1) (p.ops.take (j + 1))) := by rw [HNx.out, iz_snoc, EX.out]
               rw [e9] at ho4
               have HO4 := hide ho4
               have hB4 : Below w0.heap.size w0 w4 := (Below.next hB6 hA8).trans hb4
               clear ho4 hb4 hg4 e9 EX HX hA8 hB6 HO6
               go_wp2_with (at_builtin; refine Lib.wpList_append_run _ rfl _ _ _ _ rfl _ _ rfl rfl _ _ hr ?_)
               go_roundw
               case rel => exact ⟨j + 1, a4, c4, by omega, by go_num, rfl, HO4, hB4⟩
               case measure => simp [intOf]; omega
     · obtain rfl : j = p.ops.length := by omega
       rw [List.take_length, HV.out.1] at F
       go_wp2_with fail
       go_ret
       exact ⟨_, rfl, by rw [HV.out.2]; exact own_mono F.out hA.size, Below.next hA hBr⟩
theorem dOf (v : Value) (p : Pr) (w : World) (h : Pm w v p) : IsOf 91 v w p := by
 unfold IsOf
 have M := hide (fun W (hb : Below w.heap.size w W) => dMay v p W (h.below hb))
 have HP := hide h
 obtain ⟨vo, vu, rfl, ho, hu⟩ := h.form
 obtain ⟨ao, co, rfl, _⟩ := ho.spell
 obtain ⟨au, cu, rfl, _⟩ := hu.spell
 have HU := hide hu
 have hA := alloc_below w (.cells #[.int .i64 p.inp, .slice ao p.ops.length co, .slice au p.outs.length cu] 28)
 have hN := heap_alloc_new w (.cells #[.int .i64 p.inp, .slice ao p.ops.length co, .slice au p.outs.length cu] 28)
 clear h ho hu
 cases hm : mayB p with
 | false =>
  have e1 : ofE p = 2 := by unfold ofE; rw [hm]; rfl
  have e2 : ofV p = 0 := by unfold ofV; rw [e1]; rfl
  rw [e1, e2]
  rw [hm] at M
  clear hm e1 e2
  go_enter Tryz.func91, Tryz.ntmps91
  go_wp2_with (go_at_call 114; refine (M.out _ hA).mono ?_; rintro e w1 ⟨rfl, hb1⟩)
  go_ret2
  exact ⟨rfl, Below.next hA hb1⟩
 | true =>
  rw [hm] at M
  have HD := hide (fun W (hb : Below w.heap.size w W) => dCapped _ p W (HP.out.below hb) hm)
  have HOu := hide (fun v hv => may_out hm v hv)
  obtain ⟨⟨i0, i1, l1, l2⟩, _, _⟩ := mayB_iff.1 hm
  have HE : Hid (ofE p = if cpO p = 1025 then 4 else 0) := by show _ = _; unfold ofE; rw [if_pos hm]
  obtain ⟨k, Hk⟩ : ∃ k, Hid ((cps p).length = k) := ⟨_, rfl⟩
  have Hk3 : Hid (k = p.inp.toNat + p.ops.length) := by show _ = _; rw [<- Hk.out, cps_len]
  have hk : k <= 320 := by have := Hk3.out; omega
  have Hk2 : Hid ((iz (cps p)).length = k) := by show _ = _; rw [iz_len]; exact Hk.out
  rw [Hk.out] at HD
  clear hm
  go_enter Tryz.func91, Tryz.ntmps91
  go_wp2_with (first
   | (go_at_call 114; refine (M.out _ hA).mono ?_; rintro e w1 ⟨rfl, hb1⟩; have hB1 := Below.next hA hb1; have n1 := (hb1.block _ (Array.getElem?_eq_some_iff.1 hN).1).trans hN; obtain ⟨p0, p1, p2⟩ := cell3 n1)
   | (go_at_call 115; refine (HD.out _ hB1).mono ?_; rintro e w2 ⟨v2, rfl, ho2, hb2⟩; obtain ⟨a2, c2, rfl⟩ := own_slice ho2; have HO2 := hide ho2; have hB2 := Below.next hB1 hb2; have n2 := (hb2.block _ (Array.getElem?_eq_some_iff.1 n1).1).trans n1; clear p0 p1 p2; obtain ⟨p0, p1, p2⟩ := cell3 n2; clear ho2))
  have HL := hide (lm_of_own iw_len (by decide) HO2.out (by rw [Hk2.out]; omega))
  go_loop [5, 6] (fun vg vi => ∃ j : Nat, j <= p.outs.length ∧ vi = .int .i64 j ∧ vg = .int .i64 ((ofJ p j : Nat) : Int)) (fun _ vi => p.outs.length - (intOf vi).toNat)
  case atStart => exact ⟨0, Nat.zero_le _, rfl, rfl⟩
  case round =>
   obtain ⟨j, hj, rfl, rfl⟩ := hrel
   by_cases hlt : j < p.outs.length
   · obtain ⟨b, off, cu', hv, _, hbl⟩ := HU.out.form (by omega)
     cases hv
     have ca := HU.out.int hB2 hlt
     have hok := HOu.out _ (List.getElem_mem hlt)
     have HNx := hide (ofJ_next p hlt)
     generalize p.outs[j] = u at *
     obtain ⟨a, rfl⟩ := Int.eq_ofNat_of_zero_le hok.1
     rw [Int.toNat_natCast] at hok HNx
     have hal : a < (iz (cps p)).length := by rw [Hk2.out, Hk3.out]; exact hok.2
     obtain ⟨gt, ot, ct, hv2, _, _⟩ := HL.out.form (by omega)
     injection hv2 with hv3 hv4 hv5
     subst hv3
     clear hv4 hv5
     have cA := HL.out.int (Below.refl _ _) hal
     have eA : (iz (cps p))[a] = (((cps p).getD a 0 : Nat) : Int) := by rw [<- iz_get, List.getD_eq_getElem?_getD, List.getElem?_eq_getElem hal]; rfl
     rw [eA] at cA
     have a0 : (0 : Int) <= (a : Int) := by omega
     have a1 : (a : Int) < (k : Int) := by rw [Hk2.out] at hal; omega
     have hj0 : (0 : Int) <= (j : Int) := by omega
     have hj1 : (j : Int) < (p.outs.length : Int) := by omega
     clear hok eA hal
     generalize (cps p).getD a 0 = A at *
     generalize ofJ p j = G at *
     by_cases hx : (G : Int) < (A : Int)
     · have e : ofJ p (j + 1) = A := by rw [HNx.out]; omega
       have HEq := hide e
       clear e
       go_wp2_with fail
       go_round
       case rel => exact ⟨j + 1, by omega, by go_num, by rw [HEq.out]⟩
       case measure => simp [intOf]; omega
     · have e : ofJ p (j + 1) = G := by rw [HNx.out]; omega
       have HEq := hide e
       clear e
       go_wp2_with fail
       go_round
       case rel => exact ⟨j + 1, by omega, by go_num, by rw [HEq.out]⟩
       case measure => simp [intOf]; omega
   · obtain rfl : j = p.outs.length := by omega
     have HEn := hide (ofJ_end p)
     have HLe := hide (ofJ_le p p.outs.length)
     rw [HEn.out] at HLe ⊢
     by_cases hc : cpO p = 1025
     · have e1 : ofE p = 4 := by rw [HE.out, if_pos hc]
       have E1 := hide e1
       have E2 : Hid (ofV p = 0) := by show _ = _; unfold ofV; rw [e1]; rfl
       rw [hc]
       clear e1 hc
       go_wp2_with fail
       go_ret2
       rw [E1.out, E2.out]
       exact ⟨rfl, hB2⟩
     · have e1 : ofE p = 0 := by rw [HE.out, if_neg hc]
       have E1 := hide e1
       have E2 : Hid (ofV p = (cpO p : Int)) := by show _ = _; unfold ofV; rw [e1]; rfl
       have hd : ¬ (1024 : Int) < ((cpO p : Nat) : Int) := by have := HLe.out; omega
       clear e1 hc
       generalize cpO p = x at *
       go_wp2_with fail
       go_ret2
       rw [E1.out, E2.out]
       exact ⟨rfl, hB2⟩
end Go.Proofs.YtipobchbnjgenaaGreat
