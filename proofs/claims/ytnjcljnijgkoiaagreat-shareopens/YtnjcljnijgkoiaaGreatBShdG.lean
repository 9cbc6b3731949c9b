/-
  Layer 14: the document's own package: Open.
-/
import Derived.Test.YtnjcljnijgkoiaaGreatBShdF
namespace Go.Proofs.YtnjcljnijgkoiaaGreat
open Go.RowKit Fld Pln Shr
set_option linter.unusedVariables false
set_option linter.unusedSimpArgs false

set_option maxRecDepth 100000 in
set_option maxHeartbeats 4000000 in
theorem dOpen_yes (p : Pn) (vw vs : Value) (who : List Int) (l : List (List Int)) (w : World) (hp : Ok8p p) (h1 : Rws w vs l) (h3 : Lm iw 1 w vw who) (hm : mayP p = true) (hz : opB p who l = 0) :
    Calls Tryz.prog 17 #[plv p, vw, vs] w fun e w' => ∃ v1 v2, e = .returned (.tuple #[v1, v2, .int .i64 (opE p who l)]) ∧ Rws w' v1 (opdL p who l) ∧ Rws w' v2 (oppL p who l) ∧ Below w.heap.size w w' := by
  obtain ⟨i0, hi0, hy0, hy1, hy2⟩ := info_parts w64_info
  obtain ⟨j0, hj0, hx0, hx1, hx2⟩ := info_parts sl_info
  obtain ⟨pb, hA⟩ := pb_box (w := w) p
  have HM := hide (dMayP p hp)
  rw [hm] at HM
  have HS := hide (fun W' (hb : Below (w.alloc (.cells #[.int .u8 p.f, .int .i64 p.n, .int .i64 p.k, .int .i64 p.t, .int .i64 p.s, .int .i64 p.e, .int .i64 p.d, .int .i64 p.w] 24)).heap.size _ W') => (pb.below hb).cells)
  obtain ⟨c0, c1, c2, c3, c4, c5, c6, c7⟩ := pb.cells
  obtain ⟨hwho, hbd, hwl⟩ := opB_zero hz
  obtain ⟨q, wd, hf, hbe, hbw, hll⟩ := bd_zero hm hbd h1.wordsH
  obtain ⟨⟨n0, n1⟩, ⟨k0, k1⟩, ⟨t0, t1⟩, _, _, _, ww0, ww1⟩ := may_facts hm
  have HOp := hide (op_ab (p := p) (who := who) (l := l) hm)
  rw [hz, if_pos rfl] at HOp
  have HL := hide h3
  have HB := hide (fun W (hb : Below w.heap.size w W) => dBad1 p (p.k + p.t) vs l W (h1.below hb))
  rw [hbd] at HB
  have HX : Hid (∀ k, k < who.length → ∃ J : Nat, who.getD k 0 = (J : Int) ∧ (J : Int) < p.n ∧ J < (outL p).length) := fun k hk => by
    have h1 := hwho _ (getD_memA 0 hk)
    have h2 : (outL p).length = p.n.toNat := pts_len _ _
    exact ⟨(who.getD k 0).toNat, by omega, by omega, by omega⟩
  have HO := hide (fun W => dOuter p W hm)
  have HNs := hide (fun k hk => nmd_snoc (p := p) (who := who) (k := k) hk)
  have HIe := hide (fun k j hj h => inE_eq (who := who) (k := k) (j := j) hj h)
  have HIn := hide (fun k j hj h => inE_ne (who := who) (k := k) (j := j) hj h)
  have HId := hide (fun k hk hn => inE_end (who := who) (k := k) hk hn)
  have HI0 : Hid (∀ k, inE who k 0 = 0) := fun k => by unfold inE; rw [List.take_zero, if_neg (by simp)]
  have HNd : Hid (∀ k, (ndE who k = 0 ∧ (who.take k).Nodup) ∨ (ndE who k = 6 ∧ ¬ who.Nodup)) := fun k => by
    unfold ndE
    by_cases h : (who.take k).Nodup
    · exact .inl ⟨if_pos h, h⟩
    · refine .inr ⟨if_neg h, fun hn => h ?_⟩
      exact List.Pairwise.sublist (List.take_sublist k who) hn
  have Hinn : Hid (innL p).Nodup := pts_nodup _ _
  have ie : Els q (innL p) := pts_els hf (by omega) (by omega)
  have hil : (innL p).length = (p.k + p.t).toNat := pts_len _ _
  -- the rest, where no name stands twice
  have HOE : Hid (who.Nodup → opE p who l = 0) := fun hn => by rw [HOp.out, if_pos hn]
  have HOE6 : Hid (¬ who.Nodup → opE p who l = 6) := fun hn => by rw [HOp.out, if_neg hn]
  have HC6 := hide (fun hn => op_none (p := p) (who := who) (l := l) (by rw [HOE6.out hn]; decide))
  have Hcut := hide (fun hn => open_cut (who := who) (l := l) hf hm (HOE.out hn))
  have Hne : Hid (who.Nodup → (nmd p who).Nodup ∧ Els q (nmd p who)) := fun hn => by
    obtain ⟨m1, m2⟩ := nmd_facts hm hwho hn
    refine ⟨m1, fun x hx => ?_⟩
    have := m2 x hx
    have := hf.big
    exact ⟨by omega, by omega⟩
  have hnl : (nmd p who).length = who.length := nmd_len _ _
  have HNl := hide hnl
  have HRn : Hid (who.Nodup → ∀ W v base n, World.ownsRow W base 51 1 v n (vals (nmd p who)) → Rw W v (nmd p who)) := fun hn W v base n hO => rw_of_own hO (by omega) (els_words (Hne.out hn).2 hf.top)
  have HC := hide (fun W t (hb : Below w.heap.size w W) (ht : t < p.w.toNat) => dColumn vs (.slice none 0 0) l [] t W (h1.below hb) (rws_nil W) (fun b hb' => by rw [List.append_nil] at hb'; rw [hbw b hb']; exact ht) (by simp; omega))
  rw [List.append_nil] at HC
  have HR2 := hide (fun W v base n t (hO : World.ownsRow W base 51 1 v n (vals (col l t))) => rw_of_own hO (by rw [col_len]; omega) (els_words (col_els hf.pos hbe t) hf.top))
  have HT := hide (fun W v1 v2 t x1 x2 => dThrough p.f v1 v2 (nmd p who) (col l t) W x1 x2)
  unfold Gives at HT
  obtain ⟨F, HF⟩ : ∃ F : Nat → List Int, Hid (F = fun t => thrL p.f (nmd p who) (col l t)) := ⟨_, rfl⟩
  have HFt : Hid (∀ t, thrL p.f (nmd p who) (col l t) = F t) := fun t => by rw [HF.out]
  have HFn := hide (fun k => range_snoc F k)
  have HPy : Hid (who.Nodup → (List.range p.w.toNat).map F = pys q (nmd p who) p.w.toNat l) := fun hn => by
    unfold pys
    rw [HF.out]
    refine List.map_congr_left (fun t _ => ?_)
    rw [thr_zeroL hf (Hne.out hn).2 (Hne.out hn).1 (col_els hf.pos hbe t) (by rw [col_len, hnl]; omega) (by omega)]
    rfl
  have HPf : Hid (who.Nodup → ∀ b ∈ pys q (nmd p who) p.w.toNat l, Els q b ∧ b.length ≤ 64) := fun hn b hb => by
    obtain ⟨e1, e2⟩ := pys_facts hf.md (Hne.out hn).2 (Hne.out hn).1 hbe p.w.toNat b hb
    exact ⟨e1, by omega⟩
  have HPl := hide (pys_len q (nmd p who) p.w.toNat l)
  have HLr : Hid (who.Nodup → ∀ W lo hi v us, Lss W lo hi v us (pys q (nmd p who) p.w.toNat l) → Rws W v (pys q (nmd p who) p.w.toNat l)) := fun hn W lo hi v us h => h.rws (getD_wd (fun b hb => wd_els (HPf.out hn b hb).1 hf.top (by have := (HPf.out hn b hb).2; omega))) (by rw [HPl.out]; omega)
  have HAt : Hid (who.Nodup → ∀ k, k < (innL p).length → ∀ W v, Rws W v (pys q (nmd p who) p.w.toNat l) → Calls Tryz.prog 36 #[.int .u8 p.f, v, .int .u64 ((innL p).getD k 0)] W fun e w' => ∃ v', e = .returned v' ∧ w'.ownsRow W.heap.size 51 1 v' ((pys q (nmd p who) p.w.toNat l).map (vl q ((innL p).getD k 0))).length (vals ((pys q (nmd p who) p.w.toNat l).map (vl q ((innL p).getD k 0)))) ∧ Below W.heap.size W w') := fun hn k hk W v hR => dAt p.f q ((innL p).getD k 0) wd v (pys q (nmd p who) p.w.toNat l) W hf hR (fun b hb => ⟨(HPf.out hn b hb).1, by have := (HPf.out hn b hb).2; omega⟩) (ie.co hf.pos k) (by rw [HPl.out]; omega)
  have HGn : Hid (∀ k, k < (innL p).length → ((innL p).take k).map (fun z => (pys q (nmd p who) p.w.toNat l).map (vl q z)) ++ [(pys q (nmd p who) p.w.toNat l).map (vl q ((innL p).getD k 0))] = ((innL p).take (k + 1)).map (fun z => (pys q (nmd p who) p.w.toNat l).map (vl q z))) := fun k hk => take_map_snoc _ (innL p) hk
  have HGw : Hid (∀ b ∈ (innL p).map (fun z => (pys q (nmd p who) p.w.toNat l).map (vl q z)), Wd b) := fun b hb => by
    obtain ⟨z, _, rfl⟩ := List.mem_map.1 hb
    exact wd_els (fun x hx => by obtain ⟨y, _, rfl⟩ := List.mem_map.1 hx; exact vl_el hf.pos _ _) hf.top (by rw [List.length_map, HPl.out]; omega)
  have HIn2 := hide (fun W => dInner p W hm)
  obtain ⟨asl, csl, rfl, _, _, _⟩ := h1
  obtain ⟨aw, cw, rfl, _⟩ := h3.spell
  have HRi : Hid (∀ W v base n, World.ownsRow W base 51 1 v n (vals (innL p)) → True) := fun _ _ _ _ _ => trivial
  -- numbers
  have hwlN : who.length = (p.k + p.t).toNat := by omega
  have hw64 : who.length ≤ 64 := by omega
  have HWL := hide hwl
  have hkt : ((who.length : Int) != p.k + p.t) = false := by rw [hwl]; simp
  obtain ⟨n, Hn⟩ : ∃ n : Nat, Hid (p.w.toNat = n) := ⟨_, rfl⟩
  have HPw : Hid (p.w = (n : Int)) := by show _ = _; have := Hn.out; omega
  have hn64 : n ≤ 64 := by have := Hn.out; omega
  obtain ⟨K, HK⟩ : ∃ K : Nat, Hid (p.k.toNat = K) := ⟨_, rfl⟩
  have HPk : Hid (p.k = (K : Int)) := by show _ = _; have := HK.out; omega
  have hKi : K ≤ (innL p).length := by have := HK.out; omega
  have hi64 : (innL p).length ≤ 64 := by omega
  rw [Hn.out] at HC HPy HPf HPl HLr HAt HGn HGw Hcut
  rw [HK.out] at Hcut
  clear hm hz pb hp h3 hf hbe hbw hll hbd hwho ie hil HOp HF hnl hwl HRi hwlN
  generalize hps : pys q (nmd p who) n l = ps at *
  generalize hns : nmd p who = ns at *
  generalize hin : innL p = is at *
  generalize hos : outL p = os at *
  generalize hG : (fun z => ps.map (vl q z)) = G at *
  have HGe : Hid (∀ z, ps.map (vl q z) = G z) := fun z => by rw [← hG]
  clear hps hin hos hG
  have Hns := hide hns
  clear hns
  generalize hop : opE p who l = oe at *
  clear hop
  rw [plan_eq] at *
  generalize l.length = nl at *
  go_enter Tryz.func17, Tryz.ntmps17
  go_upto_region 1 with fail
  generalize w.alloc (.cells #[.int .u8 p.f, .int .i64 p.n, .int .i64 p.k, .int .i64 p.t, .int .i64 p.s, .int .i64 p.e, .int .i64 p.d, .int .i64 p.w] 24) = W0 at *
  go_wp2_with (first
    | (go_at_call 38; refine (HM.out _).mono ?_; rintro e w1 ⟨rfl, hb1⟩; have hC1 := hb1; have hB1 := Below.next hA hC1; clear c0 c1 c2 c3 c4 c5 c6 c7; obtain ⟨c0, c1, c2, c3, c4, c5, c6, c7⟩ := HS.out _ hC1)
    | (go_at_call 42; refine (HB.out _ hB1).mono ?_; rintro e w2 ⟨rfl, hb2⟩; have hC2 := Below.next hC1 hb2; have hB2 := Below.next hA hC2))
  clear c0 c1 c2 c3 c4 c5 c6 c7 HB HM
  go_loopw [9, 10] (fun ve vi wr => ∃ k : Nat, k ≤ who.length ∧ vi = .int .i64 k ∧ ve = .int .i64 0 ∧ Below W0.heap.size W0 wr) (fun _ vi _ => who.length - (intOf vi).toNat)
  case atStart => exact ⟨0, Nat.zero_le _, rfl, rfl, hC2⟩
  case round =>
    clear hC2 hB2 hb2 hb1 hC1 hB1
    obtain ⟨k, hk, rfl, rfl, hB⟩ := hrel
    by_cases hlt : k < who.length
    · obtain ⟨b, off, cp, heq, _, _⟩ := HL.out.form (by omega)
      cases heq
      have hck := (lmi_cell HL.out (Below.next hA hB) hlt).2
      have k0' : (0 : Int) ≤ (k : Int) := by omega
      have k1' : (k : Int) < (who.length : Int) := by omega
      obtain ⟨c0, c1, c2, c3, c4, c5, c6, c7⟩ := HS.out _ hB
      obtain ⟨J, hJ, hJn, _⟩ := HX.out k hlt
      rw [hJ] at hck
      have q3 : ¬ (J : Int) < 0 := by omega
      have q4 : ¬ p.n ≤ (J : Int) := by omega
      clear hJ
      go_upto_region 7 with fail
      go_quiet (fail)
      have hB2 := below_drewN hB nq
      clear c0 c1 c2 c3 c4 c5 c6 c7
      go_wp2
      go_roundw
      case rel => exact ⟨k + 1, by omega, by go_num, rfl, hB2⟩
      case measure => simp [intOf]; omega
    · obtain rfl : k = who.length := by omega
      obtain ⟨c0, c1, c2, c3, c4, c5, c6, c7⟩ := HS.out _ hB
      go_wp2_with fail
      clear c0 c1 c2 c3 c4 c5 c6 c7 hkt
      obtain ⟨w3, hw3⟩ : ∃ w3, w3 = wr := ⟨wr, rfl⟩
      have HW3 := hide hw3
      have hB3 : Below W0.heap.size W0 w3 := by rw [hw3]; exact hB
      clear hw3
      go_loopw [9, 11, 12] (fun ve vx vi wq => ∃ (k : Nat) (ao : Option Addr) (cap : Nat), k ≤ who.length ∧ vi = .int .i64 k ∧ ve = .int .i64 (ndE who k) ∧ vx = .slice ao k cap ∧ Hid (wq.ownsRow W0.heap.size 51 1 (.slice ao k cap) k (vals (nmd p (who.take k)))) ∧ Below W0.heap.size W0 wq) (fun _ _ vi _ => who.length - (intOf vi).toNat)
      case atStart => exact ⟨0, none, 0, Nat.zero_le _, rfl, rfl, rfl, World.ownsRow_nil _ _ _ _, hB⟩
      case round =>
        clear hB hB3 HW3
        obtain ⟨k, ao, cap, hk, rfl, rfl, rfl, HOw, hB⟩ := hrel
        rcases HNd.out k with ⟨hnd, hnk⟩ | ⟨hnd, hnk⟩
        · rw [hnd]
          by_cases hlt : k < who.length
          · obtain ⟨b, off, cp, heq, _, _⟩ := HL.out.form (by omega)
            cases heq
            have Hwc : Hid (∀ V, Below W0.heap.size W0 V → ∀ j, j < who.length → V.cell? ⟨b, off + j, none⟩ = some (.int .i64 (who.getD j 0))) := fun V hb j hj => (lmi_cell HL.out (Below.next hA hb) hj).2
            have kk0 : (0 : Int) ≤ (k : Int) := by omega
            have kk1 : (k : Int) < (who.length : Int) := by omega
            have HE0 := hide (HI0.out k)
            go_wp2_with fail
            go_loopw [9, 13] (fun ve vj wq => ∃ j : Nat, j ≤ k ∧ vj = .int .i64 j ∧ ve = .int .i64 (inE who k j) ∧ Hid (wq.ownsRow W0.heap.size 51 1 (.slice ao k cap) k (vals (nmd p (who.take k)))) ∧ Below W0.heap.size W0 wq) (fun _ vj _ => k - (intOf vj).toNat)
            case atStart => exact ⟨0, Nat.zero_le _, rfl, by rw [HE0.out], HOw, hB⟩
            case round =>
              clear hB HOw
              obtain ⟨j, hj, rfl, rfl, HOw, hB⟩ := hrel
              by_cases hjk : j < k
              · have d1 := Hwc.out wr hB k hlt
                have d2 := Hwc.out wr hB j (by omega)
                have jj0 : (0 : Int) ≤ (j : Int) := by omega
                have jj1 : (j : Int) < (who.length : Int) := by omega
                have HOw2 := hide (fun nq => own_drewN HOw.out nq)
                by_cases he : who.getD k 0 = who.getD j 0
                · have hE := hide (HIe.out k j (by omega) he)
                  rw [he] at d1
                  clear he
                  generalize who.getD j 0 = y at *
                  generalize inE who k j = ee at *
                  go_upto_region 18 with fail
                  go_quiet (fail)
                  have hB2 := below_drewN hB nq
                  have HOw3 := hide (HOw2.out nq)
                  go_wp2
                  go_roundw
                  case rel => exact ⟨j + 1, by omega, by go_num, by rw [hE.out], HOw3, hB2⟩
                  case measure => simp [intOf]; omega
                · have hE := hide (HIn.out k j (by omega) he)
                  generalize who.getD j 0 = y at *
                  generalize who.getD k 0 = x at *
                  have ht : (x == y) = false := by simpa using he
                  clear he
                  generalize hee : inE who k j = ee at *
                  clear hee
                  go_upto_region 18 with fail
                  go_quiet (fail)
                  have hB2 := below_drewN hB nq
                  have HOw3 := hide (HOw2.out nq)
                  go_wp2
                  go_roundw
                  case rel => exact ⟨j + 1, by omega, by go_num, by rw [hE.out], HOw3, hB2⟩
                  case measure => simp [intOf]; omega
              · obtain rfl : j = k := by omega
                have hE := hide (HId.out j hlt hnk)
                obtain ⟨J, hJ, hJn, hJo⟩ := HX.out j hlt
                have hS8 : Hid (∀ V, Below wr.heap.size wr V → (V.cell? ⟨w.heap.size, 0, none⟩ = some (.int .u8 p.f) ∧ V.cell? ⟨w.heap.size, 1, none⟩ = some (.int .i64 p.n) ∧ V.cell? ⟨w.heap.size, 2, none⟩ = some (.int .i64 p.k) ∧ V.cell? ⟨w.heap.size, 3, none⟩ = some (.int .i64 p.t) ∧ V.cell? ⟨w.heap.size, 4, none⟩ = some (.int .i64 p.s) ∧ V.cell? ⟨w.heap.size, 5, none⟩ = some (.int .i64 p.e) ∧ V.cell? ⟨w.heap.size, 6, none⟩ = some (.int .i64 p.d) ∧ V.cell? ⟨w.heap.size, 7, none⟩ = some (.int .i64 p.w)) ∧ V.cell? ⟨b, off + j, none⟩ = some (.int .i64 (J : Int))) := fun V hb => ⟨HS.out V (Below.next hB hb), by rw [← hJ]; exact Hwc.out V (Below.next hB hb) j hlt⟩
                have hN := HNs.out j hlt
                rw [hJ, Int.toNat_natCast] at hN
                have hdr : Below wr.heap.size wr wr.drew := (Below.refl _ wr).drew
                have hS0 := hS8.out _ hdr
                have J0 : (0 : Int) ≤ (J : Int) := by omega
                have J1 : (J : Int) < (os.length : Int) := by omega
                have hsw := hB.size
                have HJ := hide hJ
                generalize hy : co os J = y at *
                have Hy := hide hy
                clear hJ hy
                generalize inE who j j = ee at *
                go_upto_region 20 with fail
                refine wp_region_held_drew (S := (fun V => (V.cell? ⟨w.heap.size, 0, none⟩ = some (.int .u8 p.f) ∧ V.cell? ⟨w.heap.size, 1, none⟩ = some (.int .i64 p.n) ∧ V.cell? ⟨w.heap.size, 2, none⟩ = some (.int .i64 p.k) ∧ V.cell? ⟨w.heap.size, 3, none⟩ = some (.int .i64 p.t) ∧ V.cell? ⟨w.heap.size, 4, none⟩ = some (.int .i64 p.s) ∧ V.cell? ⟨w.heap.size, 5, none⟩ = some (.int .i64 p.e) ∧ V.cell? ⟨w.heap.size, 6, none⟩ = some (.int .i64 p.d) ∧ V.cell? ⟨w.heap.size, 7, none⟩ = some (.int .i64 p.w)) ∧ V.cell? ⟨b, off + j, none⟩ = some (.int .i64 (J : Int)))) (by kernel_rfl) (by ((try dsimp only) <;> (first | with_reducible exact hS3 | with_reducible exact hS2 _ | with_reducible exact hS1 | with_reducible exact hS0))) (fun hHeld => ?_)
                (refine wpAnyH_take (i := 0) (oi := _) (v := ?v80) rfl (by kernel_rfl) (by kernel_rfl) (by kernel_rfl) (fun _ _ _ h => h) (Or.inl ⟨by rfl, ?hy80⟩) (by assumption) ?rest80; (case hy80 => (first | (intro w hSw; (try dsimp only at hSw); go_simp; done) | (intro w hSw; (try dsimp only at hSw); go_simp; with_reducible rfl))); (try simp only [Act.put, List.getElem_toArray, List.getElem_cons_succ, List.getElem_cons_zero, List.setIfInBounds_toArray, List.set_cons_zero, List.set_cons_succ]))
                (refine wpAnyH_take (i := 1) (oi := _) (v := ?v81) rfl (by kernel_rfl) (by kernel_rfl) (by kernel_rfl) (fun _ _ _ h => h) (Or.inl ⟨by rfl, ?hy81⟩) (by assumption) ?rest81; (case hy81 => (first | (intro w hSw; (try dsimp only at hSw); go_simp; done) | (intro w hSw; (try dsimp only at hSw); go_simp; with_reducible rfl))); (try simp only [Act.put, List.getElem_toArray, List.getElem_cons_succ, List.getElem_cons_zero, List.setIfInBounds_toArray, List.set_cons_zero, List.set_cons_succ]))
                (refine wpAnyH_take (i := 3) (oi := _) (v := ?v82) rfl (by kernel_rfl) (by kernel_rfl) (by kernel_rfl) (fun _ _ _ h => h) (Or.inl ⟨by rfl, ?hy82⟩) (by assumption) ?rest82; (case hy82 => (first | (intro w hSw; (try dsimp only at hSw); go_simp; done) | (intro w hSw; (try dsimp only at hSw); go_simp; with_reducible rfl))); (try simp only [Act.put, List.getElem_toArray, List.getElem_cons_succ, List.getElem_cons_zero, List.setIfInBounds_toArray, List.set_cons_zero, List.set_cons_succ]))
                (refine wpAnyH_take (i := 4) (oi := _) (v := ?v83) rfl (by kernel_rfl) (by kernel_rfl) (by kernel_rfl) (fun _ _ _ h => h) (Or.inl ⟨by rfl, ?hy83⟩) (by assumption) ?rest83; (case hy83 => (first | (intro w hSw; (try dsimp only at hSw); go_simp; done) | (intro w hSw; (try dsimp only at hSw); go_simp; with_reducible rfl))); (try simp only [Act.put, List.getElem_toArray, List.getElem_cons_succ, List.getElem_cons_zero, List.setIfInBounds_toArray, List.set_cons_zero, List.set_cons_succ]))
                (refine wpAnyH_take (i := 5) (oi := _) (v := ?v84) rfl (by kernel_rfl) (by kernel_rfl) (by kernel_rfl) (fun _ _ _ h => h) (Or.inl ⟨by rfl, ?hy84⟩) (by assumption) ?rest84; (case hy84 => (first | (intro w hSw; (try dsimp only at hSw); go_simp; done) | (intro w hSw; (try dsimp only at hSw); go_simp; with_reducible rfl))); (try simp only [Act.put, List.getElem_toArray, List.getElem_cons_succ, List.getElem_cons_zero, List.setIfInBounds_toArray, List.set_cons_zero, List.set_cons_succ]))
                (refine wpAnyH_take (i := 6) (oi := _) (v := ?v85) rfl (by kernel_rfl) (by kernel_rfl) (by kernel_rfl) (fun _ _ _ h => h) (Or.inl ⟨by rfl, ?hy85⟩) (by assumption) ?rest85; (case hy85 => (first | (intro w hSw; (try dsimp only at hSw); go_simp; done) | (intro w hSw; (try dsimp only at hSw); go_simp; with_reducible rfl))); (try simp only [Act.put, List.getElem_toArray, List.getElem_cons_succ, List.getElem_cons_zero, List.setIfInBounds_toArray, List.set_cons_zero, List.set_cons_succ]))
                refine wpAnyH_ready (rs := [2]) (by kernel_rfl) (by simp) ?_
                refine AllReadyH.cons (o := _) rfl (fun K hK => ?_) AllReadyH.nil
                try simp only [List.getElem_toArray, List.getElem_cons_succ, List.getElem_cons_zero]
                go_simp
                (first
                      | (go_at_call 35; refine (HO.out _).mono ?_; rintro e w4 ⟨v4, rfl, o4, hb4⟩; have hD4 := Below.next hdr hb4; have hS1 := hS8.out _ hD4; have hS2 := fun ob => hS8.out (w4.alloc ob) (Below.next hD4 (alloc_below w4 ob)); have hsz4 := hD4.size; obtain ⟨g4, cg4, rfl, _, _⟩ := o4.form (by omega); have hcJ : w4.cell? ⟨g4, J, none⟩ = some (.int .u64 y) := (by have := own_cell o4 rfl hJo; rw [show os.getD J 0 = y from Hy.out] at this; exact this); have HRow : Hid (∀ ob, World.ownsRow (w4.alloc ob) W0.heap.size 51 1 (.slice ao j cap) j (vals (nmd p (who.take j)))) := fun ob => (own_below HOw.out hD4).alloc ob; clear o4)
                      | (refine step_append_lies _ (by rfl) _ _ _ (by rfl) W0.heap.size 51 i0 _ 1 8 Tryz.underlying33 hi0 hy0 hy1 hy2 rfl (by omega) (.slice ao j cap) j (vals (nmd p (who.take j))) (by rfl) (HRow.out _) ⟨w4.heap.size, 0, none⟩ 1 1 [.int .u64 y] (by rfl) (by rfl) (World.news_of_block (cs := #[.int .u64 y]) (t := 51) (fr := (0, 0)) (heap_alloc_new w4 _)) (by simp [Value.oneCell']) (by omega) (by unfold maxLen; omega) (by omega) (by simp; omega) (w4.heap.size + 1) (by simp) ?_; intro gg cap2 w5 hown5 hgrow hat hltg; have hB5 : Below W0.heap.size W0 w5 := ((Below.next hB hD4).alloc (by omega) _).grown hgrow (by simp; omega) (fun i e => own_base (HRow.out (.cells #[] 0)) i e); have hS3 := And.intro (HS.out _ hB5) (show w5.cell? ⟨b, off + j, none⟩ = some (.int .i64 (J : Int)) from (Hwc.out w5 hB5 j hlt).trans (by rw [HJ.out]))))
                first | (refine hK.out _ _ (by ((try dsimp only) <;> (first | with_reducible exact hS3 | with_reducible exact hS2 _ | with_reducible exact hS1 | with_reducible exact hS0))) (fun hHeld => ?_)) | (go_wp2_with fail; refine hK.out _ _ (by ((try dsimp only) <;> (first | with_reducible exact hS3 | with_reducible exact hS2 _ | with_reducible exact hS1 | with_reducible exact hS0))) (fun hHeld => ?_))
                clear hK K
                (try simp only [Act.put, List.getElem_toArray, List.getElem_cons_succ, List.getElem_cons_zero, List.setIfInBounds_toArray, List.set_cons_zero, List.set_cons_succ])
                (refine wpAnyH_take (i := 7) (oi := _) (v := ?v86) rfl (by kernel_rfl) (by kernel_rfl) (by kernel_rfl) (fun _ _ _ h => h) (Or.inl ⟨by rfl, ?hy86⟩) (by assumption) ?rest86; (case hy86 => (first | (intro w hSw; (try dsimp only at hSw); go_simp; done) | (intro w hSw; (try dsimp only at hSw); go_simp; with_reducible rfl))); (try simp only [Act.put, List.getElem_toArray, List.getElem_cons_succ, List.getElem_cons_zero, List.setIfInBounds_toArray, List.set_cons_zero, List.set_cons_succ]))
                refine wpAnyH_ready (rs := [8]) (by kernel_rfl) (by simp) ?_
                refine AllReadyH.cons (o := _) rfl (fun K hK => ?_) AllReadyH.nil
                try simp only [List.getElem_toArray, List.getElem_cons_succ, List.getElem_cons_zero]
                go_simp
                refine hK.out _ _ (by ((try dsimp only) <;> (first | with_reducible exact hS3 | with_reducible exact hS2 _ | with_reducible exact hS1 | with_reducible exact hS0))) (fun hHeld => ?_)
                clear hK K
                (try simp only [Act.put, List.getElem_toArray, List.getElem_cons_succ, List.getElem_cons_zero, List.setIfInBounds_toArray, List.set_cons_zero, List.set_cons_succ])
                refine wpAnyH_ready (rs := [9]) (by kernel_rfl) (by simp) ?_
                refine AllReadyH.cons (o := _) rfl (fun K hK => ?_) AllReadyH.nil
                try simp only [List.getElem_toArray, List.getElem_cons_succ, List.getElem_cons_zero]
                go_simp
                refine hK.out _ _ (by ((try dsimp only) <;> (first | with_reducible exact hS3 | with_reducible exact hS2 _ | with_reducible exact hS1 | with_reducible exact hS0))) (fun hHeld => ?_)
                clear hK K
                (try simp only [Act.put, List.getElem_toArray, List.getElem_cons_succ, List.getElem_cons_zero, List.setIfInBounds_toArray, List.set_cons_zero, List.set_cons_succ])
                refine wpAnyH_ready (rs := [10]) (by kernel_rfl) (by simp) ?_
                refine AllReadyH.cons (o := _) rfl (fun K hK => ?_) AllReadyH.nil
                (first
                      | (go_at_call 35; refine (HO.out _).mono ?_; rintro e w4 ⟨v4, rfl, o4, hb4⟩; have hD4 := Below.next hdr hb4; have hS1 := hS8.out _ hD4; have hS2 := fun ob => hS8.out (w4.alloc ob) (Below.next hD4 (alloc_below w4 ob)); have hsz4 := hD4.size; obtain ⟨g4, cg4, rfl, _, _⟩ := o4.form (by omega); have hcJ : w4.cell? ⟨g4, J, none⟩ = some (.int .u64 y) := (by have := own_cell o4 rfl hJo; rw [show os.getD J 0 = y from Hy.out] at this; exact this); have HRow : Hid (∀ ob, World.ownsRow (w4.alloc ob) W0.heap.size 51 1 (.slice ao j cap) j (vals (nmd p (who.take j)))) := fun ob => (own_below HOw.out hD4).alloc ob; clear o4)
                      | (refine step_append_lies _ (by rfl) _ _ _ (by rfl) W0.heap.size 51 i0 _ 1 8 Tryz.underlying33 hi0 hy0 hy1 hy2 rfl (by omega) (.slice ao j cap) j (vals (nmd p (who.take j))) (by rfl) (HRow.out _) ⟨w4.heap.size, 0, none⟩ 1 1 [.int .u64 y] (by rfl) (by rfl) (World.news_of_block (cs := #[.int .u64 y]) (t := 51) (fr := (0, 0)) (heap_alloc_new w4 _)) (by simp [Value.oneCell']) (by omega) (by unfold maxLen; omega) (by omega) (by simp; omega) (w4.heap.size + 1) (by simp) ?_; intro gg cap2 w5 hown5 hgrow hat hltg; have hB5 : Below W0.heap.size W0 w5 := ((Below.next hB hD4).alloc (by omega) _).grown hgrow (by simp; omega) (fun i e => own_base (HRow.out (.cells #[] 0)) i e); have hS3 := And.intro (HS.out _ hB5) (show w5.cell? ⟨b, off + j, none⟩ = some (.int .i64 (J : Int)) from (Hwc.out w5 hB5 j hlt).trans (by rw [HJ.out]))))
                refine hK.out _ _ (by ((try dsimp only) <;> (first | with_reducible exact hS3 | with_reducible exact hS2 _ | with_reducible exact hS1 | with_reducible exact hS0))) (fun hHeld => ?_)
                clear hK K
                (try simp only [Act.put, List.getElem_toArray, List.getElem_cons_succ, List.getElem_cons_zero, List.setIfInBounds_toArray, List.set_cons_zero, List.set_cons_succ])
                (refine wpAnyH_take (i := 11) (oi := _) (v := ?v87) rfl (by kernel_rfl) (by kernel_rfl) (by kernel_rfl) (fun _ _ _ h => h) (Or.inl ⟨by rfl, ?hy87⟩) (by assumption) ?rest87; (case hy87 => (first | (intro w hSw; (try dsimp only at hSw); go_simp; done) | (intro w hSw; (try dsimp only at hSw); go_simp; with_reducible rfl))); (try simp only [Act.put, List.getElem_toArray, List.getElem_cons_succ, List.getElem_cons_zero, List.setIfInBounds_toArray, List.set_cons_zero, List.set_cons_succ]))
                refine wpAnyH_done (by kernel_rfl) ?_ _
                have HO5 : Hid (w5.ownsRow W0.heap.size 51 1 (.slice (some ⟨gg, 0, none⟩) (j + 1) cap2) (j + 1) (vals (nmd p (who.take (j + 1))))) := by
                  show World.ownsRow _ _ _ _ _ _ _
                  rw [← hN, vals_snocH]
                  exact hown5
                clear hown5 hgrow hat hltg hS0 hS1 hS2 hS3 HRow hcJ hN
                go_wp2
                go_roundw
                case rel => exact ⟨j + 1, some ⟨gg, 0, none⟩, cap2, by omega, by go_num, by rw [hE.out], rfl, HO5, hB5⟩
                case measure => simp [intOf]; omega
          · obtain rfl : k = who.length := by omega
            have hn : who.Nodup := by rw [List.take_length] at hnk; exact hnk
            have hr := HOE.out hn
            subst hr
            rw [List.take_length, Hns.out] at HOw
            have Hcut2 := hide (Hcut.out hn)
            have HRn2 := hide (HRn.out hn)
            have HPy2 := hide (HPy.out hn)
            have HLr2 := hide (HLr.out hn)
            have HAt2 := hide (HAt.out hn)
            obtain ⟨w5, rfl⟩ : ∃ w5, w5 = wr := ⟨wr, rfl⟩
            have rn := hide (HRn2.out w5 _ _ _ HOw.out)
            clear HL HX HO HNs HIe HIn HId HI0 HNd Hinn HOE HOE6 HC6 Hcut Hne HRn HPy HPf HLr HAt HWL Hn hnk hnd HOw
            obtain ⟨c0, c1, c2, c3, c4, c5, c6, c7⟩ := HS.out _ hB
            generalize who.length = nw at *
            go_wp2_with fail
            clear c0 c1 c2 c3 c4 c5 c6 c7
            have hC5 := hB
            have hB5 := Below.next hA hB
            clear hB
            go_loopw [14, 15] (fun vo vi wq => ∃ (k : Nat) (us : List Value), k ≤ n ∧ vi = .int .i64 k ∧ Hid (Lss wq w5.heap.size wq.heap.size vo us ((List.range k).map F)) ∧ Below w5.heap.size w5 wq) (fun _ vi _ => n - (intOf vi).toNat)
            case atStart => exact ⟨0, [], Nat.zero_le _, rfl, Lss.nil _ _ _, Below.refl _ _⟩
            case round =>
              obtain ⟨k, us, hk, rfl, HLs, hB⟩ := hrel
              obtain ⟨c0, c1, c2, c3, c4, c5, c6, c7⟩ := HS.out _ (Below.next hC5 hB)
              by_cases hlt : k < n
              · have hkw : (k : Int) < p.w := by rw [HPw.out]; omega
                have Hml : Hid (((List.range k).map F).length = k) := by show _ = _; simp
                obtain ⟨ao2, co', hv⟩ := own_form HLs.out.row
                rw [Hml.out] at hv
                subst hv
                have hdr : Below wr.heap.size wr wr.drew := (Below.refl _ wr).drew
                have hCr := Below.next hC5 hB
                have HS2 := hide (fun V (hb : Below wr.heap.size wr V) => HS.out V (Below.next hCr hb))
                have hS0 := HS2.out _ hdr
                have hCk := hide (fun W hb => HC.out W k hb hlt)
                have hT := hide (fun W v1 v2 x1 x2 => HT.out W v1 v2 k x1 x2)
                have hR2 := hide (fun W v base m hO => HR2.out W v base m k hO)
                rw [HFt.out k] at hT
                have hN := HFn.out k
                generalize col l k = ck at *
                generalize F k = fk at *
                generalize bad p.f ns ck ck.length = e0 at *
                go_upto_region 27 with fail
                clear c0 c1 c2 c3 c4 c5 c6 c7
                refine wp_region_held_drew (S := (fun V => V.cell? ⟨w.heap.size, 0, none⟩ = some (.int .u8 p.f) ∧ V.cell? ⟨w.heap.size, 1, none⟩ = some (.int .i64 p.n) ∧ V.cell? ⟨w.heap.size, 2, none⟩ = some (.int .i64 p.k) ∧ V.cell? ⟨w.heap.size, 3, none⟩ = some (.int .i64 p.t) ∧ V.cell? ⟨w.heap.size, 4, none⟩ = some (.int .i64 p.s) ∧ V.cell? ⟨w.heap.size, 5, none⟩ = some (.int .i64 p.e) ∧ V.cell? ⟨w.heap.size, 6, none⟩ = some (.int .i64 p.d) ∧ V.cell? ⟨w.heap.size, 7, none⟩ = some (.int .i64 p.w))) (by kernel_rfl) (by ((try dsimp only) <;> (first | with_reducible exact hS3 | with_reducible exact hS2 | with_reducible exact hS0))) (fun hHeld => ?_)
                (refine wpAnyH_take (i := 0) (oi := _) (v := ?v88) rfl (by kernel_rfl) (by kernel_rfl) (by kernel_rfl) (fun _ _ _ h => h) (Or.inl ⟨by rfl, ?hy88⟩) (by assumption) ?rest88; (case hy88 => (first | (intro w hSw; (try dsimp only at hSw); go_simp; done) | (intro w hSw; (try dsimp only at hSw); go_simp; with_reducible rfl))); (try simp only [Act.put, List.getElem_toArray, List.getElem_cons_succ, List.getElem_cons_zero, List.setIfInBounds_toArray, List.set_cons_zero, List.set_cons_succ]))
                (refine wpAnyH_take (i := 1) (oi := _) (v := ?v89) rfl (by kernel_rfl) (by kernel_rfl) (by kernel_rfl) (fun _ _ _ h => h) (Or.inl ⟨by rfl, ?hy89⟩) (by assumption) ?rest89; (case hy89 => (first | (intro w hSw; (try dsimp only at hSw); go_simp; done) | (intro w hSw; (try dsimp only at hSw); go_simp; with_reducible rfl))); (try simp only [Act.put, List.getElem_toArray, List.getElem_cons_succ, List.getElem_cons_zero, List.setIfInBounds_toArray, List.set_cons_zero, List.set_cons_succ]))
                (refine wpAnyH_take (i := 2) (oi := _) (v := ?v90) rfl (by kernel_rfl) (by kernel_rfl) (by kernel_rfl) (fun _ _ _ h => h) (Or.inl ⟨by rfl, ?hy90⟩) (by assumption) ?rest90; (case hy90 => (first | (intro w hSw; (try dsimp only at hSw); go_simp; done) | (intro w hSw; (try dsimp only at hSw); go_simp; with_reducible rfl))); (try simp only [Act.put, List.getElem_toArray, List.getElem_cons_succ, List.getElem_cons_zero, List.setIfInBounds_toArray, List.set_cons_zero, List.set_cons_succ]))
                (refine wpAnyH_take (i := 3) (oi := _) (v := ?v91) rfl (by kernel_rfl) (by kernel_rfl) (by kernel_rfl) (fun _ _ _ h => h) (Or.inl ⟨by rfl, ?hy91⟩) (by assumption) ?rest91; (case hy91 => (first | (intro w hSw; (try dsimp only at hSw); go_simp; done) | (intro w hSw; (try dsimp only at hSw); go_simp; with_reducible rfl))); (try simp only [Act.put, List.getElem_toArray, List.getElem_cons_succ, List.getElem_cons_zero, List.setIfInBounds_toArray, List.set_cons_zero, List.set_cons_succ]))
                (refine wpAnyH_take (i := 4) (oi := _) (v := ?v92) rfl (by kernel_rfl) (by kernel_rfl) (by kernel_rfl) (fun _ _ _ h => h) (Or.inl ⟨by rfl, ?hy92⟩) (by assumption) ?rest92; (case hy92 => (first | (intro w hSw; (try dsimp only at hSw); go_simp; done) | (intro w hSw; (try dsimp only at hSw); go_simp; with_reducible rfl))); (try simp only [Act.put, List.getElem_toArray, List.getElem_cons_succ, List.getElem_cons_zero, List.setIfInBounds_toArray, List.set_cons_zero, List.set_cons_succ]))
                refine wpAnyH_ready (rs := [5]) (by kernel_rfl) (by simp) ?_
                refine AllReadyH.cons (o := _) rfl (fun K hK => ?_) AllReadyH.nil
                try simp only [List.getElem_toArray, List.getElem_cons_succ, List.getElem_cons_zero]
                go_simp
                (first
                      | (go_at_call 32; refine (hCk.out _ (Below.next (Below.next hB5 hB) hdr)).mono ?_; rintro e w6 ⟨v6, rfl, o6, hb6⟩; have hD6 := Below.next hdr hb6; have hS2 := HS2.out _ hD6; have r6 := hR2.out _ _ _ _ o6; have rn6 := rn.out.below (Below.next hB hD6); obtain ⟨a6, k6, rfl⟩ := own_form o6)
                      | (go_at_call 30; refine (hT.out _ _ _ rn6 r6).mono ?_; rintro e w7 ⟨v7, rfl, o7, hb7⟩; have hD7 := Below.next hD6 hb7; have hS3 := HS2.out _ hD7; obtain ⟨a7, k7, rfl⟩ := own_form o7))
                first | (refine hK.out _ _ (by ((try dsimp only) <;> (first | with_reducible exact hS3 | with_reducible exact hS2 | with_reducible exact hS0))) (fun hHeld => ?_)) | (go_wp2_with fail; refine hK.out _ _ (by ((try dsimp only) <;> (first | with_reducible exact hS3 | with_reducible exact hS2 | with_reducible exact hS0))) (fun hHeld => ?_))
                clear hK K
                (try simp only [Act.put, List.getElem_toArray, List.getElem_cons_succ, List.getElem_cons_zero, List.setIfInBounds_toArray, List.set_cons_zero, List.set_cons_succ])
                refine wpAnyH_ready (rs := [6]) (by kernel_rfl) (by simp) ?_
                refine AllReadyH.cons (o := _) rfl (fun K hK => ?_) AllReadyH.nil
                try simp only [List.getElem_toArray, List.getElem_cons_succ, List.getElem_cons_zero]
                go_simp
                (first
                      | (go_at_call 32; refine (hCk.out _ (Below.next (Below.next hB5 hB) hdr)).mono ?_; rintro e w6 ⟨v6, rfl, o6, hb6⟩; have hD6 := Below.next hdr hb6; have hS2 := HS2.out _ hD6; have r6 := hR2.out _ _ _ _ o6; have rn6 := rn.out.below (Below.next hB hD6); obtain ⟨a6, k6, rfl⟩ := own_form o6)
                      | (go_at_call 30; refine (hT.out _ _ _ rn6 r6).mono ?_; rintro e w7 ⟨v7, rfl, o7, hb7⟩; have hD7 := Below.next hD6 hb7; have hS3 := HS2.out _ hD7; obtain ⟨a7, k7, rfl⟩ := own_form o7))
                first | (refine hK.out _ _ (by ((try dsimp only) <;> (first | with_reducible exact hS3 | with_reducible exact hS2 | with_reducible exact hS0))) (fun hHeld => ?_)) | (go_wp2_with fail; refine hK.out _ _ (by ((try dsimp only) <;> (first | with_reducible exact hS3 | with_reducible exact hS2 | with_reducible exact hS0))) (fun hHeld => ?_))
                clear hK K
                (try simp only [Act.put, List.getElem_toArray, List.getElem_cons_succ, List.getElem_cons_zero, List.setIfInBounds_toArray, List.set_cons_zero, List.set_cons_succ])
                (refine wpAnyH_take (i := 7) (oi := _) (v := ?v93) rfl (by kernel_rfl) (by kernel_rfl) (by kernel_rfl) (fun _ _ _ h => h) (Or.inl ⟨by rfl, ?hy93⟩) (by assumption) ?rest93; (case hy93 => (first | (intro w hSw; (try dsimp only at hSw); go_simp; done) | (intro w hSw; (try dsimp only at hSw); go_simp; with_reducible rfl))); (try simp only [Act.put, List.getElem_toArray, List.getElem_cons_succ, List.getElem_cons_zero, List.setIfInBounds_toArray, List.set_cons_zero, List.set_cons_succ]))
                (refine wpAnyH_take (i := 8) (oi := _) (v := ?v94) rfl (by kernel_rfl) (by kernel_rfl) (by kernel_rfl) (fun _ _ _ h => h) (Or.inl ⟨by rfl, ?hy94⟩) (by assumption) ?rest94; (case hy94 => (first | (intro w hSw; (try dsimp only at hSw); go_simp; done) | (intro w hSw; (try dsimp only at hSw); go_simp; with_reducible rfl))); (try simp only [Act.put, List.getElem_toArray, List.getElem_cons_succ, List.getElem_cons_zero, List.setIfInBounds_toArray, List.set_cons_zero, List.set_cons_succ]))
                (refine wpAnyH_take (i := 9) (oi := _) (v := ?v95) rfl (by kernel_rfl) (by kernel_rfl) (by kernel_rfl) (fun _ _ _ h => h) (Or.inl ⟨by rfl, ?hy95⟩) (by assumption) ?rest95; (case hy95 => (first | (intro w hSw; (try dsimp only at hSw); go_simp; done) | (intro w hSw; (try dsimp only at hSw); go_simp; with_reducible rfl))); (try simp only [Act.put, List.getElem_toArray, List.getElem_cons_succ, List.getElem_cons_zero, List.setIfInBounds_toArray, List.set_cons_zero, List.set_cons_succ]))
                (refine wpAnyH_take (i := 10) (oi := _) (v := ?v96) rfl (by kernel_rfl) (by kernel_rfl) (by kernel_rfl) (fun _ _ _ h => h) (Or.inl ⟨by rfl, ?hy96⟩) (by assumption) ?rest96; (case hy96 => (first | (intro w hSw; (try dsimp only at hSw); go_simp; done) | (intro w hSw; (try dsimp only at hSw); go_simp; with_reducible rfl))); (try simp only [Act.put, List.getElem_toArray, List.getElem_cons_succ, List.getElem_cons_zero, List.setIfInBounds_toArray, List.set_cons_zero, List.set_cons_succ]))
                (refine wpAnyH_take (i := 11) (oi := _) (v := ?v97) rfl (by kernel_rfl) (by kernel_rfl) (by kernel_rfl) (fun _ _ _ h => h) (Or.inl ⟨by rfl, ?hy97⟩) (by assumption) ?rest97; (case hy97 => (first | (intro w hSw; (try dsimp only at hSw); go_simp; done) | (intro w hSw; (try dsimp only at hSw); go_simp; with_reducible rfl))); (try simp only [Act.put, List.getElem_toArray, List.getElem_cons_succ, List.getElem_cons_zero, List.setIfInBounds_toArray, List.set_cons_zero, List.set_cons_succ]))
                refine wpAnyH_done (by kernel_rfl) ?_ _
                have HL7 := hide (HLs.out.below hD7)
                have hsz7 := hD7.size
                have hsz6 := hD6.size
                have hbs := hB.size
                clear hS0 hS2 hS3 r6 rn6 o6 hT hCk hR2
                have HRow : Hid (∀ ob, World.ownsRow (w7.alloc ob) w5.heap.size 33 1 (.slice ao2 k co') k us) := fun ob => by
                  have := HL7.out.row.alloc ob
                  rw [Hml.out] at this
                  exact this
                go_wp2_with (at_builtin; refine wpList_append_lies _ rfl _ _ _ rfl w5.heap.size 33 j0 _ 1 24 Tryz.underlying25 hj0 hx0 hx1 hx2 rfl (by omega) (.slice ao2 k co') k us rfl (HRow.out _) ⟨w7.heap.size, 0, none⟩ 1 1 [.slice a7 fk.length k7] rfl rfl (World.news_of_block (cs := #[.slice a7 fk.length k7]) (t := 33) (fr := (0, 0)) (heap_alloc_new w7 _)) (by simp [Value.oneCell']) (by omega) (by unfold maxLen; omega) (by omega) (by simp; omega) (w7.heap.size + 1) (by simp) ?_; intro gg cap2 w8 hown8 hgrow hat hltg)
                have R := hide (HL7.out.push (w := w5) (H := w6.heap.size) hsz6 (Nat.le_trans hbs hsz6) (Nat.le_refl _) (Below.next hB hD7) o7 (by rw [Hml.out]; exact hown8) hgrow)
                clear hown8 hgrow hat hltg HLs HL7 o7 HRow
                rw [hN] at R
                clear hN
                go_roundw
                case rel => exact ⟨k + 1, _, by omega, by go_num, lss_here14 R.out.1, R.out.2⟩
                case measure => simp [intOf]; omega
              · obtain rfl : k = n := by omega
                have hkw : ¬ (k : Int) < p.w := by rw [HPw.out]; omega
                rw [HPy2.out] at HLs
                have rp := HLr2.out _ _ _ _ _ HLs.out
                obtain ⟨ao3, co3, rfl⟩ := own_form HLs.out.row
                clear HLs HC HT HR2 HFt HFn HPy2 HLr2
                have hK1 : 0 < K := by have := HPk.out; omega
                have hCr := Below.next hC5 hB
                go_wp2_with (go_at_call 31; refine (HIn2.out _).mono ?_; rintro e w9 ⟨v9, rfl, o9, hb9⟩; have hC9 := Below.next hCr hb9; have rp9 := hide (rp.below hb9); obtain ⟨g9, cg9, rfl, _, _⟩ := o9.form (by omega); have HO9 := hide o9; clear o9 rp)
                have hB9 := Below.next hA hC9
                clear c0 c1 c2 c3 c4 c5 c6 c7 HIn2 hb9 hB hCr
                go_loopw [18, 20] (fun vo vi wq => ∃ (k : Nat) (us : List Value), k ≤ is.length ∧ vi = .int .i64 k ∧ Hid (Lss wq w9.heap.size wq.heap.size vo us ((is.take k).map G)) ∧ Below w9.heap.size w9 wq) (fun _ vi _ => is.length - (intOf vi).toNat)
                case atStart => exact ⟨0, [], Nat.zero_le _, rfl, Lss.nil _ _ _, Below.refl _ _⟩
                case round =>
                  obtain ⟨k, us, hk, rfl, HLs, hB⟩ := hrel
                  by_cases hlt : k < is.length
                  · have Hml : Hid (((is.take k).map G).length = k) := by show _ = _; rw [List.length_map, List.length_take]; omega
                    obtain ⟨ao2, co', hv⟩ := own_form HLs.out.row
                    rw [Hml.out] at hv
                    subst hv
                    have HO9z : Hid (∀ V, Below w9.heap.size w9 V → V.cell? ⟨g9, k, none⟩ = some (.int .u64 (is.getD k 0))) := fun V hb => own_cell (own_below HO9.out hb) rfl hlt
                    have hdr : Below wr.heap.size wr wr.drew := (Below.refl _ wr).drew
                    have hCr := Below.next hC9 hB
                    have HS2 : Hid (∀ V, Below wr.heap.size wr V → V.cell? ⟨w.heap.size, 0, none⟩ = some (.int .u8 p.f) ∧ V.cell? ⟨g9, k, none⟩ = some (.int .u64 (is.getD k 0))) := fun V hb => ⟨(HS.out V (Below.next hCr hb)).1, HO9z.out V (Below.next hB hb)⟩
                    have hS0 := HS2.out _ hdr
                    have hT := hide (fun W hb => HAt2.out k hlt W _ (rp9.out.below hb))
                    have hN := HGn.out k hlt
                    rw [HGe.out] at hT hN
                    have kk0 : (0 : Int) ≤ (k : Int) := by omega
                    have kkn : (k : Int) < (is.length : Int) := by omega
                    have hbs := hB.size
                    generalize is.getD k 0 = z at *
                    generalize G z = fk at *
                    go_upto_region 34 with fail
                    refine wp_region_held_drew (S := (fun V => V.cell? ⟨w.heap.size, 0, none⟩ = some (.int .u8 p.f) ∧ V.cell? ⟨g9, k, none⟩ = some (.int .u64 z))) (by kernel_rfl) (by ((try dsimp only) <;> (first | with_reducible exact hS3 | with_reducible exact hS2 _ | with_reducible exact hS1 | with_reducible exact hS0))) (fun hHeld => ?_)
                    (refine wpAnyH_take (i := 0) (oi := _) (v := ?v98) rfl (by kernel_rfl) (by kernel_rfl) (by kernel_rfl) (fun _ _ _ h => h) (Or.inl ⟨by rfl, ?hy98⟩) (by assumption) ?rest98; (case hy98 => (first | (intro w hSw; (try dsimp only at hSw); go_simp; done) | (intro w hSw; (try dsimp only at hSw); go_simp; with_reducible rfl))); (try simp only [Act.put, List.getElem_toArray, List.getElem_cons_succ, List.getElem_cons_zero, List.setIfInBounds_toArray, List.set_cons_zero, List.set_cons_succ]))
                    (refine wpAnyH_take (i := 1) (oi := _) (v := ?v99) rfl (by kernel_rfl) (by kernel_rfl) (by kernel_rfl) (fun _ _ _ h => h) (Or.inl ⟨by rfl, ?hy99⟩) (by assumption) ?rest99; (case hy99 => (first | (intro w hSw; (try dsimp only at hSw); go_simp; done) | (intro w hSw; (try dsimp only at hSw); go_simp; with_reducible rfl))); (try simp only [Act.put, List.getElem_toArray, List.getElem_cons_succ, List.getElem_cons_zero, List.setIfInBounds_toArray, List.set_cons_zero, List.set_cons_succ]))
                    (refine wpAnyH_take (i := 2) (oi := _) (v := ?v100) rfl (by kernel_rfl) (by kernel_rfl) (by kernel_rfl) (fun _ _ _ h => h) (Or.inl ⟨by rfl, ?hy100⟩) (by assumption) ?rest100; (case hy100 => (first | (intro w hSw; (try dsimp only at hSw); go_simp; done) | (intro w hSw; (try dsimp only at hSw); go_simp; with_reducible rfl))); (try simp only [Act.put, List.getElem_toArray, List.getElem_cons_succ, List.getElem_cons_zero, List.setIfInBounds_toArray, List.set_cons_zero, List.set_cons_succ]))
                    (refine wpAnyH_take (i := 3) (oi := _) (v := ?v101) rfl (by kernel_rfl) (by kernel_rfl) (by kernel_rfl) (fun _ _ _ h => h) (Or.inl ⟨by rfl, ?hy101⟩) (by assumption) ?rest101; (case hy101 => (first | (intro w hSw; (try dsimp only at hSw); go_simp; done) | (intro w hSw; (try dsimp only at hSw); go_simp; with_reducible rfl))); (try simp only [Act.put, List.getElem_toArray, List.getElem_cons_succ, List.getElem_cons_zero, List.setIfInBounds_toArray, List.set_cons_zero, List.set_cons_succ]))
                    (refine wpAnyH_take (i := 4) (oi := _) (v := ?v102) rfl (by kernel_rfl) (by kernel_rfl) (by kernel_rfl) (fun _ _ _ h => h) (Or.inl ⟨by rfl, ?hy102⟩) (by assumption) ?rest102; (case hy102 => (first | (intro w hSw; (try dsimp only at hSw); go_simp; done) | (intro w hSw; (try dsimp only at hSw); go_simp; with_reducible rfl))); (try simp only [Act.put, List.getElem_toArray, List.getElem_cons_succ, List.getElem_cons_zero, List.setIfInBounds_toArray, List.set_cons_zero, List.set_cons_succ]))
                    (refine wpAnyH_take (i := 5) (oi := _) (v := ?v103) rfl (by kernel_rfl) (by kernel_rfl) (by kernel_rfl) (fun _ _ _ h => h) (Or.inl ⟨by rfl, ?hy103⟩) (by assumption) ?rest103; (case hy103 => (first | (intro w hSw; (try dsimp only at hSw); go_simp; done) | (intro w hSw; (try dsimp only at hSw); go_simp; with_reducible rfl))); (try simp only [Act.put, List.getElem_toArray, List.getElem_cons_succ, List.getElem_cons_zero, List.setIfInBounds_toArray, List.set_cons_zero, List.set_cons_succ]))
                    (refine wpAnyH_take (i := 6) (oi := _) (v := ?v104) rfl (by kernel_rfl) (by kernel_rfl) (by kernel_rfl) (fun _ _ _ h => h) (Or.inl ⟨by rfl, ?hy104⟩) (by assumption) ?rest104; (case hy104 => (first | (intro w hSw; (try dsimp only at hSw); go_simp; done) | (intro w hSw; (try dsimp only at hSw); go_simp; with_reducible rfl))); (try simp only [Act.put, List.getElem_toArray, List.getElem_cons_succ, List.getElem_cons_zero, List.setIfInBounds_toArray, List.set_cons_zero, List.set_cons_succ]))
                    (refine wpAnyH_take (i := 7) (oi := _) (v := ?v105) rfl (by kernel_rfl) (by kernel_rfl) (by kernel_rfl) (fun _ _ _ h => h) (Or.inl ⟨by rfl, ?hy105⟩) (by assumption) ?rest105; (case hy105 => (first | (intro w hSw; (try dsimp only at hSw); go_simp; done) | (intro w hSw; (try dsimp only at hSw); go_simp; with_reducible rfl))); (try simp only [Act.put, List.getElem_toArray, List.getElem_cons_succ, List.getElem_cons_zero, List.setIfInBounds_toArray, List.set_cons_zero, List.set_cons_succ]))
                    refine wpAnyH_ready (rs := [8]) (by kernel_rfl) (by simp) ?_
                    refine AllReadyH.cons (o := _) rfl (fun K hK => ?_) AllReadyH.nil
                    try simp only [List.getElem_toArray, List.getElem_cons_succ, List.getElem_cons_zero]
                    go_simp
                    (first
                          | (go_at_call 36; refine (hT.out _ (Below.next hB hdr)).mono ?_; rintro e w4 ⟨v4, rfl, o4, hb4⟩; have hD4 := Below.next hdr hb4; have hS1 := HS2.out _ hD4; have hS2 := fun ob => HS2.out (w4.alloc ob) (Below.next hD4 (alloc_below w4 ob)); have HL4 := hide (HLs.out.below hD4); have hsz4 := hD4.size; obtain ⟨a4, k4, rfl⟩ := own_form o4; have HRow : Hid (∀ ob, World.ownsRow (w4.alloc ob) w9.heap.size 33 1 (.slice ao2 k co') k us) := fun ob => (by have := HL4.out.row.alloc ob; rw [Hml.out] at this; exact this))
                          | (refine step_append_lies _ (by rfl) _ _ _ (by rfl) w9.heap.size 33 j0 _ 1 24 Tryz.underlying25 hj0 hx0 hx1 hx2 rfl (by omega) (.slice ao2 k co') k us (by rfl) (HRow.out _) ⟨w4.heap.size, 0, none⟩ 1 1 [.slice a4 fk.length k4] (by rfl) (by rfl) (World.news_of_block (cs := #[.slice a4 fk.length k4]) (t := 33) (fr := (0, 0)) (heap_alloc_new w4 _)) (by simp [Value.oneCell']) (by omega) (by unfold maxLen; omega) (by omega) (by simp; omega) (w4.heap.size + 1) (by simp) ?_; intro gg cap2 w8 hown8 hgrow hat hltg; have R := hide (HL4.out.push (w := w9) (H := wr.heap.size) (Nat.le_refl _) hbs (Nat.le_refl _) (Below.next hB hD4) o4 (by rw [Hml.out]; exact hown8) hgrow); have hS3 := And.intro (HS.out _ (Below.next hC9 R.out.2)).1 (HO9z.out _ R.out.2)))
                    first | (refine hK.out _ _ (by ((try dsimp only) <;> (first | with_reducible exact hS3 | with_reducible exact hS2 _ | with_reducible exact hS1 | with_reducible exact hS0))) (fun hHeld => ?_)) | (go_wp2_with fail; refine hK.out _ _ (by ((try dsimp only) <;> (first | with_reducible exact hS3 | with_reducible exact hS2 _ | with_reducible exact hS1 | with_reducible exact hS0))) (fun hHeld => ?_))
                    clear hK K
                    (try simp only [Act.put, List.getElem_toArray, List.getElem_cons_succ, List.getElem_cons_zero, List.setIfInBounds_toArray, List.set_cons_zero, List.set_cons_succ])
                    refine wpAnyH_ready (rs := [9]) (by kernel_rfl) (by simp) ?_
                    refine AllReadyH.cons (o := _) rfl (fun K hK => ?_) AllReadyH.nil
                    try simp only [List.getElem_toArray, List.getElem_cons_succ, List.getElem_cons_zero]
                    go_simp
                    refine hK.out _ _ (by ((try dsimp only) <;> (first | with_reducible exact hS3 | with_reducible exact hS2 _ | with_reducible exact hS1 | with_reducible exact hS0))) (fun hHeld => ?_)
                    clear hK K
                    (try simp only [Act.put, List.getElem_toArray, List.getElem_cons_succ, List.getElem_cons_zero, List.setIfInBounds_toArray, List.set_cons_zero, List.set_cons_succ])
                    refine wpAnyH_ready (rs := [10]) (by kernel_rfl) (by simp) ?_
                    refine AllReadyH.cons (o := _) rfl (fun K hK => ?_) AllReadyH.nil
                    (first
                          | (go_at_call 36; refine (hT.out _ (Below.next hB hdr)).mono ?_; rintro e w4 ⟨v4, rfl, o4, hb4⟩; have hD4 := Below.next hdr hb4; have hS1 := HS2.out _ hD4; have hS2 := fun ob => HS2.out (w4.alloc ob) (Below.next hD4 (alloc_below w4 ob)); have HL4 := hide (HLs.out.below hD4); have hsz4 := hD4.size; obtain ⟨a4, k4, rfl⟩ := own_form o4; have HRow : Hid (∀ ob, World.ownsRow (w4.alloc ob) w9.heap.size 33 1 (.slice ao2 k co') k us) := fun ob => (by have := HL4.out.row.alloc ob; rw [Hml.out] at this; exact this))
                          | (refine step_append_lies _ (by rfl) _ _ _ (by rfl) w9.heap.size 33 j0 _ 1 24 Tryz.underlying25 hj0 hx0 hx1 hx2 rfl (by omega) (.slice ao2 k co') k us (by rfl) (HRow.out _) ⟨w4.heap.size, 0, none⟩ 1 1 [.slice a4 fk.length k4] (by rfl) (by rfl) (World.news_of_block (cs := #[.slice a4 fk.length k4]) (t := 33) (fr := (0, 0)) (heap_alloc_new w4 _)) (by simp [Value.oneCell']) (by omega) (by unfold maxLen; omega) (by omega) (by simp; omega) (w4.heap.size + 1) (by simp) ?_; intro gg cap2 w8 hown8 hgrow hat hltg; have R := hide (HL4.out.push (w := w9) (H := wr.heap.size) (Nat.le_refl _) hbs (Nat.le_refl _) (Below.next hB hD4) o4 (by rw [Hml.out]; exact hown8) hgrow); have hS3 := And.intro (HS.out _ (Below.next hC9 R.out.2)).1 (HO9z.out _ R.out.2)))
                    refine hK.out _ _ (by ((try dsimp only) <;> (first | with_reducible exact hS3 | with_reducible exact hS2 _ | with_reducible exact hS1 | with_reducible exact hS0))) (fun hHeld => ?_)
                    clear hK K
                    (try simp only [Act.put, List.getElem_toArray, List.getElem_cons_succ, List.getElem_cons_zero, List.setIfInBounds_toArray, List.set_cons_zero, List.set_cons_succ])
                    (refine wpAnyH_take (i := 11) (oi := _) (v := ?v106) rfl (by kernel_rfl) (by kernel_rfl) (by kernel_rfl) (fun _ _ _ h => h) (Or.inl ⟨by rfl, ?hy106⟩) (by assumption) ?rest106; (case hy106 => (first | (intro w hSw; (try dsimp only at hSw); go_simp; done) | (intro w hSw; (try dsimp only at hSw); go_simp; with_reducible rfl))); (try simp only [Act.put, List.getElem_toArray, List.getElem_cons_succ, List.getElem_cons_zero, List.setIfInBounds_toArray, List.set_cons_zero, List.set_cons_succ]))
                    refine wpAnyH_done (by kernel_rfl) ?_ _
                    clear hown8 hgrow hat hltg HLs HL4 o4 HRow
                    rw [hN] at R
                    clear hN hS0 hS1 hS2 hS3
                    go_wp2
                    go_roundw
                    case rel => exact ⟨k + 1, _, by omega, by go_num, lss_here14 R.out.1, R.out.2⟩
                    case measure => simp [intOf]; omega
                  · obtain rfl : k = is.length := by omega
                    rw [List.take_length] at HLs
                    have hml : (is.map G).length = is.length := List.length_map ..
                    have hR := HLs.out.rws (getD_wd HGw.out) (by rw [hml]; omega)
                    obtain ⟨g4, cg4, hv, _, _, hcg4⟩ := HLs.out.mtx.spell (by rw [hml]; omega)
                    rw [hml] at hv hcg4
                    subst hv
                    have rA := hR.cutH (k := K) (by rw [hml]; exact hKi)
                    have rB := hR.restH (k := K) (by rw [hml]; exact hKi)
                    rw [hml, Nat.zero_add] at rB
                    obtain ⟨c0, c1, c2, c3, c4, c5, c6, c7⟩ := HS.out _ (Below.next hC9 hB)
                    rw [HPk.out] at c2
                    have hBe := Below.next hB9 hB
                    have K0 : (0 : Int) ≤ (K : Int) := by omega
                    have K1 : (K : Int) ≤ (cg4 : Int) := by omega
                    have K2 : (K : Int) ≤ (is.length : Int) := by omega
                    have RA := hide rA
                    have RB := hide rB
                    have RE : Hid (cg4 = K → (is.map G).drop K = []) := fun e => List.drop_of_length_le (by rw [hml]; omega)
                    clear rA rB hR HLs hml HAt2 HGn HGe HGw HO9 rp9 HS HPl HNl
                    by_cases hcK : cg4 = K
                    · have hdr0 := RE.out hcK
                      obtain rfl : K = is.length := by omega
                      subst hcK
                      go_upto_region 35 with fail
                      go_quiet (fail)
                      have hBn := below_drewN hBe nq
                      go_wp2
                      go_ret3
                      exact ⟨_, _, rfl, by rw [Hcut2.out.1]; exact RA.out.below (below_drewN (Below.refl _ _) nq), by rw [Hcut2.out.2, hdr0]; exact rws_empty _ _ _, hBn⟩
                    · go_upto_region 35 with fail
                      go_quiet (fail)
                      have hBn := below_drewN hBe nq
                      go_wp2
                      go_ret3
                      exact ⟨_, _, rfl, by rw [Hcut2.out.1]; exact RA.out.below (below_drewN (Below.refl _ _) nq), by rw [Hcut2.out.2]; exact RB.out.below (below_drewN (Below.refl _ _) nq), hBn⟩
        · have hr := HOE6.out hnk
          subst hr
          obtain ⟨hc1, hc2⟩ := HC6.out hnk
          rw [hnd]
          have Hc := hide (And.intro hc1 hc2)
          have hBe := Below.next hA hB
          clear HS HL HX HO HNs HIe HIn HId HI0 HNd Hinn HOE HOE6 HC6 Hcut Hne HNl HRn HC HR2 HT HFt HFn HPy HPf HPl HLr HAt HGn HGw HIn2 HWL HPw HPk HGe Hns HK Hn hc1 hc2
          by_cases hlt : k < who.length
          · have kk1 : (k : Int) < (who.length : Int) := by omega
            go_wp2
            go_ret3
            exact ⟨_, _, rfl, by rw [Hc.out.1]; exact rws_nil _, by rw [Hc.out.2]; exact rws_nil _, hBe⟩
          · obtain rfl : k = who.length := by omega
            go_wp2
            go_ret3
            exact ⟨_, _, rfl, by rw [Hc.out.1]; exact rws_nil _, by rw [Hc.out.2]; exact rws_nil _, hBe⟩

end Go.Proofs.YtnjcljnijgkoiaaGreat
