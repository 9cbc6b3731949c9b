import Derived.Test.YtpibiagohfnbmaaBLawMB
set_option linter.unusedVariables false
set_option linter.unusedSimpArgs false
set_option maxRecDepth 100000
set_option maxHeartbeats 4000000
namespace Go.Proofs.Ytpibiagohfnbmaa
open Go.RowKit Fld Pln Rnk
theorem rdN_nonneg (p : Pn) (tape : List Int) (hm : mayP p = true) : 0 <= rdN19 p tape 0 := by
 obtain ⟨_, e⟩ := rd_yes (p := p) (tape := tape) (a := 0) ⟨hm, by omega, by omega⟩
 rw [e]
 obtain ⟨d0, _⟩ := tw_bound hm
 have h : 0 <= ((tape.length : Int) - 0) / (p.t * p.w) := Int.ediv_nonneg (by omega) d0
 split
 · decide
 · split
   · decide
   · exact h
theorem elem19 {w W : World} {b off n cap : Nat} {l : List (List Int)} (h : Rws w (.slice (some ⟨b, off, none⟩) n cap) l) (hB : Below w.heap.size w W) {j k : Nat} (hj : j < l.length) (hk : k < (l.getD j []).length) :
 ∃ b2 off2 c2, W.cell? ⟨b, off + j, none⟩ = some (.slice (some ⟨b2, off2, none⟩) (l.getD j []).length c2) ∧ W.cell? ⟨b2, off2 + k, none⟩ = some (.int .u64 (co (l.getD j []) k)) := by
 obtain ⟨ao, cap', e, _, _, hc⟩ := h
 cases e
 obtain ⟨b', off', e', hbl, hcell⟩ := hc (by intro h; rw [h] at hj; simp at hj)
 cases e'
 obtain ⟨u, hu, hR⟩ := hcell j hj
 obtain ⟨⟨au, cu, rfl, _, _, hx⟩, _⟩ := hR
 obtain ⟨b2, off2, rfl, hb2, hcx⟩ := hx (by intro h; rw [h] at hk; simp at hk)
 exact ⟨b2, off2, cu, (hB.cell (p := ⟨b, off + j, none⟩) hbl).trans hu, (hB.cell (p := ⟨b2, off2 + k, none⟩) hb2).trans (hcx k hk)⟩
theorem some19 {w : World} {a : Option Addr} {n cap : Nat} {l : List (List Int)} (h : Rws w (.slice a n cap) l) (h0 : 0 < l.length) : ∃ b off, a = some ⟨b, off, none⟩ := by
 obtain ⟨ao, cap', e, _, _, hc⟩ := h
 cases e
 obtain ⟨b, off, e, _⟩ := hc (by intro h; rw [h] at h0; simp at h0)
 exact ⟨b, off, e⟩
theorem padsApart_any (w : World) (p : Pn) (v : Value) (tape : List Int) (hp : Ok8p p) (h : Rw w v tape) :
 Calls Try.prog 5 #[plv p, v] w fun e w' => e = .returned (.bool true) ∧ Below w.heap.size w w' := by
 have hlen := h.len
 have HRd := hide (fun W (hb : Below w.heap.size w W) => gRounds p v tape 0 W hp (h.below hb) (by decide))
 have HBl := hide (fun W (hb : Below w.heap.size w W) a ha => gBlocks p v tape a W hp (h.below hb) ha)
 have HM := hide (dMayP p hp)
 have HX := hide anch19
 have hwd := h.words
 obtain ⟨⟨ao, cap, rfl, hx1, hx2, hcell⟩, hx3⟩ := h
 have HCl := hide hcell
 clear hx1 hx2 hx3 hcell
 obtain ⟨pb, hA⟩ := pb_box (w := w) p
 have HS := hide (fun W' (hb : Below (w.alloc (.cells #[.int .u8 p.f, .int .i64 p.n, .int .i64 p.k, .int .i64 p.t, .int .i64 p.s, .int .i64 p.e, .int .i64 p.d, .int .i64 p.w] 24)).heap.size _ W') => (pb.below hb).cells)
 obtain ⟨c0, c1, c2, c3, c4, c5, c6, c7⟩ := pb.cells
 cases hm : mayP p with
 | false =>
  obtain ⟨e1, e2⟩ := rd_no (p := p) (tape := tape) (a := 0) (fun q => by rw [hm] at q; cases q.1)
  rw [e1, e2] at HRd
  rw [hm] at HM
  clear hm hp HBl pb e1 e2 hwd HCl
  generalize tape.length = n at *
  unfold plv plw at *
  go_enter Try.func5, Try.ntmps5
  go_wp2_with (first
   | (go_at_call 10; refine (HRd.out _ hA).mono ?_; rintro e w1 ⟨rfl, hb1⟩; clear c0 c1 c2 c3 c4 c5 c6 c7; obtain ⟨c0, c1, c2, c3, c4, c5, c6, c7⟩ := HS.out _ hb1)
   | (go_at_call 16; refine (HM.out _).mono ?_; rintro e w2 ⟨rfl, hb2⟩)
   | (go_at_call 14; refine (HX.out _).mono ?_; rintro e w3 ⟨rfl, hb3⟩))
  go_ret
  exact ⟨rfl, Below.next (Below.next (Below.next hA hb1) hb2) hb3⟩
 | true =>
  have e1 := (rd_yes (p := p) (tape := tape) (a := 0) ⟨hm, by omega, by omega⟩).1
  obtain ⟨_, _, ⟨t0, t1⟩, _, _, _, ⟨w0, w1⟩⟩ := may_facts hm
  obtain ⟨d0, d1⟩ := tw_bound hm
  have hN0 := rdN_nonneg p tape hm
  obtain ⟨N, HN⟩ : ∃ N : Nat, Hid ((N : Int) = rdN19 p tape 0) := ⟨(rdN19 p tape 0).toNat, by show _ = _; omega⟩
  obtain ⟨T, HTt⟩ : ∃ T : Nat, Hid (p.t = (T : Int)) := ⟨p.t.toNat, by show _ = _; omega⟩
  obtain ⟨K, HK⟩ : ∃ K : Nat, Hid (p.w = (K : Int)) := ⟨p.w.toNat, by show _ = _; omega⟩
  obtain ⟨D, HD⟩ : ∃ D : Nat, Hid (p.t * p.w = (D : Int)) := ⟨(p.t * p.w).toNat, by show _ = _; omega⟩
  have hT64 : T <= 64 := by have := HTt.out; omega
  have hK64 : K <= 64 := by have := HK.out; omega
  have hD : D <= 4096 := by have := HD.out; omega
  have hTK : T * K = D := by have := HD.out; rw [HTt.out, HK.out] at this; exact_mod_cast this
  have hTn : p.t.toNat = T := by rw [HTt.out]; rfl
  have hKn : p.w.toNat = K := by rw [HK.out]; rfl
  have hf : fdB p.f = true := (may_iff.1 hm).1
  have HY := hide (fun (i : Nat) (hi : i < N) => by have := rounds_yes (p := p) (tape := tape) (i := i) hm (by rw [<- HN.out]; omega); rw [HD.out] at this; exact this : ∀ i : Nat, i < N -> pdE p tape ((i : Int) * (D : Int)) = 0)
  have HNo := hide (fun (hl : N < 65536) => by have := rounds_no (p := p) (tape := tape) (n := N) hm HN.out hl; rw [HD.out] at this; exact this : N < 65536 -> pdE p tape ((N : Int) * (D : Int)) = 7)
  have HLe : Hid (∀ i : Nat, i < N -> i * D + D <= tape.length) := fun i hi => by
   rcases pd_case p tape ((i : Int) * (D : Int)) hm with ⟨q, _⟩ | ⟨q, _⟩ | ⟨_, _, _, _, q⟩
   · rw [HY.out i hi] at q; cases q
   · rw [HY.out i hi] at q; cases q
   · rw [HD.out] at q; exact_mod_cast q
  have HB : Hid (∀ i : Nat, i < N -> ∀ W, Below w.heap.size w W -> Calls Try.prog 8 #[plv p, .slice ao tape.length cap, .int .i64 ((i * D : Nat) : Int)] W fun e w' => ∃ v' us, e = .returned (.tuple #[v', .int .i64 (((i * D : Nat) : Int) + (D : Int)), .int .i64 0]) ∧ Mtx w' W.heap.size v' us (pdR p tape (i * D) T) ∧ Below W.heap.size W w') := fun i hi W hb => by
   have hle := HLe.out i hi
   have := HBl.out W hb ((i * D : Nat) : Int) (by omega)
   have e : pdE p tape ((i * D : Nat) : Int) = 0 := by rw [Int.natCast_mul]; exact HY.out i hi
   rcases pd_case p tape ((i * D : Nat) : Int) hm with ⟨q, _⟩ | ⟨q, _⟩ | ⟨q1, q2, q3, _⟩
   · rw [e] at q; cases q
   · rw [e] at q; cases q
   · rw [q1, q2, q3, HD.out, Int.toNat_natCast, hTn] at this; exact this
  have HB7 : Hid (N < 65536 -> N * D <= tape.length -> ∀ W, Below w.heap.size w W -> Calls Try.prog 8 #[plv p, .slice ao tape.length cap, .int .i64 ((N * D : Nat) : Int)] W fun e w' => ∃ v' us, e = .returned (.tuple #[v', .int .i64 0, .int .i64 7]) ∧ Mtx w' W.heap.size v' us [] ∧ Below W.heap.size W w') := fun hl hle W hb => by
   have := HBl.out W hb ((N * D : Nat) : Int) (by omega)
   have e : pdE p tape ((N * D : Nat) : Int) = 7 := by rw [Int.natCast_mul]; exact HNo.out hl
   rcases pd_case p tape ((N * D : Nat) : Int) hm with ⟨q, _⟩ | ⟨q1, q2, q3, _⟩ | ⟨q, _⟩
   · rw [e] at q; cases q
   · rw [q1, q2, q3] at this; exact this
   · rw [e] at q; cases q
  have HN6 : Hid (N <= 65536) := by
   show N <= 65536
   have h1 := HN.out
   obtain ⟨_, e⟩ := rd_yes (p := p) (tape := tape) (a := 0) ⟨hm, by omega, by omega⟩
   rw [e] at h1
   split at h1
   · omega
   · split at h1 <;> omega
  have HPL := hide (fun A => pdR_len p tape A T)
  have HPA := hide (fun A t (ht : t < T) => pdR_at p tape A T t ht)
  rw [hKn] at HPA
  have HPW := hide (fun A i => pdR_wd hm hlen A T i)
  have HDL := hide (fun a (ha : a + K <= tape.length) => drw_len (f := p.f) ha)
  have HDA := hide (fun a k (ha : a + K <= tape.length) (hk : k < K) => drw_at (f := p.f) ha hk)
  have HTw : Hid (∀ j, j < tape.length -> 0 <= tape.getD j 0 ∧ tape.getD j 0 <= 18446744073709551615) := fun j hj => by rw [getD_at hj]; exact hwd _ (List.getElem_mem hj)
  obtain ⟨wd, hfi⟩ := fi_of hf
  have HP := hide (fun W => rP_yes p.f _ wd W hfi)
  have HQ : Hid (¬ prF p.f = 0) := by show ¬ _; have := hfi.pos; omega
  have HKT : Hid (∀ t, t < T -> t * K + K <= D) := fun t ht => by rw [<- hTK, <- Nat.succ_mul]; exact Nat.mul_le_mul_right K ht
  have hmul : (T : Int) * (K : Int) = (D : Int) := by rw [<- hTK]; push_cast; rfl
  rw [e1, <- HN.out] at HRd
  rw [hm] at HM
  clear hm hp HBl pb e1 hwd HY HNo hTK hTn hKn hf hfi hN0 t0 t1 w0 w1 d0 d1
  generalize prF p.f = q at *
  generalize pdR p tape = PR at *
  generalize drw p.f tape = DR at *
  unfold plv plw at *
  go_enter Try.func5, Try.ntmps5
  go_upto_region 1 with fail
  generalize w.alloc (.cells #[.int .u8 p.f, .int .i64 p.n, .int .i64 p.k, .int .i64 p.t, .int .i64 p.s, .int .i64 p.e, .int .i64 p.d, .int .i64 p.w] 24) = W0 at *
  rw [HTt.out, HK.out] at HS HM HRd HB HB7
  rw [HTt.out] at c3
  rw [HK.out] at c7
  go_wp2_with (first
   | (go_at_call 10; refine (HRd.out _ hA).mono ?_; rintro e w1 ⟨rfl, hb1⟩; clear c0 c1 c2 c3 c4 c5 c6 c7; obtain ⟨c0, c1, c2, c3, c4, c5, c6, c7⟩ := HS.out _ hb1)
   | (go_at_call 16; refine (HM.out _).mono ?_; rintro e w2 ⟨rfl, hb2⟩))
  have hC2 := Below.next hb1 hb2
  have hB2 := Below.next hA hC2
  clear c0 c1 c2 c3 c4 c5 c6 c7 hb1 hb2 HRd HM
  go_loopw [7, 8] (fun va vi wr => ∃ i : Nat, i <= N ∧ i <= 40 ∧ vi = .int .i64 (i : Int) ∧ va = .int .i64 ((i * D : Nat) : Int) ∧ Hid (i * D <= tape.length) ∧ Below w2.heap.size w2 wr) (fun _ vi _ => N - (intOf vi).toNat)
  case atStart => exact ⟨0, Nat.zero_le _, by omega, rfl, by rw [Nat.zero_mul]; rfl, by show _ <= _; omega, Below.refl _ _⟩
  case round =>
   obtain ⟨i, hi, hi40, rfl, rfl, HiD, hB⟩ := hrel
   have hBw := Below.next hB2 hB
   by_cases hlt : i < N
   · by_cases hl4 : i < 40
     · have hle := HLe.out i hlt
       have HBi := hide (HB.out i hlt)
       have Hsuc : Hid ((i + 1) * D = i * D + D) := Nat.succ_mul _ _
       obtain ⟨At, HAt⟩ : ∃ At, Hid (i * D = At) := ⟨_, rfl⟩
       rw [HAt.out] at hle HBi Hsuc HiD ⊢
       obtain ⟨c0, c1, c2, c3, c4, c5, c6, c7⟩ := HS.out _ (Below.next hC2 hB)
       have i0 : (i : Int) < (N : Int) := by omega
       have i1 : (i : Int) < 40 := by omega
       go_upto_region 11 with (go_at_call 8; refine (HBi.out _ hBw).mono ?_; rintro e w3 ⟨v3, us3, rfl, hM3, hb3⟩)
       have hB3 := Below.next hB hb3
       have hBw3 := Below.next hBw hb3
       have hC3 := Below.next hC2 hB3
       have r3 := hide (hM3.rws (HPW.out At) (by rw [HPL.out]; omega))
       obtain ⟨a3, k3, hv3⟩ := own_form hM3.row
       rw [HPL.out] at hv3
       subst hv3
       clear hM3 c0 c1 c2 c3 c4 c5 c6 c7 HBi
       obtain ⟨c0, c1, c2, c3, c4, c5, c6, c7⟩ := HS.out _ hC3
       go_wp2_with fail
       go_loopw [12] (fun vt wr => ∃ t : Nat, t <= T ∧ vt = .int .i64 (t : Int) ∧ Below w3.heap.size w3 wr) (fun vt _ => T - (intOf vt).toNat)
       case atStart => exact ⟨0, Nat.zero_le _, rfl, Below.refl _ _⟩
       case round =>
        obtain ⟨t, ht, rfl, hBt⟩ := hrel
        clear c0 c1 c2 c3 c4 c5 c6 c7
        obtain ⟨c0, c1, c2, c3, c4, c5, c6, c7⟩ := HS.out _ (Below.next hC3 hBt)
        have t0 : (0 : Int) <= (t : Int) := by omega
        by_cases htl : t < T
        · have t1 : (t : Int) < (T : Int) := by omega
          obtain ⟨b3, o3, rfl⟩ := some19 r3.out (by rw [HPL.out]; omega)
          go_wp2_with fail
          go_loopw [13] (fun vk wq => ∃ k : Nat, k <= K ∧ vk = .int .i64 (k : Int) ∧ Below w3.heap.size w3 wq) (fun vk _ => K - (intOf vk).toNat)
          case atStart => exact ⟨0, Nat.zero_le _, rfl, hBt⟩
          case round =>
           clear hBt c0 c1 c2 c3 c4 c5 c6 c7
           obtain ⟨k, hk, rfl, hBk⟩ := hrel
           obtain ⟨c0, c1, c2, c3, c4, c5, c6, c7⟩ := HS.out _ (Below.next hC3 hBk)
           have k0 : (0 : Int) <= (k : Int) := by omega
           by_cases hkl : k < K
           · have k1 : (k : Int) < (K : Int) := by omega
             have hkt := HKT.out t htl
             have ha := HPA.out At t htl
             have e1 : (t : Int) * (K : Int) = ((t * K : Nat) : Int) := by push_cast; rfl
             obtain ⟨P0, HP0⟩ : ∃ P0, Hid (t * K = P0) := ⟨_, rfl⟩
             rw [HP0.out] at hkt ha e1
             have hL := HDL.out (At + P0) (by omega)
             have hV := HDA.out (At + P0) k (by omega) hkl
             obtain ⟨b2, o2, c2', d1, d2⟩ := elem19 r3.out hBk (j := t) (k := k) (by rw [HPL.out]; exact htl) (by rw [ha, hL]; exact hkl)
             rw [ha, hL] at d1
             rw [ha, show co (DR (At + P0) K) k = (DR (At + P0) K).getD k 0 from rfl, hV] at d2
             obtain ⟨bt, ot, rfl, hbl, hcl⟩ := HCl.out (by intro e; rw [e] at hle; simp at hle; omega)
             have d3 := ((Below.next hBw3 hBk).cell (p := ⟨bt, ot + (At + P0 + k), none⟩) hbl).trans (hcl (At + P0 + k) (by omega))
             obtain ⟨y0, y1⟩ := HTw.out (At + P0 + k) (by omega)
             have hq := HQ.out
             have hTm : (tape.getD (At + P0 + k) 0).tmod q = tape.getD (At + P0 + k) 0 % q := Int.tmod_eq_emod_of_nonneg y0
             have l1 : (At : Int) + (P0 : Int) + (k : Int) < (tape.length : Int) := by omega
             have l0 : (0 : Int) <= (At : Int) + (P0 : Int) + (k : Int) := by omega
             have l2 : ((At : Int) + (P0 : Int) + (k : Int)).toNat = At + P0 + k := by omega
             have l3 : IntKind.i64.wrap (P0 : Int) = (P0 : Int) := by rw [IntKind.wrap_i64]; omega
             have l4 : IntKind.i64.wrap ((At : Int) + (P0 : Int)) = (At : Int) + (P0 : Int) := by rw [IntKind.wrap_i64]; omega
             have l5 : IntKind.i64.wrap ((At : Int) + (P0 : Int) + (k : Int)) = (At : Int) + (P0 : Int) + (k : Int) := by rw [IntKind.wrap_i64]; omega
             clear ha hL hV hcl
             generalize tape.getD (At + P0 + k) 0 = y at *
             generalize y % q = z at *
             go_wp2_with fail
             go_quiet ((first
              | (go_at_call 17; exact Calls.quiet_of_same (HP.out _))))
             have hBk2 := below_drewN hBk nq
             clear e1 l0 l1 l2 l3 l4 l5 hTm d1 d2 d3
             go_wp2
             go_roundw
             case rel => exact ⟨k + 1, by omega, by go_num, hBk2⟩
             case measure => simp [intOf]; omega
           · obtain rfl : k = K := by omega
             go_wp2
             go_roundw
             case rel => exact ⟨t + 1, by omega, by go_num, hBk⟩
             case measure => simp [intOf]; omega
        · obtain rfl : t = T := by omega
          go_wp2
          go_roundw
          case rel => exact ⟨i + 1, by omega, by omega, by go_num, by rw [Hsuc.out]; go_num, by show _ <= _; rw [Hsuc.out]; exact hle, Below.next hB3 hBt⟩
          case measure => simp [intOf]; omega
     · obtain rfl : i = 40 := by omega
       have i0 : (40 : Int) < (N : Int) := by omega
       have i2 : (40 : Int) <= (N : Int) := by omega
       go_wp2_with (go_at_call 14; refine (HX.out _).mono ?_; rintro e w4 ⟨rfl, hb4⟩)
       go_ret
       exact ⟨rfl, Below.next hBw hb4⟩
   · obtain rfl : i = N := by omega
     by_cases h40 : 40 <= i
     · have i2 : (40 : Int) <= (i : Int) := by omega
       go_wp2_with (go_at_call 14; refine (HX.out _).mono ?_; rintro e w4 ⟨rfl, hb4⟩)
       go_ret
       exact ⟨rfl, Below.next hBw hb4⟩
     · have i2 : ¬ (40 : Int) <= (i : Int) := by omega
       have HBi := hide (HB7.out (by omega) HiD.out)
       obtain ⟨At, HAt⟩ : ∃ At, Hid (i * D = At) := ⟨_, rfl⟩
       rw [HAt.out] at HBi ⊢
       obtain ⟨c0, c1, c2, c3, c4, c5, c6, c7⟩ := HS.out _ (Below.next hC2 hB)
       go_wp2_with (first
        | (go_at_call 8; refine (HBi.out _ hBw).mono ?_; rintro e w3 ⟨v3, us3, rfl, hM3, hb3⟩; have hB3 := Below.next hBw hb3; obtain ⟨a3, k3, rfl⟩ := own_form hM3.row; clear hM3)
        | (go_at_call 14; refine (HX.out _).mono ?_; rintro e w4 ⟨rfl, hb4⟩))
       go_ret
       exact ⟨rfl, Below.next hB3 hb4⟩
end Go.Proofs.Ytpibiagohfnbmaa
