import Derived.Test.YtnapbdoalfbgnaaBLawLB
import Derived.Test.YtnapbdoalfbgnaaBLocE
import Derived.Test.YtnapbdoalfbgnaaBLodD
import Derived.Test.YtnapbdoalfbgnaaBQMute
import Derived.Test.YtnapbdoalfbgnaaBTkA
set_option linter.unusedVariables false
set_option linter.unusedSimpArgs false
set_option maxRecDepth 100000
set_option maxHeartbeats 4000000
namespace Go.Proofs.Ytnapbdoalfbgnaa
open Go.RowKit Fld
theorem tmod_at {x : Int} {N : Nat} (h0 : 0 ≤ x) (hN : 0 < N) : ∃ a : Nat, a < N ∧ x.tmod (N : Int) = (a : Int) := by
 have h1 : x.tmod (N : Int) = x % (N : Int) := Int.tmod_eq_emod_of_nonneg h0
 have h2 := Int.emod_nonneg x (show (N : Int) ≠ 0 by omega)
 have h3 := Int.emod_lt_of_pos x (show (0 : Int) < (N : Int) by omega)
 exact ⟨(x % (N : Int)).toNat, by omega, by rw [h1]; omega⟩
theorem appWR (W : World) (base : Nat) (u : Value) (A B : List Int) (ad : Addr) (m cap : Nat) (hO : W.ownsRow base 40 1 u A.length (vals A)) (hB : Rw W (.slice (some ad) m cap) B) (hm : B.length = m) (hl : A.length + B.length ≤ 100000) (hb : base ≤ W.heap.size) :
 ∃ (au' : Option Addr) (cu' : Nat) (W' : World), (Builtin.append_ #[22, 22] 22 #[u, .slice (some ad) m cap]).run Try.prog W = .ok (.slice au' (A.length + m) cu') W' ∧ W'.ownsRow base 40 1 (.slice au' (A.length + m) cu') (A.length + m) (vals (A ++ B)) ∧ Below base W W' := by
 obtain ⟨i0, hi0, hz0, hz1, hz2⟩ := info_parts u64_info
 subst hm
 have hnews : ∀ j u, (vals B)[j]? = some u → W.cell? (ad.add j) = some u := by
  by_cases h0 : 0 < B.length
  · obtain ⟨ad', e, hn⟩ := row_news hB.1 h0
    cases e
    exact hn
  · intro j u hj
    have : B = [] := List.length_eq_zero_iff.1 (by omega)
    rw [this] at hj
    simp [vals] at hj
 obtain ⟨v', W', hr, ho, hg, _, hbk⟩ := run_append_own_at (P := Try.prog) (w := W) base 22 22 40 i0 (.int .u64 0) 1 8 Try.underlying22 hi0 hz0 hz1 hz2 rfl (by decide) u A.length (vals A) hO ad B.length cap (vals B) (by rw [vals_length, Nat.mul_one]) hnews (vals_one B) (by unfold maxLen; omega) (by omega) hb
 obtain ⟨au', cu', rfl⟩ := own_form ho
 refine ⟨au', cu', W', hr, ?_, (Below.refl base W).grown hg hb (fun k hk => own_base hO k hk)⟩
 rw [vals_append]; exact ho
theorem drew_of {A B : World} (h : Below A.heap.size A B) : Below B.heap.size B B.drew := (Below.refl _ B).drew
theorem erase_eq (xs : List Int) (i : Nat) : xs.take i ++ xs.drop (i + 1) = xs.eraseIdx i := (List.eraseIdx_eq_take_drop_succ xs i).symm
theorem rw_behind {w : World} {b off n cap i m : Nat} {xs : List Int} (h : Rw w (.slice (some ⟨b, off, none⟩) n cap) xs) (hn : xs.length = n) (hi : i < n) (hm : n - (i + 1) = m) : Rw w (.slice (some ⟨b, off + (i + 1), none⟩) m (cap - (i + 1))) (xs.drop (i + 1)) ∧ (cap = i + 1 → Rw w (.slice (some ⟨b, off, none⟩) m 0) (xs.drop (i + 1))) ∧ n ≤ cap := by
 have hc : n ≤ cap := by
  obtain ⟨_, a, q, c, h5, h6⟩ := h
  cases h5; exact h6
 refine ⟨?_, fun e => ?_, hc⟩
 · have h1 := rw_mid18 h (k := i + 1) (m := m) (by omega)
   have e : (xs.drop (i + 1)).take m = xs.drop (i + 1) := List.take_of_length_le (by rw [List.length_drop]; omega)
   rwa [e] at h1
 · have hd : xs.drop (i + 1) = [] := List.drop_eq_nil_of_le (by omega)
   have h0 : m = 0 := by omega
   rw [hd, h0]
   exact ⟨⟨_, _, rfl, by simp, (fun x hx => by cases hx), fun c => absurd rfl c⟩, _, _, _, rfl, Nat.le_refl _⟩
theorem slice_from (b off n cap i : Nat) (hi : i + 1 ≤ n) (hn : n ≤ cap) : ∃ o c, (o = off + (i + 1) ∧ c = cap - (i + 1) ∨ cap = i + 1 ∧ o = off ∧ c = 0) ∧ ∀ W : World, (Instr.slice 22 (.slice (some ⟨b, off, none⟩) n cap) (some (.int .i64 ((i : Int) + 1))) none none).run Try.prog W = .ok (.slice (some ⟨b, o, none⟩) (n - (i + 1)) c) W := by
 obtain ⟨i0, hi0, hz0, hz1, hz2⟩ := info_parts u64_info
 have h1 : (0 : Int) ≤ (i : Int) + 1 ∧ (i : Int) + 1 ≤ (n : Int) := by omega
 have h2 : ((i : Int) + 1).toNat = i + 1 := by omega
 by_cases hc : cap = i + 1
 · refine ⟨off, 0, .inr ⟨hc, rfl, rfl⟩, fun W => ?_⟩
   simp [Instr.slice, Instr.sliceBounds, Instr.sliceBound, asIntOf, run_underlying Try.underlying22, sizeOf, typeInfo, hi0, h1.1, h1.2, h2, hc]
 · refine ⟨off + (i + 1), cap - (i + 1), .inl ⟨rfl, rfl⟩, fun W => ?_⟩
   simp [Instr.slice, Instr.sliceBounds, Instr.sliceBound, asIntOf, run_underlying Try.underlying22, sizeOf, typeInfo, hi0, hz1, h1.1, h1.2, h2, hc, Addr.add]
theorem locFewer_any (f : Int) (v1 v2 : Value) (xs ys : List Int) (d k out : Int) (w : World) (h1 : Rw w v1 xs) (h2 : Rw w v2 ys) (hd : -9223372036854775808 ≤ d ∧ d ≤ 9223372036854775807) (hk : -9223372036854775808 ≤ k ∧ k ≤ 9223372036854775807) (ho : 0 ≤ out ∧ out ≤ 255) :
 Calls Try.prog 6 #[.int .u8 f, .agg #[v1, v2, .int .i64 d, .int .i64 k], .int .u8 out] w fun e w' => e = .returned (.bool true) ∧ Below w.heap.size w w' := by
 have HG := hide (fun W (hb : Below w.heap.size w W) => gDecode f v1 v2 xs ys d k W (h1.below hb) (h2.below hb) hd hk)
 unfold GivesD at HG
 have HC := hide (fun P a i (hS : Dcd f xs ys d k P a i) => And.intro hS.case (hS.lens h1.words h2.words))
 have HF := hide (fun he => dcE_facts (f := f) (d := d) (w := k) h1.words h2.words he)
 have HFw := hide (fun P he hD i hi hno hs Q a j h => Dcd.fewer (f := f) (d := d) (w := k) (P := P) h1.words h2.words he hD (i := i) hi hno hs (Q := Q) (a := a) (k := j) h)
 have HG2 := hide (fun W v3 v4 i r3 r4 => gDecode f v3 v4 (xs.eraseIdx i) (ys.eraseIdx i) d k W r3 r4 hd hk)
 unfold GivesD at HG2
 have HR1 := hide (fun W (hb : Below w.heap.size w W) => h1.below hb)
 have HR2 := hide (fun W (hb : Below w.heap.size w W) => h2.below hb)
 have HW := hide (And.intro h1.words h2.words)
 obtain ⟨b0, B0'⟩ := pts_box w v1 v2 d k
 have K0 := hide b0
 have B0 := hide B0'
 obtain ⟨a1, c1, rfl, _⟩ := h1.spell
 obtain ⟨a2, c2, rfl, _⟩ := h2.spell
 obtain ⟨k0, k1, k2, k3⟩ := cell_four b0
 clear h1 h2 b0 B0'
 obtain ⟨nx, Hnx⟩ : ∃ n, Hid (xs.length = n) := ⟨_, rfl⟩
 obtain ⟨ny, Hny⟩ : ∃ n, Hid (ys.length = n) := ⟨_, rfl⟩
 rw [Hnx.out] at HG HR1 K0 B0 k0 k1 k2 k3 ⊢
 rw [Hny.out] at HG HR2 K0 B0 k0 k1 k2 k3 ⊢
 go_enter Try.func6, Try.ntmps6
 go_wp2_with fail
 refine (HG.out _ B0.out).mono ?_
 rintro e w1 ⟨vp, va, P, a, ok, rfl, hS, o1, o2, hb1⟩
 have hB1 := Below.next B0.out hb1
 have K1 := hide (kept K0.out hb1)
 obtain ⟨hC, hl1, hl2, hl3, _⟩ := HC.out P a ok hS
 obtain ⟨ap, cp, rfl⟩ := own_form o1
 obtain ⟨aa, ca, rfl⟩ := own_form o2
 have R1 := hide (rw_of_own o1 (by omega) hl1)
 have O2 := hide o2
 clear o1 o2 k0 k1 k2 k3 hS HG HC
 rcases hC with ⟨h0, rfl, rfl, rfl⟩ | ⟨he, rfl, hDc, rfl⟩
 · rw [List.length_nil]
   obtain ⟨e0, He0⟩ : ∃ e0, Hid (dcE f xs ys d k = e0) := ⟨_, rfl⟩
   rw [He0.out]
   clear R1 O2 hl1 h0
   by_cases hz : e0 = 0
   · subst hz
     go_wp2_with (go_at_call 11; refine (anch17 _).mono ?_; rintro e w5 ⟨rfl, hb5⟩)
     go_ret
     exact ⟨rfl, Below.next hB1 hb5⟩
   · have hz2 : (e0 != 0) = true := bne_iff_ne.2 hz
     go_wp2_with (go_at_call 11; refine (anch17 _).mono ?_; rintro e w5 ⟨rfl, hb5⟩)
     go_ret
     exact ⟨rfl, Below.next hB1 hb5⟩
 · obtain ⟨p, wd, hf, hp, e1, e2, l1, l2, hn, hl, hd0, hw0, hb⟩ := HF.out he
   subst hp
   have HFw2 := hide (HFw.out P he hDc)
   rw [he]
   have hD2 := hDc.2.1
   have hD3 := hDc.2.2
   rw [Hnx.out] at l2 hl l1 HFw2
   rw [Hny.out] at l1
   subst l1
   obtain ⟨m0, m1, m2, m3⟩ := cell_four K1.out
   have hol := offp_len (pOf f) P xs ys
   rw [Hnx.out] at hol
   rw [ofI_len] at O2 ⊢
   have o3 := O2.out
   unfold ofI at o3
   rw [iw_nms] at o3
   have O3 := hide o3
   clear o3
   obtain ⟨lp, Hlp⟩ : ∃ n, Hid (P.length = n) := ⟨_, rfl⟩
   obtain ⟨la, Hla⟩ : ∃ n, Hid ((offp (pOf f) P xs ys).length = n) := ⟨_, rfl⟩
   rw [Hlp.out] at R1 hl2 hD2 ⊢
   rw [Hla.out] at HFw2 hol O3 hD3 ⊢
   obtain ⟨ol, Hol⟩ : ∃ l, Hid (offp (pOf f) P xs ys = l) := ⟨_, rfl⟩
   rw [Hol.out] at O3 HFw2
   have Hll : Hid (ol.length = la) := by show _ = _; rw [← Hol.out]; exact Hla.out
   clear HF HFw hDc he e1 e2 hn hb hl1 hl3 hf O2 K0
   by_cases hsh : (nx : Int) < d + 2 * k + 2
   · go_wp2_with (go_at_call 11; refine (anch17 _).mono ?_; rintro e w5 ⟨rfl, hb5⟩)
     go_ret
     exact ⟨rfl, Below.next hB1 hb5⟩
   · have hnx : 0 < nx := by omega
     obtain ⟨i, hi, hti⟩ := tmod_at (x := out) ho.1 hnx
     have hnz : ¬ (nx : Int) = 0 := by omega
     have HFw3 := hide (HFw2.out i hi)
     obtain ⟨ho0, ho1⟩ := ho
     go_wp2_with fail
     clear hti hnz
     go_loop [13] (fun v13 => ∃ q : Nat, q ≤ la ∧ v13 = .int .i64 q ∧ Hid (∀ q', q' < q → ol.getD q' 0 ≠ i)) (fun v13 => la - (intOf v13).toNat)
     case atStart => exact ⟨0, Nat.zero_le _, rfl, fun q' h => by omega⟩
     case round =>
      obtain ⟨q, hq, rfl, HNo⟩ := hrel
      by_cases hql : q < la
      · have hO := O3.out
        rw [← Hll.out] at hO
        obtain ⟨ga, rfl, c9⟩ := nms_cell hO (i := q) (by rw [Hll.out]; exact hql)
        have q0 : (0 : Int) ≤ (q : Int) := Int.natCast_nonneg _
        have q1 : (q : Int) < (la : Int) := by omega
        clear hO
        by_cases hqi : ol.getD q 0 = i
        · rw [hqi] at c9
          have hqq : ((i : Int) == (i : Int)) = true := by simp
          go_wp2_with (go_at_call 11; refine (anch17 _).mono ?_; rintro e w5 ⟨rfl, hb5⟩)
          go_ret
          exact ⟨rfl, Below.next hB1 hb5⟩
        · have HN2 : Hid (∀ q', q' < q + 1 → ol.getD q' 0 ≠ i) := fun q' h' => by
           rcases Nat.lt_or_eq_of_le (Nat.le_of_lt_succ h') with c | c
           · exact HNo.out q' c
           · rw [c]; exact hqi
          have hne : (((ol.getD q 0 : Nat) : Int) == (i : Int)) = false := beq_eq_false_iff_ne.2 (by omega)
          clear HNo hqi
          generalize ol.getD q 0 = oq at *
          go_wp2_with fail
          go_round
          case rel => exact ⟨q + 1, by omega, by go_num, HN2⟩
          case measure => simp [intOf]; omega
      · obtain rfl : la = q := by omega
        have hno : i ∉ ol := fun hc => by
         obtain ⟨j, hj, e⟩ := List.mem_iff_getElem.1 hc
         refine HNo.out j (by rw [← Hll.out]; exact hj) ?_
         rw [List.getD_eq_getElem?_getD, List.getElem?_eq_getElem hj]; exact e
        have HFw4 := hide (HFw3.out hno (by omega))
        have hw1 := HR1.out _ hB1
        have hw2 := HR2.out _ hB1
        obtain ⟨bx, ox, rfl, _⟩ := hw1.cellAt (by rw [Hnx.out]; omega)
        obtain ⟨by', oy, rfl, _⟩ := hw2.cellAt (by rw [Hny.out]; omega)
        obtain ⟨m, Hm⟩ : ∃ m, Hid (nx - (i + 1) = m) := ⟨_, rfl⟩
        obtain ⟨bx1, bx2, bx3⟩ := rw_behind hw1 Hnx.out hi Hm.out
        obtain ⟨by1, by2, by3⟩ := rw_behind hw2 Hny.out hi Hm.out
        have tx1 := hw1.take (k := i) (by rw [Hnx.out]; omega)
        have ty1 := hw2.take (k := i) (by rw [Hny.out]; omega)
        have HCo1 := hide (fun V (hb : Below w1.heap.size w1 V) => Copy_any _ (xs.take i) V (tx1.below hb).1)
        have HCo2 := hide (fun V (hb : Below w1.heap.size w1 V) => Copy_any _ (ys.take i) V (ty1.below hb).1)
        have hlt1 : (xs.take i).length = i := by rw [List.length_take, Hnx.out]; omega
        have hlt2 : (ys.take i).length = i := by rw [List.length_take, Hny.out]; omega
        have hld1 : (xs.drop (i + 1)).length = m := by rw [List.length_drop, Hnx.out]; exact Hm.out
        have hld2 : (ys.drop (i + 1)).length = m := by rw [List.length_drop, Hny.out]; exact Hm.out
        rw [hlt1] at HCo1
        rw [hlt2] at HCo2
        have hmb : i + m ≤ 512 := by have := Hm.out; omega
        have HAp1 : Hid (∀ V lo u b o c, Below w1.heap.size w1 V → lo ≤ V.heap.size → (o = ox + (i + 1) ∧ c = c1 - (i + 1) ∨ c1 = i + 1 ∧ o = ox ∧ c = 0) → V.ownsRow lo 40 1 u i (vals (xs.take i)) → b = bx → ∃ (au' : Option Addr) (cu' : Nat) (W' : World), (Builtin.append_ #[22, 22] 22 #[u, .slice (some ⟨b, o, none⟩) (nx - (i + 1)) c]).run Try.prog V = .ok (.slice au' (i + m) cu') W' ∧ W'.ownsRow lo 40 1 (.slice au' (i + m) cu') (i + m) (vals (xs.eraseIdx i)) ∧ Below lo V W') := fun V lo u b o c hb hlo hoc hO hbb => by
         subst hbb
         have hr : Rw V (.slice (some ⟨b, o, none⟩) m c) (xs.drop (i + 1)) := by
          rcases hoc with ⟨rfl, rfl⟩ | ⟨e, rfl, rfl⟩
          · exact bx1.below hb
          · exact (bx2 e).below hb
         have := appWR V lo u (xs.take i) (xs.drop (i + 1)) ⟨b, o, none⟩ m c (by rw [hlt1]; exact hO) hr hld1 (by rw [hlt1, hld1]; omega) hlo
         rw [hlt1, erase_eq] at this
         rw [Hm.out]
         exact this
        have HAp2 : Hid (∀ V lo u b o c, Below w1.heap.size w1 V → lo ≤ V.heap.size → (o = oy + (i + 1) ∧ c = c2 - (i + 1) ∨ c2 = i + 1 ∧ o = oy ∧ c = 0) → V.ownsRow lo 40 1 u i (vals (ys.take i)) → b = by' → ∃ (au' : Option Addr) (cu' : Nat) (W' : World), (Builtin.append_ #[22, 22] 22 #[u, .slice (some ⟨b, o, none⟩) (nx - (i + 1)) c]).run Try.prog V = .ok (.slice au' (i + m) cu') W' ∧ W'.ownsRow lo 40 1 (.slice au' (i + m) cu') (i + m) (vals (ys.eraseIdx i)) ∧ Below lo V W') := fun V lo u b o c hb hlo hoc hO hbb => by
         subst hbb
         have hr : Rw V (.slice (some ⟨b, o, none⟩) m c) (ys.drop (i + 1)) := by
          rcases hoc with ⟨rfl, rfl⟩ | ⟨e, rfl, rfl⟩
          · exact by1.below hb
          · exact (by2 e).below hb
         have := appWR V lo u (ys.take i) (ys.drop (i + 1)) ⟨b, o, none⟩ m c (by rw [hlt2]; exact hO) hr hld2 (by rw [hlt2, hld2]; omega) hlo
         rw [hlt2, erase_eq] at this
         rw [Hm.out]
         exact this
        have HEx : Hid ((xs.eraseIdx i).length = i + m) := by show _ = _; rw [← erase_eq, List.length_append, hlt1, hld1]
        have HEy : Hid ((ys.eraseIdx i).length = i + m) := by show _ = _; rw [← erase_eq, List.length_append, hlt2, hld2]
        have K1' := K1.out
        have HK := hide (fun V (hb : Below w1.heap.size w1 V) => cell_four (kept K1' hb))
        have f0 : (0 : Int) ≤ (i : Int) := Int.natCast_nonneg _
        have f1 : (i : Int) ≤ (nx : Int) := by omega
        have f2 : (i : Int) ≤ (c1 : Int) := by omega
        have f3 : (0 : Int) ≤ (i : Int) + 1 := by omega
        have f4 : (i : Int) + 1 ≤ (nx : Int) := by omega
        have f5 : (nx : Int) ≤ (c1 : Int) := by omega
        have f6 : IntKind.i64.wrap ((i : Int) + 1) = (i : Int) + 1 := by rw [IntKind.wrap_i64]; omega
        have f7 : ((i : Int) + 1).toNat = i + 1 := by omega
        have f8 : (i : Int) ≤ (c2 : Int) := by omega
        have f9 : (nx : Int) ≤ (c2 : Int) := by omega
        clear hw1 hw2 tx1 ty1 bx1 bx2 by1 by2 hlt1 hlt2 hld1 hld2 HR1 HR2 HNo hno HFw2 HFw3 K1'
        obtain ⟨o1, s1, ho1', HSl1⟩ := slice_from bx ox nx c1 i (by omega) (by omega)
        obtain ⟨o2, s2, ho2', HSl2⟩ := slice_from by' oy nx c2 i (by omega) (by omega)
        go_upto_region 11 with fail
        go_cut [14] from 75 to 86 (fun v14 wx => ∃ (a : Option Addr) (c : Nat), v14 = .slice a (i + m) c ∧ Hid (wx.ownsRow w1.heap.size 40 1 (.slice a (i + m) c) (i + m) (vals (xs.eraseIdx i))) ∧ Below w1.heap.size w1 wx)
        case first =>
         have hdr : Below w1.heap.size w1 w1.drew := (Below.refl _ w1).drew
         have hS0 := (HK.out _ hdr).1
         refine wp_region_held_drew (S := (fun V => V.cell? ⟨w.heap.size, 0, none⟩ = some (.slice (some ⟨bx, ox, none⟩) nx c1))) (by kernel_rfl) (by ((try dsimp only) <;> (first | with_reducible exact hS2 | with_reducible exact hS1 | with_reducible exact hS0))) (fun hHeld => ?_)
         refine tkY 0 ?_
         refine tkY 1 ?_
         refine tkY 2 ?_
         refine tkY 5 ?_
         refine tkY 6 ?_
         refine tkY 7 ?_
         refine tkY 8 ?_
         refine tkY 3 ?_
         refine tkY 9 ?_
         refine rd1 4 (fun K hK => ?_)
         (try simp only [ly0, ly1, ly2, ly3, ly4, ly5, ly6, ly7])
         go_simp
         (first | (go_at_call 19; refine (HCo1.out _ hdr).mono ?_; rintro e w6 ⟨v6, rfl, hO6, hb6⟩; have hD6 := Below.next hdr hb6; have hS1 := (HK.out _ hD6).1; obtain ⟨a9, c9, W9, hr9, hO9, hb9⟩ := HAp1.out w6 _ v6 bx o1 s1 hD6 hb6.size ho1' hO6 rfl; have hD9 := Below.next hdr (hb6.trans hb9); have hS2 := (HK.out _ hD9).1) | (refine app_mute (by rfl) _ _ _ _ (by rfl) _ _ (by rfl) (by rfl) _ W9 hr9 ?_))
         first | refine hK.out _ _ ?k1 (fun hHeld => ?_) | (go_wp2_with fail; refine hK.out _ _ ?k1 (fun hHeld => ?_))
         case k1 => ((try dsimp only) <;> (first | with_reducible exact hS2 | with_reducible exact hS1 | with_reducible exact hS0))
         clear hK K
         (try simp only [ly0, ly1, ly2, ly3, ly4, ly5, ly6, ly7])
         refine rd1 10 (fun K hK => ?_)
         (refine app_mute (by rfl) _ _ _ _ (by rfl) _ _ (by rfl) (by rfl) _ W9 hr9 ?_)
         refine hK.out _ _ (by ((try dsimp only) <;> (first | with_reducible exact hS2 | with_reducible exact hS1 | with_reducible exact hS0))) (fun hHeld => ?_)
         clear hK K
         (try simp only [ly0, ly1, ly2, ly3, ly4, ly5, ly6, ly7])
         refine tkY 11 ?_
         refine wpAnyH_done (by kernel_rfl) ?_ _
         go_wp2_with fail
         go_meet
         exact ⟨_, _, rfl, own_mono hO9 hdr.size, hD9⟩
        case rest =>
         obtain ⟨a14, c14, rfl, HO14, hB14⟩ := hcut
         clear HCo1 HAp1
         have hdr0 := drew_of hB14
         have hdr := Below.next hB14 hdr0
         have hS0 := (HK.out _ hdr).2.1
         go_upto_region 12 with fail
         refine wp_region_held_drew (S := (fun V => V.cell? ⟨w.heap.size, 1, none⟩ = some (.slice (some ⟨by', oy, none⟩) nx c2))) (by kernel_rfl) (by ((try dsimp only) <;> (first | with_reducible exact hS2 | with_reducible exact hS1 | with_reducible exact hS0))) (fun hHeld => ?_)
         refine tkY 0 ?_
         refine tkY 1 ?_
         refine tkY 2 ?_
         refine tkY 5 ?_
         refine tkY 6 ?_
         refine tkY 7 ?_
         refine tkY 8 ?_
         refine tkY 3 ?_
         refine tkY 9 ?_
         refine rd1 4 (fun K hK => ?_)
         (try simp only [ly0, ly1, ly2, ly3, ly4, ly5, ly6, ly7])
         go_simp
         (first | (go_at_call 19; refine (HCo2.out _ hdr).mono ?_; rintro e w6 ⟨v6, rfl, hO6, hb6⟩; have hD6 := Below.next hdr hb6; have hS1 := (HK.out _ hD6).2.1; obtain ⟨a9, c9, W9, hr9, hO9, hb9⟩ := HAp2.out w6 _ v6 by' o2 s2 hD6 hb6.size ho2' hO6 rfl; have hE9 := Below.next hdr0 (hb6.trans hb9); have hD9 := Below.next hB14 hE9; have hS2 := (HK.out _ hD9).2.1) | (refine app_mute (by rfl) _ _ _ _ (by rfl) _ _ (by rfl) (by rfl) _ W9 hr9 ?_))
         first | refine hK.out _ _ ?k2 (fun hHeld => ?_) | (go_wp2_with fail; refine hK.out _ _ ?k2 (fun hHeld => ?_))
         case k2 => ((try dsimp only) <;> (first | with_reducible exact hS2 | with_reducible exact hS1 | with_reducible exact hS0))
         clear hK K
         (try simp only [ly0, ly1, ly2, ly3, ly4, ly5, ly6, ly7])
         refine rd1 10 (fun K hK => ?_)
         (refine app_mute (by rfl) _ _ _ _ (by rfl) _ _ (by rfl) (by rfl) _ W9 hr9 ?_)
         refine hK.out _ _ (by ((try dsimp only) <;> (first | with_reducible exact hS2 | with_reducible exact hS1 | with_reducible exact hS0))) (fun hHeld => ?_)
         clear hK K
         (try simp only [ly0, ly1, ly2, ly3, ly4, ly5, ly6, ly7])
         refine tkY 11 ?_
         refine wpAnyH_done (by kernel_rfl) ?_ _
         have HX9 := hide (own_below HO14.out hE9)
         have HY9 := hide hO9
         have hB9 := Below.next hB1 hD9
         have hB19 := hide hD9
         obtain ⟨m0, m1, m2, m3⟩ := HK.out _ hD9
         have HRx := hide (rw_of_own HX9.out (by rw [HEx.out]; omega) (fun x hx' => HW.out.1 x (List.mem_of_mem_eraseIdx hx')))
         have HRy := hide (rw_of_own HY9.out (by rw [HEy.out]; omega) (fun x hx' => HW.out.2 x (List.mem_of_mem_eraseIdx hx')))
         have HD9 := hide (HG2.out W9 _ _ i HRx.out HRy.out)
         clear hS0 hS1 hS2 hO9 HX9 HY9 HRx HRy HSl1 HSl2 hr9 hb9 hb6 HCo2 HAp2
         go_wp2_with fail
         refine HD9.out.mono ?_
         rintro e w7 ⟨vq, vb, Q, b, is, rfl, hT, o3, o4, hb7⟩
         obtain ⟨hz, rfl, rfl, hbl⟩ := HFw4.out Q b is hT
         obtain ⟨aq, cq, rfl⟩ := own_form o3
         obtain ⟨ab, cb, rfl⟩ := own_form o4
         have hB7 := Below.next hB9 hb7
         have hD7 := Below.next hB19.out hb7
         have RQ := hide (rw_of_own o3 (by rw [Hlp.out]; omega) R1.out.words)
         rw [hz, hbl]
         rw [Hlp.out] at RQ ⊢
         clear o3 o4 hT hz hbl HFw4 HD9 HG2
         go_wp2_with (first
          | (go_at_call 11; refine (anch17 _).mono ?_; rintro e w8 ⟨rfl, hb8⟩; have hB8 := Below.next hB7 hb8)
          | (go_at_call 9; refine (Same_yes _ _ Q _ ((R1.out.below hD7).below hb8).1 (RQ.out.below hb8).1).mono ?_; rintro e w9 ⟨rfl, hb9⟩; have hB10 := Below.next hB8 hb9))
         go_ret
         exact ⟨rfl, hB10⟩
end Go.Proofs.Ytnapbdoalfbgnaa
