/-
  Layer 9: the document's step.
-/
import Derived.Test.YtjkialmhajbcfaaDoorBunE
import Derived.Test.YtjkialmhajbcfaaDoorBQMute
namespace Go.Proofs.YtjkialmhajbcfaaDoor
open Go.RowKit Fld Slp
set_option linter.unusedVariables false
set_option linter.unusedSimpArgs false

theorem load_opv {w : World} {b : Nat} {k a c d : Value} {T : TypeId} {fz : Nat × Nat} (h : w.heap[b]? = some (.cells #[k, a, c, d] T fz)) : (loadVar 47 ⟨b, 0, none⟩).run Tryd.prog w = .ok (.agg #[k, a, c, d]) w := by
  have e0 : w.cell? ⟨b, 0, none⟩ = some k := by rw [Lib.cell_of_heap h]; rfl
  have e1 : w.cell? ⟨b, 1, none⟩ = some a := by rw [Lib.cell_of_heap h]; rfl
  have e2 : w.cell? ⟨b, 2, none⟩ = some c := by rw [Lib.cell_of_heap h]; rfl
  have e3 : w.cell? ⟨b, 3, none⟩ = some d := by rw [Lib.cell_of_heap h]; rfl
  simp [go_sem, e0, e1, e2, e3]
theorem shapes (n own : Nat) (ws : List Tx) : (∃ t e x, ws = [t, e, x]) ∨ (∃ t e x g y, ws = [t, e, x, g, y]) ∨ (¬ ws.length = 3 ∧ ¬ ws.length = 5 ∧ docO n own ws = (⟨0, 0, 0, 0⟩, true)) := by
  match ws with
  | [t, e, x] => exact .inl ⟨t, e, x, rfl⟩
  | [t, e, x, g, y] => exact .inr (.inl ⟨t, e, x, g, y, rfl⟩)
  | [] => exact .inr (.inr ⟨by simp, by simp, rfl⟩)
  | [_] => exact .inr (.inr ⟨by simp, by simp, rfl⟩)
  | [_, _] => exact .inr (.inr ⟨by simp, by simp, rfl⟩)
  | [_, _, _, _] => exact .inr (.inr ⟨by simp, by simp, rfl⟩)
  | _ :: _ :: _ :: _ :: _ :: _ :: _ => exact .inr (.inr ⟨by simp, by simp, rfl⟩)

theorem sq_at1 (W : World) : (Instr.index 82 (.agg #[.string ⟨#[]⟩, .string ⟨#[43]⟩, .string ⟨#[45]⟩, .string ⟨#[42]⟩]) (.int .i64 1)).run Tryd.prog W = .ok (.string ⟨#[43]⟩) W := by kernel_rfl
theorem sq_at2 (W : World) : (Instr.index 82 (.agg #[.string ⟨#[]⟩, .string ⟨#[43]⟩, .string ⟨#[45]⟩, .string ⟨#[42]⟩]) (.int .i64 2)).run Tryd.prog W = .ok (.string ⟨#[45]⟩) W := by kernel_rfl
theorem sq_at3 (W : World) : (Instr.index 82 (.agg #[.string ⟨#[]⟩, .string ⟨#[43]⟩, .string ⟨#[45]⟩, .string ⟨#[42]⟩]) (.int .i64 3)).run Tryd.prog W = .ok (.string ⟨#[42]⟩) W := by kernel_rfl
/-- The sign found when so many are tried. -/
def kdf (s : Tx) (k : Nat) : Int := if 1 < k ∧ s = [43] then 1 else if 2 < k ∧ s = [45] then 2 else if 3 < k ∧ s = [42] then 3 else 0
theorem kdf_end (s : Tx) : kdf s 4 = sgK s := by
  unfold kdf sgK sgP
  by_cases h1 : s = [43]
  · rw [if_pos ⟨by decide, h1⟩, if_pos h1]
  · rw [if_neg (fun h => h1 h.2), if_neg h1]
    by_cases h2 : s = [45]
    · rw [if_pos ⟨by decide, h2⟩, if_pos h2]
    · rw [if_neg (fun h => h2 h.2), if_neg h2]
      by_cases h3 : s = [42]
      · rw [if_pos ⟨by decide, h3⟩, if_pos h3]
      · rw [if_neg (fun h => h3 h.2), if_neg h3]
theorem kdf_one (s : Tx) : kdf s 1 = 0 := by unfold kdf; rw [if_neg (by omega), if_neg (by omega), if_neg (by omega)]
theorem kdf_hit1 {s : Tx} (h : s = [43]) : kdf s 2 = 1 := by unfold kdf; rw [if_pos ⟨by decide, h⟩]
theorem kdf_hit2 {s : Tx} (h : s = [45]) : kdf s 3 = 2 := by subst h; decide
theorem kdf_hit3 {s : Tx} (h : s = [42]) : kdf s 4 = 3 := by subst h; decide
theorem kdf_no1 {s : Tx} (h : ¬ s = [43]) : kdf s 2 = kdf s 1 := by unfold kdf; simp [h]
theorem kdf_no2 {s : Tx} (h : ¬ s = [45]) : kdf s 3 = kdf s 2 := by
  by_cases h1 : s = [43]
  · subst h1; decide
  · unfold kdf; simp [h, h1]
theorem kdf_no3 {s : Tx} (h : ¬ s = [42]) : kdf s 4 = kdf s 3 := by
  by_cases h1 : s = [43]
  · subst h1; decide
  · by_cases h2 : s = [45]
    · subst h2; decide
    · unfold kdf; simp [h, h1, h2]

set_option maxRecDepth 100000 in
set_option maxHeartbeats 6000000 in
theorem dStep (w : World) (n : Nat) (vo : Value) (au : Option Addr) (nu cu : Nat) (ops : List O4) (l : Tx) (ho : Lm opw 4 w vo ops) (hn : n ≤ 64) (hops : ops.length ≤ 256) (hl : l.length ≤ 1100000) (hT : Tb9 w) :
    Calls Tryd.prog 40 #[.agg #[.int .i64 (n : Int), vo, .slice au nu cu], tx l] w fun e w' => e = .returned (.tuple #[opv (dstO n ops.length l), .bool (dstB n ops.length l)]) ∧ Below w.heap.size w w' := by
  have HO := hide ho
  have HTb := hide (fun W (hb : Below w.heap.size w W) => hT.below hb)
  obtain ⟨ao, co, rfl, _⟩ := ho.spell
  clear ho hT
  obtain ⟨n1, n2, hB⟩ := alloc2 w (.cells #[.int .i64 (n : Int), .slice ao ops.length co, .slice au nu cu] 25) (.cells #[.int .u8 0, .int .i64 0, .int .i64 0, .int .u64 0] 47)
  have HPc : Hid (∀ W, Calls Tryd.prog 37 #[tx l, .int .u8 32] W fun e w' => ∃ a k, e = .returned (.slice a (pcs 32 l).length k) ∧ w'.ownsRow W.heap.size 9 1 (.slice a (pcs 32 l).length k) (pcs 32 l).length ((pcs 32 l).flatMap sw) ∧ Below W.heap.size W w') := fun W => dPieces W l 32 hl
  have hwn : IntKind.i64.wrap ((n : Int) + (ops.length : Int)) = (n : Int) + (ops.length : Int) := by rw [IntKind.wrap_i64]; omega
  obtain ⟨ws, HWs⟩ : ∃ ws, Hid (pcs 32 l = ws) := ⟨_, rfl⟩
  have HLen : Hid (∀ x ∈ ws, x.length ≤ 281474976710656) := fun x hx => by
    have h1 := jnt_len (c := 32) x hx
    rw [← HWs.out, jnt_pcs] at h1
    omega
  have HO1 : Hid (dstO n ops.length l = (docO n (n + ops.length) ws).1) := by show _ = _; unfold dstO; rw [HWs.out]
  have HO2 : Hid (dstB n ops.length l = ((docO n (n + ops.length) ws).2 && (opM (dstO n ops.length l) ((n : Int) + ops.length) && (decide (ops.length + 1 ≤ 256) && decide (stpT n ops.length (dstO n ops.length l) = l))))) := by show _ = _; unfold dstB; rw [HWs.out]
  have HOk := hide (docO_ok n (n + ops.length) ws (by omega))
  rw [← HO1.out] at HOk
  rw [HWs.out] at HPc
  have HSh := hide (shapes n (n + ops.length) ws)
  have HRd := hide (fun W x (hb : Below w.heap.size w W) => dReadV W n (n + ops.length) x hn (by omega) (HTb.out W hb))
  have HN1 := hide n1
  have HN2 := hide n2
  have HB := hide hB
  clear n1 n2 hB HWs
  generalize dstO n ops.length l = od at *
  generalize dstB n ops.length l = bd at *
  go_enter Tryd.func40, Tryd.ntmps40
  go_upto_if 22 with (go_at_call 37; refine (HPc.out _).mono ?_; rintro e w1 ⟨a7, k7, rfl, ho7, hb7⟩; have HO7 := hide ho7; clear ho7)
  have hs0 := HB.out.size
  have hE0 : Se w (w1.alloc (.cells #[.int .u8 0, .int .i64 0, .int .i64 0, .int .u64 0] 47)) n (.slice ao ops.length co) (.slice au nu cu) w1.heap.size ⟨0, 0, 0, 0⟩ := by
    have hA := alloc_below w1 (.cells #[.int .u8 0, .int .i64 0, .int .i64 0, .int .u64 0] 47)
    have hbA := Below.next hb7 hA
    exact ⟨(hbA.block _ (Array.getElem?_eq_some_iff.1 HN1.out).1).trans HN1.out, (hbA.block _ (Array.getElem?_eq_some_iff.1 HN2.out).1).trans HN2.out, heap_alloc_new w1 _, Nat.le_trans (Array.getElem?_eq_some_iff.1 HN2.out).1 hb7.size, Below.next HB.out hbA⟩
  have hR0 : (w1.alloc (.cells #[.int .u8 0, .int .i64 0, .int .i64 0, .int .u64 0] 47)).ownsRow (w.heap.size + 2) 9 1 (.slice a7 ws.length k7) ws.length (ws.flatMap sw) := own_mono (own_kept HO7.out (below_own (alloc_below w1 _)) (fun g _ => by simp)) (Array.getElem?_eq_some_iff.1 HN2.out).1
  have HE0 := hide hE0
  have HR0 := hide hR0
  clear hE0 hR0 HO7 hb7 HN1 HN2 HB HPc hs0
  generalize w1.heap.size = g at *
  generalize w1.alloc (.cells #[.int .u8 0, .int .i64 0, .int .i64 0, .int .u64 0] 47) = V at *
  go_cut [9, 10, 11] from 22 to 66 (fun v9 v10 v11 wx => Hid ((docO n (n + ops.length) ws).2 = true) ∧ Se w wx n (.slice ao ops.length co) (.slice au nu cu) g od)
  case first =>
    rcases HSh.out with ⟨t, e, x, rfl⟩ | ⟨t, e, x, s, y, rfl⟩ | ⟨h3, h5, hd⟩
    · obtain ⟨b, off, k', hv, _, hbl⟩ := (lm_of_own sw_len (by decide) HR0.out (by simp)).form (by simp)
      injection hv with hv1 hv2 hv3
      subst hv1
      clear hv2 hv3
      have cx := (lm_of_own sw_len (by decide) HR0.out (by simp)).txt (Below.refl _ V) (j := 2) (by simp)
      have cx' : V.cell? ⟨b, off + 2, none⟩ = some (tx x) := cx
      have hx9 : x.length ≤ 281474976710656 := HLen.out x (by simp)
      have HNu : Hid (Calls Tryd.prog 38 #[tx x, .int .u64 18446744073709551615] V fun e w' => e = .returned (.tuple #[.int .u64 (nmN x 18446744073709551615 : Int), .bool (nmO x 18446744073709551615)]) ∧ w' = V) := dNumber V x 18446744073709551615 (Nat.le_refl _) hx9
      have e1 : Hid ((docO n (n + ops.length) [t, e, x]).2 = nmO x 18446744073709551615) := rfl
      have e2 : Hid (od = ⟨4, 0, 0, (nmN x 18446744073709551615 : Int)⟩) := HO1.out
      have HPut := hide (HE0.out.put ⟨4, 0, 0, (nmN x 18446744073709551615 : Int)⟩)
      unfold set4 at HPut
      obtain ⟨q0, q1, q2, q3⟩ := cell4 HE0.out.bo
      have qf := fun k => Lib.frozen_of_heap HE0.out.bo k
      cases hnm : nmO x 18446744073709551615 with
      | true =>
        rw [hnm] at HNu e1
        clear hnm cx
        generalize (nmN x 18446744073709551615 : Int) = nn at *
        go_wp2_with (go_at_call 38; refine HNu.out.mono ?_; rintro e w2 ⟨rfl, hw2⟩; rw [hw2])
        go_meet
        exact ⟨e1, by rw [e2.out]; exact HPut.out⟩
      | false =>
        rw [hnm] at HNu e1
        have e3 : Hid (bd = false) := by show _ = _; rw [HO2.out, e1.out, Bool.false_and]
        clear hnm cx
        generalize (nmN x 18446744073709551615 : Int) = nn at *
        obtain ⟨r0, r1, r2, r3⟩ := cell4 HPut.out.br
        have rf := fun k => Lib.frozen_of_heap HPut.out.br k
        obtain ⟨p0, p1, p2, p3⟩ := cell4 HPut.out.bo
        go_wp2_with (go_at_call 38; refine HNu.out.mono ?_; rintro e w2 ⟨rfl, hw2⟩; rw [hw2])
        have hz := set_blk (set_blk (set_blk (set_blk HPut.out.br 0 (.int .u8 4)) 1 (.int .i64 0)) 2 (.int .i64 0)) 3 (.int .u64 nn)
        have hgz := set4_grown (((V.setCell ⟨g, 0, none⟩ (.int .u8 4)).setCell ⟨g, 0 + 1, none⟩ (.int .i64 0)).setCell ⟨g, 0 + 2, none⟩ (.int .i64 0) |>.setCell ⟨g, 0 + 3, none⟩ (.int .u64 nn)) (w.heap.size + 1) 0 ⟨4, 0, 0, nn⟩
        refine bodyPost_ret (res_ct (a := 4) (b := 5) rfl rfl rfl (load_opv hz)) rfl ⟨?_, HPut.out.bl.grown hgz HPut.out.bl.size (fun k e => by cases e; omega)⟩
        rw [e2.out, e3.out]; rfl
    · obtain ⟨b, off, k', hv, _, hbl⟩ := (lm_of_own sw_len (by decide) HR0.out (by simp)).form (by simp)
      injection hv with hv1 hv2 hv3
      subst hv1
      clear hv2 hv3
      have e1 : Hid ((docO n (n + ops.length) [t, e, x, s, y]).2 = true) := rfl
      have e2 : Hid (od = ⟨sgK s, rdV n (n + ops.length) x, rdV n (n + ops.length) y, 0⟩) := HO1.out
      have HLs := hide (lm_of_own sw_len (by decide) HR0.out (by simp))
      obtain ⟨cs7, hcs7⟩ := own_blk HR0.out (g := b) rfl
      have HC7 := hide hcs7
      clear hcs7 HO1
      have HRx := hide (fun W (hb : Below w.heap.size w W) => HRd.out W x hb)
      have HRy := hide (fun W (hb : Below w.heap.size w W) => HRd.out W y hb)
      rw [Int.natCast_add] at HRx HRy
      generalize rdV n (n + ops.length) x = A at *
      generalize rdV n (n + ops.length) y = B at *
      have HS : Hid (∀ W', Below V.heap.size V W' → W'.cell? ⟨w.heap.size, 0, none⟩ = some (.int .i64 (n : Int)) ∧ W'.cell? ⟨b, off + 2, none⟩ = some (tx x) ∧ W'.cell? ⟨b, off + 4, none⟩ = some (tx y)) := fun W' hb => ⟨(cell3 (HE0.out.below hb).bp).1, HLs.out.txt hb (j := 2) (by simp), HLs.out.txt hb (j := 4) (by simp)⟩
      have HSs : Hid (∀ W' o, Below V.heap.size V W' → (set4 W' g 0 o).cell? ⟨w.heap.size, 0, none⟩ = some (.int .i64 (n : Int)) ∧ (set4 W' g 0 o).cell? ⟨b, off + 2, none⟩ = some (tx x) ∧ (set4 W' g 0 o).cell? ⟨b, off + 4, none⟩ = some (tx y)) := fun W' o hb => by
        have hr : (set4 W' g 0 o).ownsRow (w.heap.size + 2) 9 1 _ _ _ := own_kept (own_kept HR0.out (below_own hb) (fun j _ => by simp)) (set4_grown W' g 0 o) (fun j hj e => own_not (own_kept HR0.out (below_own hb) (fun j _ => by simp)) (HE0.out.below hb).bo (by decide) (hj.trans e.symm))
        have hl := lm_of_own sw_len (by decide) hr (by simp)
        exact ⟨(cell3 ((HE0.out.below hb).put o).bp).1, hl.txt (Below.refl _ _) (j := 2) (by simp), hl.txt (Below.refl _ _) (j := 4) (by simp)⟩
      have HW8 : Hid (∀ W', Below V.heap.size V W' → (W'.cell? ⟨g, 0, none⟩ = some (.int .u8 0) ∧ W'.cell? ⟨g, 1, none⟩ = some (.int .i64 0) ∧ W'.cell? ⟨g, 2, none⟩ = some (.int .i64 0) ∧ W'.cell? ⟨g, 3, none⟩ = some (.int .u64 0)) ∧ ∀ k, W'.frozen? ⟨g, k, none⟩ = false) := fun W' hb => ⟨cell4 (HE0.out.below hb).bo, fun k => Lib.frozen_of_heap (HE0.out.below hb).bo k⟩
      have HPt : Hid (∀ W', Below V.heap.size V W' → Se w (set4 W' g 0 ⟨0, A, B, 0⟩) n (.slice ao ops.length co) (.slice au nu cu) g ⟨0, A, B, 0⟩ ∧ (set4 W' g 0 ⟨0, A, B, 0⟩).ownsRow (w.heap.size + 2) 9 1 (.slice (some ⟨b, off, none⟩) [t, e, x, s, y].length k7) [t, e, x, s, y].length ([t, e, x, s, y].flatMap sw)) := fun W' hb => ⟨(HE0.out.below hb).put _, own_kept (own_kept HR0.out (below_own hb) (fun j _ => by simp)) (set4_grown W' g 0 _) (fun j hj e => own_not (own_kept HR0.out (below_own hb) (fun j _ => by simp)) (HE0.out.below hb).bo (by decide) (hj.trans e.symm))⟩
      unfold set4 at HSs HPt
      have hS0 := HS.out V.drew (Below.refl _ V).drew
      have hB0 := HE0.out.bl
      go_upto_region 10 with fail
      go_region_held3 (fun W' => W'.cell? ⟨w.heap.size, 0, none⟩ = some (.int .i64 (n : Int)) ∧ W'.cell? ⟨b, off + 2, none⟩ = some (tx x) ∧ W'.cell? ⟨b, off + 4, none⟩ = some (tx y)) (first | with_reducible exact hS0 | with_reducible exact hS2 | with_reducible exact hS3 | with_reducible exact hS4) (first
        | (go_at_call 39; with_reducible refine Calls.mono (HRx.out _ hB0.drew) ?_; rintro e w2 ⟨rfl, hb2⟩; have hC2 := Below.next (Below.refl V.heap.size V).drew hb2; have hB2 := Below.next hB0.drew hb2; have hS2 := HS.out w2 hC2)
        | (go_at_call 39; with_reducible refine Calls.mono (HRy.out _ hB2) ?_; rintro e w3 ⟨rfl, hb3⟩; have hC3 := Below.next hC2 hb3; have hS3 := HS.out w3 hC3; have hS4 := HSs.out w3 ⟨0, A, B, 0⟩ hC3; have hW8 := HW8.out w3 hC3; have HP3 := hide (HPt.out w3 hC3)))
      clear hS0 hS2 hS3 hS4 hW8 HSs HS HPt HW8 HRx HRy HLs HE0 HR0
      go_wp2_with fail
      go_loopw [11] (fun vi wr => ∃ (k : Nat) (kd : Int), 1 ≤ k ∧ k ≤ 4 ∧ vi = .int .i64 k ∧ Hid (kd = kdf s k) ∧ Hid (Se w wr n (.slice ao ops.length co) (.slice au nu cu) g ⟨kd, A, B, 0⟩) ∧ Hid (wr.ownsRow (w.heap.size + 2) 9 1 (.slice (some ⟨b, off, none⟩) [t, e, x, s, y].length k7) [t, e, x, s, y].length ([t, e, x, s, y].flatMap sw))) (fun vi _ => 4 - (intOf vi).toNat)
      case atStart => exact ⟨1, 0, by decide, by decide, rfl, (kdf_one s).symm, HP3.out.1, HP3.out.2⟩
      case round =>
        clear HP3
        obtain ⟨k, kd, hk1, hk4, rfl, HKd, F, HRr⟩ := hrel
        have cs := (lm_of_own sw_len (by decide) HRr.out (by simp)).txt (Below.refl _ wr) (j := 3) (by simp)
        have hS0 : wr.drew.cell? ⟨b, off + 3, none⟩ = some (tx s) := cs
        obtain ⟨q0, q1, q2, q3⟩ := cell4 F.out.bo
        have qf := fun k => Lib.frozen_of_heap F.out.bo k
        have gg := tx_guard s
        by_cases hk : k = 4
        · subst hk
          have HKe := hide (kdf_end s)
          go_wp2_with fail
          go_meet
          refine ⟨e1, ?_⟩
          rw [e2.out, ← HKe.out, ← HKd.out]; exact F.out
        · have hk3 : k = 1 ∨ k = 2 ∨ k = 3 := by omega
          rcases hk3 with rfl | rfl | rfl
          · have gi := sq_at1
            by_cases hs : s = [43]
            · have g2 : ∀ W, (binOp .eql 9 (tx s) (.string ⟨#[43]⟩)).run Tryd.prog W = .ok (.bool true) W := fun W => tx_same hs W
              have HK := hide (kdf_hit1 hs)
              have HFk := hide ((F.out.below (Below.refl _ wr).drew).kind 1)
              have HRk := hide (own_kept (own_drew HRr.out) (set1_grown wr.drew g 0 (.int .u8 1)) (fun j hj e => own_not HRr.out F.out.bo (by decide) (hj.trans e.symm)))
              clear hs
              go_wp2_with fail
              go_region_held3 (fun W' => W'.cell? ⟨b, off + 3, none⟩ = some (tx s)) (first | with_reducible exact hS0) (fail)
              go_wp2_with fail
              go_roundw
              case rel => exact ⟨2, 1, by decide, by decide, rfl, HK.out.symm, HFk, HRk⟩
              case measure => simp [intOf]
            · have g2 : ∀ W, (binOp .eql 9 (tx s) (.string ⟨#[43]⟩)).run Tryd.prog W = .ok (.bool false) W := fun W => tx_other hs W
              have HK := hide (kdf_no1 hs)
              have HFk := hide (F.out.below (Below.refl _ wr).drew)
              have HRk := hide (own_drew HRr.out)
              clear hs
              go_wp2_with fail
              go_region_held3 (fun W' => W'.cell? ⟨b, off + 3, none⟩ = some (tx s)) (first | with_reducible exact hS0) (fail)
              go_wp2_with fail
              go_roundw
              case rel => exact ⟨2, kd, by decide, by decide, rfl, by show _ = _; rw [HK.out]; exact HKd.out, HFk, HRk⟩
              case measure => simp [intOf]
          · have gi := sq_at2
            by_cases hs : s = [45]
            · have g2 : ∀ W, (binOp .eql 9 (tx s) (.string ⟨#[45]⟩)).run Tryd.prog W = .ok (.bool true) W := fun W => tx_same hs W
              have HK := hide (kdf_hit2 hs)
              have HFk := hide ((F.out.below (Below.refl _ wr).drew).kind 2)
              have HRk := hide (own_kept (own_drew HRr.out) (set1_grown wr.drew g 0 (.int .u8 2)) (fun j hj e => own_not HRr.out F.out.bo (by decide) (hj.trans e.symm)))
              clear hs
              go_wp2_with fail
              go_region_held3 (fun W' => W'.cell? ⟨b, off + 3, none⟩ = some (tx s)) (first | with_reducible exact hS0) (fail)
              go_wp2_with fail
              go_roundw
              case rel => exact ⟨3, 2, by decide, by decide, rfl, HK.out.symm, HFk, HRk⟩
              case measure => simp [intOf]
            · have g2 : ∀ W, (binOp .eql 9 (tx s) (.string ⟨#[45]⟩)).run Tryd.prog W = .ok (.bool false) W := fun W => tx_other hs W
              have HK := hide (kdf_no2 hs)
              have HFk := hide (F.out.below (Below.refl _ wr).drew)
              have HRk := hide (own_drew HRr.out)
              clear hs
              go_wp2_with fail
              go_region_held3 (fun W' => W'.cell? ⟨b, off + 3, none⟩ = some (tx s)) (first | with_reducible exact hS0) (fail)
              go_wp2_with fail
              go_roundw
              case rel => exact ⟨3, kd, by decide, by decide, rfl, by show _ = _; rw [HK.out]; exact HKd.out, HFk, HRk⟩
              case measure => simp [intOf]
          · have gi := sq_at3
            by_cases hs : s = [42]
            · have g2 : ∀ W, (binOp .eql 9 (tx s) (.string ⟨#[42]⟩)).run Tryd.prog W = .ok (.bool true) W := fun W => tx_same hs W
              have HK := hide (kdf_hit3 hs)
              have HFk := hide ((F.out.below (Below.refl _ wr).drew).kind 3)
              have HRk := hide (own_kept (own_drew HRr.out) (set1_grown wr.drew g 0 (.int .u8 3)) (fun j hj e => own_not HRr.out F.out.bo (by decide) (hj.trans e.symm)))
              clear hs
              go_wp2_with fail
              go_region_held3 (fun W' => W'.cell? ⟨b, off + 3, none⟩ = some (tx s)) (first | with_reducible exact hS0) (fail)
              go_wp2_with fail
              go_roundw
              case rel => exact ⟨4, 3, by decide, by decide, rfl, HK.out.symm, HFk, HRk⟩
              case measure => simp [intOf]
            · have g2 : ∀ W, (binOp .eql 9 (tx s) (.string ⟨#[42]⟩)).run Tryd.prog W = .ok (.bool false) W := fun W => tx_other hs W
              have HK := hide (kdf_no3 hs)
              have HFk := hide (F.out.below (Below.refl _ wr).drew)
              have HRk := hide (own_drew HRr.out)
              clear hs
              go_wp2_with fail
              go_region_held3 (fun W' => W'.cell? ⟨b, off + 3, none⟩ = some (tx s)) (first | with_reducible exact hS0) (fail)
              go_wp2_with fail
              go_roundw
              case rel => exact ⟨4, kd, by decide, by decide, rfl, by show _ = _; rw [HK.out]; exact HKd.out, HFk, HRk⟩
              case measure => simp [intOf]
    · have e1 : Hid ((docO n (n + ops.length) ws).2 = true) := by show _ = _; rw [hd]
      have e2 : od = ⟨0, 0, 0, 0⟩ := by rw [HO1.out, hd]
      have h3' : ¬ (ws.length : Int) = 3 := by omega
      have h5' : ¬ (ws.length : Int) = 5 := by omega
      have HE2 := hide e2
      clear e2 hd
      go_wp2_with fail
      go_meet
      exact ⟨e1, by rw [HE2.out]; exact HE0.out⟩
  case rest =>
    obtain ⟨HD2, hSe⟩ := hcut
    have HSe := hide hSe
    have HLm := hide (HO.out.below hSe.bl)
    clear hSe HE0 HR0 HRd HSh
    go_upto_region 16 with fail
    go_cut [] from 67 to 74 (fun wx => ∃ a2 c2, Se w wx n (.slice a2 (ops.length + 1) c2) (.slice au nu cu) g od ∧ Lm opw 4 wx (.slice a2 (ops.length + 1) c2) (ops ++ [od]))
    case first =>
      obtain ⟨⟨a1, c1, W1, a2, c2, W2, hr1, hb1, hr2, hb2, ho2⟩, ⟨d1, e1, X1, d2, e2, X2, hs1, hx1, hs2, hx2, hq2⟩, ⟨f1, i1, Y1, f2, i2, Y2, ht1, hy1, ht2, hy2, hu2⟩⟩ := step_app HLm.out hops od
      have HS : Hid (∀ W', Below wc.heap.size wc W' → W'.cell? ⟨w.heap.size, 1, none⟩ = some (.slice ao ops.length co) ∧ W'.cell? ⟨g, 0, none⟩ = some (.int .u8 od.k) ∧ W'.cell? ⟨g, 1, none⟩ = some (.int .i64 od.a) ∧ W'.cell? ⟨g, 2, none⟩ = some (.int .i64 od.b) ∧ W'.cell? ⟨g, 3, none⟩ = some (.int .u64 od.c)) := fun W' hb => ⟨(cell3 (HSe.out.below hb).bp).2.1, cell4 (HSe.out.below hb).bo⟩
      have hS0 := HS.out wc.drew (Below.refl _ wc).drew
      have hSa := fun o => HS.out (wc.alloc o).drew (alloc_below wc o).drew
      have hSb := fun o1 o2 => HS.out ((wc.alloc o1).alloc o2).drew (alloc2 wc o1 o2).2.2.drew
      have hS1 := HS.out W1 hb1
      have hS2 := fun o => HS.out (W1.alloc o) (Below.next hb1 (alloc_below W1 o))
      have hS3 := HS.out W2 hb2
      have hS4 := HS.out X1 hx1
      have hS5 := HS.out X2 hx2
      have hS6 := HS.out Y1 hy1
      have hS7 := HS.out Y2 hy2
      have HW2 := hide (HSe.out.below hb2)
      have HX2 := hide (HSe.out.below hx2)
      have HY2 := hide (HSe.out.below hy2)
      have HL2 := hide (lm_of_own opw_len (by decide) ho2 (by simp; omega))
      have HM2 := hide (lm_of_own opw_len (by decide) hq2 (by simp; omega))
      have HN2 := hide (lm_of_own opw_len (by decide) hu2 (by simp; omega))
      have z1 := Lib.frozen_of_heap HW2.out.bp 1
      have z2 := Lib.frozen_of_heap HX2.out.bp 1
      have z3 := Lib.frozen_of_heap HY2.out.bp 1
      have HO2a := hide ho2
      have HO2b := hide hq2
      have HO2c := hide hu2
      clear hb1 hb2 hx1 hx2 hy1 hy2 ho2 hq2 hu2 HLm
      refine wp_region_mute (S := (fun W' => W'.cell? ⟨w.heap.size, 1, none⟩ = some (.slice ao ops.length co) ∧ W'.cell? ⟨g, 0, none⟩ = some (.int .u8 od.k) ∧ W'.cell? ⟨g, 1, none⟩ = some (.int .i64 od.a) ∧ W'.cell? ⟨g, 2, none⟩ = some (.int .i64 od.b) ∧ W'.cell? ⟨g, 3, none⟩ = some (.int .u64 od.c))) (by kernel_rfl) (by kernel_rfl) rfl (by ((try dsimp only) <;> (first | with_reducible exact hS0 | with_reducible exact hSa _ | with_reducible exact hSb _ _ | with_reducible exact hS1 | with_reducible exact hS2 _ | with_reducible exact hS3 | with_reducible exact hS4 | with_reducible exact hS5 | with_reducible exact hS6 | with_reducible exact hS7))) (fun hHeld => ?_)
      simp only [muteL, mute]
      (refine wpAnyH_take (i := 1) (oi := _) (v := ?v79) rfl (by kernel_rfl) (by kernel_rfl) (by kernel_rfl) (fun _ _ _ h => h) (Or.inl ⟨by rfl, ?hy79⟩) (by assumption) ?rest79; (case hy79 => (first | (intro w hSw; (try dsimp only at hSw); go_simp; done) | (intro w hSw; (try dsimp only at hSw); go_simp; with_reducible rfl))); (try simp only [Act.put, List.getElem_toArray, List.getElem_cons_succ, List.getElem_cons_zero, List.setIfInBounds_toArray, List.set_cons_zero, List.set_cons_succ]))
      (refine wpAnyH_take (i := 2) (oi := _) (v := ?v80) rfl (by kernel_rfl) (by kernel_rfl) (by kernel_rfl) (fun _ _ _ h => h) (Or.inl ⟨by rfl, ?hy80⟩) (by assumption) ?rest80; (case hy80 => (first | (intro w hSw; (try dsimp only at hSw); go_simp; done) | (intro w hSw; (try dsimp only at hSw); go_simp; with_reducible rfl))); (try simp only [Act.put, List.getElem_toArray, List.getElem_cons_succ, List.getElem_cons_zero, List.setIfInBounds_toArray, List.set_cons_zero, List.set_cons_succ]))
      (refine wpAnyH_take (i := 4) (oi := _) (v := ?v81) rfl (by kernel_rfl) (by kernel_rfl) (by kernel_rfl) (fun _ _ _ h => h) (Or.inl ⟨by rfl, ?hy81⟩) (by assumption) ?rest81; (case hy81 => (first | (intro w hSw; (try dsimp only at hSw); go_simp; done) | (intro w hSw; (try dsimp only at hSw); go_simp; with_reducible rfl))); (try simp only [Act.put, List.getElem_toArray, List.getElem_cons_succ, List.getElem_cons_zero, List.setIfInBounds_toArray, List.set_cons_zero, List.set_cons_succ]))
      refine wpAnyH_ready (rs := [0, 5]) (by kernel_rfl) (by simp) ?_
      refine AllReadyH.cons (o := _) rfl (fun K hK => ?way82x0) (AllReadyH.cons (o := _) rfl (fun K hK => ?way82x1) AllReadyH.nil)
      case' way82x0 =>
        try simp only [List.getElem_toArray, List.getElem_cons_succ, List.getElem_cons_zero]
        go_simp
        refine hK.out _ _ (by ((try dsimp only) <;> (first | with_reducible exact hS0 | with_reducible exact hSa _ | with_reducible exact hSb _ _ | with_reducible exact hS1 | with_reducible exact hS2 _ | with_reducible exact hS3 | with_reducible exact hS4 | with_reducible exact hS5 | with_reducible exact hS6 | with_reducible exact hS7))) (fun hHeld => ?_)
        clear hK K
        (try simp only [Act.put, List.getElem_toArray, List.getElem_cons_succ, List.getElem_cons_zero, List.setIfInBounds_toArray, List.set_cons_zero, List.set_cons_succ])
        refine wpAnyH_ready (rs := [3, 5]) (by kernel_rfl) (by simp) ?_
        refine AllReadyH.cons (o := _) rfl (fun K hK => ?way83x0) (AllReadyH.cons (o := _) rfl (fun K hK => ?way83x1) AllReadyH.nil)
        case' way83x0 =>
          (first
                | (refine app_step (by rfl) _ _ _ _ (by rfl) (.slice (some ⟨wc.heap.size, 0, none⟩) 0 0) (.slice ao ops.length co) (by rfl) (by rfl) (.slice a1 ops.length c1) W1 (by ((try simp only [List.getElem_toArray, List.getElem_cons_succ, List.getElem_cons_zero]); with_reducible exact hr1)) ?_)
                | (refine app_step (by rfl) _ _ _ _ (by rfl) (.slice a1 ops.length c1) (.slice (some ⟨W1.heap.size, 0, none⟩) 1 1) (by rfl) (by rfl) (.slice a2 (ops.length + 1) c2) W2 (by ((try simp only [List.getElem_toArray, List.getElem_cons_succ, List.getElem_cons_zero]); with_reducible exact hr2)) ?_)
                | (refine app_step (by rfl) _ _ _ _ (by rfl) (.slice (some ⟨wc.heap.size, 0, none⟩) 0 0) (.slice ao ops.length co) (by rfl) (by rfl) (.slice d1 ops.length e1) X1 (by ((try simp only [List.getElem_toArray, List.getElem_cons_succ, List.getElem_cons_zero]); with_reducible exact hs1)) ?_)
                | (refine app_step (by rfl) _ _ _ _ (by rfl) (.slice d1 ops.length e1) (.slice (some ⟨wc.heap.size + 1, 0, none⟩) 1 1) (by rfl) (by rfl) (.slice d2 (ops.length + 1) e2) X2 (by ((try simp only [List.getElem_toArray, List.getElem_cons_succ, List.getElem_cons_zero]); with_reducible exact hs2)) ?_)
                | (refine app_step (by rfl) _ _ _ _ (by rfl) (.slice (some ⟨wc.heap.size + 1, 0, none⟩) 0 0) (.slice ao ops.length co) (by rfl) (by rfl) (.slice f1 ops.length i1) Y1 (by ((try simp only [List.getElem_toArray, List.getElem_cons_succ, List.getElem_cons_zero]); with_reducible exact ht1)) ?_)
                | (refine app_step (by rfl) _ _ _ _ (by rfl) (.slice f1 ops.length i1) (.slice (some ⟨wc.heap.size, 0, none⟩) 1 1) (by rfl) (by rfl) (.slice f2 (ops.length + 1) i2) Y2 (by ((try simp only [List.getElem_toArray, List.getElem_cons_succ, List.getElem_cons_zero]); with_reducible exact ht2)) ?_))
          refine hK.out _ _ (by ((try dsimp only) <;> (first | with_reducible exact hS0 | with_reducible exact hSa _ | with_reducible exact hSb _ _ | with_reducible exact hS1 | with_reducible exact hS2 _ | with_reducible exact hS3 | with_reducible exact hS4 | with_reducible exact hS5 | with_reducible exact hS6 | with_reducible exact hS7))) (fun hHeld => ?_)
          clear hK K
          (try simp only [Act.put, List.getElem_toArray, List.getElem_cons_succ, List.getElem_cons_zero, List.setIfInBounds_toArray, List.set_cons_zero, List.set_cons_succ])
          refine wpAnyH_ready (rs := [5]) (by kernel_rfl) (by simp) ?_
          refine AllReadyH.cons (o := _) rfl (fun K hK => ?_) AllReadyH.nil
          try simp only [List.getElem_toArray, List.getElem_cons_succ, List.getElem_cons_zero]
          go_simp
          refine hK.out _ _ (by ((try dsimp only) <;> (first | with_reducible exact hS0 | with_reducible exact hSa _ | with_reducible exact hSb _ _ | with_reducible exact hS1 | with_reducible exact hS2 _ | with_reducible exact hS3 | with_reducible exact hS4 | with_reducible exact hS5 | with_reducible exact hS6 | with_reducible exact hS7))) (fun hHeld => ?_)
          clear hK K
          (try simp only [Act.put, List.getElem_toArray, List.getElem_cons_succ, List.getElem_cons_zero, List.setIfInBounds_toArray, List.set_cons_zero, List.set_cons_succ])
          refine wpAnyH_ready (rs := [6]) (by kernel_rfl) (by simp) ?_
          refine AllReadyH.cons (o := _) rfl (fun K hK => ?_) AllReadyH.nil
          (first
                | (refine app_step (by rfl) _ _ _ _ (by rfl) (.slice (some ⟨wc.heap.size, 0, none⟩) 0 0) (.slice ao ops.length co) (by rfl) (by rfl) (.slice a1 ops.length c1) W1 (by ((try simp only [List.getElem_toArray, List.getElem_cons_succ, List.getElem_cons_zero]); with_reducible exact hr1)) ?_)
                | (refine app_step (by rfl) _ _ _ _ (by rfl) (.slice a1 ops.length c1) (.slice (some ⟨W1.heap.size, 0, none⟩) 1 1) (by rfl) (by rfl) (.slice a2 (ops.length + 1) c2) W2 (by ((try simp only [List.getElem_toArray, List.getElem_cons_succ, List.getElem_cons_zero]); with_reducible exact hr2)) ?_)
                | (refine app_step (by rfl) _ _ _ _ (by rfl) (.slice (some ⟨wc.heap.size, 0, none⟩) 0 0) (.slice ao ops.length co) (by rfl) (by rfl) (.slice d1 ops.length e1) X1 (by ((try simp only [List.getElem_toArray, List.getElem_cons_succ, List.getElem_cons_zero]); with_reducible exact hs1)) ?_)
                | (refine app_step (by rfl) _ _ _ _ (by rfl) (.slice d1 ops.length e1) (.slice (some ⟨wc.heap.size + 1, 0, none⟩) 1 1) (by rfl) (by rfl) (.slice d2 (ops.length + 1) e2) X2 (by ((try simp only [List.getElem_toArray, List.getElem_cons_succ, List.getElem_cons_zero]); with_reducible exact hs2)) ?_)
                | (refine app_step (by rfl) _ _ _ _ (by rfl) (.slice (some ⟨wc.heap.size + 1, 0, none⟩) 0 0) (.slice ao ops.length co) (by rfl) (by rfl) (.slice f1 ops.length i1) Y1 (by ((try simp only [List.getElem_toArray, List.getElem_cons_succ, List.getElem_cons_zero]); with_reducible exact ht1)) ?_)
                | (refine app_step (by rfl) _ _ _ _ (by rfl) (.slice f1 ops.length i1) (.slice (some ⟨wc.heap.size, 0, none⟩) 1 1) (by rfl) (by rfl) (.slice f2 (ops.length + 1) i2) Y2 (by ((try simp only [List.getElem_toArray, List.getElem_cons_succ, List.getElem_cons_zero]); with_reducible exact ht2)) ?_))
          refine hK.out _ _ (by ((try dsimp only) <;> (first | with_reducible exact hS0 | with_reducible exact hSa _ | with_reducible exact hSb _ _ | with_reducible exact hS1 | with_reducible exact hS2 _ | with_reducible exact hS3 | with_reducible exact hS4 | with_reducible exact hS5 | with_reducible exact hS6 | with_reducible exact hS7))) (fun hHeld => ?_)
          clear hK K
          (try simp only [Act.put, List.getElem_toArray, List.getElem_cons_succ, List.getElem_cons_zero, List.setIfInBounds_toArray, List.set_cons_zero, List.set_cons_succ])
          (refine wpAnyH_take (i := 7) (oi := _) (v := ?v84) rfl (by kernel_rfl) (by kernel_rfl) (by kernel_rfl) (fun _ _ _ h => h) (Or.inl ⟨by rfl, ?hy84⟩) (by assumption) ?rest84; (case hy84 => (first | (intro w hSw; (try dsimp only at hSw); go_simp; done) | (intro w hSw; (try dsimp only at hSw); go_simp; with_reducible rfl))); (try simp only [Act.put, List.getElem_toArray, List.getElem_cons_succ, List.getElem_cons_zero, List.setIfInBounds_toArray, List.set_cons_zero, List.set_cons_succ]))
          (refine wpAnyH_take (i := 8) (oi := _) (v := ?v85) rfl (by kernel_rfl) (by kernel_rfl) (by kernel_rfl) (fun _ _ _ h => h) (Or.inl ⟨by rfl, ?hy85⟩) (by assumption) ?rest85; (case hy85 => (first | (intro w hSw; (try dsimp only at hSw); go_simp; done) | (intro w hSw; (try dsimp only at hSw); go_simp; with_reducible rfl))); (try simp only [Act.put, List.getElem_toArray, List.getElem_cons_succ, List.getElem_cons_zero, List.setIfInBounds_toArray, List.set_cons_zero, List.set_cons_succ]))
          refine wpAnyH_done (by kernel_rfl) ?_ _
        case' way83x1 =>
          try simp only [List.getElem_toArray, List.getElem_cons_succ, List.getElem_cons_zero]
          go_simp
          refine hK.out _ _ (by ((try dsimp only) <;> (first | with_reducible exact hS0 | with_reducible exact hSa _ | with_reducible exact hSb _ _ | with_reducible exact hS1 | with_reducible exact hS2 _ | with_reducible exact hS3 | with_reducible exact hS4 | with_reducible exact hS5 | with_reducible exact hS6 | with_reducible exact hS7))) (fun hHeld => ?_)
          clear hK K
          (try simp only [Act.put, List.getElem_toArray, List.getElem_cons_succ, List.getElem_cons_zero, List.setIfInBounds_toArray, List.set_cons_zero, List.set_cons_succ])
          refine wpAnyH_ready (rs := [3]) (by kernel_rfl) (by simp) ?_
          refine AllReadyH.cons (o := _) rfl (fun K hK => ?_) AllReadyH.nil
          (first
                | (refine app_step (by rfl) _ _ _ _ (by rfl) (.slice (some ⟨wc.heap.size, 0, none⟩) 0 0) (.slice ao ops.length co) (by rfl) (by rfl) (.slice a1 ops.length c1) W1 (by ((try simp only [List.getElem_toArray, List.getElem_cons_succ, List.getElem_cons_zero]); with_reducible exact hr1)) ?_)
                | (refine app_step (by rfl) _ _ _ _ (by rfl) (.slice a1 ops.length c1) (.slice (some ⟨W1.heap.size, 0, none⟩) 1 1) (by rfl) (by rfl) (.slice a2 (ops.length + 1) c2) W2 (by ((try simp only [List.getElem_toArray, List.getElem_cons_succ, List.getElem_cons_zero]); with_reducible exact hr2)) ?_)
                | (refine app_step (by rfl) _ _ _ _ (by rfl) (.slice (some ⟨wc.heap.size, 0, none⟩) 0 0) (.slice ao ops.length co) (by rfl) (by rfl) (.slice d1 ops.length e1) X1 (by ((try simp only [List.getElem_toArray, List.getElem_cons_succ, List.getElem_cons_zero]); with_reducible exact hs1)) ?_)
                | (refine app_step (by rfl) _ _ _ _ (by rfl) (.slice d1 ops.length e1) (.slice (some ⟨wc.heap.size + 1, 0, none⟩) 1 1) (by rfl) (by rfl) (.slice d2 (ops.length + 1) e2) X2 (by ((try simp only [List.getElem_toArray, List.getElem_cons_succ, List.getElem_cons_zero]); with_reducible exact hs2)) ?_)
                | (refine app_step (by rfl) _ _ _ _ (by rfl) (.slice (some ⟨wc.heap.size + 1, 0, none⟩) 0 0) (.slice ao ops.length co) (by rfl) (by rfl) (.slice f1 ops.length i1) Y1 (by ((try simp only [List.getElem_toArray, List.getElem_cons_succ, List.getElem_cons_zero]); with_reducible exact ht1)) ?_)
                | (refine app_step (by rfl) _ _ _ _ (by rfl) (.slice f1 ops.length i1) (.slice (some ⟨wc.heap.size, 0, none⟩) 1 1) (by rfl) (by rfl) (.slice f2 (ops.length + 1) i2) Y2 (by ((try simp only [List.getElem_toArray, List.getElem_cons_succ, List.getElem_cons_zero]); with_reducible exact ht2)) ?_))
          refine hK.out _ _ (by ((try dsimp only) <;> (first | with_reducible exact hS0 | with_reducible exact hSa _ | with_reducible exact hSb _ _ | with_reducible exact hS1 | with_reducible exact hS2 _ | with_reducible exact hS3 | with_reducible exact hS4 | with_reducible exact hS5 | with_reducible exact hS6 | with_reducible exact hS7))) (fun hHeld => ?_)
          clear hK K
          (try simp only [Act.put, List.getElem_toArray, List.getElem_cons_succ, List.getElem_cons_zero, List.setIfInBounds_toArray, List.set_cons_zero, List.set_cons_succ])
          refine wpAnyH_ready (rs := [6]) (by kernel_rfl) (by simp) ?_
          refine AllReadyH.cons (o := _) rfl (fun K hK => ?_) AllReadyH.nil
          (first
                | (refine app_step (by rfl) _ _ _ _ (by rfl) (.slice (some ⟨wc.heap.size, 0, none⟩) 0 0) (.slice ao ops.length co) (by rfl) (by rfl) (.slice a1 ops.length c1) W1 (by ((try simp only [List.getElem_toArray, List.getElem_cons_succ, List.getElem_cons_zero]); with_reducible exact hr1)) ?_)
                | (refine app_step (by rfl) _ _ _ _ (by rfl) (.slice a1 ops.length c1) (.slice (some ⟨W1.heap.size, 0, none⟩) 1 1) (by rfl) (by rfl) (.slice a2 (ops.length + 1) c2) W2 (by ((try simp only [List.getElem_toArray, List.getElem_cons_succ, List.getElem_cons_zero]); with_reducible exact hr2)) ?_)
                | (refine app_step (by rfl) _ _ _ _ (by rfl) (.slice (some ⟨wc.heap.size, 0, none⟩) 0 0) (.slice ao ops.length co) (by rfl) (by rfl) (.slice d1 ops.length e1) X1 (by ((try simp only [List.getElem_toArray, List.getElem_cons_succ, List.getElem_cons_zero]); with_reducible exact hs1)) ?_)
                | (refine app_step (by rfl) _ _ _ _ (by rfl) (.slice d1 ops.length e1) (.slice (some ⟨wc.heap.size + 1, 0, none⟩) 1 1) (by rfl) (by rfl) (.slice d2 (ops.length + 1) e2) X2 (by ((try simp only [List.getElem_toArray, List.getElem_cons_succ, List.getElem_cons_zero]); with_reducible exact hs2)) ?_)
                | (refine app_step (by rfl) _ _ _ _ (by rfl) (.slice (some ⟨wc.heap.size + 1, 0, none⟩) 0 0) (.slice ao ops.length co) (by rfl) (by rfl) (.slice f1 ops.length i1) Y1 (by ((try simp only [List.getElem_toArray, List.getElem_cons_succ, List.getElem_cons_zero]); with_reducible exact ht1)) ?_)
                | (refine app_step (by rfl) _ _ _ _ (by rfl) (.slice f1 ops.length i1) (.slice (some ⟨wc.heap.size, 0, none⟩) 1 1) (by rfl) (by rfl) (.slice f2 (ops.length + 1) i2) Y2 (by ((try simp only [List.getElem_toArray, List.getElem_cons_succ, List.getElem_cons_zero]); with_reducible exact ht2)) ?_))
          refine hK.out _ _ (by ((try dsimp only) <;> (first | with_reducible exact hS0 | with_reducible exact hSa _ | with_reducible exact hSb _ _ | with_reducible exact hS1 | with_reducible exact hS2 _ | with_reducible exact hS3 | with_reducible exact hS4 | with_reducible exact hS5 | with_reducible exact hS6 | with_reducible exact hS7))) (fun hHeld => ?_)
          clear hK K
          (try simp only [Act.put, List.getElem_toArray, List.getElem_cons_succ, List.getElem_cons_zero, List.setIfInBounds_toArray, List.set_cons_zero, List.set_cons_succ])
          (refine wpAnyH_take (i := 7) (oi := _) (v := ?v86) rfl (by kernel_rfl) (by kernel_rfl) (by kernel_rfl) (fun _ _ _ h => h) (Or.inl ⟨by rfl, ?hy86⟩) (by assumption) ?rest86; (case hy86 => (first | (intro w hSw; (try dsimp only at hSw); go_simp; done) | (intro w hSw; (try dsimp only at hSw); go_simp; with_reducible rfl))); (try simp only [Act.put, List.getElem_toArray, List.getElem_cons_succ, List.getElem_cons_zero, List.setIfInBounds_toArray, List.set_cons_zero, List.set_cons_succ]))
          (refine wpAnyH_take (i := 8) (oi := _) (v := ?v87) rfl (by kernel_rfl) (by kernel_rfl) (by kernel_rfl) (fun _ _ _ h => h) (Or.inl ⟨by rfl, ?hy87⟩) (by assumption) ?rest87; (case hy87 => (first | (intro w hSw; (try dsimp only at hSw); go_simp; done) | (intro w hSw; (try dsimp only at hSw); go_simp; with_reducible rfl))); (try simp only [Act.put, List.getElem_toArray, List.getElem_cons_succ, List.getElem_cons_zero, List.setIfInBounds_toArray, List.set_cons_zero, List.set_cons_succ]))
          refine wpAnyH_done (by kernel_rfl) ?_ _
      case' way82x1 =>
        try simp only [List.getElem_toArray, List.getElem_cons_succ, List.getElem_cons_zero]
        go_simp
        refine hK.out _ _ (by ((try dsimp only) <;> (first | with_reducible exact hS0 | with_reducible exact hSa _ | with_reducible exact hSb _ _ | with_reducible exact hS1 | with_reducible exact hS2 _ | with_reducible exact hS3 | with_reducible exact hS4 | with_reducible exact hS5 | with_reducible exact hS6 | with_reducible exact hS7))) (fun hHeld => ?_)
        clear hK K
        (try simp only [Act.put, List.getElem_toArray, List.getElem_cons_succ, List.getElem_cons_zero, List.setIfInBounds_toArray, List.set_cons_zero, List.set_cons_succ])
        refine wpAnyH_ready (rs := [0]) (by kernel_rfl) (by simp) ?_
        refine AllReadyH.cons (o := _) rfl (fun K hK => ?_) AllReadyH.nil
        try simp only [List.getElem_toArray, List.getElem_cons_succ, List.getElem_cons_zero]
        go_simp
        refine hK.out _ _ (by ((try dsimp only) <;> (first | with_reducible exact hS0 | with_reducible exact hSa _ | with_reducible exact hSb _ _ | with_reducible exact hS1 | with_reducible exact hS2 _ | with_reducible exact hS3 | with_reducible exact hS4 | with_reducible exact hS5 | with_reducible exact hS6 | with_reducible exact hS7))) (fun hHeld => ?_)
        clear hK K
        (try simp only [Act.put, List.getElem_toArray, List.getElem_cons_succ, List.getElem_cons_zero, List.setIfInBounds_toArray, List.set_cons_zero, List.set_cons_succ])
        refine wpAnyH_ready (rs := [3]) (by kernel_rfl) (by simp) ?_
        refine AllReadyH.cons (o := _) rfl (fun K hK => ?_) AllReadyH.nil
        (first
              | (refine app_step (by rfl) _ _ _ _ (by rfl) (.slice (some ⟨wc.heap.size, 0, none⟩) 0 0) (.slice ao ops.length co) (by rfl) (by rfl) (.slice a1 ops.length c1) W1 (by ((try simp only [List.getElem_toArray, List.getElem_cons_succ, List.getElem_cons_zero]); with_reducible exact hr1)) ?_)
              | (refine app_step (by rfl) _ _ _ _ (by rfl) (.slice a1 ops.length c1) (.slice (some ⟨W1.heap.size, 0, none⟩) 1 1) (by rfl) (by rfl) (.slice a2 (ops.length + 1) c2) W2 (by ((try simp only [List.getElem_toArray, List.getElem_cons_succ, List.getElem_cons_zero]); with_reducible exact hr2)) ?_)
              | (refine app_step (by rfl) _ _ _ _ (by rfl) (.slice (some ⟨wc.heap.size, 0, none⟩) 0 0) (.slice ao ops.length co) (by rfl) (by rfl) (.slice d1 ops.length e1) X1 (by ((try simp only [List.getElem_toArray, List.getElem_cons_succ, List.getElem_cons_zero]); with_reducible exact hs1)) ?_)
              | (refine app_step (by rfl) _ _ _ _ (by rfl) (.slice d1 ops.length e1) (.slice (some ⟨wc.heap.size + 1, 0, none⟩) 1 1) (by rfl) (by rfl) (.slice d2 (ops.length + 1) e2) X2 (by ((try simp only [List.getElem_toArray, List.getElem_cons_succ, List.getElem_cons_zero]); with_reducible exact hs2)) ?_)
              | (refine app_step (by rfl) _ _ _ _ (by rfl) (.slice (some ⟨wc.heap.size + 1, 0, none⟩) 0 0) (.slice ao ops.length co) (by rfl) (by rfl) (.slice f1 ops.length i1) Y1 (by ((try simp only [List.getElem_toArray, List.getElem_cons_succ, List.getElem_cons_zero]); with_reducible exact ht1)) ?_)
              | (refine app_step (by rfl) _ _ _ _ (by rfl) (.slice f1 ops.length i1) (.slice (some ⟨wc.heap.size, 0, none⟩) 1 1) (by rfl) (by rfl) (.slice f2 (ops.length + 1) i2) Y2 (by ((try simp only [List.getElem_toArray, List.getElem_cons_succ, List.getElem_cons_zero]); with_reducible exact ht2)) ?_))
        refine hK.out _ _ (by ((try dsimp only) <;> (first | with_reducible exact hS0 | with_reducible exact hSa _ | with_reducible exact hSb _ _ | with_reducible exact hS1 | with_reducible exact hS2 _ | with_reducible exact hS3 | with_reducible exact hS4 | with_reducible exact hS5 | with_reducible exact hS6 | with_reducible exact hS7))) (fun hHeld => ?_)
        clear hK K
        (try simp only [Act.put, List.getElem_toArray, List.getElem_cons_succ, List.getElem_cons_zero, List.setIfInBounds_toArray, List.set_cons_zero, List.set_cons_succ])
        refine wpAnyH_ready (rs := [6]) (by kernel_rfl) (by simp) ?_
        refine AllReadyH.cons (o := _) rfl (fun K hK => ?_) AllReadyH.nil
        (first
              | (refine app_step (by rfl) _ _ _ _ (by rfl) (.slice (some ⟨wc.heap.size, 0, none⟩) 0 0) (.slice ao ops.length co) (by rfl) (by rfl) (.slice a1 ops.length c1) W1 (by ((try simp only [List.getElem_toArray, List.getElem_cons_succ, List.getElem_cons_zero]); with_reducible exact hr1)) ?_)
              | (refine app_step (by rfl) _ _ _ _ (by rfl) (.slice a1 ops.length c1) (.slice (some ⟨W1.heap.size, 0, none⟩) 1 1) (by rfl) (by rfl) (.slice a2 (ops.length + 1) c2) W2 (by ((try simp only [List.getElem_toArray, List.getElem_cons_succ, List.getElem_cons_zero]); with_reducible exact hr2)) ?_)
              | (refine app_step (by rfl) _ _ _ _ (by rfl) (.slice (some ⟨wc.heap.size, 0, none⟩) 0 0) (.slice ao ops.length co) (by rfl) (by rfl) (.slice d1 ops.length e1) X1 (by ((try simp only [List.getElem_toArray, List.getElem_cons_succ, List.getElem_cons_zero]); with_reducible exact hs1)) ?_)
              | (refine app_step (by rfl) _ _ _ _ (by rfl) (.slice d1 ops.length e1) (.slice (some ⟨wc.heap.size + 1, 0, none⟩) 1 1) (by rfl) (by rfl) (.slice d2 (ops.length + 1) e2) X2 (by ((try simp only [List.getElem_toArray, List.getElem_cons_succ, List.getElem_cons_zero]); with_reducible exact hs2)) ?_)
              | (refine app_step (by rfl) _ _ _ _ (by rfl) (.slice (some ⟨wc.heap.size + 1, 0, none⟩) 0 0) (.slice ao ops.length co) (by rfl) (by rfl) (.slice f1 ops.length i1) Y1 (by ((try simp only [List.getElem_toArray, List.getElem_cons_succ, List.getElem_cons_zero]); with_reducible exact ht1)) ?_)
              | (refine app_step (by rfl) _ _ _ _ (by rfl) (.slice f1 ops.length i1) (.slice (some ⟨wc.heap.size, 0, none⟩) 1 1) (by rfl) (by rfl) (.slice f2 (ops.length + 1) i2) Y2 (by ((try simp only [List.getElem_toArray, List.getElem_cons_succ, List.getElem_cons_zero]); with_reducible exact ht2)) ?_))
        refine hK.out _ _ (by ((try dsimp only) <;> (first | with_reducible exact hS0 | with_reducible exact hSa _ | with_reducible exact hSb _ _ | with_reducible exact hS1 | with_reducible exact hS2 _ | with_reducible exact hS3 | with_reducible exact hS4 | with_reducible exact hS5 | with_reducible exact hS6 | with_reducible exact hS7))) (fun hHeld => ?_)
        clear hK K
        (try simp only [Act.put, List.getElem_toArray, List.getElem_cons_succ, List.getElem_cons_zero, List.setIfInBounds_toArray, List.set_cons_zero, List.set_cons_succ])
        (refine wpAnyH_take (i := 7) (oi := _) (v := ?v88) rfl (by kernel_rfl) (by kernel_rfl) (by kernel_rfl) (fun _ _ _ h => h) (Or.inl ⟨by rfl, ?hy88⟩) (by assumption) ?rest88; (case hy88 => (first | (intro w hSw; (try dsimp only at hSw); go_simp; done) | (intro w hSw; (try dsimp only at hSw); go_simp; with_reducible rfl))); (try simp only [Act.put, List.getElem_toArray, List.getElem_cons_succ, List.getElem_cons_zero, List.setIfInBounds_toArray, List.set_cons_zero, List.set_cons_succ]))
        (refine wpAnyH_take (i := 8) (oi := _) (v := ?v89) rfl (by kernel_rfl) (by kernel_rfl) (by kernel_rfl) (fun _ _ _ h => h) (Or.inl ⟨by rfl, ?hy89⟩) (by assumption) ?rest89; (case hy89 => (first | (intro w hSw; (try dsimp only at hSw); go_simp; done) | (intro w hSw; (try dsimp only at hSw); go_simp; with_reducible rfl))); (try simp only [Act.put, List.getElem_toArray, List.getElem_cons_succ, List.getElem_cons_zero, List.setIfInBounds_toArray, List.set_cons_zero, List.set_cons_succ]))
        refine wpAnyH_done (by kernel_rfl) ?_ _
      all_goals
        simp only [muteQ]
        clear hr1 hr2 hs1 hs2 ht1 ht2
        go_wp2_with fail
        go_meet
      · exact ⟨f2, i2, HY2.out.list _, lm_of_own opw_len (by decide) (own_kept HO2c.out (set1_grown Y2 w.heap.size 1 _) (fun k hk e => own_not HO2c.out HY2.out.bp (by decide) (hk.trans e.symm))) (by simp; omega)⟩
      · exact ⟨d2, e2, HX2.out.list _, lm_of_own opw_len (by decide) (own_kept HO2b.out (set1_grown X2 w.heap.size 1 _) (fun k hk e => own_not HO2b.out HX2.out.bp (by decide) (hk.trans e.symm))) (by simp; omega)⟩
      · exact ⟨a2, c2, HW2.out.list _, lm_of_own opw_len (by decide) (own_kept HO2a.out (set1_grown W2 w.heap.size 1 _) (fun k hk e => own_not HO2a.out HW2.out.bp (by decide) (hk.trans e.symm))) (by simp; omega)⟩
    case rest =>
      obtain ⟨a2, c2, hSe2, hLm2⟩ := hcut
      have HS2 := hide hSe2
      have HL2 := hide hLm2
      clear hSe2 hLm2 HSe HLm
      have HOp := hide (fun W => dOp od ((n : Int) + (ops.length : Int)) W)
      unfold opv at HOp
      go_upto_region 17 with fail
      have HS : Hid (∀ W', Below wc.heap.size wc W' → (W'.cell? ⟨w.heap.size, 0, none⟩ = some (.int .i64 (n : Int)) ∧ W'.cell? ⟨w.heap.size, 1, none⟩ = some (.slice a2 (ops.length + 1) c2) ∧ W'.cell? ⟨w.heap.size, 2, none⟩ = some (.slice au nu cu)) ∧ (W'.cell? ⟨g, 0, none⟩ = some (.int .u8 od.k) ∧ W'.cell? ⟨g, 1, none⟩ = some (.int .i64 od.a) ∧ W'.cell? ⟨g, 2, none⟩ = some (.int .i64 od.b) ∧ W'.cell? ⟨g, 3, none⟩ = some (.int .u64 od.c))) := fun W' hb => ⟨cell3 (HS2.out.below hb).bp, cell4 (HS2.out.below hb).bo⟩
      have HSw : Hid (∀ W', Below wc.heap.size wc W' → (W'.cell? ⟨w.heap.size + 1, 0, none⟩ = some (.int .u8 0) ∧ W'.cell? ⟨w.heap.size + 1, 1, none⟩ = some (.int .i64 0) ∧ W'.cell? ⟨w.heap.size + 1, 2, none⟩ = some (.int .i64 0) ∧ W'.cell? ⟨w.heap.size + 1, 3, none⟩ = some (.int .u64 0)) ∧ ∀ k, W'.frozen? ⟨w.heap.size + 1, k, none⟩ = false) := fun W' hb => ⟨cell4 (HS2.out.below hb).br, fun k => Lib.frozen_of_heap (HS2.out.below hb).br k⟩
      have HSs : Hid (∀ W', Below wc.heap.size wc W' → ((set4 W' (w.heap.size + 1) 0 od).cell? ⟨w.heap.size, 0, none⟩ = some (.int .i64 (n : Int)) ∧ (set4 W' (w.heap.size + 1) 0 od).cell? ⟨w.heap.size, 1, none⟩ = some (.slice a2 (ops.length + 1) c2) ∧ (set4 W' (w.heap.size + 1) 0 od).cell? ⟨w.heap.size, 2, none⟩ = some (.slice au nu cu)) ∧ ((set4 W' (w.heap.size + 1) 0 od).cell? ⟨g, 0, none⟩ = some (.int .u8 od.k) ∧ (set4 W' (w.heap.size + 1) 0 od).cell? ⟨g, 1, none⟩ = some (.int .i64 od.a) ∧ (set4 W' (w.heap.size + 1) 0 od).cell? ⟨g, 2, none⟩ = some (.int .i64 od.b) ∧ (set4 W' (w.heap.size + 1) 0 od).cell? ⟨g, 3, none⟩ = some (.int .u64 od.c))) := fun W' hb => by
        have h2 := HS2.out.below hb
        have hs := set4_grown W' (w.heap.size + 1) 0 od
        have hg := h2.hg
        exact ⟨cell3 ((hs.block _ (Array.getElem?_eq_some_iff.1 h2.bp).1 (fun e => by have := Option.some.inj e; omega)).trans h2.bp), cell4 ((hs.block _ (Array.getElem?_eq_some_iff.1 h2.bo).1 (fun e => by have := Option.some.inj e; omega)).trans h2.bo)⟩
      have HEnd : Hid (∀ W', Below wc.heap.size wc W' → (loadVar 47 ⟨w.heap.size + 1, 0, none⟩).run Tryd.prog (set4 W' (w.heap.size + 1) 0 od) = .ok (.agg #[.int .u8 od.k, .int .i64 od.a, .int .i64 od.b, .int .u64 od.c]) (set4 W' (w.heap.size + 1) 0 od) ∧ Below w.heap.size w (set4 W' (w.heap.size + 1) 0 od)) := fun W' hb => by
        have h2 := HS2.out.below hb
        exact ⟨load_opv (set_blk (set_blk (set_blk (set_blk h2.br 0 _) 1 _) 2 _) 3 _), h2.bl.grown (set4_grown W' (w.heap.size + 1) 0 od) h2.bl.size (fun k e => by cases e; omega)⟩
      unfold set4 at HSs HEnd
      have hS0 := HS.out wc.drew (Below.refl _ wc).drew
      rw [HD2.out, Bool.true_and] at HO2
      cases hop : opM od ((n : Int) + (ops.length : Int)) with
      | false =>
        rw [hop] at HOp
        have HBd : Hid (bd = false) := by show _ = _; rw [HO2.out, hop, Bool.false_and]
        clear hop
        refine wp_region_held_drew (S := (fun W' => (W'.cell? ⟨w.heap.size, 0, none⟩ = some (.int .i64 (n : Int)) ∧ W'.cell? ⟨w.heap.size, 1, none⟩ = some (.slice a2 (ops.length + 1) c2) ∧ W'.cell? ⟨w.heap.size, 2, none⟩ = some (.slice au nu cu)) ∧ (W'.cell? ⟨g, 0, none⟩ = some (.int .u8 od.k) ∧ W'.cell? ⟨g, 1, none⟩ = some (.int .i64 od.a) ∧ W'.cell? ⟨g, 2, none⟩ = some (.int .i64 od.b) ∧ W'.cell? ⟨g, 3, none⟩ = some (.int .u64 od.c)))) (by kernel_rfl) (by ((try dsimp only) <;> (first | with_reducible exact hS0 | with_reducible exact hS3 | with_reducible exact hS4 | with_reducible exact hS5 | with_reducible exact hS6))) (fun hHeld => ?_)
        (refine wpAnyH_take (i := 0) (oi := _) (v := ?v90) rfl (by kernel_rfl) (by kernel_rfl) (by kernel_rfl) (fun _ _ _ h => h) (Or.inl ⟨by rfl, ?hy90⟩) (by assumption) ?rest90; (case hy90 => (first | (intro w hSw; (try dsimp only at hSw); go_simp; done) | (intro w hSw; (try dsimp only at hSw); go_simp; with_reducible rfl))); (try simp only [Act.put, List.getElem_toArray, List.getElem_cons_succ, List.getElem_cons_zero, List.setIfInBounds_toArray, List.set_cons_zero, List.set_cons_succ]))
        (refine wpAnyH_take (i := 1) (oi := _) (v := ?v91) rfl (by kernel_rfl) (by kernel_rfl) (by kernel_rfl) (fun _ _ _ h => h) (Or.inl ⟨by rfl, ?hy91⟩) (by assumption) ?rest91; (case hy91 => (first | (intro w hSw; (try dsimp only at hSw); go_simp; done) | (intro w hSw; (try dsimp only at hSw); go_simp; with_reducible rfl))); (try simp only [Act.put, List.getElem_toArray, List.getElem_cons_succ, List.getElem_cons_zero, List.setIfInBounds_toArray, List.set_cons_zero, List.set_cons_succ]))
        (refine wpAnyH_take (i := 2) (oi := _) (v := ?v92) rfl (by kernel_rfl) (by kernel_rfl) (by kernel_rfl) (fun _ _ _ h => h) (Or.inl ⟨by rfl, ?hy92⟩) (by assumption) ?rest92; (case hy92 => (first | (intro w hSw; (try dsimp only at hSw); go_simp; done) | (intro w hSw; (try dsimp only at hSw); go_simp; with_reducible rfl))); (try simp only [Act.put, List.getElem_toArray, List.getElem_cons_succ, List.getElem_cons_zero, List.setIfInBounds_toArray, List.set_cons_zero, List.set_cons_succ]))
        refine wpAnyH_ready (rs := [3]) (by kernel_rfl) (by simp) ?_
        refine AllReadyH.cons (o := _) rfl (fun K hK => ?_) AllReadyH.nil
        try simp only [List.getElem_toArray, List.getElem_cons_succ, List.getElem_cons_zero]
        go_simp
        (first
              | (go_at_call 23; with_reducible refine Calls.mono (HOp.out _) ?_; rintro e w3 ⟨rfl, hb3⟩; have hB3 := Below.next (Below.refl wc.heap.size wc).drew hb3; have hS3 := HS.out w3 hB3; have hW3 := HSw.out w3 hB3; have hS4 := HSs.out w3 hB3; have HE4 := hide (HEnd.out w3 hB3)))
        first | (refine hK.out _ _ (by ((try dsimp only) <;> (first | with_reducible exact hS0 | with_reducible exact hS3 | with_reducible exact hS4 | with_reducible exact hS5 | with_reducible exact hS6))) (fun hHeld => ?_)) | (go_wp2_with fail; refine hK.out _ _ (by ((try dsimp only) <;> (first | with_reducible exact hS0 | with_reducible exact hS3 | with_reducible exact hS4 | with_reducible exact hS5 | with_reducible exact hS6))) (fun hHeld => ?_))
        clear hK K
        (try simp only [Act.put, List.getElem_toArray, List.getElem_cons_succ, List.getElem_cons_zero, List.setIfInBounds_toArray, List.set_cons_zero, List.set_cons_succ])
        (refine wpAnyH_take (i := 4) (oi := _) (v := ?v93) rfl (by kernel_rfl) (by kernel_rfl) (by kernel_rfl) (fun _ _ _ h => h) (Or.inl ⟨by rfl, ?hy93⟩) (by assumption) ?rest93; (case hy93 => (first | (intro w hSw; (try dsimp only at hSw); go_simp; done) | (intro w hSw; (try dsimp only at hSw); go_simp; with_reducible rfl))); (try simp only [Act.put, List.getElem_toArray, List.getElem_cons_succ, List.getElem_cons_zero, List.setIfInBounds_toArray, List.set_cons_zero, List.set_cons_succ]))
        (refine wpAnyH_take (i := 5) (oi := _) (v := undef) rfl (by kernel_rfl) (by kernel_rfl) (by kernel_rfl) (fun _ _ _ h => h) (Or.inr ⟨by rfl, by rfl⟩) (by assumption) ?_; (try simp only [Act.put, List.getElem_toArray, List.getElem_cons_succ, List.getElem_cons_zero, List.setIfInBounds_toArray, List.set_cons_zero, List.set_cons_succ]))
        (refine wpAnyH_take (i := 6) (oi := _) (v := undef) rfl (by kernel_rfl) (by kernel_rfl) (by kernel_rfl) (fun _ _ _ h => h) (Or.inr ⟨by rfl, by rfl⟩) (by assumption) ?_; (try simp only [Act.put, List.getElem_toArray, List.getElem_cons_succ, List.getElem_cons_zero, List.setIfInBounds_toArray, List.set_cons_zero, List.set_cons_succ]))
        (refine wpAnyH_take (i := 7) (oi := _) (v := undef) rfl (by kernel_rfl) (by kernel_rfl) (by kernel_rfl) (fun _ _ _ h => h) (Or.inr ⟨by rfl, by rfl⟩) (by assumption) ?_; (try simp only [Act.put, List.getElem_toArray, List.getElem_cons_succ, List.getElem_cons_zero, List.setIfInBounds_toArray, List.set_cons_zero, List.set_cons_succ]))
        (refine wpAnyH_take (i := 8) (oi := _) (v := undef) rfl (by kernel_rfl) (by kernel_rfl) (by kernel_rfl) (fun _ _ _ h => h) (Or.inr ⟨by rfl, by rfl⟩) (by assumption) ?_; (try simp only [Act.put, List.getElem_toArray, List.getElem_cons_succ, List.getElem_cons_zero, List.setIfInBounds_toArray, List.set_cons_zero, List.set_cons_succ]))
        (refine wpAnyH_take (i := 9) (oi := _) (v := ?v98) rfl (by kernel_rfl) (by kernel_rfl) (by kernel_rfl) (fun _ _ _ h => h) (Or.inl ⟨by rfl, ?hy98⟩) (by assumption) ?rest98; (case hy98 => (first | (intro w hSw; (try dsimp only at hSw); go_simp; done) | (intro w hSw; (try dsimp only at hSw); go_simp; with_reducible rfl))); (try simp only [Act.put, List.getElem_toArray, List.getElem_cons_succ, List.getElem_cons_zero, List.setIfInBounds_toArray, List.set_cons_zero, List.set_cons_succ]))
        (refine wpAnyH_take (i := 10) (oi := _) (v := ?v99) rfl (by kernel_rfl) (by kernel_rfl) (by kernel_rfl) (fun _ _ _ h => h) (Or.inl ⟨by rfl, ?hy99⟩) (by assumption) ?rest99; (case hy99 => (first | (intro w hSw; (try dsimp only at hSw); go_simp; done) | (intro w hSw; (try dsimp only at hSw); go_simp; with_reducible rfl))); (try simp only [Act.put, List.getElem_toArray, List.getElem_cons_succ, List.getElem_cons_zero, List.setIfInBounds_toArray, List.set_cons_zero, List.set_cons_succ]))
        (refine wpAnyH_take (i := 11) (oi := _) (v := undef) rfl (by kernel_rfl) (by kernel_rfl) (by kernel_rfl) (fun _ _ _ h => h) (Or.inr ⟨by rfl, by rfl⟩) (by assumption) ?_; (try simp only [Act.put, List.getElem_toArray, List.getElem_cons_succ, List.getElem_cons_zero, List.setIfInBounds_toArray, List.set_cons_zero, List.set_cons_succ]))
        (refine wpAnyH_take (i := 12) (oi := _) (v := undef) rfl (by kernel_rfl) (by kernel_rfl) (by kernel_rfl) (fun _ _ _ h => h) (Or.inr ⟨by rfl, by rfl⟩) (by assumption) ?_; (try simp only [Act.put, List.getElem_toArray, List.getElem_cons_succ, List.getElem_cons_zero, List.setIfInBounds_toArray, List.set_cons_zero, List.set_cons_succ]))
        (refine wpAnyH_take (i := 13) (oi := _) (v := undef) rfl (by kernel_rfl) (by kernel_rfl) (by kernel_rfl) (fun _ _ _ h => h) (Or.inr ⟨by rfl, by rfl⟩) (by assumption) ?_; (try simp only [Act.put, List.getElem_toArray, List.getElem_cons_succ, List.getElem_cons_zero, List.setIfInBounds_toArray, List.set_cons_zero, List.set_cons_succ]))
        (refine wpAnyH_take (i := 14) (oi := _) (v := undef) rfl (by kernel_rfl) (by kernel_rfl) (by kernel_rfl) (fun _ _ _ h => h) (Or.inr ⟨by rfl, by rfl⟩) (by assumption) ?_; (try simp only [Act.put, List.getElem_toArray, List.getElem_cons_succ, List.getElem_cons_zero, List.setIfInBounds_toArray, List.set_cons_zero, List.set_cons_succ]))
        (refine wpAnyH_take (i := 15) (oi := _) (v := undef) rfl (by kernel_rfl) (by kernel_rfl) (by kernel_rfl) (fun _ _ _ h => h) (Or.inr ⟨by rfl, by rfl⟩) (by assumption) ?_; (try simp only [Act.put, List.getElem_toArray, List.getElem_cons_succ, List.getElem_cons_zero, List.setIfInBounds_toArray, List.set_cons_zero, List.set_cons_succ]))
        (refine wpAnyH_take (i := 16) (oi := _) (v := undef) rfl (by kernel_rfl) (by kernel_rfl) (by kernel_rfl) (fun _ _ _ h => h) (Or.inr ⟨by rfl, by rfl⟩) (by assumption) ?_; (try simp only [Act.put, List.getElem_toArray, List.getElem_cons_succ, List.getElem_cons_zero, List.setIfInBounds_toArray, List.set_cons_zero, List.set_cons_succ]))
        (refine wpAnyH_take (i := 17) (oi := _) (v := undef) rfl (by kernel_rfl) (by kernel_rfl) (by kernel_rfl) (fun _ _ _ h => h) (Or.inr ⟨by rfl, by rfl⟩) (by assumption) ?_; (try simp only [Act.put, List.getElem_toArray, List.getElem_cons_succ, List.getElem_cons_zero, List.setIfInBounds_toArray, List.set_cons_zero, List.set_cons_succ]))
        (refine wpAnyH_take (i := 18) (oi := _) (v := undef) rfl (by kernel_rfl) (by kernel_rfl) (by kernel_rfl) (fun _ _ _ h => h) (Or.inr ⟨by rfl, by rfl⟩) (by assumption) ?_; (try simp only [Act.put, List.getElem_toArray, List.getElem_cons_succ, List.getElem_cons_zero, List.setIfInBounds_toArray, List.set_cons_zero, List.set_cons_succ]))
        (refine wpAnyH_take (i := 19) (oi := _) (v := ?v108) rfl (by kernel_rfl) (by kernel_rfl) (by kernel_rfl) (fun _ _ _ h => h) (Or.inl ⟨by rfl, ?hy108⟩) (by assumption) ?rest108; (case hy108 => (first | (intro w hSw; (try dsimp only at hSw); go_simp; done) | (intro w hSw; (try dsimp only at hSw); go_simp; with_reducible rfl))); (try simp only [Act.put, List.getElem_toArray, List.getElem_cons_succ, List.getElem_cons_zero, List.setIfInBounds_toArray, List.set_cons_zero, List.set_cons_succ]))
        refine wpAnyH_ready (rs := [20]) (by kernel_rfl) (by simp) ?_
        refine AllReadyH.cons (o := _) rfl (fun K hK => ?_) AllReadyH.nil
        try simp only [List.getElem_toArray, List.getElem_cons_succ, List.getElem_cons_zero]
        go_simp
        refine hK.out _ _ (by ((try dsimp only) <;> (first | with_reducible exact hS0 | with_reducible exact hS3 | with_reducible exact hS4 | with_reducible exact hS5 | with_reducible exact hS6))) (fun hHeld => ?_)
        clear hK K
        (try simp only [Act.put, List.getElem_toArray, List.getElem_cons_succ, List.getElem_cons_zero, List.setIfInBounds_toArray, List.set_cons_zero, List.set_cons_succ])
        (refine wpAnyH_take (i := 21) (oi := _) (v := ?v109) rfl (by kernel_rfl) (by kernel_rfl) (by kernel_rfl) (fun _ _ _ h => h) (Or.inl ⟨by rfl, ?hy109⟩) (by assumption) ?rest109; (case hy109 => (first | (intro w hSw; (try dsimp only at hSw); go_simp; done) | (intro w hSw; (try dsimp only at hSw); go_simp; with_reducible rfl))); (try simp only [Act.put, List.getElem_toArray, List.getElem_cons_succ, List.getElem_cons_zero, List.setIfInBounds_toArray, List.set_cons_zero, List.set_cons_succ]))
        refine wpAnyH_done (by kernel_rfl) ?_ _
        go_wp2_with fail
        refine bodyPost_ret (res_ct (a := 4) (b := 5) rfl rfl rfl HE4.out.1) rfl ⟨?_, HE4.out.2⟩
        rw [HBd.out]; rfl
      | true =>
        rw [hop] at HOp
        rw [hop, Bool.true_and] at HO2
        by_cases h256 : ops.length + 1 ≤ 256
        · have hF : Fit od := by
            have hc := HOk.out.2
            unfold opM at hop
            by_cases hk : od.k = 1 ∨ od.k = 2 ∨ od.k = 3
            · rw [if_pos hk, decide_eq_true_iff] at hop
              exact .inr ⟨hk, ⟨hop.1, by omega⟩, hop.2.2.1, by omega⟩
            · rw [if_neg hk] at hop
              by_cases h4 : od.k = 4
              · exact .inl ⟨h4, hc⟩
              · rw [if_neg h4] at hop; cases hop
          have hget : (ops ++ [od])[ops.length]'(by simp) = od := by simp
          have HLn : Hid (∀ W (hb : Below wc.heap.size wc W), Calls Tryd.prog 33 #[.agg #[.int .i64 (n : Int), .slice a2 (ops.length + 1) c2, .slice au nu cu], .int .i64 (ops.length : Int)] W fun e w' => e = .returned (tx (stpT n ops.length od)) ∧ Below W.heap.size W w') := fun W hb => by
            have := dLine W (n : Int) _ au nu cu (ops ++ [od]) ops.length (HL2.out.below hb) (by simp) (by omega) (by rw [hget]; exact hF) (HTb.out W (Below.next HS2.out.bl hb))
            rw [hget] at this; exact this
          have hle : ((ops.length : Int) + 1 ≤ 256) := by omega
          have hw1 : IntKind.i64.wrap (ops.length : Int) = (ops.length : Int) := by rw [IntKind.wrap_i64]; omega
          rw [decide_eq_true h256, Bool.true_and] at HO2
          clear hop hget hF h256
          by_cases he : stpT n ops.length od = l
          · have g1 := tx_guard2 (stpT n ops.length od) l
            have g2 := tx_same he
            have HBd : Hid (bd = true) := by show _ = _; rw [HO2.out, decide_eq_true he]
            clear he
            generalize stpT (n : Int) ops.length od = tl at *
            refine wp_region_held_drew (S := (fun W' => (W'.cell? ⟨w.heap.size, 0, none⟩ = some (.int .i64 (n : Int)) ∧ W'.cell? ⟨w.heap.size, 1, none⟩ = some (.slice a2 (ops.length + 1) c2) ∧ W'.cell? ⟨w.heap.size, 2, none⟩ = some (.slice au nu cu)) ∧ (W'.cell? ⟨g, 0, none⟩ = some (.int .u8 od.k) ∧ W'.cell? ⟨g, 1, none⟩ = some (.int .i64 od.a) ∧ W'.cell? ⟨g, 2, none⟩ = some (.int .i64 od.b) ∧ W'.cell? ⟨g, 3, none⟩ = some (.int .u64 od.c)))) (by kernel_rfl) (by ((try dsimp only) <;> (first | with_reducible exact hS0 | with_reducible exact hS3 | with_reducible exact hS4 | with_reducible exact hS5 | with_reducible exact hS6))) (fun hHeld => ?_)
            (refine wpAnyH_take (i := 0) (oi := _) (v := ?v110) rfl (by kernel_rfl) (by kernel_rfl) (by kernel_rfl) (fun _ _ _ h => h) (Or.inl ⟨by rfl, ?hy110⟩) (by assumption) ?rest110; (case hy110 => (first | (intro w hSw; (try dsimp only at hSw); go_simp; done) | (intro w hSw; (try dsimp only at hSw); go_simp; with_reducible rfl))); (try simp only [Act.put, List.getElem_toArray, List.getElem_cons_succ, List.getElem_cons_zero, List.setIfInBounds_toArray, List.set_cons_zero, List.set_cons_succ]))
            (refine wpAnyH_take (i := 1) (oi := _) (v := ?v111) rfl (by kernel_rfl) (by kernel_rfl) (by kernel_rfl) (fun _ _ _ h => h) (Or.inl ⟨by rfl, ?hy111⟩) (by assumption) ?rest111; (case hy111 => (first | (intro w hSw; (try dsimp only at hSw); go_simp; done) | (intro w hSw; (try dsimp only at hSw); go_simp; with_reducible rfl))); (try simp only [Act.put, List.getElem_toArray, List.getElem_cons_succ, List.getElem_cons_zero, List.setIfInBounds_toArray, List.set_cons_zero, List.set_cons_succ]))
            (refine wpAnyH_take (i := 2) (oi := _) (v := ?v112) rfl (by kernel_rfl) (by kernel_rfl) (by kernel_rfl) (fun _ _ _ h => h) (Or.inl ⟨by rfl, ?hy112⟩) (by assumption) ?rest112; (case hy112 => (first | (intro w hSw; (try dsimp only at hSw); go_simp; done) | (intro w hSw; (try dsimp only at hSw); go_simp; with_reducible rfl))); (try simp only [Act.put, List.getElem_toArray, List.getElem_cons_succ, List.getElem_cons_zero, List.setIfInBounds_toArray, List.set_cons_zero, List.set_cons_succ]))
            refine wpAnyH_ready (rs := [3]) (by kernel_rfl) (by simp) ?_
            refine AllReadyH.cons (o := _) rfl (fun K hK => ?_) AllReadyH.nil
            try simp only [List.getElem_toArray, List.getElem_cons_succ, List.getElem_cons_zero]
            go_simp
            (first
                  | (go_at_call 23; with_reducible refine Calls.mono (HOp.out _) ?_; rintro e w3 ⟨rfl, hb3⟩; have hB3 := Below.next (Below.refl wc.heap.size wc).drew hb3; have hS3 := HS.out w3 hB3; have hW3 := HSw.out w3 hB3; have hS4 := HSs.out w3 hB3; have HE4 := hide (HEnd.out w3 hB3))
                  | (go_at_call 33; with_reducible refine Calls.mono (HLn.out w3 hB3) ?_; rintro e w5 ⟨rfl, hb5⟩; have hB5 := Below.next hB3 hb5; have hS5 := HS.out w5 hB5; have hW5 := HSw.out w5 hB5; have hS6 := HSs.out w5 hB5; have HE6 := hide (HEnd.out w5 hB5)))
            first | (refine hK.out _ _ (by ((try dsimp only) <;> (first | with_reducible exact hS0 | with_reducible exact hS3 | with_reducible exact hS4 | with_reducible exact hS5 | with_reducible exact hS6))) (fun hHeld => ?_)) | (go_wp2_with fail; refine hK.out _ _ (by ((try dsimp only) <;> (first | with_reducible exact hS0 | with_reducible exact hS3 | with_reducible exact hS4 | with_reducible exact hS5 | with_reducible exact hS6))) (fun hHeld => ?_))
            clear hK K
            (try simp only [Act.put, List.getElem_toArray, List.getElem_cons_succ, List.getElem_cons_zero, List.setIfInBounds_toArray, List.set_cons_zero, List.set_cons_succ])
            (refine wpAnyH_take (i := 4) (oi := _) (v := ?v113) rfl (by kernel_rfl) (by kernel_rfl) (by kernel_rfl) (fun _ _ _ h => h) (Or.inl ⟨by rfl, ?hy113⟩) (by assumption) ?rest113; (case hy113 => (first | (intro w hSw; (try dsimp only at hSw); go_simp; done) | (intro w hSw; (try dsimp only at hSw); go_simp; with_reducible rfl))); (try simp only [Act.put, List.getElem_toArray, List.getElem_cons_succ, List.getElem_cons_zero, List.setIfInBounds_toArray, List.set_cons_zero, List.set_cons_succ]))
            (refine wpAnyH_take (i := 5) (oi := _) (v := ?v114) rfl (by kernel_rfl) (by kernel_rfl) (by kernel_rfl) (fun _ _ _ h => h) (Or.inl ⟨by rfl, ?hy114⟩) (by assumption) ?rest114; (case hy114 => (first | (intro w hSw; (try dsimp only at hSw); go_simp; done) | (intro w hSw; (try dsimp only at hSw); go_simp; with_reducible rfl))); (try simp only [Act.put, List.getElem_toArray, List.getElem_cons_succ, List.getElem_cons_zero, List.setIfInBounds_toArray, List.set_cons_zero, List.set_cons_succ]))
            (refine wpAnyH_take (i := 6) (oi := _) (v := ?v115) rfl (by kernel_rfl) (by kernel_rfl) (by kernel_rfl) (fun _ _ _ h => h) (Or.inl ⟨by rfl, ?hy115⟩) (by assumption) ?rest115; (case hy115 => (first | (intro w hSw; (try dsimp only at hSw); go_simp; done) | (intro w hSw; (try dsimp only at hSw); go_simp; with_reducible rfl))); (try simp only [Act.put, List.getElem_toArray, List.getElem_cons_succ, List.getElem_cons_zero, List.setIfInBounds_toArray, List.set_cons_zero, List.set_cons_succ]))
            (refine wpAnyH_take (i := 7) (oi := _) (v := ?v116) rfl (by kernel_rfl) (by kernel_rfl) (by kernel_rfl) (fun _ _ _ h => h) (Or.inl ⟨by rfl, ?hy116⟩) (by assumption) ?rest116; (case hy116 => (first | (intro w hSw; (try dsimp only at hSw); go_simp; done) | (intro w hSw; (try dsimp only at hSw); go_simp; with_reducible rfl))); (try simp only [Act.put, List.getElem_toArray, List.getElem_cons_succ, List.getElem_cons_zero, List.setIfInBounds_toArray, List.set_cons_zero, List.set_cons_succ]))
            (refine wpAnyH_take (i := 8) (oi := _) (v := ?v117) rfl (by kernel_rfl) (by kernel_rfl) (by kernel_rfl) (fun _ _ _ h => h) (Or.inl ⟨by rfl, ?hy117⟩) (by assumption) ?rest117; (case hy117 => (first | (intro w hSw; (try dsimp only at hSw); go_simp; done) | (intro w hSw; (try dsimp only at hSw); go_simp; with_reducible rfl))); (try simp only [Act.put, List.getElem_toArray, List.getElem_cons_succ, List.getElem_cons_zero, List.setIfInBounds_toArray, List.set_cons_zero, List.set_cons_succ]))
            (refine wpAnyH_take (i := 9) (oi := _) (v := ?v118) rfl (by kernel_rfl) (by kernel_rfl) (by kernel_rfl) (fun _ _ _ h => h) (Or.inl ⟨by rfl, ?hy118⟩) (by assumption) ?rest118; (case hy118 => (first | (intro w hSw; (try dsimp only at hSw); go_simp; done) | (intro w hSw; (try dsimp only at hSw); go_simp; with_reducible rfl))); (try simp only [Act.put, List.getElem_toArray, List.getElem_cons_succ, List.getElem_cons_zero, List.setIfInBounds_toArray, List.set_cons_zero, List.set_cons_succ]))
            (refine wpAnyH_take (i := 10) (oi := _) (v := ?v119) rfl (by kernel_rfl) (by kernel_rfl) (by kernel_rfl) (fun _ _ _ h => h) (Or.inl ⟨by rfl, ?hy119⟩) (by assumption) ?rest119; (case hy119 => (first | (intro w hSw; (try dsimp only at hSw); go_simp; done) | (intro w hSw; (try dsimp only at hSw); go_simp; with_reducible rfl))); (try simp only [Act.put, List.getElem_toArray, List.getElem_cons_succ, List.getElem_cons_zero, List.setIfInBounds_toArray, List.set_cons_zero, List.set_cons_succ]))
            (refine wpAnyH_take (i := 11) (oi := _) (v := ?v120) rfl (by kernel_rfl) (by kernel_rfl) (by kernel_rfl) (fun _ _ _ h => h) (Or.inl ⟨by rfl, ?hy120⟩) (by assumption) ?rest120; (case hy120 => (first | (intro w hSw; (try dsimp only at hSw); go_simp; done) | (intro w hSw; (try dsimp only at hSw); go_simp; with_reducible rfl))); (try simp only [Act.put, List.getElem_toArray, List.getElem_cons_succ, List.getElem_cons_zero, List.setIfInBounds_toArray, List.set_cons_zero, List.set_cons_succ]))
            (refine wpAnyH_take (i := 12) (oi := _) (v := ?v121) rfl (by kernel_rfl) (by kernel_rfl) (by kernel_rfl) (fun _ _ _ h => h) (Or.inl ⟨by rfl, ?hy121⟩) (by assumption) ?rest121; (case hy121 => (first | (intro w hSw; (try dsimp only at hSw); go_simp; done) | (intro w hSw; (try dsimp only at hSw); go_simp; with_reducible rfl))); (try simp only [Act.put, List.getElem_toArray, List.getElem_cons_succ, List.getElem_cons_zero, List.setIfInBounds_toArray, List.set_cons_zero, List.set_cons_succ]))
            (refine wpAnyH_take (i := 13) (oi := _) (v := ?v122) rfl (by kernel_rfl) (by kernel_rfl) (by kernel_rfl) (fun _ _ _ h => h) (Or.inl ⟨by rfl, ?hy122⟩) (by assumption) ?rest122; (case hy122 => (first | (intro w hSw; (try dsimp only at hSw); go_simp; done) | (intro w hSw; (try dsimp only at hSw); go_simp; with_reducible rfl))); (try simp only [Act.put, List.getElem_toArray, List.getElem_cons_succ, List.getElem_cons_zero, List.setIfInBounds_toArray, List.set_cons_zero, List.set_cons_succ]))
            (refine wpAnyH_take (i := 14) (oi := _) (v := ?v123) rfl (by kernel_rfl) (by kernel_rfl) (by kernel_rfl) (fun _ _ _ h => h) (Or.inl ⟨by rfl, ?hy123⟩) (by assumption) ?rest123; (case hy123 => (first | (intro w hSw; (try dsimp only at hSw); go_simp; done) | (intro w hSw; (try dsimp only at hSw); go_simp; with_reducible rfl))); (try simp only [Act.put, List.getElem_toArray, List.getElem_cons_succ, List.getElem_cons_zero, List.setIfInBounds_toArray, List.set_cons_zero, List.set_cons_succ]))
            (refine wpAnyH_take (i := 15) (oi := _) (v := ?v124) rfl (by kernel_rfl) (by kernel_rfl) (by kernel_rfl) (fun _ _ _ h => h) (Or.inl ⟨by rfl, ?hy124⟩) (by assumption) ?rest124; (case hy124 => (first | (intro w hSw; (try dsimp only at hSw); go_simp; done) | (intro w hSw; (try dsimp only at hSw); go_simp; with_reducible rfl))); (try simp only [Act.put, List.getElem_toArray, List.getElem_cons_succ, List.getElem_cons_zero, List.setIfInBounds_toArray, List.set_cons_zero, List.set_cons_succ]))
            (refine wpAnyH_take (i := 17) (oi := _) (v := ?v125) rfl (by kernel_rfl) (by kernel_rfl) (by kernel_rfl) (fun _ _ _ h => h) (Or.inl ⟨by rfl, ?hy125⟩) (by assumption) ?rest125; (case hy125 => (first | (intro w hSw; (try dsimp only at hSw); go_simp; done) | (intro w hSw; (try dsimp only at hSw); go_simp; with_reducible rfl))); (try simp only [Act.put, List.getElem_toArray, List.getElem_cons_succ, List.getElem_cons_zero, List.setIfInBounds_toArray, List.set_cons_zero, List.set_cons_succ]))
            refine wpAnyH_ready (rs := [16]) (by kernel_rfl) (by simp) ?_
            refine AllReadyH.cons (o := _) rfl (fun K hK => ?_) AllReadyH.nil
            try simp only [List.getElem_toArray, List.getElem_cons_succ, List.getElem_cons_zero]
            go_simp
            (first
                  | (go_at_call 23; with_reducible refine Calls.mono (HOp.out _) ?_; rintro e w3 ⟨rfl, hb3⟩; have hB3 := Below.next (Below.refl wc.heap.size wc).drew hb3; have hS3 := HS.out w3 hB3; have hW3 := HSw.out w3 hB3; have hS4 := HSs.out w3 hB3; have HE4 := hide (HEnd.out w3 hB3))
                  | (go_at_call 33; with_reducible refine Calls.mono (HLn.out w3 hB3) ?_; rintro e w5 ⟨rfl, hb5⟩; have hB5 := Below.next hB3 hb5; have hS5 := HS.out w5 hB5; have hW5 := HSw.out w5 hB5; have hS6 := HSs.out w5 hB5; have HE6 := hide (HEnd.out w5 hB5)))
            first | (refine hK.out _ _ (by ((try dsimp only) <;> (first | with_reducible exact hS0 | with_reducible exact hS3 | with_reducible exact hS4 | with_reducible exact hS5 | with_reducible exact hS6))) (fun hHeld => ?_)) | (go_wp2_with fail; refine hK.out _ _ (by ((try dsimp only) <;> (first | with_reducible exact hS0 | with_reducible exact hS3 | with_reducible exact hS4 | with_reducible exact hS5 | with_reducible exact hS6))) (fun hHeld => ?_))
            clear hK K
            (try simp only [Act.put, List.getElem_toArray, List.getElem_cons_succ, List.getElem_cons_zero, List.setIfInBounds_toArray, List.set_cons_zero, List.set_cons_succ])
            (refine wpAnyH_take (i := 18) (oi := _) (v := ?v126) rfl (by kernel_rfl) (by kernel_rfl) (by kernel_rfl) (fun _ _ _ h => h) (Or.inl ⟨by rfl, ?hy126⟩) (by assumption) ?rest126; (case hy126 => (first | (intro w hSw; (try dsimp only at hSw); go_simp; done) | (intro w hSw; (try dsimp only at hSw); go_simp; with_reducible rfl))); (try simp only [Act.put, List.getElem_toArray, List.getElem_cons_succ, List.getElem_cons_zero, List.setIfInBounds_toArray, List.set_cons_zero, List.set_cons_succ]))
            (refine wpAnyH_take (i := 19) (oi := _) (v := ?v127) rfl (by kernel_rfl) (by kernel_rfl) (by kernel_rfl) (fun _ _ _ h => h) (Or.inl ⟨by rfl, ?hy127⟩) (by assumption) ?rest127; (case hy127 => (first | (intro w hSw; (try dsimp only at hSw); go_simp; done) | (intro w hSw; (try dsimp only at hSw); go_simp; with_reducible rfl))); (try simp only [Act.put, List.getElem_toArray, List.getElem_cons_succ, List.getElem_cons_zero, List.setIfInBounds_toArray, List.set_cons_zero, List.set_cons_succ]))
            refine wpAnyH_ready (rs := [20]) (by kernel_rfl) (by simp) ?_
            refine AllReadyH.cons (o := _) rfl (fun K hK => ?_) AllReadyH.nil
            try simp only [List.getElem_toArray, List.getElem_cons_succ, List.getElem_cons_zero]
            go_simp
            refine hK.out _ _ (by ((try dsimp only) <;> (first | with_reducible exact hS0 | with_reducible exact hS3 | with_reducible exact hS4 | with_reducible exact hS5 | with_reducible exact hS6))) (fun hHeld => ?_)
            clear hK K
            (try simp only [Act.put, List.getElem_toArray, List.getElem_cons_succ, List.getElem_cons_zero, List.setIfInBounds_toArray, List.set_cons_zero, List.set_cons_succ])
            (refine wpAnyH_take (i := 21) (oi := _) (v := ?v128) rfl (by kernel_rfl) (by kernel_rfl) (by kernel_rfl) (fun _ _ _ h => h) (Or.inl ⟨by rfl, ?hy128⟩) (by assumption) ?rest128; (case hy128 => (first | (intro w hSw; (try dsimp only at hSw); go_simp; done) | (intro w hSw; (try dsimp only at hSw); go_simp; with_reducible rfl))); (try simp only [Act.put, List.getElem_toArray, List.getElem_cons_succ, List.getElem_cons_zero, List.setIfInBounds_toArray, List.set_cons_zero, List.set_cons_succ]))
            refine wpAnyH_done (by kernel_rfl) ?_ _
            go_wp2_with fail
            refine bodyPost_ret (res_ct (a := 4) (b := 5) rfl rfl rfl HE6.out.1) rfl ⟨?_, HE6.out.2⟩
            rw [HBd.out]; rfl
          · have g1 := tx_guard2 (stpT n ops.length od) l
            have g2 := tx_other he
            have HBd : Hid (bd = false) := by show _ = _; rw [HO2.out, decide_eq_false he]
            clear he
            generalize stpT (n : Int) ops.length od = tl at *
            refine wp_region_held_drew (S := (fun W' => (W'.cell? ⟨w.heap.size, 0, none⟩ = some (.int .i64 (n : Int)) ∧ W'.cell? ⟨w.heap.size, 1, none⟩ = some (.slice a2 (ops.length + 1) c2) ∧ W'.cell? ⟨w.heap.size, 2, none⟩ = some (.slice au nu cu)) ∧ (W'.cell? ⟨g, 0, none⟩ = some (.int .u8 od.k) ∧ W'.cell? ⟨g, 1, none⟩ = some (.int .i64 od.a) ∧ W'.cell? ⟨g, 2, none⟩ = some (.int .i64 od.b) ∧ W'.cell? ⟨g, 3, none⟩ = some (.int .u64 od.c)))) (by kernel_rfl) (by ((try dsimp only) <;> (first | with_reducible exact hS0 | with_reducible exact hS3 | with_reducible exact hS4 | with_reducible exact hS5 | with_reducible exact hS6))) (fun hHeld => ?_)
            (refine wpAnyH_take (i := 0) (oi := _) (v := ?v129) rfl (by kernel_rfl) (by kernel_rfl) (by kernel_rfl) (fun _ _ _ h => h) (Or.inl ⟨by rfl, ?hy129⟩) (by assumption) ?rest129; (case hy129 => (first | (intro w hSw; (try dsimp only at hSw); go_simp; done) | (intro w hSw; (try dsimp only at hSw); go_simp; with_reducible rfl))); (try simp only [Act.put, List.getElem_toArray, List.getElem_cons_succ, List.getElem_cons_zero, List.setIfInBounds_toArray, List.set_cons_zero, List.set_cons_succ]))
            (refine wpAnyH_take (i := 1) (oi := _) (v := ?v130) rfl (by kernel_rfl) (by kernel_rfl) (by kernel_rfl) (fun _ _ _ h => h) (Or.inl ⟨by rfl, ?hy130⟩) (by assumption) ?rest130; (case hy130 => (first | (intro w hSw; (try dsimp only at hSw); go_simp; done) | (intro w hSw; (try dsimp only at hSw); go_simp; with_reducible rfl))); (try simp only [Act.put, List.getElem_toArray, List.getElem_cons_succ, List.getElem_cons_zero, List.setIfInBounds_toArray, List.set_cons_zero, List.set_cons_succ]))
            (refine wpAnyH_take (i := 2) (oi := _) (v := ?v131) rfl (by kernel_rfl) (by kernel_rfl) (by kernel_rfl) (fun _ _ _ h => h) (Or.inl ⟨by rfl, ?hy131⟩) (by assumption) ?rest131; (case hy131 => (first | (intro w hSw; (try dsimp only at hSw); go_simp; done) | (intro w hSw; (try dsimp only at hSw); go_simp; with_reducible rfl))); (try simp only [Act.put, List.getElem_toArray, List.getElem_cons_succ, List.getElem_cons_zero, List.setIfInBounds_toArray, List.set_cons_zero, List.set_cons_succ]))
            refine wpAnyH_ready (rs := [3]) (by kernel_rfl) (by simp) ?_
            refine AllReadyH.cons (o := _) rfl (fun K hK => ?_) AllReadyH.nil
            try simp only [List.getElem_toArray, List.getElem_cons_succ, List.getElem_cons_zero]
            go_simp
            (first
                  | (go_at_call 23; with_reducible refine Calls.mono (HOp.out _) ?_; rintro e w3 ⟨rfl, hb3⟩; have hB3 := Below.next (Below.refl wc.heap.size wc).drew hb3; have hS3 := HS.out w3 hB3; have hW3 := HSw.out w3 hB3; have hS4 := HSs.out w3 hB3; have HE4 := hide (HEnd.out w3 hB3))
                  | (go_at_call 33; with_reducible refine Calls.mono (HLn.out w3 hB3) ?_; rintro e w5 ⟨rfl, hb5⟩; have hB5 := Below.next hB3 hb5; have hS5 := HS.out w5 hB5; have hW5 := HSw.out w5 hB5; have hS6 := HSs.out w5 hB5; have HE6 := hide (HEnd.out w5 hB5)))
            first | (refine hK.out _ _ (by ((try dsimp only) <;> (first | with_reducible exact hS0 | with_reducible exact hS3 | with_reducible exact hS4 | with_reducible exact hS5 | with_reducible exact hS6))) (fun hHeld => ?_)) | (go_wp2_with fail; refine hK.out _ _ (by ((try dsimp only) <;> (first | with_reducible exact hS0 | with_reducible exact hS3 | with_reducible exact hS4 | with_reducible exact hS5 | with_reducible exact hS6))) (fun hHeld => ?_))
            clear hK K
            (try simp only [Act.put, List.getElem_toArray, List.getElem_cons_succ, List.getElem_cons_zero, List.setIfInBounds_toArray, List.set_cons_zero, List.set_cons_succ])
            (refine wpAnyH_take (i := 4) (oi := _) (v := ?v132) rfl (by kernel_rfl) (by kernel_rfl) (by kernel_rfl) (fun _ _ _ h => h) (Or.inl ⟨by rfl, ?hy132⟩) (by assumption) ?rest132; (case hy132 => (first | (intro w hSw; (try dsimp only at hSw); go_simp; done) | (intro w hSw; (try dsimp only at hSw); go_simp; with_reducible rfl))); (try simp only [Act.put, List.getElem_toArray, List.getElem_cons_succ, List.getElem_cons_zero, List.setIfInBounds_toArray, List.set_cons_zero, List.set_cons_succ]))
            (refine wpAnyH_take (i := 5) (oi := _) (v := ?v133) rfl (by kernel_rfl) (by kernel_rfl) (by kernel_rfl) (fun _ _ _ h => h) (Or.inl ⟨by rfl, ?hy133⟩) (by assumption) ?rest133; (case hy133 => (first | (intro w hSw; (try dsimp only at hSw); go_simp; done) | (intro w hSw; (try dsimp only at hSw); go_simp; with_reducible rfl))); (try simp only [Act.put, List.getElem_toArray, List.getElem_cons_succ, List.getElem_cons_zero, List.setIfInBounds_toArray, List.set_cons_zero, List.set_cons_succ]))
            (refine wpAnyH_take (i := 6) (oi := _) (v := ?v134) rfl (by kernel_rfl) (by kernel_rfl) (by kernel_rfl) (fun _ _ _ h => h) (Or.inl ⟨by rfl, ?hy134⟩) (by assumption) ?rest134; (case hy134 => (first | (intro w hSw; (try dsimp only at hSw); go_simp; done) | (intro w hSw; (try dsimp only at hSw); go_simp; with_reducible rfl))); (try simp only [Act.put, List.getElem_toArray, List.getElem_cons_succ, List.getElem_cons_zero, List.setIfInBounds_toArray, List.set_cons_zero, List.set_cons_succ]))
            (refine wpAnyH_take (i := 7) (oi := _) (v := ?v135) rfl (by kernel_rfl) (by kernel_rfl) (by kernel_rfl) (fun _ _ _ h => h) (Or.inl ⟨by rfl, ?hy135⟩) (by assumption) ?rest135; (case hy135 => (first | (intro w hSw; (try dsimp only at hSw); go_simp; done) | (intro w hSw; (try dsimp only at hSw); go_simp; with_reducible rfl))); (try simp only [Act.put, List.getElem_toArray, List.getElem_cons_succ, List.getElem_cons_zero, List.setIfInBounds_toArray, List.set_cons_zero, List.set_cons_succ]))
            (refine wpAnyH_take (i := 8) (oi := _) (v := ?v136) rfl (by kernel_rfl) (by kernel_rfl) (by kernel_rfl) (fun _ _ _ h => h) (Or.inl ⟨by rfl, ?hy136⟩) (by assumption) ?rest136; (case hy136 => (first | (intro w hSw; (try dsimp only at hSw); go_simp; done) | (intro w hSw; (try dsimp only at hSw); go_simp; with_reducible rfl))); (try simp only [Act.put, List.getElem_toArray, List.getElem_cons_succ, List.getElem_cons_zero, List.setIfInBounds_toArray, List.set_cons_zero, List.set_cons_succ]))
            (refine wpAnyH_take (i := 9) (oi := _) (v := ?v137) rfl (by kernel_rfl) (by kernel_rfl) (by kernel_rfl) (fun _ _ _ h => h) (Or.inl ⟨by rfl, ?hy137⟩) (by assumption) ?rest137; (case hy137 => (first | (intro w hSw; (try dsimp only at hSw); go_simp; done) | (intro w hSw; (try dsimp only at hSw); go_simp; with_reducible rfl))); (try simp only [Act.put, List.getElem_toArray, List.getElem_cons_succ, List.getElem_cons_zero, List.setIfInBounds_toArray, List.set_cons_zero, List.set_cons_succ]))
            (refine wpAnyH_take (i := 10) (oi := _) (v := ?v138) rfl (by kernel_rfl) (by kernel_rfl) (by kernel_rfl) (fun _ _ _ h => h) (Or.inl ⟨by rfl, ?hy138⟩) (by assumption) ?rest138; (case hy138 => (first | (intro w hSw; (try dsimp only at hSw); go_simp; done) | (intro w hSw; (try dsimp only at hSw); go_simp; with_reducible rfl))); (try simp only [Act.put, List.getElem_toArray, List.getElem_cons_succ, List.getElem_cons_zero, List.setIfInBounds_toArray, List.set_cons_zero, List.set_cons_succ]))
            (refine wpAnyH_take (i := 11) (oi := _) (v := ?v139) rfl (by kernel_rfl) (by kernel_rfl) (by kernel_rfl) (fun _ _ _ h => h) (Or.inl ⟨by rfl, ?hy139⟩) (by assumption) ?rest139; (case hy139 => (first | (intro w hSw; (try dsimp only at hSw); go_simp; done) | (intro w hSw; (try dsimp only at hSw); go_simp; with_reducible rfl))); (try simp only [Act.put, List.getElem_toArray, List.getElem_cons_succ, List.getElem_cons_zero, List.setIfInBounds_toArray, List.set_cons_zero, List.set_cons_succ]))
            (refine wpAnyH_take (i := 12) (oi := _) (v := ?v140) rfl (by kernel_rfl) (by kernel_rfl) (by kernel_rfl) (fun _ _ _ h => h) (Or.inl ⟨by rfl, ?hy140⟩) (by assumption) ?rest140; (case hy140 => (first | (intro w hSw; (try dsimp only at hSw); go_simp; done) | (intro w hSw; (try dsimp only at hSw); go_simp; with_reducible rfl))); (try simp only [Act.put, List.getElem_toArray, List.getElem_cons_succ, List.getElem_cons_zero, List.setIfInBounds_toArray, List.set_cons_zero, List.set_cons_succ]))
            (refine wpAnyH_take (i := 13) (oi := _) (v := ?v141) rfl (by kernel_rfl) (by kernel_rfl) (by kernel_rfl) (fun _ _ _ h => h) (Or.inl ⟨by rfl, ?hy141⟩) (by assumption) ?rest141; (case hy141 => (first | (intro w hSw; (try dsimp only at hSw); go_simp; done) | (intro w hSw; (try dsimp only at hSw); go_simp; with_reducible rfl))); (try simp only [Act.put, List.getElem_toArray, List.getElem_cons_succ, List.getElem_cons_zero, List.setIfInBounds_toArray, List.set_cons_zero, List.set_cons_succ]))
            (refine wpAnyH_take (i := 14) (oi := _) (v := ?v142) rfl (by kernel_rfl) (by kernel_rfl) (by kernel_rfl) (fun _ _ _ h => h) (Or.inl ⟨by rfl, ?hy142⟩) (by assumption) ?rest142; (case hy142 => (first | (intro w hSw; (try dsimp only at hSw); go_simp; done) | (intro w hSw; (try dsimp only at hSw); go_simp; with_reducible rfl))); (try simp only [Act.put, List.getElem_toArray, List.getElem_cons_succ, List.getElem_cons_zero, List.setIfInBounds_toArray, List.set_cons_zero, List.set_cons_succ]))
            (refine wpAnyH_take (i := 15) (oi := _) (v := ?v143) rfl (by kernel_rfl) (by kernel_rfl) (by kernel_rfl) (fun _ _ _ h => h) (Or.inl ⟨by rfl, ?hy143⟩) (by assumption) ?rest143; (case hy143 => (first | (intro w hSw; (try dsimp only at hSw); go_simp; done) | (intro w hSw; (try dsimp only at hSw); go_simp; with_reducible rfl))); (try simp only [Act.put, List.getElem_toArray, List.getElem_cons_succ, List.getElem_cons_zero, List.setIfInBounds_toArray, List.set_cons_zero, List.set_cons_succ]))
            (refine wpAnyH_take (i := 17) (oi := _) (v := ?v144) rfl (by kernel_rfl) (by kernel_rfl) (by kernel_rfl) (fun _ _ _ h => h) (Or.inl ⟨by rfl, ?hy144⟩) (by assumption) ?rest144; (case hy144 => (first | (intro w hSw; (try dsimp only at hSw); go_simp; done) | (intro w hSw; (try dsimp only at hSw); go_simp; with_reducible rfl))); (try simp only [Act.put, List.getElem_toArray, List.getElem_cons_succ, List.getElem_cons_zero, List.setIfInBounds_toArray, List.set_cons_zero, List.set_cons_succ]))
            refine wpAnyH_ready (rs := [16]) (by kernel_rfl) (by simp) ?_
            refine AllReadyH.cons (o := _) rfl (fun K hK => ?_) AllReadyH.nil
            try simp only [List.getElem_toArray, List.getElem_cons_succ, List.getElem_cons_zero]
            go_simp
            (first
                  | (go_at_call 23; with_reducible refine Calls.mono (HOp.out _) ?_; rintro e w3 ⟨rfl, hb3⟩; have hB3 := Below.next (Below.refl wc.heap.size wc).drew hb3; have hS3 := HS.out w3 hB3; have hW3 := HSw.out w3 hB3; have hS4 := HSs.out w3 hB3; have HE4 := hide (HEnd.out w3 hB3))
                  | (go_at_call 33; with_reducible refine Calls.mono (HLn.out w3 hB3) ?_; rintro e w5 ⟨rfl, hb5⟩; have hB5 := Below.next hB3 hb5; have hS5 := HS.out w5 hB5; have hW5 := HSw.out w5 hB5; have hS6 := HSs.out w5 hB5; have HE6 := hide (HEnd.out w5 hB5)))
            first | (refine hK.out _ _ (by ((try dsimp only) <;> (first | with_reducible exact hS0 | with_reducible exact hS3 | with_reducible exact hS4 | with_reducible exact hS5 | with_reducible exact hS6))) (fun hHeld => ?_)) | (go_wp2_with fail; refine hK.out _ _ (by ((try dsimp only) <;> (first | with_reducible exact hS0 | with_reducible exact hS3 | with_reducible exact hS4 | with_reducible exact hS5 | with_reducible exact hS6))) (fun hHeld => ?_))
            clear hK K
            (try simp only [Act.put, List.getElem_toArray, List.getElem_cons_succ, List.getElem_cons_zero, List.setIfInBounds_toArray, List.set_cons_zero, List.set_cons_succ])
            (refine wpAnyH_take (i := 18) (oi := _) (v := ?v145) rfl (by kernel_rfl) (by kernel_rfl) (by kernel_rfl) (fun _ _ _ h => h) (Or.inl ⟨by rfl, ?hy145⟩) (by assumption) ?rest145; (case hy145 => (first | (intro w hSw; (try dsimp only at hSw); go_simp; done) | (intro w hSw; (try dsimp only at hSw); go_simp; with_reducible rfl))); (try simp only [Act.put, List.getElem_toArray, List.getElem_cons_succ, List.getElem_cons_zero, List.setIfInBounds_toArray, List.set_cons_zero, List.set_cons_succ]))
            (refine wpAnyH_take (i := 19) (oi := _) (v := ?v146) rfl (by kernel_rfl) (by kernel_rfl) (by kernel_rfl) (fun _ _ _ h => h) (Or.inl ⟨by rfl, ?hy146⟩) (by assumption) ?rest146; (case hy146 => (first | (intro w hSw; (try dsimp only at hSw); go_simp; done) | (intro w hSw; (try dsimp only at hSw); go_simp; with_reducible rfl))); (try simp only [Act.put, List.getElem_toArray, List.getElem_cons_succ, List.getElem_cons_zero, List.setIfInBounds_toArray, List.set_cons_zero, List.set_cons_succ]))
            refine wpAnyH_ready (rs := [20]) (by kernel_rfl) (by simp) ?_
            refine AllReadyH.cons (o := _) rfl (fun K hK => ?_) AllReadyH.nil
            try simp only [List.getElem_toArray, List.getElem_cons_succ, List.getElem_cons_zero]
            go_simp
            refine hK.out _ _ (by ((try dsimp only) <;> (first | with_reducible exact hS0 | with_reducible exact hS3 | with_reducible exact hS4 | with_reducible exact hS5 | with_reducible exact hS6))) (fun hHeld => ?_)
            clear hK K
            (try simp only [Act.put, List.getElem_toArray, List.getElem_cons_succ, List.getElem_cons_zero, List.setIfInBounds_toArray, List.set_cons_zero, List.set_cons_succ])
            (refine wpAnyH_take (i := 21) (oi := _) (v := ?v147) rfl (by kernel_rfl) (by kernel_rfl) (by kernel_rfl) (fun _ _ _ h => h) (Or.inl ⟨by rfl, ?hy147⟩) (by assumption) ?rest147; (case hy147 => (first | (intro w hSw; (try dsimp only at hSw); go_simp; done) | (intro w hSw; (try dsimp only at hSw); go_simp; with_reducible rfl))); (try simp only [Act.put, List.getElem_toArray, List.getElem_cons_succ, List.getElem_cons_zero, List.setIfInBounds_toArray, List.set_cons_zero, List.set_cons_succ]))
            refine wpAnyH_done (by kernel_rfl) ?_ _
            go_wp2_with fail
            refine bodyPost_ret (res_ct (a := 4) (b := 5) rfl rfl rfl HE6.out.1) rfl ⟨?_, HE6.out.2⟩
            rw [HBd.out]; rfl
        · have HBd : Hid (bd = false) := by show _ = _; rw [HO2.out, decide_eq_false h256, Bool.false_and]
          have hle : ¬ ((ops.length : Int) + 1 ≤ 256) := by omega
          clear hop h256
          refine wp_region_held_drew (S := (fun W' => (W'.cell? ⟨w.heap.size, 0, none⟩ = some (.int .i64 (n : Int)) ∧ W'.cell? ⟨w.heap.size, 1, none⟩ = some (.slice a2 (ops.length + 1) c2) ∧ W'.cell? ⟨w.heap.size, 2, none⟩ = some (.slice au nu cu)) ∧ (W'.cell? ⟨g, 0, none⟩ = some (.int .u8 od.k) ∧ W'.cell? ⟨g, 1, none⟩ = some (.int .i64 od.a) ∧ W'.cell? ⟨g, 2, none⟩ = some (.int .i64 od.b) ∧ W'.cell? ⟨g, 3, none⟩ = some (.int .u64 od.c)))) (by kernel_rfl) (by ((try dsimp only) <;> (first | with_reducible exact hS0 | with_reducible exact hS3 | with_reducible exact hS4 | with_reducible exact hS5 | with_reducible exact hS6))) (fun hHeld => ?_)
          (refine wpAnyH_take (i := 0) (oi := _) (v := ?v148) rfl (by kernel_rfl) (by kernel_rfl) (by kernel_rfl) (fun _ _ _ h => h) (Or.inl ⟨by rfl, ?hy148⟩) (by assumption) ?rest148; (case hy148 => (first | (intro w hSw; (try dsimp only at hSw); go_simp; done) | (intro w hSw; (try dsimp only at hSw); go_simp; with_reducible rfl))); (try simp only [Act.put, List.getElem_toArray, List.getElem_cons_succ, List.getElem_cons_zero, List.setIfInBounds_toArray, List.set_cons_zero, List.set_cons_succ]))
          (refine wpAnyH_take (i := 1) (oi := _) (v := ?v149) rfl (by kernel_rfl) (by kernel_rfl) (by kernel_rfl) (fun _ _ _ h => h) (Or.inl ⟨by rfl, ?hy149⟩) (by assumption) ?rest149; (case hy149 => (first | (intro w hSw; (try dsimp only at hSw); go_simp; done) | (intro w hSw; (try dsimp only at hSw); go_simp; with_reducible rfl))); (try simp only [Act.put, List.getElem_toArray, List.getElem_cons_succ, List.getElem_cons_zero, List.setIfInBounds_toArray, List.set_cons_zero, List.set_cons_succ]))
          (refine wpAnyH_take (i := 2) (oi := _) (v := ?v150) rfl (by kernel_rfl) (by kernel_rfl) (by kernel_rfl) (fun _ _ _ h => h) (Or.inl ⟨by rfl, ?hy150⟩) (by assumption) ?rest150; (case hy150 => (first | (intro w hSw; (try dsimp only at hSw); go_simp; done) | (intro w hSw; (try dsimp only at hSw); go_simp; with_reducible rfl))); (try simp only [Act.put, List.getElem_toArray, List.getElem_cons_succ, List.getElem_cons_zero, List.setIfInBounds_toArray, List.set_cons_zero, List.set_cons_succ]))
          refine wpAnyH_ready (rs := [3]) (by kernel_rfl) (by simp) ?_
          refine AllReadyH.cons (o := _) rfl (fun K hK => ?_) AllReadyH.nil
          try simp only [List.getElem_toArray, List.getElem_cons_succ, List.getElem_cons_zero]
          go_simp
          (first
                | (go_at_call 23; with_reducible refine Calls.mono (HOp.out _) ?_; rintro e w3 ⟨rfl, hb3⟩; have hB3 := Below.next (Below.refl wc.heap.size wc).drew hb3; have hS3 := HS.out w3 hB3; have hW3 := HSw.out w3 hB3; have hS4 := HSs.out w3 hB3; have HE4 := hide (HEnd.out w3 hB3)))
          first | (refine hK.out _ _ (by ((try dsimp only) <;> (first | with_reducible exact hS0 | with_reducible exact hS3 | with_reducible exact hS4 | with_reducible exact hS5 | with_reducible exact hS6))) (fun hHeld => ?_)) | (go_wp2_with fail; refine hK.out _ _ (by ((try dsimp only) <;> (first | with_reducible exact hS0 | with_reducible exact hS3 | with_reducible exact hS4 | with_reducible exact hS5 | with_reducible exact hS6))) (fun hHeld => ?_))
          clear hK K
          (try simp only [Act.put, List.getElem_toArray, List.getElem_cons_succ, List.getElem_cons_zero, List.setIfInBounds_toArray, List.set_cons_zero, List.set_cons_succ])
          (refine wpAnyH_take (i := 4) (oi := _) (v := ?v151) rfl (by kernel_rfl) (by kernel_rfl) (by kernel_rfl) (fun _ _ _ h => h) (Or.inl ⟨by rfl, ?hy151⟩) (by assumption) ?rest151; (case hy151 => (first | (intro w hSw; (try dsimp only at hSw); go_simp; done) | (intro w hSw; (try dsimp only at hSw); go_simp; with_reducible rfl))); (try simp only [Act.put, List.getElem_toArray, List.getElem_cons_succ, List.getElem_cons_zero, List.setIfInBounds_toArray, List.set_cons_zero, List.set_cons_succ]))
          (refine wpAnyH_take (i := 5) (oi := _) (v := ?v152) rfl (by kernel_rfl) (by kernel_rfl) (by kernel_rfl) (fun _ _ _ h => h) (Or.inl ⟨by rfl, ?hy152⟩) (by assumption) ?rest152; (case hy152 => (first | (intro w hSw; (try dsimp only at hSw); go_simp; done) | (intro w hSw; (try dsimp only at hSw); go_simp; with_reducible rfl))); (try simp only [Act.put, List.getElem_toArray, List.getElem_cons_succ, List.getElem_cons_zero, List.setIfInBounds_toArray, List.set_cons_zero, List.set_cons_succ]))
          (refine wpAnyH_take (i := 6) (oi := _) (v := ?v153) rfl (by kernel_rfl) (by kernel_rfl) (by kernel_rfl) (fun _ _ _ h => h) (Or.inl ⟨by rfl, ?hy153⟩) (by assumption) ?rest153; (case hy153 => (first | (intro w hSw; (try dsimp only at hSw); go_simp; done) | (intro w hSw; (try dsimp only at hSw); go_simp; with_reducible rfl))); (try simp only [Act.put, List.getElem_toArray, List.getElem_cons_succ, List.getElem_cons_zero, List.setIfInBounds_toArray, List.set_cons_zero, List.set_cons_succ]))
          (refine wpAnyH_take (i := 7) (oi := _) (v := ?v154) rfl (by kernel_rfl) (by kernel_rfl) (by kernel_rfl) (fun _ _ _ h => h) (Or.inl ⟨by rfl, ?hy154⟩) (by assumption) ?rest154; (case hy154 => (first | (intro w hSw; (try dsimp only at hSw); go_simp; done) | (intro w hSw; (try dsimp only at hSw); go_simp; with_reducible rfl))); (try simp only [Act.put, List.getElem_toArray, List.getElem_cons_succ, List.getElem_cons_zero, List.setIfInBounds_toArray, List.set_cons_zero, List.set_cons_succ]))
          (refine wpAnyH_take (i := 8) (oi := _) (v := ?v155) rfl (by kernel_rfl) (by kernel_rfl) (by kernel_rfl) (fun _ _ _ h => h) (Or.inl ⟨by rfl, ?hy155⟩) (by assumption) ?rest155; (case hy155 => (first | (intro w hSw; (try dsimp only at hSw); go_simp; done) | (intro w hSw; (try dsimp only at hSw); go_simp; with_reducible rfl))); (try simp only [Act.put, List.getElem_toArray, List.getElem_cons_succ, List.getElem_cons_zero, List.setIfInBounds_toArray, List.set_cons_zero, List.set_cons_succ]))
          (refine wpAnyH_take (i := 9) (oi := _) (v := ?v156) rfl (by kernel_rfl) (by kernel_rfl) (by kernel_rfl) (fun _ _ _ h => h) (Or.inl ⟨by rfl, ?hy156⟩) (by assumption) ?rest156; (case hy156 => (first | (intro w hSw; (try dsimp only at hSw); go_simp; done) | (intro w hSw; (try dsimp only at hSw); go_simp; with_reducible rfl))); (try simp only [Act.put, List.getElem_toArray, List.getElem_cons_succ, List.getElem_cons_zero, List.setIfInBounds_toArray, List.set_cons_zero, List.set_cons_succ]))
          (refine wpAnyH_take (i := 10) (oi := _) (v := ?v157) rfl (by kernel_rfl) (by kernel_rfl) (by kernel_rfl) (fun _ _ _ h => h) (Or.inl ⟨by rfl, ?hy157⟩) (by assumption) ?rest157; (case hy157 => (first | (intro w hSw; (try dsimp only at hSw); go_simp; done) | (intro w hSw; (try dsimp only at hSw); go_simp; with_reducible rfl))); (try simp only [Act.put, List.getElem_toArray, List.getElem_cons_succ, List.getElem_cons_zero, List.setIfInBounds_toArray, List.set_cons_zero, List.set_cons_succ]))
          (refine wpAnyH_take (i := 11) (oi := _) (v := undef) rfl (by kernel_rfl) (by kernel_rfl) (by kernel_rfl) (fun _ _ _ h => h) (Or.inr ⟨by rfl, by rfl⟩) (by assumption) ?_; (try simp only [Act.put, List.getElem_toArray, List.getElem_cons_succ, List.getElem_cons_zero, List.setIfInBounds_toArray, List.set_cons_zero, List.set_cons_succ]))
          (refine wpAnyH_take (i := 12) (oi := _) (v := undef) rfl (by kernel_rfl) (by kernel_rfl) (by kernel_rfl) (fun _ _ _ h => h) (Or.inr ⟨by rfl, by rfl⟩) (by assumption) ?_; (try simp only [Act.put, List.getElem_toArray, List.getElem_cons_succ, List.getElem_cons_zero, List.setIfInBounds_toArray, List.set_cons_zero, List.set_cons_succ]))
          (refine wpAnyH_take (i := 13) (oi := _) (v := undef) rfl (by kernel_rfl) (by kernel_rfl) (by kernel_rfl) (fun _ _ _ h => h) (Or.inr ⟨by rfl, by rfl⟩) (by assumption) ?_; (try simp only [Act.put, List.getElem_toArray, List.getElem_cons_succ, List.getElem_cons_zero, List.setIfInBounds_toArray, List.set_cons_zero, List.set_cons_succ]))
          (refine wpAnyH_take (i := 14) (oi := _) (v := undef) rfl (by kernel_rfl) (by kernel_rfl) (by kernel_rfl) (fun _ _ _ h => h) (Or.inr ⟨by rfl, by rfl⟩) (by assumption) ?_; (try simp only [Act.put, List.getElem_toArray, List.getElem_cons_succ, List.getElem_cons_zero, List.setIfInBounds_toArray, List.set_cons_zero, List.set_cons_succ]))
          (refine wpAnyH_take (i := 15) (oi := _) (v := undef) rfl (by kernel_rfl) (by kernel_rfl) (by kernel_rfl) (fun _ _ _ h => h) (Or.inr ⟨by rfl, by rfl⟩) (by assumption) ?_; (try simp only [Act.put, List.getElem_toArray, List.getElem_cons_succ, List.getElem_cons_zero, List.setIfInBounds_toArray, List.set_cons_zero, List.set_cons_succ]))
          (refine wpAnyH_take (i := 16) (oi := _) (v := undef) rfl (by kernel_rfl) (by kernel_rfl) (by kernel_rfl) (fun _ _ _ h => h) (Or.inr ⟨by rfl, by rfl⟩) (by assumption) ?_; (try simp only [Act.put, List.getElem_toArray, List.getElem_cons_succ, List.getElem_cons_zero, List.setIfInBounds_toArray, List.set_cons_zero, List.set_cons_succ]))
          (refine wpAnyH_take (i := 17) (oi := _) (v := undef) rfl (by kernel_rfl) (by kernel_rfl) (by kernel_rfl) (fun _ _ _ h => h) (Or.inr ⟨by rfl, by rfl⟩) (by assumption) ?_; (try simp only [Act.put, List.getElem_toArray, List.getElem_cons_succ, List.getElem_cons_zero, List.setIfInBounds_toArray, List.set_cons_zero, List.set_cons_succ]))
          (refine wpAnyH_take (i := 18) (oi := _) (v := undef) rfl (by kernel_rfl) (by kernel_rfl) (by kernel_rfl) (fun _ _ _ h => h) (Or.inr ⟨by rfl, by rfl⟩) (by assumption) ?_; (try simp only [Act.put, List.getElem_toArray, List.getElem_cons_succ, List.getElem_cons_zero, List.setIfInBounds_toArray, List.set_cons_zero, List.set_cons_succ]))
          (refine wpAnyH_take (i := 19) (oi := _) (v := ?v166) rfl (by kernel_rfl) (by kernel_rfl) (by kernel_rfl) (fun _ _ _ h => h) (Or.inl ⟨by rfl, ?hy166⟩) (by assumption) ?rest166; (case hy166 => (first | (intro w hSw; (try dsimp only at hSw); go_simp; done) | (intro w hSw; (try dsimp only at hSw); go_simp; with_reducible rfl))); (try simp only [Act.put, List.getElem_toArray, List.getElem_cons_succ, List.getElem_cons_zero, List.setIfInBounds_toArray, List.set_cons_zero, List.set_cons_succ]))
          refine wpAnyH_ready (rs := [20]) (by kernel_rfl) (by simp) ?_
          refine AllReadyH.cons (o := _) rfl (fun K hK => ?_) AllReadyH.nil
          try simp only [List.getElem_toArray, List.getElem_cons_succ, List.getElem_cons_zero]
          go_simp
          refine hK.out _ _ (by ((try dsimp only) <;> (first | with_reducible exact hS0 | with_reducible exact hS3 | with_reducible exact hS4 | with_reducible exact hS5 | with_reducible exact hS6))) (fun hHeld => ?_)
          clear hK K
          (try simp only [Act.put, List.getElem_toArray, List.getElem_cons_succ, List.getElem_cons_zero, List.setIfInBounds_toArray, List.set_cons_zero, List.set_cons_succ])
          (refine wpAnyH_take (i := 21) (oi := _) (v := ?v167) rfl (by kernel_rfl) (by kernel_rfl) (by kernel_rfl) (fun _ _ _ h => h) (Or.inl ⟨by rfl, ?hy167⟩) (by assumption) ?rest167; (case hy167 => (first | (intro w hSw; (try dsimp only at hSw); go_simp; done) | (intro w hSw; (try dsimp only at hSw); go_simp; with_reducible rfl))); (try simp only [Act.put, List.getElem_toArray, List.getElem_cons_succ, List.getElem_cons_zero, List.setIfInBounds_toArray, List.set_cons_zero, List.set_cons_succ]))
          refine wpAnyH_done (by kernel_rfl) ?_ _
          go_wp2_with fail
          refine bodyPost_ret (res_ct (a := 4) (b := 5) rfl rfl rfl HE4.out.1) rfl ⟨?_, HE4.out.2⟩
          rw [HBd.out]; rfl

end Go.Proofs.YtjkialmhajbcfaaDoor
