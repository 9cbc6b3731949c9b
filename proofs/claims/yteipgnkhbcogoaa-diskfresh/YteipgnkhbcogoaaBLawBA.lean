import Derived.Test.YteipgnkhbcogoaaBDdkC
import Derived.Test.YteipgnkhbcogoaaBOpenG
set_option linter.unusedVariables false
set_option linter.unusedSimpArgs false
set_option maxRecDepth 100000
set_option maxHeartbeats 4000000
namespace Go.Proofs.Yteipgnkhbcogoaa
open Go.RowKit Fld
theorem Hd.mvb {w w' : World} {base g : Nat} {v v' : Value} {D : Dsk} (h : Hd w base g v D) (m : Mv w w' g v v') (hb : base <= w.heap.size) : Below base w w' := m.below hb h.low (fun j hj => (h.own_lt j hj).1)
theorem Dy.mvb {w w' : World} {base g : Nat} {v v' : Value} {D : Dsk} (h : Dy w base g v D) (m : Mv w w' g v v') (hb : base <= w.heap.size) : Below base w w' := by
 obtain ⟨es, h⟩ := h
 exact m.below hb h.low (fun j hj => (h.row.lt j hj).1)
def opBk (s : Sq2) : List Int := if s.o then List.replicate (max 0 (min s.n 99)).toNat 0 else blkc s.m
theorem opBk_by {s : Sq2} (h : Okq22 s) : By (opBk s) := by
 unfold opBk
 split
 · intro x hx
   rw [List.eq_of_mem_replicate hx]; exact ⟨by decide, by decide⟩
 · exact blkc_by h.m
theorem opBk_len (s : Sq2) : (opBk s).length <= 99 := by
 unfold opBk
 split
 · rw [List.length_replicate]; omega
 · rw [blkc_len]; decide
theorem made_m (m : Nat) (hm : m <= 99) (W : World) : (Instr.makeSlice 43 (.int .i64 (m : Int)) (.int .i64 (m : Int))).run Try.prog W = .ok (.slice (some ⟨W.heap.size, 0, none⟩) m m) (W.alloc (.cells (valb (List.replicate m 0)).toArray 5)) := by
 obtain ⟨i, hi, hz, hs, hb⟩ := info_parts u8_info
 have := run_make (P := Try.prog) W 43 5 i (.int .u8 0) Try.underlying43 hi hz .i64 .i64 (m : Int) (m : Int) (by omega) (by omega) (by rw [hb]; omega) (by omega)
 rw [this, hs, Int.toNat_natCast]
 show Result.ok _ (W.alloc (.cells (madeCells #[.int .u8 0] (m * 1)) 5)) = _
 rw [made_listO]
 unfold valb
 rw [List.map_replicate]
theorem gBlk (s : Sq2) (h : Okq22 s) (w : World) : Calls Try.prog 23 #[.agg #[.int .u8 s.c, .int .i64 s.n, .int .u8 s.m, .bool s.o]] w fun e w' => ∃ v', e = .returned v' ∧ w'.ownsRow w.heap.size 5 1 v' (opBk s).length (valb (opBk s)) ∧ Below w.heap.size w w' := by
 obtain ⟨W, hW⟩ : ∃ W, w.alloc (.cells #[.int .u8 s.c, .int .i64 s.n, .int .u8 s.m, .bool s.o] 32) = W := ⟨_, rfl⟩
 have hB : Below w.heap.size w W := by rw [<- hW]; exact alloc_below _ _
 have HD := hide (dBlock s.m h.m W)
 have HB := hide hB
 obtain ⟨c, n, m, o⟩ := s
 dsimp only at *
 have HW := hide hW
 have HZ1 : Hid (W.heap.size = w.heap.size + 1) := by show _ = _; rw [<- hW]; simp
 cases o with
 | false =>
  have e : opBk ⟨c, n, m, false⟩ = blkc m := rfl
  rw [e, blkc_len]
  clear e hB hW h
  go_enter Try.func23, Try.ntmps23
  go_wp2_with (go_at_call 20; rw [HW.out]; refine HD.out.mono ?_; rintro e w1 ⟨v1, rfl, ho1, hb1⟩)
  go_ret
  exact ⟨_, rfl, own_mono ho1 HB.out.size, Below.next HB.out hb1⟩
 | true =>
  have HO := hide (fun k (hk : k <= 99) V => own_newY (W := V) (T := 5) (base := V.heap.size) (Nat.le_refl _) (show (valb (List.replicate k 0)).length = k by rw [valb_length]; simp) (by omega))
  have HA := hide (fun k V => alloc_below V (.cells (valb (List.replicate k 0)).toArray 5))
  clear hB hW h HD
  rcases (by omega : n <= 0 ∨ (0 < n ∧ n <= 99) ∨ 99 < n) with hn | ⟨hn, hn2⟩ | hn
  · have e : opBk ⟨c, n, m, true⟩ = List.replicate 0 0 := by unfold opBk; rw [if_pos rfl]; dsimp only; rw [show max 0 (min n 99) = 0 by omega]; rfl
    rw [e]
    have hmk : ∀ V, (Instr.makeSlice 43 (.int .i64 0) (.int .i64 0)).run Try.prog V = .ok (.slice (some ⟨V.heap.size, 0, none⟩) 0 0) (V.alloc (.cells (valb (List.replicate 0 0)).toArray 5)) := fun V => made_m 0 (by decide) V
    have hn1 : ¬ 99 < n := by omega
    have hn3 : ¬ 0 < n := by omega
    clear e hn
    go_enter Try.func23, Try.ntmps23
    go_wp2
    go_ret
    rw [HW.out]
    have h9 := HO.out 0 (by decide) W
    rw [HZ1.out] at h9
    exact ⟨_, rfl, own_mono h9 (Nat.le_succ _), Below.next HB.out (HA.out 0 W)⟩
  · obtain ⟨k, rfl⟩ : ∃ k : Nat, n = (k : Int) := ⟨n.toNat, by omega⟩
    have e : opBk ⟨c, (k : Int), m, true⟩ = List.replicate k 0 := by unfold opBk; rw [if_pos rfl]; dsimp only; rw [show max 0 (min (k : Int) 99) = (k : Int) by omega, Int.toNat_natCast]
    rw [e]
    have hmk := made_m k (by omega)
    have hn1 : ¬ (99 : Int) < (k : Int) := by omega
    have hn3 : (0 : Int) < (k : Int) := by omega
    have HK : Hid (k <= 99) := by show _ <= _; omega
    clear e hn hn2
    go_enter Try.func23, Try.ntmps23
    go_wp2
    go_ret
    rw [HW.out]
    have h9 := HO.out k HK.out W
    rw [HZ1.out] at h9
    exact ⟨_, rfl, own_mono h9 (Nat.le_succ _), Below.next HB.out (HA.out k W)⟩
  · have e : opBk ⟨c, n, m, true⟩ = List.replicate 99 0 := by unfold opBk; rw [if_pos rfl]; dsimp only; rw [show max 0 (min n 99) = 99 by omega]; rfl
    rw [e]
    have hmk : ∀ V, (Instr.makeSlice 43 (.int .i64 99) (.int .i64 99)).run Try.prog V = .ok (.slice (some ⟨V.heap.size, 0, none⟩) 99 99) (V.alloc (.cells (valb (List.replicate 99 0)).toArray 5)) := fun V => made_m 99 (by decide) V
    generalize hz : List.replicate 99 (0 : Int) = zs at *
    have HZ := hide hz
    clear e hz
    go_enter Try.func23, Try.ntmps23
    go_wp2
    go_ret
    rw [HW.out]
    have e9 : zs.length = 99 := by rw [<- HZ.out, List.length_replicate]
    rw [e9]
    have h9 := HO.out 99 (by decide) W
    have h8 := HA.out 99 W
    rw [HZ.out] at h9 h8
    rw [HZ1.out] at h9
    exact ⟨_, rfl, own_mono h9 (Nat.le_succ _), Below.next HB.out h8⟩
def an22a : Dsk := fuN dk0 1
def an22b : Dsk := wrN22 an22a (blkc 2)
def an22c : Dsk := wrN22 an22b (blkc 3)
theorem an_vals22 : fuE 1 = 0 ∧ wrE22 an22a (blkc 2) = 0 ∧ wrE22 an22b (blkc 3) = 220 ∧ an22c.x = true ∧ an22c.l = [blkc 2] ∧ an22a.n = 0 ∧ an22b.n = 1 := by
 refine ⟨by decide, by decide, by decide, by decide, by decide, by decide, by decide⟩
theorem bl_one {w : World} {base : Nat} {v : Value} {b : List Int} (h : w.ownsRow base 5 1 v 32 (valb b)) (hy : By b) (hl : b.length = 32) : ∃ a c, v = .slice a 32 c ∧ Bl (w.alloc (.cells #[v] 43)) (.slice (some ⟨w.heap.size, 0, none⟩) 1 1) [b] := by
 obtain ⟨a, c, rfl, _⟩ := own_spellO h
 refine ⟨a, c, rfl, some ⟨w.heap.size, 0, none⟩, 1, rfl, Nat.le_refl _, fun i b' hi => ?_⟩
 have hi0 : i = 0 := by
  have := (List.getElem?_eq_some_iff.1 hi).1
  simp at this; omega
 subst hi0
 have : b = b' := by simpa using hi
 subst this
 exact ⟨w.heap.size, _, rfl, by simp, (Lib.cell_of_heap (heap_alloc_new w _) 0).trans rfl, rb_of_own (h.alloc _) hy (by omega)⟩
theorem anch22 : Ans 10 #[] (.bool true) := by
 intro w
 obtain ⟨q0, q1, q2, q3, q4, s0, s1⟩ := an_vals22
 have H0 := hide (gNew22 w)
 have H1 := hide (fun W g v (h : Hd W w.heap.size g v dk0) => gFuse h 1 (by decide))
 rw [q0] at H1
 have HB2 := hide (fun W => dBlock 2 (by decide) W)
 have HB3 := hide (fun W => dBlock 3 (by decide) W)
 have H2 := hide (fun W g v (h : Hd W w.heap.size g v an22a) (hb : w.heap.size <= W.heap.size) u (hu : Rb W u (blkc 2)) => gWrite22 h hb (by rw [s0]; decide) hu)
 rw [q1] at H2
 have H3 := hide (fun W g v (h : Hd W w.heap.size g v an22b) (hb : w.heap.size <= W.heap.size) u (hu : Rb W u (blkc 3)) => gWrite22 h hb (by rw [s1]; decide) hu)
 rw [q2] at H3
 have H4 := hide (fun W g v (h : Hd W w.heap.size g v an22c) => gCut h)
 rw [q3] at H4
 have H5 := hide (fun W g v (h : Hd W w.heap.size g v an22c) => gBlocks22 h)
 rw [q4] at H5
 have HS := hide (fun W x y (h1 : Bl W x [blkc 2]) (h2 : Bl W y [blkc 2]) => dSame22 x y [blkc 2] W h1 h2 (by decide))
 have HR := hide (fun W base v (c : Int) (hc : 0 <= c ∧ c <= 255) (h : World.ownsRow W base 5 1 v 32 (valb (blkc c))) => rb_of_own h (blkc_by hc) (by rw [blkc_len]; decide))
 have E1 : Hid (fuN dk0 1 = an22a) := rfl
 have E2 : Hid (wrN22 an22a (blkc 2) = an22b) := rfl
 have E3 : Hid (wrN22 an22b (blkc 3) = an22c) := rfl
 clear q0 q1 q2 q3 q4 s0 s1
 go_enter Try.func10, Try.ntmps10
 go_wp2_with (first
  | (go_at_call 7; refine H0.out.mono ?_; rintro e w1 ⟨rfl, hN1, hb1⟩; have HB1 := hide hb1; have HN1 := hide hN1; have HF1 := hide (H1.out _ _ _ hN1); clear hb1 hN1)
  | (go_at_call 15; refine HF1.out.mono ?_; rintro e w2 ⟨rfl, hN2, hm2⟩; rw [E1.out] at hN2; have HB2' := hide (HB1.out.trans (HN1.out.mvb hm2 HB1.out.size)); have HN2 := hide hN2; have HBk2 := hide (HB2.out w2); clear hN2 hm2 HF1 HN1)
  | (go_at_call_of 20 (Value.int .u8 3); refine (HB3.out _).mono ?_; rintro e w5 ⟨v5, rfl, ho5, hb5⟩; obtain ⟨a5, k5, hv5, _⟩ := own_spellO ho5; subst hv5; have HB5 := hide (HB4.out.trans (hb5.mono HB4.out.size)); have HN5 := hide (HN4.out.below hb5); have HW5 := hide (H3.out _ _ _ HN5.out HB5.out.size _ (HR.out _ _ _ 3 (by decide) ho5)); clear ho5 hb5)
  | (go_at_call_of 13 (Value.slice a5 32 k5); refine HW5.out.mono ?_; rintro e w6 ⟨v6, rfl, hN6, hm6⟩; rw [E3.out] at hN6; have HB6 := hide (HB5.out.trans (HN5.out.mvb hm6 HB5.out.size)); have HN6 := hide hN6; have HC6 := hide (H4.out _ _ _ hN6); have HL6 := hide (H5.out _ _ _ hN6); clear hN6 hm6)
  | (go_at_call 18; refine HC6.out.mono ?_; rintro e w7 ⟨rfl, hw7⟩; rw [hw7]; clear hw7)
  | (go_at_call 12; refine HL6.out.mono ?_; rintro e w8 ⟨v8, r8, c8, rfl, hT8, hb8⟩; obtain ⟨a8, k8, hv8, _⟩ := own_spellO hT8.row; subst hv8; have HB8 := hide (HB6.out.trans (hb8.mono HB6.out.size)); have HT8 := hide hT8.bl; clear hT8 hb8)
  | (go_at_call_of 20 (Value.int .u8 2); refine (HB2.out _).mono ?_; rintro e w9 ⟨v9, rfl, ho9, hb9⟩; obtain ⟨a9, k9, hv9, hl9⟩ := bl_one (b := blkc 2) ho9 (blkc_by (by decide)) (blkc_len 2); subst hv9; have HB9 := hide ((HB8.out.trans (hb9.mono HB8.out.size)).trans ((alloc_below w9 (.cells #[.slice a9 32 k9] 43)).mono (HB8.out.trans (hb9.mono HB8.out.size)).size)); have HS9 := hide (HS.out _ _ _ ((HT8.out.below hb9).below (alloc_below w9 (.cells #[.slice a9 32 k9] 43))) hl9); clear ho9 hb9 hl9)
  | (go_at_call_of 20 (Value.int .u8 2); refine HBk2.out.mono ?_; rintro e w3 ⟨v3, rfl, ho3, hb3⟩; obtain ⟨a3, k3, hv3, _⟩ := own_spellO ho3; subst hv3; have HB3' := hide (HB2'.out.trans (hb3.mono HB2'.out.size)); have HN3 := hide (HN2.out.below hb3); have HW3 := hide (H2.out _ _ _ HN3.out HB3'.out.size _ (HR.out _ _ _ 2 (by decide) ho3)); clear ho3 hb3)
  | (go_at_call_of 13 (Value.slice a3 32 k3); refine HW3.out.mono ?_; rintro e w4 ⟨v4, rfl, hN4, hm4⟩; rw [E2.out] at hN4; have HB4 := hide (HB3'.out.trans (HN3.out.mvb hm4 HB3'.out.size)); have HN4 := hide hN4; clear hN4 hm4)
  | (go_at_call 11; refine HS9.out.mono ?_; rintro e w10 ⟨rfl, hb10⟩))
 go_ret
 exact ⟨rfl, HB9.out.trans (hb10.mono HB9.out.size)⟩
end Go.Proofs.Yteipgnkhbcogoaa
