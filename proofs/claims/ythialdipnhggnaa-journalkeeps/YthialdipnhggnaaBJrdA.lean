import Derived.Test.YthialdipnhggnaaBJrnA
import Derived.Test.YthialdipnhggnaaBByG
import Derived.Test.YthialdipnhggnaaBWirL
import Derived.Test.YthialdipnhggnaaBObjA
set_option linter.unusedVariables false
set_option linter.unusedSimpArgs false
set_option maxRecDepth 100000
set_option maxHeartbeats 4000000
namespace Go.Proofs.Ythialdipnhggnaa
open Go.RowKit Fld
theorem rb_one0 (W : World) : Rb (W.alloc (.cells #[.int .u8 0] 5)) (.slice (some ⟨W.heap.size, 0, none⟩) 1 1) [0] := by
 refine ⟨_, 1, rfl, ⟨Nat.le_refl _, by decide, fun h => by cases h⟩, By.cons (by decide) (by decide) By.nil, fun _ => ⟨W.heap.size, 0, rfl, by simp, fun i hi => ?_⟩⟩
 have : i = 0 := by simpa using hi
 subst this
 exact (Lib.cell_of_heap (heap_alloc_new W _) 0).trans rfl
theorem pad_step (xs : List Int) (k : Nat) : xs ++ List.replicate k 0 ++ [0] = xs ++ List.replicate (k + 1) 0 := by
 rw [List.append_assoc, List.replicate_succ' (n := k)]
theorem dBlocks23 (v : Value) (r : List Int) (w : World) (h : Rb w v r) (hl : r.length <= 140737488351232) :
 Calls Try.prog 31 #[v] w fun e w' => ∃ v', e = .returned v' ∧ w'.ownsRow w.heap.size 5 1 v' (32 * jrN r.length) (valb (jrB sum8 r)) ∧ Below w.heap.size w w' := by
 have hy := h.by
 have hn := jrN_bd r.length
 have HR := hide h
 have HW4 := hide (rWide 4 (r.length : Int) w ⟨by omega, by omega⟩ (by decide))
 have HA := hide (fun W (hB : Below w.heap.size w W) (a4 : Option Addr) (c4 : Nat) (a0 : Option Addr) (c0 : Nat) (hr : Rb w (.slice a0 r.length c0) r) (ho : W.ownsRow w.heap.size 5 1 (.slice a4 4 c4) 4 (valb (wd8 (r.length : Int) 4))) => app_big (m := r.length) ho (hr.below hB) (by omega) hB.size)
 have hsb := sum8_bd (hd8 r)
 have HY := hide (hd8_by hy)
 have HHl := hide (hd8_len r)
 have HE : Hid (wd8 (r.length : Int) 4 ++ r = hd8 r) := rfl
 have HF : Hid (hd8 r ++ wd8 (sum8 (hd8 r)) 8 = slF sum8 r) := rfl
 have HL := hide (slF_len sum8 r)
 have HJ : Hid (slF sum8 r ++ List.replicate (32 * jrN r.length - (12 + r.length)) 0 = jrB sum8 r) := rfl
 have HWb := hide (wd8_by (sum8 (hd8 r)) 8)
 have HWl := hide (wd8_len (sum8 (hd8 r)) 8)
 have HS := hide (fun W x (hx : Rb W x (hd8 r)) => rSum x (hd8 r) W hx)
 have HW8 := hide (fun W => rWide 8 (sum8 (hd8 r)) W hsb (by decide))
 obtain ⟨ao, cap, rfl, _⟩ := h.spell
 clear h hy hsb
 obtain ⟨n, HN⟩ : ∃ n, Hid (r.length = n) := ⟨_, rfl⟩
 obtain ⟨B, HB⟩ : ∃ B, Hid (jrB sum8 r = B) := ⟨_, rfl⟩
 rw [HN.out] at hl hn HR HW4 HA HE HHl HL HJ ⊢
 rw [HB.out] at HJ ⊢
 obtain ⟨P, HP⟩ : ∃ P, Hid (32 * jrN n = P) := ⟨_, rfl⟩
 rw [HP.out] at hn HJ ⊢
 have hP32 : P % 32 = 0 := by rw [<- HP.out]; omega
 go_enter Try.func31, Try.ntmps31
 go_wp2_with fail
 refine HW4.out.mono ?_
 rintro e w4 ⟨v4, rfl, ho4, hb4⟩
 obtain ⟨a4, c4, hv4, _⟩ := own_spellO ho4
 subst hv4
 obtain ⟨v5, w5, hr55, ho5, hg5⟩ := HA.out _ hb4 _ _ _ _ HR.out ho4
 have HB5 := hide (hb4.grown hg5 hb4.size (own_base ho4))
 rw [HE.out] at ho5
 have hr5 := rb_of_own ho5 HY.out (by rw [HHl.out]; omega)
 obtain ⟨a5, c5, hv5⟩ := own_form ho5
 subst hv5
 have HO5 := hide ho5
 clear ho4 hb4 hg5
 go_wp2_with (at_builtin; refine app_runO rfl _ _ _ rfl _ _ _ rfl rfl hr55 ?_)
 refine (HS.out _ _ hr5).mono ?_
 rintro e w6 ⟨rfl, hw6⟩
 rw [hw6]
 clear hw6
 go_wp2_with fail
 refine (HW8.out w5).mono ?_
 rintro e w7 ⟨v7, rfl, ho7, hb7⟩
 have hr7 := rb_of_own ho7 HWb.out (by rw [HWl.out]; omega)
 obtain ⟨a7, c7, hv7, _⟩ := own_spellO ho7
 subst hv7
 obtain ⟨v8, w8, hr8, ho8, hg8⟩ := app_big (m := 8) (own_below HO5.out hb7) hr7 (by omega) (by have := HB5.out.size; have := hb7.size; omega)
 have HB8 := hide ((HB5.out.trans (hb7.mono HB5.out.size)).grown hg8 (by have := HB5.out.size; have := hb7.size; omega) (own_base HO5.out))
 rw [HF.out] at ho8
 obtain ⟨a8, c8, hv8⟩ := own_form ho8
 subst hv8
 have HO8 := hide ho8
 clear hr7 ho7 hb7 ho8 hg8 hr55 hr5
 go_wp2_with (at_builtin; refine app_runO rfl _ _ _ rfl _ _ _ rfl rfl hr8 ?_)
 have e12 : 4 + n + 8 = 12 + n := by omega
 rw [e12] at HO8
 rw [e12]
 have HLn := hide hl
 clear hr8 e12 HS HW8 HWl HWb HA HW4 HR HO5 HB5 HE HF HHl HY hl
 go_loopw [3] (fun v3 wr => ∃ (k : Nat) (a : Option Addr) (c : Nat), 12 + n + k <= P ∧ v3 = .slice a (12 + n + k) c ∧ Hid (wr.ownsRow w.heap.size 5 1 (.slice a (12 + n + k) c) (12 + n + k) (valb (slF sum8 r ++ List.replicate k 0))) ∧ Below w.heap.size w wr) (fun v3 _ => P - (match v3 with | .slice _ m _ => m | _ => 0))
 case atStart => exact ⟨0, a8, c8, by omega, rfl, by simpa using HO8, HB8.out⟩
 case round =>
  obtain ⟨k, a, c, hk, rfl, HRo, hB⟩ := hrel
  have hPb := hn.2.1
  obtain ⟨i0, hi0, hz0, hz1, hz2⟩ := info_parts b8_info
  obtain ⟨m, Hm⟩ : ∃ m, Hid (12 + n + k = m) := ⟨_, rfl⟩
  rw [Hm.out] at hk HRo ⊢
  by_cases hlt : m < P
  · have q0 : ((m : Int) % 32 != 0) = true := bne_iff_ne.2 (by have := Hm.out; omega)
    have hal := alloc_below wr (.cells #[.int .u8 0] 5)
    obtain ⟨v2, w2, hr2, ho2, hg2⟩ := app_big (m := 1) (c := 1) (a := some ⟨wr.heap.size, 0, none⟩) (own_below HRo.out hal) (rb_one0 wr) (by have := HLn.out; omega) (by have := hB.size; have := hal.size; omega)
    have HB2 := hide ((Below.next hB hal).grown hg2 (by have := hB.size; have := hal.size; omega) (own_base HRo.out))
    rw [pad_step] at ho2
    obtain ⟨a2, c2, hv2⟩ := own_form ho2
    subst hv2
    have HO2 := hide ho2
    clear ho2 hg2 hal HRo hB
    go_wp2_with (at_builtin; refine app_runO rfl _ _ _ rfl _ _ _ rfl rfl hr2 ?_)
    have hm := Hm.out
    clear hr2
    go_roundw
    case rel => exact ⟨k + 1, a2, c2, by omega, by rw [show 12 + n + (k + 1) = m + 1 by omega], by rw [show 12 + n + (k + 1) = m + 1 by omega]; exact HO2, HB2.out⟩
    case measure => simp; omega
  · have hPe : P = m := by omega
    have q0 : (m : Int) % 32 = 0 := by omega
    have hr := HRo.out
    rw [show k = P - (12 + n) by have := Hm.out; omega, HJ.out] at hr
    have HRf := hide hr
    have HPe := hide hPe
    clear hr HRo hPe hk hPb hn hP32
    go_wp2_with fail
    go_ret
    exact ⟨_, rfl, by rw [HPe.out]; exact HRf.out, hB⟩
theorem dSize23 (v : Value) (r : List Int) (w : World) (h : Rb w v r) (hl : r.length <= 140737488351232) :
 Calls Try.prog 11 #[v] w fun e w' => e = .returned (.int .i64 ((jrN r.length : Nat) : Int)) ∧ Below w.heap.size w w' := by
 have HB := hide (dBlocks23 v r w h hl)
 obtain ⟨a, c, rfl, _⟩ := h.spell
 have hn := jrN_bd r.length
 have hE : ((32 * jrN r.length : Nat) : Int) / 32 = ((jrN r.length : Nat) : Int) := by omega
 have HE := hide hE
 have hM : 0 <= ((32 * jrN r.length : Nat) : Int) ∧ ((32 * jrN r.length : Nat) : Int) <= 140737488400000 := by omega
 clear h hE hl hn
 generalize r.length = n at *
 generalize jrB sum8 r = B at *
 obtain ⟨m, Hm⟩ : ∃ m, Hid (32 * jrN n = m) := ⟨_, rfl⟩
 rw [Hm.out] at HB HE hM
 generalize jrN n = J at *
 go_enter Try.func11, Try.ntmps11
 go_wp2_with (go_at_call 31; refine HB.out.mono ?_; rintro e w1 ⟨v1, rfl, ho1, hb1⟩; obtain ⟨a1, c1, hv1⟩ := own_form ho1; subst hv1)
 go_ret
 exact ⟨by rw [<- HE.out]; rfl, hb1⟩
end Go.Proofs.Ythialdipnhggnaa
