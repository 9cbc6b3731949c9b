import Derived.Test.YtaikhiodpieghaaBWirG
set_option linter.unusedVariables false
set_option linter.unusedSimpArgs false
set_option maxRecDepth 100000
set_option maxHeartbeats 4000000
namespace Go.Proofs.Ytaikhiodpieghaa
open Go.RowKit Fld
theorem rWidth (f : Int) (w : World) (hf : f = 1 ∨ f = 2) :
 Calls Try.prog 36 #[.int .u8 f] w fun e w' => e = .returned (.int .i64 (wF f)) ∧ w' = w := by
 rcases hf with rfl | rfl
 all_goals
  go_enter Try.func36, Try.ntmps36
  go_wp2
  go_ret
  exact ⟨rfl, rfl⟩
theorem own_one8 (w : World) (T : TypeId) (f : Int) : (w.alloc (.cells #[.int .u8 f] T)).ownsRow w.heap.size T 1 (.slice (some ⟨w.heap.size, 0, none⟩) 1 1) 1 (valb [f]) :=
 ⟨by simp [valb], .inr ⟨_, 1, #[.int .u8 f], rfl, Nat.le_refl _, heap_alloc_new w _, Nat.le_refl _, by unfold maxLen; omega, by simp, by simp [valb]⟩⟩
theorem rList (f : Int) (v : Value) (l : List Int) (w : World) (hf : 0 <= f ∧ f <= 255) (hr : Row w v l) : GivesB 20 #[.int .u8 f, v] w (lsE f l) (lsL f l) := by
 unfold GivesB
 have HI := hide (rIn_any f v l w hr)
 rw [inW_inF] at HI
 obtain ⟨ao, cap, rfl, hlen, hw, hc⟩ := hr
 cases hi : inW f l with
 | false =>
  obtain ⟨e1, e2⟩ := lsE_no hi
  rw [e1, e2]
  rw [hi] at HI
  clear hi e1 e2 hc
  go_enter Try.func20, Try.ntmps20
  go_wp2_with (go_at_call 22; refine HI.out.mono ?_; rintro e w1 ⟨rfl, hw1⟩; subst hw1)
  go_ret2
  exact ⟨_, rfl, World.ownsRow_nil _ _ _ _, Below.refl _ _⟩
 | true =>
  by_cases hl : 4096 < l.length
  · obtain ⟨e1, e2⟩ := lsE_long hi hl
    rw [e1, e2]
    rw [hi] at HI
    clear hi e1 e2 hc
    go_enter Try.func20, Try.ntmps20
    go_wp2_with (go_at_call 22; refine HI.out.mono ?_; rintro e w1 ⟨rfl, hw1⟩; subst hw1)
    go_ret2
    exact ⟨_, rfl, World.ownsRow_nil _ _ _ _, Below.refl _ _⟩
  · obtain ⟨e1, e2⟩ := lsE_yes hi (by omega)
    have hff := inW_field hi
    have hn : l.length <= 4096 := by omega
    obtain ⟨i0, hi0, hz0, hz1, hz2⟩ := info_parts u8_info
    rw [e1, e2, lsF_len]
    rw [hi] at HI
    have HW := hide hw
    have HES := hide (fun W => rWidth f W hff)
    have HF : Hid (lsF f l = [f] ++ wd8 (l.length : Int) 4 ++ wrL (wF f) (l.take l.length)) := by show _ = _; rw [List.take_length]; rfl
    have HST := hide (wrL_step (wF f) l)
    rw [HF.out]
    have hq : wF f = 4 ∨ wF f = 8 := wF_or hff
    have hq8 : wF f <= 8 := by omega
    have hq0 : 0 < wF f := by omega
    have hm : l.length * wF f <= 32768 := Nat.le_trans (Nat.mul_le_mul_right _ hn) (by omega)
    obtain ⟨f0, f1⟩ := hf
    have HH : Hid (wrL (wF f) (l.take 0) = []) := rfl
    clear hi e1 e2 hff hq hw
    generalize wF f = q at *
    generalize hsz : 5 + l.length * q = sz at *
    obtain ⟨hd, HD⟩ : ∃ hd, Hid ([f] ++ wd8 (l.length : Int) 4 = hd) := ⟨_, rfl⟩
    obtain ⟨zs, HZ⟩ : ∃ zs, Hid (hd ++ wrL q (l.take l.length) = zs) := ⟨_, rfl⟩
    rw [HD.out, HZ.out]
    have HA : Hid (valb [f] ++ valb (wd8 (l.length : Int) 4) = valb hd) := by show _ = _; rw [valb_app, HD.out]
    have HW8 : Hid ((valb (wd8 (l.length : Int) 4)).length = 4 * 1) := by show _ = _; rw [valb_length, wd8_len]
    have HW1 := hide (valb_one (wd8 (l.length : Int) 4))
    have HWb := hide (wd8_by (l.length : Int) 4)
    have HWl := hide (wd8_len (l.length : Int) 4)
    have hO1 := own_one8 w 5 f
    have hB1 := alloc_below w (.cells #[.int .u8 f] 5)
    go_enter Try.func20, Try.ntmps20
    go_wp2_with (first
     | (go_at_call 22; refine HI.out.mono ?_; rintro e w1 ⟨rfl, hw1⟩; subst hw1)
     | (go_at_call 19; refine (rWide 4 (l.length : Int) _ ⟨by omega, by omega⟩ (by decide)).mono ?_; rintro e w4 ⟨v4, rfl, ho4, hb4⟩; have hr4 := rb_of_own ho4 HWb.out (by rw [HWl.out]; omega); obtain ⟨g4, c4, hv4, _⟩ := ho4.form (by omega); subst hv4; have hB4 := Below.next hB1 hb4)
     | (at_builtin; refine wpList_append_own _ rfl _ _ _ rfl w1.heap.size 5 i0 _ 1 1 Try.underlying27 hi0 hz0 hz1 hz2 rfl (by omega) _ 1 _ rfl (own_below hO1 hb4) ⟨g4, 0, none⟩ 4 c4 (valb (wd8 (l.length : Int) 4)) rfl HW8.out hr4.news HW1.out (by unfold maxLen; omega) (by omega) (by have := hB4.size; omega) ?_; intro v5 w5 ho5 hg5 _; have hB5 := hB4.grown hg5 (by have := hB4.size; omega) (own_base hO1)))
    rw [HA.out] at ho5
    have HO5 : Hid (w5.ownsRow w1.heap.size 5 1 v5 (5 + 0 * q) (valb (hd ++ wrL q (l.take 0)))) := by
     show World.ownsRow _ _ _ _ _ _ _
     rw [HH.out, List.append_nil, Nat.zero_mul]; exact ho5
    clear ho5 ho4 hB4 hb4 hr4 HI hO1 hB1 hg5 HA HW8 HW1 HWb HWl
    go_loopw [6, 7] (fun vo vi wr => ∃ k : Nat, k <= l.length ∧ vi = .int .i64 k ∧ Hid (wr.ownsRow w1.heap.size 5 1 vo (5 + k * q) (valb (hd ++ wrL q (l.take k)))) ∧ Below w1.heap.size w1 wr) (fun _ vi _ => l.length - (intOf vi).toNat)
    case atStart => exact ⟨0, Nat.zero_le _, rfl, HO5, hB5⟩
    case round =>
     clear HO5 hB5
     obtain ⟨k, hk, rfl, HO, hB⟩ := hrel
     by_cases hlt : k < l.length
     · obtain ⟨b, off, rfl, hbl, hcell⟩ := hc (by intro h; rw [h] at hlt; simp at hlt)
       have hck := (hB.cell (p := ⟨b, off + k, none⟩) hbl).trans (hcell k hlt)
       have hx : 0 <= l.getD k 0 ∧ l.getD k 0 <= 18446744073709551615 := by
        have : l.getD k 0 = l[k] := by rw [List.getD_eq_getElem?_getD, List.getElem?_eq_getElem hlt]; rfl
        rw [this]; exact HW.out _ (List.getElem_mem hlt)
       have hkq : k * q <= 32768 := Nat.le_trans (Nat.mul_le_mul_right _ hk) hm
       have HS : Hid (valb (hd ++ wrL q (l.take k)) ++ valb (wd8 (l.getD k 0) q) = valb (hd ++ wrL q (l.take (k + 1)))) := by show _ = _; rw [valb_app, List.append_assoc, HST.out k hlt]
       have HQ : Hid (5 + k * q + q = 5 + (k + 1) * q) := by show _ = _; rw [Nat.add_mul, Nat.one_mul, Nat.add_assoc]
       have HV := hide (fun W => rWide q (l.getD k 0) W hx hq8)
       have HW8 : Hid ((valb (wd8 (l.getD k 0) q)).length = q * 1) := by show _ = _; rw [valb_length, wd8_len, Nat.mul_one]
       have HW1 := hide (valb_one (wd8 (l.getD k 0) q))
       have HWb := hide (wd8_by (l.getD k 0) q)
       have HWl := hide (wd8_len (l.getD k 0) q)
       obtain ⟨a6, c6, hv6⟩ := own_form HO.out
       have hbase := own_base HO.out
       subst hv6
       clear hx hcell hc HST
       generalize l.getD k 0 = x at *
       generalize hd ++ wrL q (l.take k) = cs at *
       generalize wd8 x q = ds at *
       have k0 : (0 : Int) <= (k : Int) := Int.natCast_nonneg _
       have k1 : (k : Int) < (l.length : Int) := by omega
       have hbs := hB.size
       have hBd := hB.drew
       have lb : b < wr.heap.size := Nat.lt_of_lt_of_le hbl hB.size
       have ab : (Value.slice a6 (5 + k * q) c6).ownBlock ≠ some b := fun h => by have := hbase b h; omega
       go_wp2_with fail
       go_region_held3 (fun w' => w'.cell? ⟨b, off + k, none⟩ = some (.int .u64 x))
        (first | go_keep | (with_reducible exact hS7) | (rw [hg8.cell_far _ (by have := hb7.size; simp at this ⊢; omega) (Ne.symm ab)]; exact hS7))
        (first
         | (refine step_append_lies _ (by rfl) _ _ _ (by rfl) w1.heap.size 5 i0 _ 1 1 Try.underlying27 hi0 hz0 hz1 hz2 rfl (by omega) (.slice a6 (5 + k * q) c6) (5 + k * q) _ (by rfl) (own_below (own_below HO.out (Below.refl wr.heap.size wr).drew) hb7) ⟨g7, 0, none⟩ q c7 (valb ds) (by rfl) HW8.out hr7.news HW1.out (by omega) (by unfold maxLen; omega) (by omega) (by have := hB7.size; omega) w7.heap.size rfl ?_; intro gg cap2 w8 ho8 hg8 hat hltg)
         | (go_at_call 36; refine (HES.out _).mono ?_; rintro e w6 ⟨rfl, hw6⟩; subst hw6)
         | (go_at_call 19; refine (HV.out _).mono ?_; rintro e w7 ⟨v7, rfl, ho7, hb7⟩; have hr7 := rb_of_own ho7 HWb.out (by rw [HWl.out]; omega); obtain ⟨g7, c7, hv7, _⟩ := ho7.form (by omega); subst hv7; have hB7 := Below.next hB.drew hb7; have hS7 := (hb7.cell (p := ⟨b, off + k, none⟩) lb).trans hck))
       have HO8 := hide ho8
       rw [HS.out, HQ.out] at HO8
       have hB8 := hB7.grown hg8 (by have := hB7.size; omega) hbase
       clear ho8 hg8 hat hltg HO hr7 ho7 hb7 hB7 hS7
       go_wp2
       go_roundw
       case rel => exact ⟨k + 1, by omega, by go_num, by rw [HQ.out]; exact HO8, hB8⟩
       case measure => simp [intOf]; omega
     · obtain rfl : k = l.length := by omega
       clear hc
       rw [hsz, HZ.out] at HO
       go_wp2
       go_ret2
       exact ⟨_, rfl, HO.out, hB⟩
end Go.Proofs.Ytaikhiodpieghaa
