import Derived.Test.YtaikhiodpieghaaBWirF
set_option linter.unusedVariables false
set_option linter.unusedSimpArgs false
set_option maxRecDepth 100000
set_option maxHeartbeats 4000000
namespace Go.Proofs.Ytaikhiodpieghaa
open Go.RowKit Fld
theorem inW_inF (f : Int) (l : List Int) : inF f l = inW f l := rfl
theorem wElementSize (f : Int) (w : World) (hf : f = 1 ∨ f = 2) :
 Calls Try.prog 49 #[.int .u8 f] w fun e w' => e = .returned (.int .i64 (wF f)) ∧ w' = w := by
 rcases hf with rfl | rfl
 all_goals
  go_enter Try.func49, Try.ntmps49
  go_wp2
  go_ret
  exact ⟨rfl, rfl⟩
theorem wF_or {f : Int} (hf : f = 1 ∨ f = 2) : wF f = 4 ∨ wF f = 8 := by
 rcases hf with rfl | rfl
 · exact .inl rfl
 · exact .inr rfl
theorem wListSize (f : Int) (n : Nat) (w : World) (hf : f = 1 ∨ f = 2) (hn : n <= 4096) :
 Calls Try.prog 48 #[.int .u8 f, .int .i64 n] w fun e w' => e = .returned (.int .i64 ((5 + n * wF f : Nat) : Int)) ∧ w' = w := by
 have H := hide (fun W => wElementSize f W hf)
 have hq : wF f = 4 ∨ wF f = 8 := wF_or hf
 clear hf
 generalize wF f = q at *
 rcases hq with rfl | rfl
 all_goals
  go_enter Try.func48, Try.ntmps48
  go_wp2_with (go_at_call 49; refine (H.out _).mono ?_; rintro e w1 ⟨rfl, hw1⟩; subst hw1)
  go_ret
  exact ⟨rfl, rfl⟩
theorem lsE_no {f : Int} {l : List Int} (h : inW f l = false) : lsE f l = 2 ∧ lsL f l = [] := by
 have e : lsE f l = 2 := by unfold lsE; rw [if_neg (by rw [h]; simp)]
 exact ⟨e, by unfold lsL; rw [if_neg (by rw [e]; decide)]⟩
theorem lsE_long {f : Int} {l : List Int} (h : inW f l = true) (hl : 4096 < l.length) : lsE f l = 4 ∧ lsL f l = [] := by
 have e : lsE f l = 4 := by unfold lsE; rw [if_pos h, if_pos hl]
 exact ⟨e, by unfold lsL; rw [if_neg (by rw [e]; decide)]⟩
theorem lsE_yes {f : Int} {l : List Int} (h : inW f l = true) (hl : l.length <= 4096) : lsE f l = 0 ∧ lsL f l = lsF f l := by
 have e : lsE f l = 0 := by unfold lsE; rw [if_pos h, if_neg (by omega)]
 exact ⟨e, by unfold lsL; rw [if_pos e]⟩
theorem wrL_step (q : Nat) (l : List Int) (k : Nat) (h : k < l.length) : wrL q (l.take (k + 1)) = wrL q (l.take k) ++ wd8 (l.getD k 0) q := by
 rw [take_snoc8 h, wrL_snoc]
theorem wList (f : Int) (v : Value) (l : List Int) (w : World) (hf : 0 <= f ∧ f <= 255) (hr : Row w v l) : GivesB 31 #[.int .u8 f, v] w (lsE f l) (lsL f l) := by
 unfold GivesB
 have HI := hide (In_any f v l w hr)
 rw [inW_inF] at HI
 obtain ⟨ao, cap, rfl, hlen, hw, hc⟩ := hr
 cases hi : inW f l with
 | false =>
  obtain ⟨e1, e2⟩ := lsE_no hi
  rw [e1, e2]
  rw [hi] at HI
  clear hi e1 e2 hc
  go_enter Try.func31, Try.ntmps31
  go_wp2_with (go_at_call 47; refine HI.out.mono ?_; rintro e w1 ⟨rfl, hb1⟩)
  go_ret2
  exact ⟨_, rfl, World.ownsRow_nil _ _ _ _, hb1⟩
 | true =>
  by_cases hl : 4096 < l.length
  · obtain ⟨e1, e2⟩ := lsE_long hi hl
    rw [e1, e2]
    rw [hi] at HI
    clear hi e1 e2 hc
    go_enter Try.func31, Try.ntmps31
    go_wp2_with (go_at_call 47; refine HI.out.mono ?_; rintro e w1 ⟨rfl, hb1⟩)
    go_ret2
    exact ⟨_, rfl, World.ownsRow_nil _ _ _ _, hb1⟩
  · obtain ⟨e1, e2⟩ := lsE_yes hi (by omega)
    have hff := inW_field hi
    have hn : l.length <= 4096 := by omega
    obtain ⟨i0, hi0, hz0, hz1, hz2⟩ := info_parts u8_info
    rw [e1, e2, lsF_len]
    rw [hi] at HI
    have HW := hide hw
    have HLS := hide (fun W => wListSize f l.length W hff hn)
    have HES := hide (fun W => wElementSize f W hff)
    have HF : Hid (lsF f l = [f] ++ wd8 (l.length : Int) 4 ++ wrL (wF f) (l.take l.length)) := by show _ = _; rw [List.take_length]; rfl
    have HF1 : Hid (wd8 f 1 = [f]) := by
     rcases hff with rfl | rfl <;> rfl
    have HST := hide (wrL_step (wF f) l)
    rw [HF.out]
    have hq : wF f = 4 ∨ wF f = 8 := wF_or hff
    have hq8 : wF f <= 8 := by omega
    have hm : l.length * wF f <= 32768 := Nat.le_trans (Nat.mul_le_mul_right _ hn) (by omega)
    have hfr : (0 : Int) <= f ∧ f <= 255 := hf
    obtain ⟨f0, f1⟩ := hf
    have HH : Hid (wrL (wF f) (l.take 0) = []) := rfl
    clear hi e1 e2 hff hq hw
    generalize wF f = q at *
    generalize hsz : 5 + l.length * q = sz at *
    obtain ⟨hd, HD⟩ : ∃ hd, Hid ([f] ++ wd8 (l.length : Int) 4 = hd) := ⟨_, rfl⟩
    obtain ⟨zs, HZ⟩ : ∃ zs, Hid (hd ++ wrL q (l.take l.length) = zs) := ⟨_, rfl⟩
    rw [HD.out, HZ.out]
    go_enter Try.func31, Try.ntmps31
    go_wp2_with (first
     | (go_at_call 47; refine HI.out.mono ?_; rintro e w1 ⟨rfl, hb1⟩)
     | (go_at_call 48; refine (HLS.out _).mono ?_; rintro e w2 ⟨rfl, hw2⟩; subst hw2)
     | (at_make; refine wpList_make_own _ rfl _ _ 27 rfl w.heap.size 5 i0 (.int .u8 0) 1 Try.underlying27 hi0 hz0 hz1 .i64 .i64 _ sz rfl rfl rfl (by rw [hz2]; omega) (by unfold maxLen; omega) hb1.size ?_; intro w3 hown3 hgrow3; have hB3 := Below.next hb1 (below_grown_none hgrow3))
     | (go_at_call 34; refine (wPut _ 1 4 [f] (l.length : Int) w w4 ⟨by omega, by omega⟩ (by decide) (by decide) (by have := ho4; rw [HF1.out] at this; exact this) hB4).mono ?_; rintro e w5 ⟨v5, rfl, ho5, hB5⟩)
     | (go_at_call 34; refine (wPut _ 0 1 [] f w w3 ⟨by omega, by omega⟩ (by decide) (by decide) hown3 hB3).mono ?_; rintro e w4 ⟨v4, rfl, ho4, hB4⟩; obtain ⟨a4, c4, hv4⟩ := own_form ho4; subst hv4))
    have HO5 : Hid (w5.ownsRow w.heap.size 5 1 v5 (5 + 0 * q) (valb (hd ++ wrL q (l.take 0)))) := by
     show World.ownsRow _ _ _ _ _ _ _
     rw [<- HD.out, HH.out, List.append_nil, Nat.zero_mul]; exact ho5
    clear ho5 ho4 hB4 hown3 hgrow3 hB3 HI HLS hb1
    go_loopw [6, 32] (fun vo vi wr => ∃ k : Nat, k <= l.length ∧ vi = .int .i64 k ∧ Hid (wr.ownsRow w.heap.size 5 1 vo (5 + k * q) (valb (hd ++ wrL q (l.take k)))) ∧ Below w.heap.size w wr) (fun _ vi _ => l.length - (intOf vi).toNat)
    case atStart => exact ⟨0, Nat.zero_le _, rfl, HO5, hB5⟩
    case round =>
     clear HO5 hB5
     obtain ⟨k, hk, rfl, HO, hB⟩ := hrel
     by_cases hlt : k < l.length
     · obtain ⟨b, off, rfl, hbl, hcell⟩ := hc (by intro h; rw [h] at hlt; simp at hlt)
       have hck := (hB.cell (p := ⟨b, off + k, none⟩) hbl).trans (hcell k hlt)
       have hx : 0 <= l.getD k 0 ∧ l.getD k 0 <= 18446744073709551615 := by
        have : l.getD k 0 = l[k] := by rw [List.getD_eq_getElem?_getD, List.getElem?_eq_getElem hlt]; rfl
        rw [this]; exact HW.out _ (List.getElem_mem hlt)
       have hkq : k * q <= 32768 := Nat.le_trans (Nat.mul_le_mul_right _ hk) hm
       have HP := hide (wPut _ (5 + k * q) q _ (l.getD k 0) w wr hx hq8 (by omega) HO.out hB)
       rw [List.append_assoc, <- HST.out k hlt, Nat.add_assoc, show k * q + q = (k + 1) * q by rw [Nat.add_mul, Nat.one_mul]] at HP
       obtain ⟨a6, c6, hv6⟩ := own_form HO.out
       subst hv6
       clear hx hcell hc HST hkq HO
       generalize l.getD k 0 = x at *
       go_wp2_with (first
        | (go_at_call 49; refine (HES.out _).mono ?_; rintro e w6 ⟨rfl, hw6⟩; subst hw6)
        | (go_at_call 34; refine HP.out.mono ?_; rintro e w7 ⟨v7, rfl, ho7, hB7⟩))
       have HO7 := hide ho7
       clear ho7
       go_roundw
       case rel => exact ⟨k + 1, by omega, by go_num, HO7, hB7⟩
       case measure => simp [intOf]; omega
     · obtain rfl : k = l.length := by omega
       clear hc
       rw [hsz, HZ.out] at HO
       go_wp2
       go_ret2
       exact ⟨_, rfl, HO.out, hB⟩
end Go.Proofs.Ytaikhiodpieghaa
