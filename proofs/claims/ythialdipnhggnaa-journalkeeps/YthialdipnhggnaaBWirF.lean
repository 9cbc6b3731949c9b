import Derived.Test.YthialdipnhggnaaBWirC
set_option linter.unusedVariables false
set_option linter.unusedSimpArgs false
set_option maxRecDepth 100000
set_option maxHeartbeats 4000000
namespace Go.Proofs.Ythialdipnhggnaa
open Go.RowKit Fld
def rdF (g : Nat) : Value := .func (.func 65) #[] #[.pointer (some ⟨g, 0, none⟩)]
theorem wNextCount (g : Nat) (bs : List Int) (w0 w : World) (hR : Rdr w0 w g bs) :
 Calls Try.prog 58 #[rdF g] w fun e w' => e = .returned (.tuple #[.int .i64 (rcN bs), .int .i64 (rcE bs)]) ∧ (rcE bs = 0 -> Rdr w0 w' g (bs.drop 4)) ∧ Kq (fun j => j < w.heap.size ∧ j ≠ g) w w' := by
 unfold rdF
 by_cases h4 : bs.length < 4
 · have H := hide (wNext_short 4 g bs w0 w hR h4 (by decide))
   have e1 : rcE bs = 7 := by unfold rcE; rw [if_pos h4]
   have e2 : rcN bs = 0 := by unfold rcN; rw [if_neg (by rw [e1]; decide)]
   rw [e1, e2]
   clear hR e1 e2
   go_enter Try.func58, Try.ntmps58
   go_wp2_with (go_at_call 65; refine H.out.mono ?_; rintro e w1 ⟨rfl, hw1⟩; subst hw1)
   go_ret2
   exact ⟨rfl, (fun h => by cases h), Kq.refl _ _⟩
 · have H := hide (wNext_long 4 g bs w0 w hR (by omega) (by decide) (by decide))
   have hy : By bs := by obtain ⟨_, ⟨v, _, hv⟩, _, _⟩ := hR; exact hv.by
   have hb := tk8_bd (hy.take 4)
   rw [List.length_take, Nat.min_eq_left (by omega), show (256 : Int) ^ 4 = 4294967296 by decide] at hb
   obtain ⟨b0, b1⟩ := hb
   clear hR hy
   by_cases hm : 2147483647 < tk8 (bs.take 4)
   · have e1 : rcE bs = 8 := by unfold rcE; rw [if_neg h4, if_pos hm]
     have e2 : rcN bs = 0 := by unfold rcN; rw [if_neg (by rw [e1]; decide)]
     rw [e1, e2]
     clear e1 e2
     generalize tk8 (bs.take 4) = n at *
     go_enter Try.func58, Try.ntmps58
     go_wp2_with (go_at_call 65; refine H.out.mono ?_; rintro e w1 ⟨rfl, hr1, hk1⟩)
     go_ret2
     exact ⟨rfl, (fun h => by cases h), hk1⟩
   · have e1 : rcE bs = 0 := by unfold rcE; rw [if_neg h4, if_neg hm]
     have e2 : rcN bs = tk8 (bs.take 4) := by unfold rcN; rw [if_pos e1]
     rw [e1, e2]
     clear e1 e2
     generalize tk8 (bs.take 4) = n at *
     go_enter Try.func58, Try.ntmps58
     go_wp2_with (go_at_call 65; refine H.out.mono ?_; rintro e w1 ⟨rfl, hr1, hk1⟩)
     go_ret2
     exact ⟨rfl, (fun _ => hr1), hk1⟩
def GivesB (N : Nat) (args : Array Value) (w : World) (e : Int) (bs : List Int) : Prop :=
 Calls Try.prog N args w fun r w' => ∃ v', r = .returned (.tuple #[v', .int .i64 e]) ∧ w'.ownsRow w.heap.size 5 1 v' bs.length (valb bs) ∧ Below w.heap.size w w'
theorem Rb.take {w : World} {ao : Option Addr} {n cap : Nat} {bs : List Int} (h : Rb w (.slice ao n cap) bs) {k : Nat} (hk : k <= bs.length) : Rb w (.slice ao k cap) (bs.take k) := by
 obtain ⟨ao', cap', h1, h2, h3, h4⟩ := h
 cases h1
 have hl : (bs.take k).length = k := by rw [List.length_take]; omega
 refine ⟨ao, cap, by rw [hl], ⟨by omega, by have := h2.2.1; omega, h2.2.2⟩, h3.take k, fun hne => ?_⟩
 have hk0 : 0 < k := by apply Nat.pos_of_ne_zero; intro h0; rw [h0] at hne; simp at hne
 obtain ⟨b, off, rfl, hb, hc⟩ := h4 (by intro h; rw [h] at hk; simp at hk; omega)
 refine ⟨b, off, rfl, hb, fun i hi => ?_⟩
 rw [hl] at hi
 rw [getD_take hi]; exact hc i (by omega)
theorem rReadCount (v : Value) (bs : List Int) (w : World) (h : Rb w v bs) :
 Calls Try.prog 48 #[v] w fun e w' => e = .returned (.tuple #[.int .i64 (rcN bs), .int .i64 (rcS bs), .int .i64 (rcE bs)]) ∧ w' = w := by
 by_cases h4 : bs.length < 4
 · have e1 : rcE bs = 7 := by unfold rcE; rw [if_pos h4]
   have e2 : rcN bs = 0 := by unfold rcN; rw [if_neg (by rw [e1]; decide)]
   have e3 : rcS bs = 0 := by unfold rcS; rw [if_neg (by rw [e1]; decide)]
   rw [e1, e2, e3]
   obtain ⟨ao, cap, rfl, _⟩ := h.spell
   clear h e1 e2 e3
   go_enter Try.func48, Try.ntmps48
   go_wp2
   go_ret3
   exact ⟨rfl, rfl⟩
 · obtain ⟨b, off, cap, rfl, hcp, _⟩ := h.form (by omega)
   have hb := tk8_bd (h.by.take 4)
   have H := hide (rTaken _ _ w (h.take (k := 4) (by omega)) (by rw [List.length_take]; omega))
   rw [List.length_take, Nat.min_eq_left (by omega), show (256 : Int) ^ 4 = 4294967296 by decide] at hb
   obtain ⟨b0, b1⟩ := hb
   have hc4 : (4 : Int) <= (cap : Int) := by omega
   clear h
   by_cases hm : 2147483647 < tk8 (bs.take 4)
   · have e1 : rcE bs = 8 := by unfold rcE; rw [if_neg h4, if_pos hm]
     have e2 : rcN bs = 0 := by unfold rcN; rw [if_neg (by rw [e1]; decide)]
     have e3 : rcS bs = 0 := by unfold rcS; rw [if_neg (by rw [e1]; decide)]
     rw [e1, e2, e3]
     clear e1 e2 e3
     generalize tk8 (bs.take 4) = n at *
     go_enter Try.func48, Try.ntmps48
     go_wp2_with (go_at_call 49; refine H.out.mono ?_; rintro e w1 ⟨rfl, hw1⟩; subst hw1)
     go_ret3
     exact ⟨rfl, rfl⟩
   · have e1 : rcE bs = 0 := by unfold rcE; rw [if_neg h4, if_neg hm]
     have e2 : rcN bs = tk8 (bs.take 4) := by unfold rcN; rw [if_pos e1]
     have e3 : rcS bs = 4 := by unfold rcS; rw [if_pos e1]
     rw [e1, e2, e3]
     clear e1 e2 e3
     generalize tk8 (bs.take 4) = n at *
     go_enter Try.func48, Try.ntmps48
     go_wp2_with (go_at_call 49; refine H.out.mono ?_; rintro e w1 ⟨rfl, hw1⟩; subst hw1)
     go_ret3
     exact ⟨rfl, rfl⟩
theorem Rb.news_alloc {w : World} {ad : Addr} {n cap : Nat} {bs : List Int} (h : Rb w (.slice (some ad) n cap) bs) (o : Obj) : ∀ j u, (valb bs)[j]? = some u -> (w.alloc o).cell? (ad.add j) = some u :=
 (h.below (alloc_below w o)).news
theorem wClone (ad : Addr) (n cap : Nat) (bs : List Int) (w : World) (h : Rb w (.slice (some ad) n cap) bs) (hl : bs.length <= 140737488351232) :
 Calls Try.prog 60 #[.slice (some ad) n cap] w fun e w' => ∃ v', e = .returned v' ∧ w'.ownsRow w.heap.size 5 1 v' bs.length (valb bs) ∧ Below w.heap.size w w' := by
 obtain ⟨i0, hi0, hz0, hz1, hz2⟩ := info_parts u8_info
 have hn : n = bs.length := by obtain ⟨_, _, h1, _⟩ := h; cases h1; rfl
 have HN := hide (h.news_alloc (.cells #[] 5))
 have hown : (w.alloc (.cells #[] 5)).ownsRow w.heap.size 5 1 (.slice (some ⟨w.heap.size, 0, none⟩) 0 0) 0 (valb []) := own_empty w 5
 have hB := alloc_below w (.cells #[] 5)
 have hl2 : n <= 140737488351232 := by omega
 have HL : Hid ((valb bs).length = n) := by show _ = _; rw [valb_length, hn]
 have HV1 := hide (valb_one bs)
 have HE : Hid (bs.length = n) := hn.symm
 rw [HE.out]
 have hne : ∀ W : World, (binOp .eql 23 (.slice (some ad) n cap) (.slice none 0 0)).run Try.prog W = .ok (.bool false) W := fun W => Lib.run_eql_slice_nil W _ _ (some ad) n cap 0 0 Try.underlying23
 clear h hn hl
 go_enter Try.func60, Try.ntmps60
 go_wp2_with (at_builtin; refine wpList_append_own _ rfl _ _ _ rfl w.heap.size 5 i0 _ 1 1 Try.underlying23 hi0 hz0 hz1 hz2 rfl (by omega) _ 0 (valb []) rfl hown ad n cap (valb bs) rfl (by rw [HL.out]; omega) HN.out HV1.out (by unfold maxLen; omega) (by omega) (by simp) ?_; intro v' w1 hown1 hgrow _)
 go_ret
 exact ⟨_, rfl, by simpa [valb] using hown1, hB.grown hgrow (by simp) (fun k hk => by cases hk; exact Nat.le_refl _)⟩
theorem slE_or (bs : List Int) : (1048576 < bs.length ∧ slE bs = 4 ∧ slL sum8 bs = []) ∨ (bs.length <= 1048576 ∧ slE bs = 0 ∧ slL sum8 bs = slF sum8 bs) := by
 by_cases h : 1048576 < bs.length
 · have e : slE bs = 4 := by unfold slE; rw [if_pos h]
   exact .inl ⟨h, e, by unfold slL; rw [if_neg (by rw [e]; decide)]⟩
 · have e : slE bs = 0 := by unfold slE; rw [if_neg h]
   exact .inr ⟨by omega, e, by unfold slL; rw [if_pos e]⟩
theorem wSeal (v : Value) (bs : List Int) (w : World) (h : Rb w v bs) : GivesB 33 #[v] w (slE bs) (slL sum8 bs) := by
 unfold GivesB
 rcases slE_or bs with ⟨hl, e1, e2⟩ | ⟨hl, e1, e2⟩
 · rw [e1, e2]
   obtain ⟨ao, cap, rfl, _⟩ := h.spell
   clear h e1 e2
   go_enter Try.func33, Try.ntmps33
   go_wp2
   go_ret2
   exact ⟨_, rfl, World.ownsRow_nil _ _ _ _, Below.refl _ _⟩
 · rw [e1, e2, slF_len]
   clear e1 e2
   obtain ⟨i0, hi0, hz0, hz1, hz2⟩ := info_parts u8_info
   have hy := h.by
   have HR := hide h
   obtain ⟨ao, cap, rfl, _⟩ := h.spell
   have HH : Hid (wd8 (bs.length : Int) 4 ++ bs = hd8 bs) := rfl
   have HF : Hid (hd8 bs ++ wd8 (sum8 (hd8 bs)) 8 = slF sum8 bs) := rfl
   have HHb := hide (hd8_by hy)
   have HHl := hide (hd8_len bs)
   have hsb := sum8_bd (hd8 bs)
   obtain ⟨hd, HD⟩ : ∃ hd, Hid (hd8 bs = hd) := ⟨_, rfl⟩
   obtain ⟨zs, HZ⟩ : ∃ zs, Hid (slF sum8 bs = zs) := ⟨_, rfl⟩
   rw [HD.out] at HH HF HHb HHl hsb
   rw [HZ.out] at HF ⊢
   clear h hy HD HZ
   have HA : Hid (valb (wd8 (bs.length : Int) 4) ++ valb bs = valb hd) := by show _ = _; rw [valb_app, HH.out]
   obtain ⟨n, HN⟩ : ∃ n, Hid (bs.length = n) := ⟨_, rfl⟩
   rw [HN.out] at hl HR HA HHl ⊢
   cases ao with
   | none =>
    obtain ⟨hn0, hc0, hb0⟩ := HR.out.none_
    subst hn0 hc0 hb0
    have HA2 : Hid (valb (wd8 (0 : Nat) 4) = valb hd) := by show _ = _; have := HA.out; simpa [valb] using this
    go_enter Try.func33, Try.ntmps33
    go_wp2_with (first
     | (at_make; refine wpList_make_own _ rfl _ _ 23 rfl w.heap.size 5 i0 (.int .u8 0) 1 Try.underlying23 hi0 hz0 hz1 .i64 .i64 _ 12 rfl rfl (by omega) (by rw [hz2]; omega) (by unfold maxLen; omega) (Nat.le_refl _) ?_; intro w3 hown3 hgrow3; have hB3 := below_grown_none hgrow3)
     | (at_builtin; refine wpList_append_own_none rfl _ _ _ rfl w.heap.size 5 i0 1 Try.underlying23 hi0 _ 4 _ rfl ho4 rfl ?_; have ho5 := ho4; rw [HA2.out] at ho5; have hr5 := rb_of_own ho5 HHb.out (by rw [HHl.out]; omega))
     | (go_at_call 53; refine (wSum _ hd w4 hr5).mono ?_; rintro e w6 ⟨rfl, hw6⟩; subst hw6)
     | (go_at_call 52; refine (wPut _ 4 8 hd (sum8 hd) w w6 hsb (by decide) (by omega) ho5 hB4).mono ?_; rintro e w7 ⟨v7, rfl, ho7, hB7⟩)
     | (go_at_call 52; refine (wPut _ 0 4 [] ((0 : Nat) : Int) w w3 ⟨by omega, by omega⟩ (by decide) (by decide) hown3 hB3).mono ?_; rintro e w4 ⟨v4, rfl, ho4, hB4⟩; rw [List.nil_append] at ho4; obtain ⟨a4, c4, hv4⟩ := own_form ho4; subst hv4))
    go_ret2
    rw [HF.out] at ho7
    exact ⟨_, rfl, ho7, hB7⟩
   | some ad =>
    have HV1 := hide (valb_one bs)
    have HVl : Hid ((valb bs).length = n * 1) := by show _ = _; rw [valb_length, HN.out, Nat.mul_one]
    go_enter Try.func33, Try.ntmps33
    go_wp2_with (first
     | (at_make; refine wpList_make_own _ rfl _ _ 23 rfl w.heap.size 5 i0 (.int .u8 0) 1 Try.underlying23 hi0 hz0 hz1 .i64 .i64 _ (n + 12) rfl rfl (by omega) (by rw [hz2]; omega) (by unfold maxLen; omega) (Nat.le_refl _) ?_; intro w3 hown3 hgrow3; have hB3 := below_grown_none hgrow3)
     | (at_builtin; refine wpList_append_own _ rfl _ _ _ rfl w.heap.size 5 i0 _ 1 1 Try.underlying23 hi0 hz0 hz1 hz2 rfl (by omega) _ 4 _ rfl ho4 ad n cap (valb bs) rfl HVl.out (HR.out.below hB4).news HV1.out (by unfold maxLen; omega) (by omega) (by have := hB4.size; omega) ?_; intro v5 w5 ho5 hg5 _; have hB5 := hB4.grown hg5 (by have := hB4.size; omega) (own_base ho4); rw [HA.out] at ho5; have hr5 := rb_of_own ho5 HHb.out (by rw [HHl.out]; omega); obtain ⟨a5, c5, hv5⟩ := own_form ho5; subst hv5)
     | (go_at_call 53; refine (wSum _ hd w5 hr5).mono ?_; rintro e w6 ⟨rfl, hw6⟩; subst hw6)
     | (go_at_call 52; refine (wPut _ (4 + n) 8 hd (sum8 hd) w w6 hsb (by decide) (by omega) ho5 hB5).mono ?_; rintro e w7 ⟨v7, rfl, ho7, hB7⟩)
     | (go_at_call 52; refine (wPut _ 0 4 [] (n : Int) w w3 ⟨by omega, by omega⟩ (by decide) (by decide) hown3 hB3).mono ?_; rintro e w4 ⟨v4, rfl, ho4, hB4⟩; rw [List.nil_append] at ho4; obtain ⟨a4, c4, hv4⟩ := own_form ho4; subst hv4))
    go_ret2
    rw [HF.out] at ho7
    exact ⟨_, rfl, by have e : 4 + n + 8 = 12 + n := by omega
                      rw [e] at ho7; exact ho7, hB7⟩
end Go.Proofs.Ythialdipnhggnaa
