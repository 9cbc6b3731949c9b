/-
  WireBack's walk: what is written is read, with any bytes behind.
-/
import Derived.Test.YtcpgpncpapdlhaaBLawWA
import Derived.Deep.DeepAppendWide
namespace Go.Proofs.Ytcpgpncpapdlhaa
open Go.RowKit Fld
set_option linter.unusedVariables false

theorem inW_map {g p : Int} {wd : Bool} (h : Fi g p wd) (l : List Int) : inW g (l.map (· % p)) = true ∧ ∀ x ∈ l.map (· % p), 0 ≤ x ∧ x ≤ 18446744073709551615 := by
  have hp := h.pos
  have ht := h.top
  refine ⟨?_, fun x hx => ?_⟩
  · rw [← inW_inF, inF_yes h]
    unfold allIn
    rw [List.all_eq_true]
    intro x hx
    obtain ⟨y, _, rfl⟩ := List.mem_map.1 hx
    exact decide_eq_true (Int.emod_lt_of_pos y hp)
  · obtain ⟨y, _, rfl⟩ := List.mem_map.1 hx
    exact ⟨Int.emod_nonneg y (by omega), by have := Int.emod_lt_of_pos y hp; omega⟩

set_option maxRecDepth 100000 in
set_option maxHeartbeats 400000 in
theorem wback_in (f r g p : Int) (wd : Bool) (u : Value) (l : List Int) (v : Value) (bh : List Int) (w : World) (hf : 0 ≤ f ∧ f ≤ 255) (hr : f % 2 = r) (hg : g = r + 1) (hr01 : r = 0 ∨ r = 1) (hfi : Fi g p wd) (hl : Row w u l) (h : Rb w v bh) (hbl : bh.length ≤ 140737488351232) :
    Calls Try.prog 6 #[.int .u8 f, u, v] w fun e w' => e = .returned (.bool true) ∧ Below w.heap.size w w' := by
  obtain ⟨f0, f1⟩ := hf
  obtain ⟨i0, hi0, hz0, hz1, hz2⟩ := info_parts u64_info
  obtain ⟨j0, hj0, hy0, hy1, hy2⟩ := info_parts u8_info
  have hp0 := hfi.pos
  have hp1 := hfi.top
  have HP := hide (fun W => rP_yes g p wd W hfi)
  have hK : min l.length 4096 ≤ 4096 := Nat.min_le_right _ _
  obtain ⟨X, hX⟩ : ∃ X, (l.take (min l.length 4096)).map (· % p) = X := ⟨_, rfl⟩
  have hXi : inW g X = true := by rw [← hX]; exact (inW_map hfi _).1
  have hXw : ∀ x ∈ X, 0 ≤ x ∧ x ≤ 18446744073709551615 := by rw [← hX]; exact (inW_map hfi _).2
  have hXl : X.length = min l.length 4096 := by rw [← hX, List.length_map, List.length_take]; omega
  have hls : lsE g X = 0 := by unfold lsE; rw [if_pos hXi, if_neg (by omega)]
  have hg2 : g = 1 ∨ g = 2 := inW_field hXi
  obtain ⟨L, hL⟩ : ∃ L, lsF g X = L := ⟨_, rfl⟩
  have hLok : By L ∧ L.length ≤ 32773 := by
    have hq := wF_or hg2
    refine ⟨by rw [← hL]; exact lsF_by hg2 X, ?_⟩
    rw [← hL, lsF_len, hXl]
    have := Nat.mul_le_mul hK (show wF g ≤ 8 by omega)
    omega
  have hLL : lsL g X = L := by unfold lsL; rw [if_pos hls, hL]
  obtain ⟨q1, q2, q3, q4⟩ := read_list hls (fun x hx => (hXw x hx).1) bh
  rw [hL] at q1 q2 q3 q4
  have q5 : rlFo (L ++ bh) = g ∧ rlLo (L ++ bh) = X ∧ rlSo (L ++ bh) = L.length := by
    obtain ⟨d1, d2, d3⟩ := rl_yes q1
    rw [d1, d2, d3, q2, q3, q4, ← hL, lsF_len]
    exact ⟨rfl, rfl, rfl⟩
  obtain ⟨SF, hSF⟩ : ∃ SF, slF sum8 L = SF := ⟨_, rfl⟩
  have hSFok : By SF ∧ SF.length = 12 + L.length := by rw [← hSF]; exact ⟨slF_by _ hLok.1, slF_len _ _⟩
  obtain ⟨s1, s2, s3⟩ := unseal_seal sum8_bd (show L.length ≤ 1048576 by omega) bh
  rw [hSF] at s1 s2 s3
  have s4 : usSo sum8 (SF ++ bh) = SF.length := by rw [(us_yes s1).2, s2, hSFok.2]
  have hsl : slE L = 0 ∧ slL sum8 L = SF := by
    rcases slE_or L with ⟨h1, _⟩ | ⟨_, e1, e2⟩
    · omega
    · exact ⟨e1, by rw [e2, hSF]⟩
  have HX : Hid ((l.take (min l.length 4096)).map (· % p) = X) := hX
  have HXl := hide hXl
  have HRX := hide (fun W base n vx (ho : World.ownsRow W base 32 1 vx n (vals X)) (hn : n = X.length) => row_of_own ho hn (by omega) hXw)
  have H1 := hide (fun W vx (hx : Row W vx X) => wList g vx X W ⟨by omega, by omega⟩ hx)
  unfold GivesB at H1
  rw [hls, hLL] at H1
  have H2 := hide (fun W vx (hx : Rb W vx L) => rBytes vx L W hx (by omega))
  have H3 := hide (fun W vx (hx : Rb W vx (L ++ bh)) => wReadList vx (L ++ bh) W hx)
  unfold GivesR8 at H3
  rw [q1, q5.1, q5.2.1, q5.2.2] at H3
  have H4 := hide (fun W vx (hx : Rb W vx L) => wSeal vx L W hx)
  unfold GivesB at H4
  rw [hsl.1, hsl.2] at H4
  have H5 := hide (fun W vx (hx : Rb W vx SF) => rBytes vx SF W hx (by omega))
  have H6 := hide (fun W vx (hx : Rb W vx (SF ++ bh)) => wUnseal vx (SF ++ bh) W hx)
  unfold GivesU at H6
  rw [s1, s3, s4] at H6
  have OL := hide (fun W base n vx (ho : World.ownsRow W base 5 1 vx n (valb L)) => rb_of_own ho hLok.1 (by omega))
  have OS := hide (fun W base n vx (ho : World.ownsRow W base 5 1 vx n (valb SF)) => rb_of_own ho hSFok.1 (by omega))
  have OLb := hide (fun W base n vx (ho : World.ownsRow W base 5 1 vx n (valb (L ++ bh))) => rb_of_own ho (hLok.1.app h.by) (by rw [List.length_append]; omega))
  have OSb := hide (fun W base n vx (ho : World.ownsRow W base 5 1 vx n (valb (SF ++ bh))) => rb_of_own ho (hSFok.1.app h.by) (by rw [List.length_append]; omega))
  have HXw := hide hXw
  have HYx := hide (fun W u1 u2 (r1 : Row W u1 X) (r2 : Row W u2 X) => Same_yes u1 u2 X W r1 r2)
  have HYl := hide (fun W u1 u2 (r1 : Rb W u1 L) (r2 : Rb W u2 L) => rSame8 u1 u2 L L W r1 r2)
  rw [decide_eq_true rfl] at HYl
  have ga := hide (fun W => anch8 W)
  have hLn : L.length ≤ 32773 := hLok.2
  have hSn : SF.length ≤ 32785 := by omega
  have HR := hide h
  obtain ⟨ao, cap, rfl, _⟩ := h.spell
  obtain ⟨lo, lcap, rfl, hlen, hw, hc⟩ := hl
  have HBl := hide hbl
  clear h hX hXi hXw hXl hls hL hLok hLL q1 q2 q3 q4 q5 hSF hSFok s1 s2 s3 s4 hsl hfi
  have hgg : g = 1 ∨ g = 2 := hg2
  obtain ⟨nl, HNL⟩ : ∃ nl, Hid (L.length = nl) := ⟨_, rfl⟩
  obtain ⟨ns, HNS⟩ : ∃ ns, Hid (SF.length = ns) := ⟨_, rfl⟩
  obtain ⟨nx, HNX⟩ : ∃ nx, Hid (X.length = nx) := ⟨_, rfl⟩
  obtain ⟨nb, HNB⟩ : ∃ nb, Hid (bh.length = nb) := ⟨_, rfl⟩
  rw [HNL.out] at H1 H2 H3 H6 hLn
  rw [HNS.out] at H4 H5 H6 hSn
  rw [HNX.out] at H3 HRX HXl
  rw [HNB.out] at HR hbl ⊢
  have hnx : nx ≤ 4096 := by rw [HXl.out]; exact hK
  have hpz : ¬ p = 0 := by omega
  subst hg
  have HWl := hide hw
  clear hg2 hgg hw
  have r0 : 0 ≤ r := by omega
  have r1 : r ≤ 1 := by omega
  clear hr01
  go_enter Try.func6, Try.ntmps6
  go_wp2
  clear hr
  go_loopw [8, 9] (fun vx vi wr => ∃ k : Nat, k ≤ nx ∧ vi = .int .i64 k ∧ wr.ownsRow w.heap.size 32 1 vx k (vals ((l.take k).map (· % p))) ∧ Below w.heap.size w wr) (fun _ vi _ => nx - (intOf vi).toNat)
  case atStart => exact ⟨0, Nat.zero_le _, rfl, World.ownsRow_nil _ _ _ _, Below.refl _ _⟩
  case round =>
    obtain ⟨k, hk, rfl, hown, hB⟩ := hrel
    by_cases hlt0 : k < nx
    · have hlt : k < l.length := by have := HXl.out; omega
      have hl4 : (k : Int) < 4096 := by omega
      obtain ⟨b, off, rfl, hbl2, hcell⟩ := hc (by intro h; rw [h] at hlt; simp at hlt)
      have hck : wr.cell? ⟨b, off + k, none⟩ = some (.int .u64 (l.getD k 0)) := by rw [hB.cell (p := ⟨b, off + k, none⟩) hbl2]; exact hcell k hlt
      have hx0 : 0 ≤ l.getD k 0 ∧ l.getD k 0 ≤ 18446744073709551615 := by rw [getD_at hlt]; exact HWl.out _ (List.getElem_mem hlt)
      have HS := hide (take_mod_snoc l p k hlt)
      have HT := hide (fun h : 0 ≤ l.getD k 0 => Int.tmod_eq_emod_of_nonneg (b := p) h)
      generalize l.getD k 0 = x at *
      obtain ⟨x0, x1⟩ := hx0
      have k0 : (0 : Int) ≤ (k : Int) := Int.natCast_nonneg _
      have k1 : (k : Int) < (l.length : Int) := by omega
      have lb : b < wr.heap.size := Nat.lt_of_lt_of_le hbl2 hB.size
      have hbs := hB.size
      have hbase := own_base hown
      have ab : u8.ownBlock ≠ some b := fun h => by have := hbase b h; omega
      clear hcell hc H1 H2 H3 H4 H5 H6 OL OS OLb OSb HYx HYl HRX HR
      go_wp2_with fail
      go_region_held3 (fun w' => w'.cell? ⟨b, off + k, none⟩ = some (.int .u64 x))
        (first | go_keep | (rw [hgrow.cell_far _ (by simp; omega) (Ne.symm ab)]; assumption))
        (first
          | (go_at_call 26; refine (HP.out _).mono ?_; rintro e w1 ⟨rfl, hw1⟩; subst hw1)
          | (refine step_append_lies _ (by rfl) _ _ _ (by rfl) w.heap.size 32 i0 _ 1 8 Try.underlying36 hi0 hz0 hz1 hz2 rfl (by omega) u8 k _ (by rfl) ((hown.alloc _).drew) ⟨wr.heap.size, 0, none⟩ 1 1 [.int .u64 (x.tmod p)] (by rfl) (by rfl) (World.news_of_block (cs := #[.int .u64 (x.tmod p)]) (t := 32) (fr := (0, 0)) (heap_alloc_new wr _)) (by simp [Value.oneCell']) (by omega) (by unfold maxLen; omega) (by omega) (by simp; omega) (wr.heap.size + 1) (by simp) ?_; intro gg cap2 w1 hown1 hgrow hat hltg))
      have R := hide (elems_step hB hown hown1 hgrow (HT.out x0) HS.out)
      clear hown1 hgrow hat hltg hown hck
      go_wp2
      go_roundw
      case rel => exact ⟨k + 1, by omega, by go_num, R.out.1, R.out.2⟩
      case measure => simp [intOf]; omega
    · obtain rfl : k = nx := by omega
      have HO : Hid (wr.ownsRow w.heap.size 32 1 u8 k (vals X)) := by
        have := hown
        rw [HXl.out, HX.out] at this
        rw [HXl.out]; exact this
      have hrx := HRX.out _ _ _ _ HO.out rfl
      obtain ⟨ax, cx, hvx⟩ := own_form HO.out
      have HB0 := hide hB
      have hcs : ¬ ((k : Int) < (l.length : Int)) ∨ ((k : Int) < (l.length : Int) ∧ ¬ ((k : Int) < 4096)) := by have := HXl.out; omega
      subst hvx
      clear hown hc HRX HX HP HWl hK hB
      have H1x := hide (H1.out wr _ hrx)
      cases ao with
      | none =>
        obtain ⟨hn0, hc0, hb0⟩ := HR.out.none_
        subst hn0 hc0
        have HBn := hide hb0
        clear hb0
        rcases hcs with hcs | ⟨hcs, hcs'⟩
        all_goals
          go_wp2_with (first
            | (go_at_call 16; refine H1x.out.mono ?_; rintro e w1 ⟨v1, rfl, ho1, hb1⟩; have hB1 := Below.next HB0.out hb1; have hr1 := OL.out _ _ _ _ ho1; obtain ⟨a1, c1, hv1⟩ := own_form ho1; subst hv1)
            | (go_at_call 27; refine (H5.out _ _ hr5).mono ?_; rintro e w6 ⟨v6, rfl, ho6, hb6⟩; have hB6 := Below.next hB5 hb6)
            | (go_at_call 27; refine (H2.out _ _ hr1).mono ?_; rintro e w2 ⟨v2, rfl, ho2, hb2⟩; have hB2 := Below.next hB1 hb2)
            | (at_builtin; refine wpList_append_own_none rfl _ _ _ rfl w5.heap.size 5 j0 1 Try.underlying22 hj0 _ ns _ rfl ho6 rfl ?_; have hB7 := hB6; have hb7 := hb6; have hr7 := OSb.out _ _ _ _ (by rw [HBn.out, List.append_nil]; exact ho6); obtain ⟨a7, c7, hv7⟩ := own_form ho6; subst hv7)
            | (at_builtin; refine wpList_append_own_none rfl _ _ _ rfl w1.heap.size 5 j0 1 Try.underlying22 hj0 _ nl _ rfl ho2 rfl ?_; have hB3 := hB2; have hb3 := hb2; have hr3 := OLb.out _ _ _ _ (by rw [HBn.out, List.append_nil]; exact ho2); obtain ⟨a3, c3, hv3⟩ := own_form ho2; subst hv3)
            | (go_at_call 18; refine (H3.out _ _ hr3).mono ?_; rintro e w4 ⟨v4, rfl, ho4, hb4⟩; have hB4 := Below.next hB3 hb4; have b14 := Below.next hb3 hb4; have hr14 := hr1.below b14; obtain ⟨a4, c4, hv4⟩ := own_form ho4; subst hv4)
            | (go_at_call 21; refine (H4.out _ _ hr14).mono ?_; rintro e w5 ⟨v5, rfl, ho5, hb5⟩; have hB5 := Below.next hB4 hb5; have hr5 := OS.out _ _ _ _ ho5; obtain ⟨a5, c5, hv5⟩ := own_form ho5; subst hv5)
            | (go_at_call 23; refine (H6.out _ _ hr7).mono ?_; rintro e w8 ⟨v8, rfl, ho8, hb8⟩; have hB8 := Below.next hB7 hb8; have hr8 := OL.out _ _ _ _ ho8; have b48 := Below.next hb5 (Below.next hb7 hb8); obtain ⟨a8, c8, hv8⟩ := own_form ho8; subst hv8)
            | (go_at_call 25; refine (ga.out _).mono ?_; rintro e w9 ⟨rfl, hb9⟩; have hB9 := Below.next hB8 hb9; have b49 := Below.next b48 hb9; have rx9 := (hrx.below hb1).below (Below.next b14 b49); have ry9 := row_of_own (own_below ho4 b49) HNX.out.symm (by rw [HNX.out]; omega) HXw.out)
            | (go_at_call 20; refine (HYx.out _ _ _ rx9 ry9).mono ?_; rintro e w10 ⟨rfl, hb10⟩; have hB10 := Below.next hB9 hb10; have rl10 := hr14.below (Below.next b49 hb10); have rc10 := hr8.below (Below.next hb9 hb10))
            | (go_at_call 15; refine (HYl.out _ _ _ rc10 rl10).mono ?_; rintro e w11 ⟨rfl, hw11⟩; rw [hw11]; clear hw11))
          go_ret
          exact ⟨by simp, hB10⟩
      | some ad =>
        have HV1 := hide (valb_one bh)
        have HVl : Hid ((valb bh).length = nb * 1) := by show _ = _; rw [valb_length, HNB.out, Nat.mul_one]
        rcases hcs with hcs | ⟨hcs, hcs'⟩
        all_goals
          go_wp2_with (first
            | (go_at_call 16; refine H1x.out.mono ?_; rintro e w1 ⟨v1, rfl, ho1, hb1⟩; have hB1 := Below.next HB0.out hb1; have hr1 := OL.out _ _ _ _ ho1; obtain ⟨a1, c1, hv1⟩ := own_form ho1; subst hv1)
            | (go_at_call 27; refine (H5.out _ _ hr5).mono ?_; rintro e w6 ⟨v6, rfl, ho6, hb6⟩; have hB6 := Below.next hB5 hb6)
            | (go_at_call 27; refine (H2.out _ _ hr1).mono ?_; rintro e w2 ⟨v2, rfl, ho2, hb2⟩; have hB2 := Below.next hB1 hb2)
            | (at_builtin; refine wpList_append_own_wide _ rfl _ _ _ rfl w5.heap.size 5 j0 _ 1 1 Try.underlying22 hj0 hy0 hy1 hy2 rfl (by omega) _ ns _ rfl ho6 ad nb cap (valb bh) rfl HVl.out (HR.out.below hB6).news HV1.out (by unfold maxLen; omega) (by omega) hb6.size ?_; intro v7 w7 ho7 hg7 _; have hb7 := hb6.grown hg7 hb6.size (own_base ho6); have hB7 := Below.next hB5 hb7; rw [valb_app] at ho7; have hr7 := OSb.out _ _ _ _ ho7; obtain ⟨a7, c7, hv7⟩ := own_form ho7; subst hv7)
            | (at_builtin; refine wpList_append_own_wide _ rfl _ _ _ rfl w1.heap.size 5 j0 _ 1 1 Try.underlying22 hj0 hy0 hy1 hy2 rfl (by omega) _ nl _ rfl ho2 ad nb cap (valb bh) rfl HVl.out (HR.out.below hB2).news HV1.out (by unfold maxLen; omega) (by omega) hb2.size ?_; intro v3 w3 ho3 hg3 _; have hb3 := hb2.grown hg3 hb2.size (own_base ho2); have hB3 := Below.next hB1 hb3; rw [valb_app] at ho3; have hr3 := OLb.out _ _ _ _ ho3; obtain ⟨a3, c3, hv3⟩ := own_form ho3; subst hv3)
            | (go_at_call 18; refine (H3.out _ _ hr3).mono ?_; rintro e w4 ⟨v4, rfl, ho4, hb4⟩; have hB4 := Below.next hB3 hb4; have b14 := Below.next hb3 hb4; have hr14 := hr1.below b14; obtain ⟨a4, c4, hv4⟩ := own_form ho4; subst hv4)
            | (go_at_call 21; refine (H4.out _ _ hr14).mono ?_; rintro e w5 ⟨v5, rfl, ho5, hb5⟩; have hB5 := Below.next hB4 hb5; have hr5 := OS.out _ _ _ _ ho5; obtain ⟨a5, c5, hv5⟩ := own_form ho5; subst hv5)
            | (go_at_call 23; refine (H6.out _ _ hr7).mono ?_; rintro e w8 ⟨v8, rfl, ho8, hb8⟩; have hB8 := Below.next hB7 hb8; have hr8 := OL.out _ _ _ _ ho8; have b48 := Below.next hb5 (Below.next hb7 hb8); obtain ⟨a8, c8, hv8⟩ := own_form ho8; subst hv8)
            | (go_at_call 25; refine (ga.out _).mono ?_; rintro e w9 ⟨rfl, hb9⟩; have hB9 := Below.next hB8 hb9; have b49 := Below.next b48 hb9; have rx9 := (hrx.below hb1).below (Below.next b14 b49); have ry9 := row_of_own (own_below ho4 b49) HNX.out.symm (by rw [HNX.out]; omega) HXw.out)
            | (go_at_call 20; refine (HYx.out _ _ _ rx9 ry9).mono ?_; rintro e w10 ⟨rfl, hb10⟩; have hB10 := Below.next hB9 hb10; have rl10 := hr14.below (Below.next b49 hb10); have rc10 := hr8.below (Below.next hb9 hb10))
            | (go_at_call 15; refine (HYl.out _ _ _ rc10 rl10).mono ?_; rintro e w11 ⟨rfl, hw11⟩; rw [hw11]; clear hw11))
          go_ret
          exact ⟨by simp, hB10⟩

theorem wback_any (f : Int) (u : Value) (l : List Int) (v : Value) (bh : List Int) (w : World) (hf : 0 ≤ f ∧ f ≤ 255) (hl : Row w u l) (h : Rb w v bh) (hbl : bh.length ≤ 140737488351232) :
    Calls Try.prog 6 #[.int .u8 f, u, v] w fun e w' => e = .returned (.bool true) ∧ Below w.heap.size w w' := by
  have hr : f % 2 = 0 ∨ f % 2 = 1 := by omega
  rcases hr with hr | hr
  · exact wback_in f 0 1 _ _ u l v bh w hf hr rfl (.inl rfl) (.inl ⟨rfl, rfl, rfl⟩) hl h hbl
  · exact wback_in f 1 2 _ _ u l v bh w hf hr rfl (.inr rfl) (.inr ⟨rfl, rfl, rfl⟩) hl h hbl

end Go.Proofs.Ytcpgpncpapdlhaa
