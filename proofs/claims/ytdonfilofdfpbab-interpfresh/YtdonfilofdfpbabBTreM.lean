/-
  Layer 6: Values, the program's and the document's; the document's Factor and Zero.
-/
import Derived.Test.YtdonfilofdfpbabBTreL
import Derived.Test.YtdonfilofdfpbabBPolJ
namespace Go.Proofs.Ytdonfilofdfpbab
open Go.RowKit Fld
set_option linter.unusedVariables false

def valsL (f : Int) (P xs : List Int) : List Int := if chk f [P, xs] = 0 then xs.map (fun x => vl (pOf f) x P) else []
theorem chk_both {f : Int} {P xs : List Int} (h : chk f [P, xs] = 0) : ∃ p wd, Fi f p wd ∧ allIn p P = true ∧ allIn p xs = true ∧ P.length ≤ 2048 ∧ xs.length ≤ 2048 := by
  obtain ⟨h1, h2⟩ := chk_zero h List.mem_cons_self
  obtain ⟨k1, k2⟩ := chk_zero h (List.mem_cons_of_mem _ (List.mem_singleton.2 rfl))
  obtain ⟨p, wd, hf, hi⟩ := inF_fi h1
  rw [inF_yes hf] at k1
  exact ⟨p, wd, hf, hi, k1, h2, k2⟩
theorem co_map (F : Int → Int) (xs : List Int) (i : Nat) (h : i < xs.length) : co (xs.map F) i = F (co xs i) := by
  unfold co
  rw [List.getD_eq_getElem?_getD, List.getD_eq_getElem?_getD, List.getElem?_map, List.getElem?_eq_getElem h]; rfl

set_option maxRecDepth 100000 in
set_option maxHeartbeats 400000 in
theorem tValues_any (f : Int) (v1 v2 : Value) (P xs : List Int) (w : World) (h1 : Rw w v1 P) (h2 : Rw w v2 xs) : Gives 34 #[.int .u8 f, v1, v2] w (valsL f P xs) (chk f [P, xs]) := by
  have hk := hide (fun T => tcheck_two f v1 v2 P xs w h1 h2 T)
  obtain ⟨a1, c1, rfl, _⟩ := h1.spell
  obtain ⟨a2, c2, rfl, _⟩ := h2.spell
  by_cases he : chk f [P, xs] = 0
  · obtain ⟨p, wd, h, i1, i2, m1, m2⟩ := chk_both he
    obtain ⟨i0, hi0, hz0, hz1, hz2⟩ := info_parts u64_info
    have HL : Hid (valsL f P xs = xs.map (fun x => vl p x P)) := by show _ = _; unfold valsL; rw [if_pos he, pOf_eq h]
    have hx := els_of i2 h2.words
    have HG := hide (fun W (hb : Below w.heap.size w W) => grown_any f p wd _ xs W h (h2.below hb) hx m2)
    have HH := hide (fun lo N g cap gv cut vs uss (hlo : gv < lo) (hN : N ≤ 12) => hand_any f p wd xs lo N g cap gv cut vs uss h hx m2 hlo hN)
    have HP := hide (fun W (hb : Below w.heap.size w W) => h1.below hb)
    have HPe := hide (els_of i1 h1.words)
    rw [he] at hk
    rw [HL.out, he]
    have HML : Hid ((xs.map (fun x => vl p x P)).length = xs.length) := by show _ = _; simp
    clear h1 h2 h i1 i2 he HL hx
    show Calls _ _ _ _ _
    rw [HML.out]
    go_enter Try.func34, Try.ntmps34
    go_wp2_with fail
    refine (hk.out _).mono ?_; rintro e w1 ⟨rfl, hb1⟩
    have hbs1 := hb1.size
    go_wp2_with (at_make; refine wpList_make_full _ rfl _ _ 22 rfl w1.heap.size 24 i0 (.int .u64 0) 1 Try.underlying22 hi0 hz0 hz1 .i64 .i64 _ _ xs.length rfl rfl (by omega) (by omega) (by rw [hz2]; omega) (by unfold maxLen; omega) (Nat.le_refl _) ?_; intro w2 hown hgrow; have hO2 := hide (Ow.made hown); have hB2 := Below.next hb1 (below_grown_none hgrow); have hg2 := hide hgrow; clear hown hgrow)
    all_goals try (go_wp2_with fail)
    refine (HG.out _ hB2).mono ?_; rintro e w3 ⟨vv, cut, vs, uss, N, rfl, hV, hT, hcu, hb3⟩
    have hB3 := Below.next hB2 hb3
    have hO3 := hide (hO2.out.below hb3)
    have hgv := own_top hO2.out w1.heap.size rfl
    have hN := hT.le m2
    cases N with
    | zero =>
      obtain ⟨av, cv, rfl⟩ := own_form hV.row
      have hn : xs = [] := by
        rcases hT with ⟨h, _⟩ | ⟨_, L, h, _⟩
        · exact List.length_eq_zero_iff.1 h
        · omega
      subst hn
      have hh := hide (fun W => hand_nil f (.slice av 0 cv) 0 0 (.slice a1 P.length c1) (some ⟨w1.heap.size, 0, none⟩) W)
      clear hV hT
      go_wp2_with (go_at_call 60; refine (hh.out _).mono ?_; rintro e w4 ⟨rfl, hw4⟩; rw [hw4]; clear hw4)
      go_ret2
      exact ⟨_, rfl, own_mono hO3.out hbs1, hB3⟩
    | succ L =>
      obtain ⟨g, cap, hv2, _, _⟩ := hV.row.form (by omega)
      subst hv2
      have hcap : L + 1 ≤ cap := by
        rcases hV.row.2 with ⟨h, _⟩ | ⟨_, _, _, h, _, _, h4, _⟩
        · cases h
        · cases h; exact h4
      have hck : ck xs (2 ^ L) 0 = xs := ck_all xs _ hT.top.2.2
      have hh := hide (HH.out w2.heap.size (L + 1) g cap w1.heap.size cut vs uss hgv hN L 0 0 xs.length cap xs.length P (List.replicate xs.length 0) (.slice a1 P.length c1) (some ⟨w1.heap.size, 0, none⟩) w3 (by omega) hV hcap (HP.out _ hB3) HPe.out m1 (by rw [Nat.zero_mul]) (by rw [hck]) (Nat.le_refl _) (fun _ => rfl) hO3.out (fun i _ _ => by
        unfold co; rw [List.getD_eq_getElem?_getD]
        by_cases hi : i < xs.length
        · rw [List.getElem?_eq_getElem (by simpa using hi)]; simp
        · rw [List.getElem?_eq_none (by simpa using hi)]; rfl))
      clear hV hT hO3
      go_wp2_with (go_at_call 60; refine hh.out.mono ?_; rintro e w4 ⟨rfl, ys, hO4, hy, hg4⟩)
      have hyl := own_len hO4
      have HE : Hid (ys = xs.map (fun x => vl p x P)) := ext_co (by rw [hyl, List.length_map]) (fun i hi => by
        rw [hy i, if_pos ⟨by omega, by omega⟩, co_map _ _ _ (by omega)])
      go_ret2
      rw [HE.out] at hO4
      exact ⟨_, rfl, own_mono hO4 hbs1, hB3.grown hg4 hB3.size (fun k hk => by cases hk; exact hbs1)⟩
  · have ht : (chk f [P, xs] != 0) = true := bne_iff_ne.2 he
    have HL : Hid (valsL f P xs = []) := by show _ = _; unfold valsL; rw [if_neg he]
    rw [HL.out]
    clear h1 h2 he HL
    generalize chk f [P, xs] = e0 at *
    apply Gives.none
    go_enter Try.func34, Try.ntmps34
    go_wp2_with (go_at_call 31; refine (hk.out _).mono ?_; rintro e w1 ⟨rfl, hb⟩)
    go_ret2
    exact ⟨rfl, hb⟩

set_option maxHeartbeats 200000 in
theorem dFactor_any (f p x : Int) (wd : Bool) (w : World) (h : Fi f p wd) (hx : El p x) :
    Calls Try.prog 50 #[.int .u8 f, .int .u64 x] w fun e w' => ∃ v', e = .returned v' ∧ w'.ownsRow w.heap.size 24 1 v' (fac p x).length (vals (fac p x)) ∧ Below w.heap.size w w' := by
  have hP := hide (fun W => rP_yes f p wd W h)
  have hS := hide (fun W => rLess_any p 0 x W h.top ⟨by decide, h.pos⟩ hx)
  have HF : Hid (fac p x = [sub p 0 x, 1]) := rfl
  rw [HF.out]
  clear h hx
  generalize sub p 0 x = y at *
  go_enter Try.func50, Try.ntmps50
  go_wp2_with (first
    | (go_at_call 28; refine (hP.out _).mono ?_; rintro e w1 ⟨rfl, hw1⟩; rw [hw1]; clear hw1)
    | (go_at_call 46; refine (hS.out _).mono ?_; rintro e w1 ⟨rfl, hw1⟩; rw [hw1]; clear hw1))
  go_ret
  exact ⟨_, rfl, own_of_block (ys := [y, 1]) (Nat.le_refl _) (heap_alloc_new w _) rfl (by decide), alloc_below _ _⟩

theorem zl_snoc {p : Int} {wd : Bool} (hm : Md p wd) (xs : List Int) (x : Int) : prd p (zl p xs) (fac p x) = zl p (xs ++ [x]) := by
  have h1 := zl_facts hm xs
  have h2 := fac_tm (x := x) hm
  have hi := (is_prd hm h1.1.1 h2.1 h1.1.2 h2.2).tm
  exact zl_only hm hi.1 (by rw [pl_mul, h1.2.1, zr_snoc])
theorem zl_step {f p : Int} {wd : Bool} (h : Fi f p wd) {xs : List Int} {k : Nat} (hk : k < xs.length) (hl : xs.length ≤ 2048) : mulL f (zl p (xs.take k)) (fac p (xs.getD k 0)) = zl p (xs.take (k + 1)) := by
  have h1 := zl_facts h.md (xs.take k)
  rw [mul_pair h h1.1 (fac_tm h.md) (by rw [h1.2.2, List.length_take]; omega) (by simp [fac]), zl_snoc h.md, List.take_succ_eq_append_getElem hk, List.getD_eq_getElem?_getD, List.getElem?_eq_getElem hk]; rfl

set_option maxRecDepth 100000 in
set_option maxHeartbeats 400000 in
theorem dZero_any (f : Int) (v : Value) (xs : List Int) (w : World) (h1 : Rw w v xs) : Gives 24 #[.int .u8 f, v] w (zeroL f xs) (chk f [xs]) := by
  have hk := hide (tbad_one f v xs w h1)
  obtain ⟨a1, c1, hv, _⟩ := h1.spell
  by_cases he : chk f [xs] = 0
  · obtain ⟨p, wd, h, i1, m1⟩ := chk_one he
    have hx := hide (els_of i1 h1.words)
    have HL : Hid (zeroL f xs = zl p xs) := by show _ = _; unfold zeroL; rw [if_pos he, pOf_eq h]
    have HF := hide (fun W x (hx : El p x) => dFactor_any f p x wd W h hx)
    have HM : Hid (∀ k W u1 u2, k < xs.length → Rw W u1 (zl p (xs.take k)) → Rw W u2 (fac p (xs.getD k 0)) → Calls Try.prog 49 #[.int .u8 f, u1, u2] W fun e w' => ∃ v' e0, e = .returned (.tuple #[v', .int .i64 e0]) ∧ w'.ownsRow W.heap.size 24 1 v' (zl p (xs.take (k + 1))).length (vals (zl p (xs.take (k + 1)))) ∧ Below W.heap.size W w') := fun k W u1 u2 hk r1 r2 => by
      have := dMul_any f u1 u2 _ _ W r1 r2
      unfold Gives at this
      rw [zl_step h hk m1] at this
      exact this.mono fun e w' ⟨v', he, hO, hb⟩ => ⟨v', _, he, hO, hb⟩
    have HW : Hid (∀ k, Wd (zl p (xs.take k))) := fun k => zl_wd h.md h.top _ (by rw [List.length_take]; omega)
    have HWf : Hid (∀ x, Wd (fac p x)) := fun x => wd_els (fac_tm h.md).1 h.top (by simp [fac])
    have hp0 := h.pos
    rw [he] at hk
    rw [HL.out, he]
    obtain ⟨⟨ao, cap, rfl, hlen, hw, hc⟩, _⟩ := h1
    cases hv
    clear h i1 he HL
    show Calls _ _ _ _ _
    go_enter Try.func24, Try.ntmps24
    go_wp2_with (go_at_call 48; refine hk.out.mono ?_; rintro e w1 ⟨rfl, hw1⟩; rw [hw1]; clear hw1)
    go_loopw [7, 8] (fun vo vi wr => ∃ k : Nat, k ≤ xs.length ∧ vi = .int .i64 k ∧ Hid (wr.ownsRow w.heap.size 24 1 vo (zl p (xs.take k)).length (vals (zl p (xs.take k)))) ∧ Below w.heap.size w wr) (fun _ vi _ => xs.length - (intOf vi).toNat)
    case atStart => exact ⟨0, Nat.zero_le _, rfl, own_of_block (ys := [1]) (Nat.le_refl _) (heap_alloc_new w _) rfl (by decide), alloc_below _ _⟩
    case round =>
      obtain ⟨k, hkl, rfl, HO, hB⟩ := hrel
      obtain ⟨az, cz, rfl⟩ := own_form HO.out
      by_cases hlt : k < xs.length
      · obtain ⟨b, off, rfl, hbl, hcell⟩ := hc (by intro h; rw [h] at hlt; simp at hlt)
        have hck := (hB.cell (p := ⟨b, off + k, none⟩) hbl).trans (hcell k hlt)
        have hfc := hide (HF.out wr (xs.getD k 0) (hx.out.co hp0 k))
        have hmc := hide (fun W u2 (r1 : Rw W _ (zl p (xs.take k))) (r2 : Rw W u2 (fac p (xs.getD k 0))) => HM.out k W (.slice az (zl p (xs.take k)).length cz) u2 hlt r1 r2)
        have hw1 := hide (HW.out k)
        have hw2 := hide (HWf.out (xs.getD k 0))
        generalize xs.getD k 0 = x at *
        generalize zl p (xs.take k) = Z at *
        generalize fac p x = Y at *
        clear hcell hc
        go_wp2_with (first
          | (go_at_call 50; refine hfc.out.mono ?_; rintro e w2 ⟨v2, rfl, hO2, hb2⟩; have R1 := hide (hw1.out.row (own_below HO.out hb2)); have R2 := hide (hw2.out.row hO2); have hB2 := Below.next hB hb2)
          | (go_at_call 49; refine (hmc.out _ _ R1.out R2.out).mono ?_; rintro e w3 ⟨v3, e3, rfl, hO3, hb3⟩))
        have R3 := hide (own_mono hO3 hB2.size)
        clear hO3 HO
        go_roundw
        case rel => exact ⟨k + 1, by omega, by go_num, R3, Below.next hB2 hb3⟩
        case measure => simp [intOf]; omega
      · obtain rfl : k = xs.length := by omega
        rw [List.take_length] at HO ⊢
        clear hc
        go_wp2
        go_ret2
        exact ⟨_, rfl, HO.out, hB⟩
  · have ht : (chk f [xs] != 0) = true := bne_iff_ne.2 he
    have HL : Hid (zeroL f xs = []) := by show _ = _; unfold zeroL; rw [if_neg he]
    rw [HL.out]
    subst hv
    clear h1 he HL
    generalize chk f [xs] = e0 at *
    apply Gives.none
    go_enter Try.func24, Try.ntmps24
    go_wp2_with (go_at_call 48; refine hk.out.mono ?_; rintro e w1 ⟨rfl, hw1⟩; rw [hw1]; clear hw1)
    go_ret2
    exact ⟨rfl, Below.refl _ _⟩

end Go.Proofs.Ytdonfilofdfpbab
