/-
  Layer 6: Values, the program's and the document's; the document's Factor and Zero.
-/
import Derived.Test.YtifilgmjpflekaaBTreL
import Derived.Test.YtifilgmjpflekaaBunJ
namespace Go.Proofs.Ytifilgmjpflekaa
open Go.RowKit Fld
set_option linter.unusedVariables false

def valsL (f : Int) (P xs : List Int) : List Int := if chk f [P, xs] = 0 then xs.map (fun x => vl (pOf f) x P) else []
theorem chk_both {f : Int} {P xs : List Int} (h : chk f [P, xs] = 0) : ∃ p wd, Fi f p wd ∧ allIn p P = true ∧ allIn p xs = true ∧ P.length ≤ 2048 ∧ xs.length ≤ 2048 := by
  obtain ⟨h1, h2⟩ := chk_zero h List.mem_cons_self
  obtain ⟨k1, k2⟩ := chk_zero h (List.mem_cons_of_mem _ (List.mem_singleton.2 rfl))
  obtain ⟨p, wd, hf, hi⟩ := inF_fi h1
  rw [inF_yes hf] at k1
  exact ⟨p, wd, hf, hi, k1, h2, k2⟩
theorem co_map (F : Int → Int) (xs : List Int) (i : Nat) (h : i < xs.length) : co (xs.map F) i = F (co xs i) := by
  unfold co
  rw [List.getD_eq_getElem?_getD, List.getD_eq_getElem?_getD, List.getElem?_map, List.getElem?_eq_getElem h]; rfl

set_option maxRecDepth 100000 in
set_option maxHeartbeats 400000 in
theorem tValues_any (f : Int) (v1 v2 : Value) (P xs : List Int) (w : World) (h1 : Rw w v1 P) (h2 : Rw w v2 xs) : Gives 66 #[.int .u8 f, v1, v2] w (valsL f P xs) (chk f [P, xs]) := by
  have hk := hide (fun T => tcheck_two f v1 v2 P xs w h1 h2 T)
  obtain ⟨a1, c1, rfl, _⟩ := h1.spell
  obtain ⟨a2, c2, rfl, _⟩ := h2.spell
  by_cases he : chk f [P, xs] = 0
  · obtain ⟨p, wd, h, i1, i2, m1, m2⟩ := chk_both he
    obtain ⟨i0, hi0, hz0, hz1, hz2⟩ := info_parts u64_info
    have HL : Hid (valsL f P xs = xs.map (fun x => vl p x P)) := by show _ = _; unfold valsL; rw [if_pos he, pOf_eq h]
    have hx := els_of i2 h2.words
    have HG := hide (fun W (hb : Below w.heap.size w W) => grown_any f p wd _ xs W h (h2.below hb) hx m2)
    have HH := hide (fun lo N g cap gv cut vs uss (hlo : gv < lo) (hN : N ≤ 12) => hand_any f p wd xs lo N g cap gv cut vs uss h hx m2 hlo hN)
    have HP := hide (fun W (hb : Below w.heap.size w W) => h1.below hb)
    have HPe := hide (els_of i1 h1.words)
    rw [he] at hk
    rw [HL.out, he]
    have HML : Hid ((xs.map (fun x => vl p x P)).length = xs.length) := by show _ = _; simp
    clear h1 h2 h i1 i2 he HL hx
    show Calls _ _ _ _ _
    rw [HML.out]
    go_enter Try.func66, Try.ntmps66
    go_wp2_with fail
    refine (hk.out _).mono ?_; rintro e w1 ⟨rfl, hb1⟩
    have hbs1 := hb1.size
    go_wp2_with (at_make; refine wpList_make_full _ rfl _ _ 26 rfl w1.heap.size 25 i0 (.int .u64 0) 1 Try.underlying26 hi0 hz0 hz1 .i64 .i64 _ _ xs.length rfl rfl (by omega) (by omega) (by rw [hz2]; omega) (by unfold maxLen; omega) (Nat.le_refl _) ?_; intro w2 hown hgrow; have hO2 := hide (Ow.made hown); have hB2 := Below.next hb1 (below_grown_none hgrow); have hg2 := hide hgrow; clear hown hgrow)
    all_goals try (go_wp2_with fail)
    refine (HG.out _ hB2).mono ?_; rintro e w3 ⟨vv, cut, vs, uss, N, rfl, hV, hT, hcu, hb3⟩
    have hB3 := Below.next hB2 hb3
    have hO3 := hide (hO2.out.below hb3)
    have hgv := own_top hO2.out w1.heap.size rfl
    have hN := hT.le m2
    cases N with
    | zero =>
      obtain ⟨av, cv, rfl⟩ := own_form hV.row
      have hn : xs = [] := by
        rcases hT with ⟨h, _⟩ | ⟨_, L, h, _⟩
        · exact List.length_eq_zero_iff.1 h
        · omega
      subst hn
      have hh := hide (fun W => hand_nil f (.slice av 0 cv) 0 0 (.slice a1 P.length c1) (some ⟨w1.heap.size, 0, none⟩) W)
      clear hV hT
      go_wp2_with (go_at_call 78; refine (hh.out _).mono ?_; rintro e w4 ⟨rfl, hw4⟩; rw [hw4]; clear hw4)
      go_ret2
      exact ⟨_, rfl, own_mono hO3.out hbs1, hB3⟩
    | succ L =>
      obtain ⟨g, cap, hv2, _, _⟩ := hV.row.form (by omega)
      subst hv2
      have hcap : L + 1 ≤ cap := by
        rcases hV.row.2 with ⟨h, _⟩ | ⟨_, _, _, h, _, _, h4, _⟩
        · cases h
        · cases h; exact h4
      have hck : ck xs (2 ^ L) 0 = xs := ck_all xs _ hT.top.2.2
      have hh := hide (HH.out w2.heap.size (L + 1) g cap w1.heap.size cut vs uss hgv hN L 0 0 xs.length cap xs.length P (List.replicate xs.length 0) (.slice a1 P.length c1) (some ⟨w1.heap.size, 0, none⟩) w3 (by omega) hV hcap (HP.out _ hB3) HPe.out m1 (by rw [Nat.zero_mul]) (by rw [hck]) (Nat.le_refl _) (fun _ => rfl) hO3.out (fun i _ _ => by
        unfold co; rw [List.getD_eq_getElem?_getD]
        by_cases hi : i < xs.length
        · rw [List.getElem?_eq_getElem (by simpa using hi)]; simp
        · rw [List.getElem?_eq_none (by simpa using hi)]; rfl))
      clear hV hT hO3
      go_wp2_with (go_at_call 78; refine hh.out.mono ?_; rintro e w4 ⟨rfl, ys, hO4, hy, hg4⟩)
      have hyl := own_len hO4
      have HE : Hid (ys = xs.map (fun x => vl p x P)) := ext_co (by rw [hyl, List.length_map]) (fun i hi => by
        rw [hy i, if_pos ⟨by omega, by omega⟩, co_map _ _ _ (by omega)])
      go_ret2
      rw [HE.out] at hO4
      exact ⟨_, rfl, own_mono hO4 hbs1, hB3.grown hg4 hB3.size (fun k hk => by cases hk; exact hbs1)⟩
  · have ht : (chk f [P, xs] != 0) = true := bne_iff_ne.2 he
    have HL : Hid (valsL f P xs = []) := by show _ = _; unfold valsL; rw [if_neg he]
    rw [HL.out]
    clear h1 h2 he HL
    generalize chk f [P, xs] = e0 at *
    apply Gives.none
    go_enter Try.func66, Try.ntmps66
    go_wp2_with (go_at_call 75; refine (hk.out _).mono ?_; rintro e w1 ⟨rfl, hb⟩)
    go_ret2
    exact ⟨rfl, hb⟩

theorem zl_snoc {p : Int} {wd : Bool} (hm : Md p wd) (xs : List Int) (x : Int) : prd p (zl p xs) (fac p x) = zl p (xs ++ [x]) := by
  have h1 := zl_facts hm xs
  have h2 := fac_tm (x := x) hm
  have hi := (is_prd hm h1.1.1 h2.1 h1.1.2 h2.2).tm
  exact zl_only hm hi.1 (by rw [pl_mul, h1.2.1, zr_snoc])
theorem zl_step {f p : Int} {wd : Bool} (h : Fi f p wd) {xs : List Int} {k : Nat} (hk : k < xs.length) (hl : xs.length ≤ 2048) : mulL f (zl p (xs.take k)) (fac p (xs.getD k 0)) = zl p (xs.take (k + 1)) := by
  have h1 := zl_facts h.md (xs.take k)
  rw [mul_pair h h1.1 (fac_tm h.md) (by rw [h1.2.2, List.length_take]; omega) (by simp [fac]), zl_snoc h.md, List.take_succ_eq_append_getElem hk, List.getD_eq_getElem?_getD, List.getElem?_eq_getElem hk]; rfl

end Go.Proofs.Ytifilgmjpflekaa
