/-
  Layer 4: products by halves, walked.
-/
import Derived.Test.YtcjgjgkoeokooaaDoorBFasH
namespace Go.Proofs.YtcjgjgkoeokooaaDoor
open Go.RowKit Fld
set_option linter.unusedVariables false

/-- What a product by halves answers. -/
def Hs (f p : Int) (v1 v2 : Value) (xs ys : List Int) (w : World) : Prop := Calls Tryd.prog 29 #[.int .u8 f, v1, v2] w fun e w' => ∃ v' zs, e = .returned v' ∧ HV p xs ys zs ∧ w'.ownsRow w.heap.size 39 1 v' zs.length (vals zs) ∧ Below w.heap.size w w'
def Hyp (f p : Int) (K : Nat) : Prop := ∀ (v1 v2 : Value) (xs ys : List Int) (w : World), xs.length + ys.length < K → Rw w v1 xs → Rw w v2 ys → Els p xs → Els p ys → (xs.length + ys.length ≤ 4097 ∧ xs.length ≤ 4096 ∧ ys.length ≤ 4096) → Hs f p v1 v2 xs ys w
theorem own_far {w : World} {base g n : Nat} {v : Value} {xs : List Int} {T : TypeId} (h : w.ownsRow base T 1 v n (vals xs)) (hg : g < base) : xs ≠ [] → ∀ b o m k, v = .slice (some ⟨b, o, none⟩) m k → b ≠ g := by
  intro _ b o m k hv
  have := own_base h b (by rw [hv]; rfl)
  omega
theorem own_lt {w : World} {base g n c s : Nat} {xs : List Value} {T : TypeId} (h : w.ownsRow base T s (.slice (some ⟨g, 0, none⟩) n c) n xs) : g < w.heap.size := by
  rcases h.2 with ⟨h1, _⟩ | ⟨g', cap, cur, h1, _, h3, _⟩
  · cases h1
  · cases h1
    apply Nat.lt_of_not_le
    intro hc
    rw [Array.getElem?_eq_none hc] at h3
    cases h3
theorem own_drew {w : World} {g n : Nat} {xs : List Int} (h : OwnG w g n xs) : OwnG w.drew g n xs := h
theorem own_ret {w : World} {base g n : Nat} {zs : List Int} (h : OwnG w g n zs) (hb : base ≤ g) : w.ownsRow base 39 1 (.slice (some ⟨g, 0, none⟩) n n) zs.length (vals zs) := by
  have := own_mono h hb
  rw [own_len h]; exact this
theorem els_take {p : Int} {xs : List Int} (h : Els p xs) (n : Nat) : Els p (xs.take n) := fun x hx => h x (List.mem_of_mem_take hx)
theorem els_drop {p : Int} {xs : List Int} (h : Els p xs) (n : Nat) : Els p (xs.drop n) := fun x hx => h x (List.mem_of_mem_drop hx)
theorem hv_rw {p : Int} {xs ys zs : List Int} {w : World} {base n : Nat} {v : Value} (hp : p ≤ 18446744073709551615) (hl : xs.length + ys.length ≤ 4097) (h : HV p xs ys zs) (hO : w.ownsRow base 39 1 v n (vals zs)) : Rw w v zs :=
  rw_of_own hO (by have := h.2.2.1; omega) (els_words h.1 hp)

set_option maxRecDepth 100000 in
set_option maxHeartbeats 200000 in
theorem cutOne_any (f p : Int) (wd : Bool) (v1 v2 : Value) (xs ys : List Int) (n : Nat) (w : World) (h : Fi f p wd) (hy1 : Hyp f p (xs.length + ys.length)) (h1 : Rw w v1 xs) (h2 : Rw w v2 ys) (hx : Els p xs) (hy : Els p ys) (hl : xs.length + ys.length ≤ 4097 ∧ xs.length ≤ 4096 ∧ ys.length ≤ 4096) (n0 : 0 < n) (hn : n < xs.length) (hne : ys ≠ []) :
    Calls Tryd.prog 48 #[.int .u8 f, v1, v2, .int .i64 n] w fun e w' => ∃ v' zs, e = .returned v' ∧ HV p xs ys zs ∧ w'.ownsRow w.heap.size 39 1 v' zs.length (vals zs) ∧ Below w.heap.size w w' := by
  obtain ⟨i0, hi0, hz0, hz1, hz2⟩ := info_parts u64_info
  obtain ⟨a1, c1, rfl, k1⟩ := h1.spell
  obtain ⟨a2, c2, rfl, k2⟩ := h2.spell
  have HC := hide (cut_any a1 c1 n xs w h1 (by omega))
  have ly := List.length_pos_iff.2 hne
  obtain ⟨N, HN⟩ : ∃ N, Hid (N = xs.length + ys.length - 1) := ⟨_, rfl⟩
  have n1 : N + 1 = xs.length + ys.length := by have := HN.out; omega
  have e1 : Hid ((xs.take n).length = n) := by show _ = _; rw [List.length_take]; omega
  have e2 : Hid ((xs.drop n).length = xs.length - n) := List.length_drop
  have HF := hide (fun z1 z2 => one_facts (z1 := z1) (z2 := z2) h.md hx hy n0 hn hne HN.out)
  have HA := hide (fun v W r => hy1 v (.slice a2 ys.length c2) (xs.take n) ys W (by rw [e1.out]; omega) r)
  have HB := hide (fun v W r => hy1 v (.slice a2 ys.length c2) (xs.drop n) ys W (by rw [e2.out]; omega) r)
  have HG := hide (fun v zs ys' W g off n2 cap2 hr hz hO hye => fgrow_any f p wd v zs ys' W g off N n2 cap2 h hr hz hO hye)
  have HX := hide hx
  have HY := hide hy
  have HQ := hide h2
  have hp1 := h.top
  have hp0 := h.pos
  clear h1 h2 hx hy h hy1
  go_enter Tryd.func48, Tryd.ntmps48
  go_wp2_with fail
  refine HC.out.mono ?_; rintro e w1 ⟨b2, rfl, rl, rh, hb1⟩
  have RL := hide rl
  have RH := hide rh
  have RQ := hide (HQ.out.below hb1)
  clear rl rh HC HQ
  go_wp2_with (at_make; refine wpList_make_full _ rfl _ _ 22 rfl w1.heap.size 39 i0 (.int .u64 0) 1 Tryd.underlying22 hi0 hz0 hz1 .i64 .i64 _ _ N rfl rfl (by omega) (by omega) (by rw [hz2]; omega) (by unfold maxLen; omega) (Nat.le_refl _) ?_; intro w2 hown hgrow; have hO := hide (own_made hown); have hB2 := below_grown_none hgrow; have hg2 := own_lt hown; clear hown hgrow)
  refine (HA.out _ _ (RL.out.below hB2) (RQ.out.below hB2) (els_take HX.out n) HY.out (by rw [e1.out]; omega)).mono ?_; rintro e w3 ⟨u1, z1, rfl, hv1, o1, hb3⟩
  have hz1' := (HF.out z1)
  have HO3 := hide (own_below hO.out hb3)
  have R1 := hide (hv_rw hp1 (by rw [e1.out]; omega) hv1 o1).1
  have F1 := hide (own_far o1 hg2)
  have hl1 : 0 + z1.length ≤ N := by have := hv1.2.2.1; rw [e1.out] at this; omega
  have hz1e := hide hv1.1
  clear o1 hO
  have hg3 : w1.heap.size < w3.heap.size := Nat.lt_of_lt_of_le hg2 hb3.size
  have hB3 := hB2.trans (hb3.mono (Nat.le_of_lt hg2))
  go_wp2_with fail
  refine (HG.out u1 z1 _ w3 w1.heap.size 0 N N R1.out hz1e.out HO3.out (els_nought hp0 N) hl1 (by omega) F1.out).mono ?_; rintro e w4 ⟨rfl, o4, g4⟩
  have O4 := hide o4
  have hB4 := hB3.grown g4 (Nat.le_of_lt hg3) (fun k hk => by cases hk; exact Nat.le_refl _)
  have hg4 := Nat.lt_of_lt_of_le hg3 g4.size
  clear o4 g4 hB3 hb3 HO3 R1 F1
  have HB4 := hide (fun W (hb : Below w1.heap.size w1 W) => HB.out (.slice b2 (xs.length - n) (xs.length - n)) W (RH.out.below hb) (RQ.out.below hb) (els_drop HX.out n) HY.out (by rw [e2.out]; omega))
  unfold Hs at HB4
  have nn0 : (0 : Int) ≤ (n : Int) := Int.natCast_nonneg _
  have nn1 : (n : Int) ≤ (N : Int) := by omega
  have nn2 : ¬ N = n := by omega
  clear HA HB RL hB2
  go_wp2_with fail
  have HS5 := hide (fun (W : World) (hb : Below w4.drew.heap.size w4.drew W) (u2 : Value) (z2 : List Int) (hv2 : HV p (xs.drop n) ys z2) (o2 : W.ownsRow w4.drew.heap.size 39 1 u2 z2.length (vals z2)) =>
    HG.out u2 z2 _ W w1.heap.size n (N - n) (N - n) (hv_rw hp1 (by rw [e2.out]; omega) hv2 o2).1 hv2.1 (own_below (own_drew O4.out) hb) (els_gr hp0 (els_nought hp0 N) _) (by have := hv2.2.2.1; rw [e2.out] at this; omega) (by have := hv2.2.2.1; rw [e2.out] at this; omega) (own_far o2 (by simpa using hg4)))
  clear O4
  go_region_with (first
    | (go_at_call 29; refine (HB4.out _ hB4.drew).mono ?_; rintro e w5 ⟨u2, z2, rfl, hv2, o2, hb5⟩; have HS6 := hide (HS5.out w5 hb5 u2 z2 hv2 o2); have HV2 := hide hv2; clear o2 hv2)
    | (go_at_call 65; refine HS6.out.mono ?_; rintro e w6 ⟨rfl, o6, g6⟩; have O6 := hide o6; clear o6 HS6))
  have hB6 := (hB4.drew.trans (hb5.mono (by simpa using Nat.le_of_lt hg4))).grown g6 (Nat.le_trans (Nat.le_of_lt hg4) hb5.size) (fun k hk => by cases hk; exact Nat.le_refl _)
  go_wp2
  go_ret
  exact ⟨_, _, rfl, (HF.out z1 z2 hv1 HV2.out).2.2, own_ret O6.out hb1.size, Below.next hb1 hB6⟩

theorem er_els {f p : Int} {wd : Bool} {xs ys : List Int} (h : Fi f p wd) (hx : Els p xs) (hy : Els p ys) (h3 : xs.length ≤ 4096) (h4 : ys.length ≤ 4096) : er f xs ys = 0 := er_yes h (allIn_of hx) (allIn_of hy) h3 h4
theorem add_gives (f p : Int) (wd : Bool) (v1 v2 : Value) (xs ys : List Int) (w : World) (h : Fi f p wd) (h1 : Rw w v1 xs) (h2 : Rw w v2 ys) (hx : Els p xs) (hy : Els p ys) (h3 : xs.length ≤ 4096) (h4 : ys.length ≤ 4096) :
    Calls Tryd.prog 66 #[.int .u8 f, v1, v2] w fun e w' => ∃ v' zs, e = .returned (.tuple #[v', .int .i64 0]) ∧ Is p zs (fun i => co xs i + co ys i) ∧ zs.length ≤ max xs.length ys.length ∧ Rw w' v' zs ∧ Below w.heap.size w w' := by
  have he := er_els h hx hy h3 h4
  have hg := pAdd_any f v1 v2 xs ys w h1 h2
  unfold Gives addL at hg
  rw [he, if_pos rfl, pOf_eq h] at hg
  refine hg.mono ?_
  rintro e w' ⟨v', rfl, hO, hb⟩
  have hl : (tr (sm p 1 xs ys)).length ≤ max xs.length ys.length := Nat.le_trans (tr_len _) (by rw [sm_len]; exact Nat.le_refl _)
  exact ⟨v', _, rfl, is_add h.pos xs ys, hl, rw_of_own hO (by omega) (els_words (is_add h.pos xs ys).1 h.top), hb⟩
theorem sub_gives (f p : Int) (wd : Bool) (v1 v2 : Value) (xs ys : List Int) (w : World) (h : Fi f p wd) (h1 : Rw w v1 xs) (h2 : Rw w v2 ys) (hx : Els p xs) (hy : Els p ys) (h3 : xs.length ≤ 4096) (h4 : ys.length ≤ 4096) :
    Calls Tryd.prog 67 #[.int .u8 f, v1, v2] w fun e w' => ∃ v' zs, e = .returned (.tuple #[v', .int .i64 0]) ∧ Is p zs (fun i => co xs i - co ys i) ∧ zs.length ≤ max xs.length ys.length ∧ Rw w' v' zs ∧ Below w.heap.size w w' := by
  have he := er_els h hx hy h3 h4
  have hg := pSub_any f v1 v2 xs ys w h1 h2
  unfold Gives subL at hg
  rw [he, if_pos rfl, pOf_eq h] at hg
  refine hg.mono ?_
  rintro e w' ⟨v', rfl, hO, hb⟩
  have hl : (tr (sm p (sub p 0 1) xs ys)).length ≤ max xs.length ys.length := Nat.le_trans (tr_len _) (by rw [sm_len]; exact Nat.le_refl _)
  exact ⟨v', _, rfl, is_sub h.pos xs ys, hl, rw_of_own hO (by omega) (els_words (is_sub h.pos xs ys).1 h.top), hb⟩

set_option maxRecDepth 100000 in
set_option maxHeartbeats 400000 in
theorem cutBoth_any (f p : Int) (wd : Bool) (v1 v2 : Value) (xs ys : List Int) (n : Nat) (w : World) (h : Fi f p wd) (hy1 : Hyp f p (xs.length + ys.length)) (h1 : Rw w v1 xs) (h2 : Rw w v2 ys) (hx : Els p xs) (hy : Els p ys) (hl : xs.length + ys.length ≤ 4097 ∧ xs.length ≤ 4096 ∧ ys.length ≤ 4096)
    (n0 : 0 < n) (hn : n < ys.length) (hyx : ys.length ≤ xs.length) (h2n : 2 * n ≤ xs.length + 1) (h33 : 33 ≤ ys.length) :
    Calls Tryd.prog 49 #[.int .u8 f, v1, v2, .int .i64 n] w fun e w' => ∃ v' zs, e = .returned v' ∧ HV p xs ys zs ∧ w'.ownsRow w.heap.size 39 1 v' zs.length (vals zs) ∧ Below w.heap.size w w' := by
  obtain ⟨i0, hi0, hz0, hz1, hz2⟩ := info_parts u64_info
  obtain ⟨a1, c1, rfl, k1⟩ := h1.spell
  obtain ⟨a2, c2, rfl, k2⟩ := h2.spell
  have HC1 := hide (cut_any a1 c1 n xs w h1 (by omega))
  have HC2 := hide (fun W (hb : Below w.heap.size w W) => cut_any a2 c2 n ys W (h2.below hb) (by omega))
  obtain ⟨N, HN⟩ : ∃ N, Hid (N = xs.length + ys.length - 1) := ⟨_, rfl⟩
  have n1 : N + 1 = xs.length + ys.length := by have := HN.out; omega
  have e1 : Hid ((xs.take n).length = n) := by show _ = _; rw [List.length_take]; omega
  have e2 : Hid ((xs.drop n).length = xs.length - n) := List.length_drop
  have e3 : Hid ((ys.take n).length = n) := by show _ = _; rw [List.length_take]; omega
  have e4 : Hid ((ys.drop n).length = ys.length - n) := List.length_drop
  have HH := hide hy1
  have H := hide h
  have HF := hide (fun sp sq' z0 z1 zm m1 m2 => both_facts (sp := sp) (sq' := sq') (z0 := z0) (z1 := z1) (zm := zm) (m1 := m1) (m2 := m2) h.md hx hy hn hyx h2n h33 HN.out)
  have HG := hide (fun v zs ys' W g off n2 cap2 hr hz hO hye => fgrow_any f p wd v zs ys' W g off N n2 cap2 h hr hz hO hye)
  have HX := hide hx
  have HY := hide hy
  have hp1 := h.top
  have hp0 := h.pos
  clear h1 h2 hx hy h hy1
  go_enter Tryd.func49, Tryd.ntmps49
  go_wp2_with fail
  refine HC1.out.mono ?_; rintro e w1 ⟨b1, rfl, rl1, rh1, hb1⟩
  have RP0 := hide rl1
  have RP1 := hide rh1
  clear rl1 rh1 HC1
  go_wp2_with fail
  refine (HC2.out _ hb1).mono ?_; rintro e w2 ⟨b2, rfl, rl2, rh2, hb2⟩
  have RQ0 := hide rl2
  have RQ1 := hide rh2
  have RP0 := hide (RP0.out.below hb2)
  have RP1 := hide (RP1.out.below hb2)
  have hB2 := Below.next hb1 hb2
  clear rl2 rh2 HC2 hb1 hb2
  go_wp2_with fail
  refine (HH.out _ _ (xs.take n) (ys.take n) w2 (by rw [e1.out, e3.out]; omega) RP0.out RQ0.out (els_take HX.out n) (els_take HY.out n) (by rw [e1.out, e3.out]; omega)).mono ?_; rintro e w3 ⟨u0, z0, rfl, hv0, o0, hb3⟩
  have V0 := hide hv0
  have R0 := hide (hv_rw hp1 (by rw [e1.out, e3.out]; omega) hv0 o0)
  have RQ0 := hide (RQ0.out.below hb3)
  have RQ1 := hide (RQ1.out.below hb3)
  have RP0 := hide (RP0.out.below hb3)
  have RP1 := hide (RP1.out.below hb3)
  have hB3 := Below.next hB2 hb3
  have l0 : z0.length ≤ 2 * n - 1 := by have := hv0.2.2.1; rw [e1.out, e3.out] at this; omega
  clear hv0 o0 hb3 hB2
  go_wp2_with fail
  refine (HH.out _ _ (xs.drop n) (ys.drop n) w3 (by rw [e2.out, e4.out]; omega) RP1.out RQ1.out (els_drop HX.out n) (els_drop HY.out n) (by rw [e2.out, e4.out]; omega)).mono ?_; rintro e w4 ⟨u1, z1, rfl, hv1, o1, hb4⟩
  have V1 := hide hv1
  have R1 := hide (hv_rw hp1 (by rw [e2.out, e4.out]; omega) hv1 o1)
  have R0 := hide (R0.out.below hb4)
  have RQ0 := hide (RQ0.out.below hb4)
  have RQ1 := hide (RQ1.out.below hb4)
  have RP0 := hide (RP0.out.below hb4)
  have RP1 := hide (RP1.out.below hb4)
  have hB4 := Below.next hB3 hb4
  have l1 : z1.length ≤ xs.length - n + (ys.length - n) - 1 := by have := hv1.2.2.1; rw [e2.out, e4.out] at this; omega
  clear hv1 o1 hb4 hB3
  go_wp2_with fail
  refine (add_gives f p wd _ _ (xs.take n) (xs.drop n) w4 H.out RP0.out RP1.out (els_take HX.out n) (els_drop HX.out n) (by rw [e1.out]; omega) (by rw [e2.out]; omega)).mono ?_; rintro e w5 ⟨us, sp, rfl, isp, lsp, rsp, hb5⟩
  have IP := hide isp
  have RSP := hide rsp
  have R1 := hide (R1.out.below hb5)
  have R0 := hide (R0.out.below hb5)
  have RQ0 := hide (RQ0.out.below hb5)
  have RQ1 := hide (RQ1.out.below hb5)
  have hB5 := Below.next hB4 hb5
  rw [e1.out, e2.out] at lsp
  clear isp rsp hb5 hB4 RP0 RP1
  go_wp2_with fail
  refine (add_gives f p wd _ _ (ys.take n) (ys.drop n) w5 H.out RQ0.out RQ1.out (els_take HY.out n) (els_drop HY.out n) (by rw [e3.out]; omega) (by rw [e4.out]; omega)).mono ?_; rintro e w6 ⟨ut, sq', rfl, isq, lsq, rsq, hb6⟩
  have IQ := hide isq
  have RSQ := hide rsq
  have RSP := hide (RSP.out.below hb6)
  have R1 := hide (R1.out.below hb6)
  have R0 := hide (R0.out.below hb6)
  have hB6 := Below.next hB5 hb6
  rw [e3.out, e4.out] at lsq
  clear isq rsq hb6 hB5 RQ0 RQ1
  go_wp2_with fail
  refine (HH.out _ _ sp sq' w6 (by omega) RSP.out RSQ.out IP.out.1 IQ.out.1 (by omega)).mono ?_; rintro e w7 ⟨um, zm, rfl, hvm, om, hb7⟩
  have VM := hide hvm
  have RM := hide (hv_rw hp1 (by omega) hvm om)
  have R1 := hide (R1.out.below hb7)
  have R0 := hide (R0.out.below hb7)
  have hB7 := Below.next hB6 hb7
  have lm : zm.length ≤ sp.length + sq'.length - 1 := hvm.2.2.1
  clear hvm om hb7 hB6 RSP RSQ
  go_wp2_with fail
  refine (sub_gives f p wd _ _ zm z0 w7 H.out RM.out R0.out VM.out.1 V0.out.1 (by omega) (by omega)).mono ?_; rintro e w8 ⟨ux, m1, rfl, im1, lm1, rm1, hb8⟩
  have I1 := hide im1
  have RM1 := hide rm1
  have R1 := hide (R1.out.below hb8)
  have R0 := hide (R0.out.below hb8)
  have hB8 := Below.next hB7 hb8
  clear im1 rm1 hb8 hB7 RM
  go_wp2_with fail
  refine (sub_gives f p wd _ _ m1 z1 w8 H.out RM1.out R1.out I1.out.1 V1.out.1 (by omega) (by omega)).mono ?_; rintro e w9 ⟨uy, m2, rfl, im2, lm2, rm2, hb9⟩
  have I2 := hide im2
  have RM2 := hide rm2
  have R1 := hide (R1.out.below hb9)
  have R0 := hide (R0.out.below hb9)
  have hB9 := Below.next hB8 hb9
  have FF := hide (HF.out sp sq' z0 z1 zm m1 m2 V0.out V1.out IP.out IQ.out VM.out I1.out I2.out)
  obtain ⟨q0, q1, q2, _⟩ := FF.out
  clear im2 rm2 hb9 hB8 RM1 HF HH lm lm1 lm2 lsp lsq IP IQ I1 VM l0 l1
  go_wp2_with (at_make; refine wpList_make_full _ rfl _ _ 22 rfl w9.heap.size 39 i0 (.int .u64 0) 1 Tryd.underlying22 hi0 hz0 hz1 .i64 .i64 _ _ N rfl rfl (by omega) (by omega) (by rw [hz2]; omega) (by unfold maxLen; omega) (Nat.le_refl _) ?_; intro w10 hown hgrow; have hO := hide (own_made hown); have hB10 := below_grown_none hgrow; have hg10 := own_lt hown; clear hown hgrow)
  have F0 := hide (row_far R0.out.1 (Nat.le_refl _))
  have F1 := hide (row_far R1.out.1 (Nat.le_refl _))
  have F2 := hide (row_far RM2.out.1 (Nat.le_refl _))
  refine (HG.out u0 z0 _ w10 w9.heap.size 0 N N (R0.out.below hB10).1 V0.out.1 hO.out (els_nought hp0 N) q0 (by omega) F0.out).mono ?_; rintro e w11 ⟨rfl, o11, g11⟩
  have O11 := hide o11
  have hB11 := hB10.grown g11 (Nat.le_of_lt hg10) (fun k hk => by cases hk; exact Nat.le_refl _)
  have hg11 := Nat.lt_of_lt_of_le hg10 g11.size
  clear o11 g11 hB10 hO hg10
  have nn0 : (0 : Int) ≤ (n : Int) := Int.natCast_nonneg _
  have nn1 : (n : Int) ≤ (N : Int) := by omega
  have nn2 : ¬ N = n := by omega
  go_wp2_with fail
  refine (HG.out uy m2 _ w11 w9.heap.size n (N - n) (N - n) (RM2.out.below hB11).1 I2.out.1 O11.out (els_gr hp0 (els_nought hp0 N) _) q1 (by omega) F2.out).mono ?_; rintro e w12 ⟨rfl, o12, g12⟩
  have O12 := hide o12
  have hB12 := hB11.grown g12 (Nat.le_of_lt hg11) (fun k hk => by cases hk; exact Nat.le_refl _)
  have hg12 := Nat.lt_of_lt_of_le hg11 g12.size
  clear o12 g12 hB11 O11 hg11
  have mm0 : (0 : Int) ≤ 2 * (n : Int) := by omega
  have mm1 : 2 * (n : Int) ≤ (N : Int) := by omega
  have mm2 : ¬ N = 2 * n := by omega
  have mm3 : (2 * (n : Int)).toNat = 2 * n := by omega
  go_wp2_with fail
  refine (HG.out u1 z1 _ w12 w9.heap.size (2 * n) (N - 2 * n) (N - 2 * n) (R1.out.below hB12).1 V1.out.1 O12.out (els_gr hp0 (els_gr hp0 (els_nought hp0 N) _) _) q2 (by omega) F1.out).mono ?_; rintro e w13 ⟨rfl, o13, g13⟩
  have hB13 := hB12.grown g13 (Nat.le_of_lt hg12) (fun k hk => by cases hk; exact Nat.le_refl _)
  have O13 := hide o13
  clear o13
  go_wp2
  go_ret
  exact ⟨_, _, rfl, FF.out.2.2.2, own_ret O13.out hB9.size, Below.next hB9 hB13⟩

end Go.Proofs.YtcjgjgkoeokooaaDoor
