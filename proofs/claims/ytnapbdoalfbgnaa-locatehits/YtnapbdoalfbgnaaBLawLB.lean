import Derived.Test.YtnapbdoalfbgnaaBLawLA
import Derived.Test.YtnapbdoalfbgnaaBLocO
set_option linter.unusedVariables false
set_option linter.unusedSimpArgs false
set_option maxRecDepth 100000
set_option maxHeartbeats 4000000
namespace Go.Proofs.Ytnapbdoalfbgnaa
open Go.RowKit Fld
theorem Dcd.case {f : Int} {xs ys : List Int} {d w : Int} {P a : List Int} {k : Bool} (h : Dcd f xs ys d w P a k) : ((dcE f xs ys d w ≠ 0 ∨ k = false) ∧ P = [] ∧ a = [] ∧ k = false) ∨ (dcE f xs ys d w = 0 ∧ k = true ∧ Dec (pOf f) (d + 1).toNat w.toNat xs ys P ∧ a = ofI (pOf f) P xs ys) := by
 by_cases he : dcE f xs ys d w = 0
 · rcases h.2 he with ⟨rfl, h1, h2⟩ | ⟨rfl, h1, h2, _⟩
   · exact .inr ⟨he, rfl, h1, h2⟩
   · exact .inl ⟨.inr rfl, h1, h2, rfl⟩
 · obtain ⟨h1, h2, h3⟩ := h.1 he
   exact .inl ⟨.inl he, h1, h2, h3⟩
theorem agE_dec {f : Int} {xs ys : List Int} {d w : Int} {P : List Int} (hx : ∀ x ∈ xs, 0 ≤ x ∧ x ≤ 18446744073709551615) (hy : ∀ x ∈ ys, 0 ≤ x ∧ x ≤ 18446744073709551615) (he : dcE f xs ys d w = 0) (h : Dec (pOf f) (d + 1).toNat w.toNat xs ys P) : agE f P xs ys = 0 := by
 obtain ⟨p, wd, hf, hp, e1, e2, l1, l2, hn, hl, _, _, hb⟩ := dcE_facts hx hy he
 rw [hp] at h
 have h2 : er f P [0] = 0 := er_yes hf (allIn_of h.1.1) (allIn_of (fun x hx => by rw [List.mem_singleton.1 hx]; exact ⟨Int.le_refl _, hf.pos⟩)) (by have := h.2.1; omega) (by simp)
 unfold agE
 rw [hb, h2]; rfl
theorem locOne_any (f : Int) (v1 v2 : Value) (xs ys : List Int) (d k : Int) (w : World) (h1 : Rw w v1 xs) (h2 : Rw w v2 ys) (hd : -9223372036854775808 ≤ d ∧ d ≤ 9223372036854775807) (hk : -9223372036854775808 ≤ k ∧ k ≤ 9223372036854775807) :
 Calls Try.prog 5 #[.int .u8 f, .agg #[v1, v2, .int .i64 d, .int .i64 k]] w fun e w' => e = .returned (.bool true) ∧ Below w.heap.size w w' := by
 have HG := hide (fun W (hb : Below w.heap.size w W) => gDecode f v1 v2 xs ys d k W (h1.below hb) (h2.below hb) hd hk)
 unfold GivesD at HG
 have HC := hide (fun P a i (hS : Dcd f xs ys d k P a i) => And.intro hS.case (hS.lens h1.words h2.words))
 have HA := hide (fun W vP P (hb : Below w.heap.size w W) (hr : Rw W vP P) => gAgree f vP v1 v2 P xs ys W hr (h1.below hb) (h2.below hb))
 have HAE := hide (fun P he hD => agE_dec (f := f) (d := d) (w := k) (P := P) h1.words h2.words he hD)
 have HF := hide (fun he => dcE_facts (f := f) (d := d) (w := k) h1.words h2.words he)
 have HR1 := hide (fun W (hb : Below w.heap.size w W) => h1.below hb)
 have HR2 := hide (fun W (hb : Below w.heap.size w W) => h2.below hb)
 obtain ⟨b0, B0'⟩ := pts_box w v1 v2 d k
 have K0 := hide b0
 have B0 := hide B0'
 obtain ⟨a1, c1, rfl, _⟩ := h1.spell
 obtain ⟨a2, c2, rfl, _⟩ := h2.spell
 obtain ⟨k0, k1, k2, k3⟩ := cell_four b0
 clear h1 h2 b0 B0'
 obtain ⟨nx, Hnx⟩ : ∃ n, Hid (xs.length = n) := ⟨_, rfl⟩
 obtain ⟨ny, Hny⟩ : ∃ n, Hid (ys.length = n) := ⟨_, rfl⟩
 rw [Hnx.out] at HG HA HR1 K0 B0 k0 k1 k2 k3 ⊢
 rw [Hny.out] at HG HA HR2 K0 B0 k0 k1 k2 k3 ⊢
 go_enter Try.func5, Try.ntmps5
 go_wp2_with fail
 refine (HG.out _ B0.out).mono ?_
 rintro e w1 ⟨vp, va, P, a, ok, rfl, hS, o1, o2, hb1⟩
 have hB1 := Below.next B0.out hb1
 have K1 := hide (kept K0.out hb1)
 obtain ⟨hC, hl1, hl2, hl3, _⟩ := HC.out P a ok hS
 obtain ⟨ap, cp, rfl⟩ := own_form o1
 obtain ⟨aa, ca, rfl⟩ := own_form o2
 have R1 := hide (rw_of_own o1 (by omega) hl1)
 have R2 := hide (lm_own o2 (by omega))
 clear o1 o2 k0 k1 k2 k3 hS HG HC
 rcases hC with ⟨h0, rfl, rfl, rfl⟩ | ⟨he, rfl, hDc, rfl⟩
 · rw [List.length_nil]
   obtain ⟨e0, He0⟩ : ∃ e0, Hid (dcE f xs ys d k = e0) := ⟨_, rfl⟩
   rw [He0.out]
   clear R1 R2 hl1 h0
   by_cases hz : e0 = 0
   · subst hz
     go_wp2_with (go_at_call 11; refine (anch17 _).mono ?_; rintro e w5 ⟨rfl, hb5⟩)
     go_ret
     exact ⟨rfl, Below.next hB1 hb5⟩
   · have hz2 : (e0 != 0) = true := bne_iff_ne.2 hz
     go_wp2_with (go_at_call 11; refine (anch17 _).mono ?_; rintro e w5 ⟨rfl, hb5⟩)
     go_ret
     exact ⟨rfl, Below.next hB1 hb5⟩
 · obtain ⟨p, wd, hf, hp, e1, e2, l1, l2, hn, hl, hd0, hw0, hb⟩ := HF.out he
   subst hp
   have hag := HAE.out P he hDc
   have hav : agV f P xs ys = (xs.length : Int) - (offp (pOf f) P xs ys).length := by unfold agV; rw [if_pos hag]
   rw [he]
   have HA2 := hide (HA.out w1 _ P hB1 R1.out)
   rw [hag, hav, Hnx.out] at HA2
   have HOf := hide (fun W (hb : Below w1.heap.size w1 W) => dOff f (pOf f) wd (.slice ap P.length cp) _ _ P xs ys W hf (R1.out.below hb) (HR1.out _ (Below.next hB1 hb)) (HR2.out _ (Below.next hB1 hb)) hDc.1.1 (by omega) e1 l1 l2)
   have hol := offp_len (pOf f) P xs ys
   rw [Hnx.out] at hol l2
   rw [ofI_len] at R2 ⊢
   have q1 : (P.length : Int) - 1 ≤ d := by have := hDc.2.1; omega
   have q2 : ((offp (pOf f) P xs ys).length : Int) ≤ k := by have := hDc.2.2; omega
   obtain ⟨m0, m1, m2, m3⟩ := cell_four K1.out
   obtain ⟨lp, Hlp⟩ : ∃ n, Hid (P.length = n) := ⟨_, rfl⟩
   obtain ⟨la, Hla⟩ : ∃ n, Hid ((offp (pOf f) P xs ys).length = n) := ⟨_, rfl⟩
   rw [Hlp.out] at HA2 HOf q1 R1 hl2 ⊢
   rw [Hla.out] at HA2 HOf q2 hol R2 ⊢
   clear HA HAE HF hDc hag hav he e1 e2 l1 hn hl hb R1 hl1 hl3 hf HR1 HR2 K0
   go_wp2_with fail
   refine HA2.out.mono ?_
   rintro e w3 ⟨rfl, hb3⟩
   have hB3 := Below.next hB1 hb3
   clear m0 m1 m2 m3 HA2
   have K3 := hide (kept K1.out hb3)
   have hla : la ≤ 512 := by omega
   have HL5 : Hid (∀ W b v n, W.ownsRow b 3 1 v n (nms (offp (pOf f) P xs ys)) → Lm iw 1 W v (ofI (pOf f) P xs ys)) := fun W b v n hO => lm_own (by unfold ofI; rw [iw_nms]; exact hO) (by rw [ofI_len, Hla.out]; omega)
   go_wp2_with (first
    | (go_at_call 11; refine (anch17 _).mono ?_; rintro e w4 ⟨rfl, hb4⟩; have hb14 := Below.next hb3 hb4; have hB4 := Below.next hB3 hb4; obtain ⟨m0, m1, m2, m3⟩ := cell_four (kept K3.out hb4))
    | (go_at_call 17; refine (HOf.out _ hb14).mono ?_; rintro e w5 ⟨v5, rfl, hO5, hb5⟩; obtain ⟨a5, c5, rfl⟩ := own_form hO5; have R5 := hide (HL5.out _ _ _ _ hO5); clear hO5; have hb15 := Below.next hb14 hb5; have hB5 := Below.next hB4 hb5)
    | (go_at_call 10; refine (dInts _ _ _ _ _ (R2.out.below hb15) R5.out).mono ?_; rintro e w6 ⟨r6, rfl, hr6, hb6⟩; obtain rfl : r6 = true := hr6.2 rfl; clear hr6; have hB6 := Below.next hB5 hb6))
   go_ret
   exact ⟨rfl, hB6⟩
end Go.Proofs.Ytnapbdoalfbgnaa
