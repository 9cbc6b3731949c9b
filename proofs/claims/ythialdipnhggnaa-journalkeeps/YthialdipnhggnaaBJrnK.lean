import Derived.Test.YthialdipnhggnaaBJrnE
import Derived.Test.YthialdipnhggnaaBJrnJ
set_option linter.unusedVariables false
set_option linter.unusedSimpArgs false
set_option maxRecDepth 100000
set_option maxHeartbeats 4000000
namespace Go.Proofs.Ythialdipnhggnaa
open Go.RowKit Fld
theorem rdD_jrA {D : Dsk} (h : DskOk D) : rdD sum8 D = jrA (jn32 D.l) := by
 rw [jn32_all h.blk]
 have hl := flat_len32 h.blk
 unfold rdD jrA
 exact jr_fuel _ _ _ (by omega) (by omega)
theorem Rl.mv {w w' : World} {base lo g : Nat} {v v' u : Value} {D : Dsk} {es : List Be} (h : Rl w lo u es) (hd : Hd w base g v D) (m : Mv w w' g v v') : Rl w' lo u es :=
 ⟨hd.apart_row m h.row (by decide) (by decide), fun e he => hd.apart_row m (h.each e he) (by decide) (by decide), h.by_⟩
theorem op23 (D : Dsk) : (¬ jrW (rdD sum8 D) < D.l.length ∧ opE23 sum8 D = 0 ∧ opN23 sum8 D = D ∧ opR23 sum8 D = rdD sum8 D) ∨
 (jrW (rdD sum8 D) < D.l.length ∧ opE23 sum8 D = tmE D (jrW (rdD sum8 D) : Int) ∧ opN23 sum8 D = tmN D (jrW (rdD sum8 D) : Int) ∧ (tmE D (jrW (rdD sum8 D) : Int) = 0 ∧ opR23 sum8 D = rdD sum8 D ∨ tmE D (jrW (rdD sum8 D) : Int) ≠ 0 ∧ opR23 sum8 D = [])) := by
 unfold opR23 opN23
 by_cases h : jrW (rdD sum8 D) < D.l.length
 · have e : opE23 sum8 D = tmE D (jrW (rdD sum8 D) : Int) := by unfold opE23; rw [if_pos h]
   rw [e, if_pos h]
   refine .inr ⟨h, rfl, rfl, ?_⟩
   by_cases h2 : tmE D (jrW (rdD sum8 D) : Int) = 0
   · exact .inl ⟨h2, by rw [if_pos h2]⟩
   · exact .inr ⟨h2, by rw [if_neg h2]⟩
 · have e : opE23 sum8 D = 0 := by unfold opE23; rw [if_neg h]
   rw [e, if_neg h]
   exact .inl ⟨h, rfl, rfl, by rw [if_pos rfl]⟩
theorem gOpen_nil (w : World) : Calls Try.prog 17 #[.pointer none] w fun e w' => e = .returned (.tuple #[.slice none 0 0, .int .i64 1]) ∧ w' = w := by
 have H := hide (fun W => gThere_no W)
 go_enter Try.func17, Try.ntmps17
 go_wp2_with (go_at_call 32; refine (H.out _).mono ?_; rintro e w1 ⟨rfl, rfl⟩)
 go_ret2
 exact ⟨rfl, rfl⟩
theorem gOpen {w : World} {base g : Nat} {v : Value} {D : Dsk} (h : Hd w base g v D) (hb : base <= w.heap.size) (hn : D.n < 4611686018427387904) :
 Calls Try.prog 17 #[.pointer (some ⟨g, 0, none⟩)] w fun e w' => ∃ v' lv es, e = .returned (.tuple #[lv, .int .i64 (opE23 sum8 D)]) ∧ Hd w' base g v' (opN23 sum8 D) ∧ Mv w w' g v v' ∧ Rl w' w.heap.size lv es ∧ es.map (·.1) = opR23 sum8 D := by
 have H := hide (gThere h)
 have HB := hide (gBlocks22 h)
 have hlen := h.o.ok.len
 have HR := hide (fun W x (hx : Bz W x D.l) => gRecords x D.l W hx)
 unfold GivesRd at HR
 rw [<- rdD_jrA h.o.ok] at HR
 have HP := hide (fun W (hB : Below w.heap.size w W) => h.below hB)
 have HZ := hide (fun W x r c (hT : Tol W w.heap.size x r c D.l) => bl_bz hT.bl (by omega))
 have hwl : 32 * jrW (rdD sum8 D) <= 32 * D.l.length := by
  rw [rdD_jrA h.o.ok]
  have := jrA_len (jn32 D.l)
  rw [jn32_len] at this
  have := j32_le D.l
  omega
 have HT := hide (fun W (hB : Below w.heap.size w W) => gTrim22 (h.below hB) (Nat.le_trans hb hB.size) hn (jrW (rdD sum8 D) : Int))
 have HBs := hide hb
 clear h hb hn
 obtain ⟨n, HN⟩ : ∃ n, Hid (D.l.length = n) := ⟨_, rfl⟩
 rcases op23 D with ⟨hw, e1, e2, e3⟩ | ⟨hw, e1, e2, e3⟩
 · rw [e1, e2, e3]
   rw [HN.out] at hw hlen hwl
   obtain ⟨m, HM⟩ : ∃ m, Hid (jrW (rdD sum8 D) = m) := ⟨_, rfl⟩
   rw [HM.out] at HR hw hwl
   have q0 : ¬ ((m : Int) < (n : Int)) := by omega
   clear e1 e2 e3 HT hwl hw
   go_enter Try.func17, Try.ntmps17
   go_wp2_with (first
    | (go_at_call 32; refine H.out.mono ?_; rintro e w1 ⟨rfl, hw1⟩; rw [hw1]; clear hw1)
    | (go_at_call 26; refine HB.out.mono ?_; rintro e w2 ⟨v2, r2, c2, rfl, hT2, hb2⟩; have hrow2 := hT2.row; rw [HN.out] at hrow2; obtain ⟨a2, k2, hv2, _⟩ := own_spellO hrow2; subst hv2; have HR2 := hide (HR.out _ _ (HZ.out _ _ _ _ hT2)); clear hT2 hrow2)
    | (go_at_call 7; refine HR2.out.mono ?_; rintro e w3 ⟨v3, es, rfl, hl3, he3, hb3⟩; obtain ⟨a3, k3, hv3, _⟩ := own_spellO hl3.row; have HL3 := hide hl3; subst hv3; have HE3 := hide he3; clear hl3 he3))
   go_ret2
   have hB := Below.next hb2 hb3
   exact ⟨_, _, es, rfl, HP.out _ hB, Mv.of_below _ _ hB, HL3.out.mono hb2.size, HE3.out⟩
 · rw [e1, e2]
   rw [HN.out] at hw hlen hwl
   obtain ⟨m, HM⟩ : ∃ m, Hid (jrW (rdD sum8 D) = m) := ⟨_, rfl⟩
   rw [HM.out] at HR hw hwl HT e3 ⊢
   have q0 : ((m : Int) < (n : Int)) := by omega
   clear e1 e2 hwl hw
   generalize tmN D (m : Int) = E at *
   rcases e3 with ⟨e3, e4⟩ | ⟨e3, e4⟩
   · rw [e4]
     rw [e3] at HT ⊢
     clear e3 e4
     go_enter Try.func17, Try.ntmps17
     go_wp2_with (first
      | (go_at_call 32; refine H.out.mono ?_; rintro e w1 ⟨rfl, hw1⟩; rw [hw1]; clear hw1)
      | (go_at_call 26; refine HB.out.mono ?_; rintro e w2 ⟨v2, r2, c2, rfl, hT2, hb2⟩; have hrow2 := hT2.row; rw [HN.out] at hrow2; obtain ⟨a2, k2, hv2, _⟩ := own_spellO hrow2; subst hv2; have HR2 := hide (HR.out _ _ (HZ.out _ _ _ _ hT2)); clear hT2 hrow2)
      | (go_at_call 7; refine HR2.out.mono ?_; rintro e w3 ⟨v3, es, rfl, hl3, he3, hb3⟩; obtain ⟨a3, k3, hv3, _⟩ := own_spellO hl3.row; have HL3 := hide hl3; subst hv3; have HE3 := hide he3; have HB3 := hide (Below.next hb2 hb3); have HT3 := hide (HT.out _ HB3.out); clear hl3 he3)
      | (go_at_call 35; refine HT3.out.mono ?_; rintro e w4 ⟨v4, rfl, hn4, hm4⟩))
     go_ret2
     exact ⟨v4, _, es, rfl, hn4, Mv.after HB3.out hm4, (HL3.out.mono hb2.size).mv (HP.out _ HB3.out) hm4, HE3.out⟩
   · rw [e4]
     have q1 : (tmE D (m : Int) != 0) = true := bne_iff_ne.2 e3
     clear e3 e4
     generalize tmE D (m : Int) = er at *
     go_enter Try.func17, Try.ntmps17
     go_wp2_with (first
      | (go_at_call 32; refine H.out.mono ?_; rintro e w1 ⟨rfl, hw1⟩; rw [hw1]; clear hw1)
      | (go_at_call 26; refine HB.out.mono ?_; rintro e w2 ⟨v2, r2, c2, rfl, hT2, hb2⟩; have hrow2 := hT2.row; rw [HN.out] at hrow2; obtain ⟨a2, k2, hv2, _⟩ := own_spellO hrow2; subst hv2; have HR2 := hide (HR.out _ _ (HZ.out _ _ _ _ hT2)); clear hT2 hrow2)
      | (go_at_call 7; refine HR2.out.mono ?_; rintro e w3 ⟨v3, es, rfl, hl3, he3, hb3⟩; obtain ⟨a3, k3, hv3, _⟩ := own_spellO hl3.row; have HL3 := hide hl3; subst hv3; have HE3 := hide he3; have HB3 := hide (Below.next hb2 hb3); have HT3 := hide (HT.out _ HB3.out); clear hl3 he3)
      | (go_at_call 35; refine HT3.out.mono ?_; rintro e w4 ⟨v4, rfl, hn4, hm4⟩))
     go_ret2
     exact ⟨v4, _, [], rfl, hn4, Mv.after HB3.out hm4, rl_nil _ _, rfl⟩
end Go.Proofs.Ythialdipnhggnaa
