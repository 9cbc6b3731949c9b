import Derived.Test.YthialdipnhggnaaBJrdC
import Derived.Test.YthialdipnhggnaaBJrnK
set_option linter.unusedVariables false
set_option linter.unusedSimpArgs false
set_option maxRecDepth 100000
set_option maxHeartbeats 4000000
namespace Go.Proofs.Ythialdipnhggnaa
open Go.RowKit Fld
theorem Rl.ahead {w w' : World} {lo g : Nat} {v v' u : Value} {es : List Be} (h : Rl w lo u es) (m : Mv w w' g v v') (hg : g < lo) (hv : ∀ j, v.ownBlock = some j -> j < lo) : Rl w' lo u es := by
 have key : ∀ (T : TypeId) s n x xs, w.ownsRow lo T s x n xs -> ∀ j, x.ownBlock = some j -> Bv w g v.ownBlock j := fun T s n x xs ho j hj => by
  obtain ⟨h1, h2⟩ := ho.lt j hj
  exact ⟨h2, by omega, fun e => by have := hv j e; omega⟩
 exact ⟨m.kq.own h.row (key _ _ _ _ _ h.row), fun e he => m.kq.own (h.each e he) (key _ _ _ _ _ (h.each e he)), h.by_⟩
theorem dOpen {w : World} {base g : Nat} {v : Value} {D : Dsk} (h : Dy w base g v D) (hb : base <= w.heap.size) (hn : D.n < 4611686018427387904) :
 Calls Try.prog 18 #[.pointer (some ⟨g, 0, none⟩)] w fun e w' => ∃ v' lv es, e = .returned (.tuple #[lv, .int .i64 (opE23 sum8 D)]) ∧ Dy w' base g v' (opN23 sum8 D) ∧ Mv w w' g v v' ∧ Rl w' w.heap.size lv es ∧ es.map (·.1) = opR23 sum8 D := by
 have HP := hide (fun W (hB : Below w.heap.size w W) => h.below hB)
 have HT := hide (fun W (hB : Below w.heap.size w W) => dTrimY (h.below hB) (Nat.le_trans hb hB.size) hn (jrW (rdD sum8 D) : Int))
 obtain ⟨es0, hd⟩ := h
 have hlen := hd.o.ok.len
 have HR := hide (dRecords v D.l w (bl_bz hd.bl (by omega)))
 unfold GivesRd at HR
 rw [<- rdD_jrA hd.o.ok] at HR
 have hwl : 32 * jrW (rdD sum8 D) <= 32 * D.l.length := by
  rw [rdD_jrA hd.o.ok]
  have := jrA_len (jn32 D.l)
  rw [jn32_len] at this
  have := j32_le D.l
  omega
 have HC := hide (fun W (hB : Below w.heap.size w W) => (hd.below hB).cells.1)
 have x0 := hd.cells.1
 have HG := hide hd.lt
 have HV := hide (fun j hj => (hd.row.lt j hj).2)
 obtain ⟨ao, cap, rfl, _⟩ := hd.spell
 clear hd hb hn
 obtain ⟨n, HN⟩ : ∃ n, Hid (D.l.length = n) := ⟨_, rfl⟩
 rw [HN.out] at hlen hwl HR HC HP HT HV x0 ⊢
 rcases op23 D with ⟨hw, e1, e2, e3⟩ | ⟨hw, e1, e2, e3⟩
 · rw [e1, e2, e3]
   rw [HN.out] at hw
   obtain ⟨m, HM⟩ : ∃ m, Hid (jrW (rdD sum8 D) = m) := ⟨_, rfl⟩
   rw [HM.out] at HR hw hwl
   have q0 : ¬ ((m : Int) < (n : Int)) := by omega
   clear e1 e2 e3 HT hwl hw
   go_enter Try.func18, Try.ntmps18
   go_wp2_with (go_at_call 8; refine HR.out.mono ?_; rintro e w3 ⟨v3, es, rfl, hl3, he3, hb3⟩; have x3 := HC.out _ hb3; obtain ⟨a3, k3, hv3, _⟩ := own_spellO hl3.row; have HL3 := hide hl3; subst hv3; have HE3 := hide he3; clear hl3 he3)
   go_ret2
   exact ⟨_, _, es, rfl, HP.out _ hb3, Mv.of_below _ _ hb3, HL3.out, HE3.out⟩
 · rw [e1, e2]
   rw [HN.out] at hw
   obtain ⟨m, HM⟩ : ∃ m, Hid (jrW (rdD sum8 D) = m) := ⟨_, rfl⟩
   rw [HM.out] at HR hw hwl HT e3 ⊢
   have q0 : ((m : Int) < (n : Int)) := by omega
   clear e1 e2 hwl hw
   generalize tmN D (m : Int) = E at *
   rcases e3 with ⟨e3, e4⟩ | ⟨e3, e4⟩
   · rw [e4]
     rw [e3] at HT ⊢
     clear e3 e4
     go_enter Try.func18, Try.ntmps18
     go_wp2_with (first
      | (go_at_call 8; refine HR.out.mono ?_; rintro e w3 ⟨v3, es, rfl, hl3, he3, hb3⟩; have x3 := HC.out _ hb3; obtain ⟨a3, k3, hv3, _⟩ := own_spellO hl3.row; have HL3 := hide hl3; subst hv3; have HE3 := hide he3; have HT3 := hide (HT.out _ hb3); clear hl3 he3)
      | (go_at_call 36; refine HT3.out.mono ?_; rintro e w4 ⟨v4, rfl, hn4, hm4⟩))
     go_ret2
     exact ⟨v4, _, es, rfl, hn4, Mv.after hb3 hm4, HL3.out.ahead hm4 HG.out HV.out, HE3.out⟩
   · rw [e4]
     have q1 : (tmE D (m : Int) != 0) = true := bne_iff_ne.2 e3
     clear e3 e4
     generalize tmE D (m : Int) = er at *
     go_enter Try.func18, Try.ntmps18
     go_wp2_with (first
      | (go_at_call 8; refine HR.out.mono ?_; rintro e w3 ⟨v3, es, rfl, hl3, he3, hb3⟩; have x3 := HC.out _ hb3; obtain ⟨a3, k3, hv3, _⟩ := own_spellO hl3.row; have HL3 := hide hl3; subst hv3; have HE3 := hide he3; have HT3 := hide (HT.out _ hb3); clear hl3 he3)
      | (go_at_call 36; refine HT3.out.mono ?_; rintro e w4 ⟨v4, rfl, hn4, hm4⟩))
     go_ret2
     exact ⟨v4, _, [], rfl, hn4, Mv.after hb3 hm4, rl_nil _ _, rfl⟩
end Go.Proofs.Ythialdipnhggnaa
