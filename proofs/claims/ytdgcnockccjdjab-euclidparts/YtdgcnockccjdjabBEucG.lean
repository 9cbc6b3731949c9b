/-
  Euclid: the program's GCD, Modulo and Ratio, or their errors.
-/
import Derived.Test.YtdgcnockccjdjabBEucF
namespace Go.Proofs.Ytdgcnockccjdjab
open Go.RowKit Fld
set_option linter.unusedVariables false

namespace Fld
theorem Fnd.gcd {p : Int} {wd : Bool} (hm : Md p wd) {a b g : List Int} {A B : R3} (ha : Els p a) (hb : Els p b) (h : Fnd p 0 a b A B) (h0 : tr a = [] → tr b = []) (hg : Mon p A.x g) : Gc p a b g := by
  by_cases hn : tr a = []
  · rcases h.case hm ha hb with ⟨_, rfl, _⟩ | ⟨_, h1, _⟩
    · rcases hg with ⟨_, rfl⟩ | ⟨h1, _⟩
      · exact Gc.zero hn (h0 hn)
      · exact absurd rfl h1
    · rw [hn] at h1; simp at h1
  · exact h.gc hm ha hb hn hg
theorem Fnd.alen {p : Int} {wd : Bool} (hm : Md p wd) {stop : Nat} {a b : List Int} {A B : R3} (ha : Els p a) (hb : Els p b) (h : Fnd p stop a b A B) (la : a.length ≤ 2048) (lb : b.length ≤ 2048) : A.x.length ≤ 2048 ∧ B.x.length ≤ 2048 ∧ B.u.length ≤ 2049 ∧ B.v.length ≤ 2049 := by
  have h1 := tr_len a
  have h2 := tr_len b
  have h3 := h.made hm ha hb
  refine ⟨?_, by omega, by omega, by omega⟩
  rcases h.case hm ha hb with ⟨_, rfl, _⟩ | ⟨hi, _⟩
  · show [].length ≤ _; simp
  · have := hi.nx; omega
end Fld

set_option maxRecDepth 100000 in
set_option maxHeartbeats 400000 in
theorem eGCD_any (f : Int) (va vb : Value) (a b : List Int) (w : World) (h1 : Rw w va a) (h2 : Rw w vb b) :
    Calls Try.prog 18 #[.int .u8 f, va, vb] w fun e w' => ∃ v' g, e = .returned (.tuple #[v', .int .i64 (chE f a b)]) ∧ Rw w' v' g ∧ GcE f a b g ∧ Below w.heap.size w w' := by
  have hk := hide (eCheck_any f va vb a b w h1 h2)
  by_cases he : chE f a b = 0
  · obtain ⟨p, wd, hf, i1, i2, la, lb⟩ := chE_zero he
    have e1 := els_of i1 h1.words
    have e2 := els_of i2 h2.words
    have HP : Hid (∀ g, Gc p a b g → GcE f a b g) := fun g hv => ⟨fun h0 => absurd he h0, fun _ => by rw [pOf_eq hf]; exact hv⟩
    have hdg := hide (fun W (hb : Below w.heap.size w W) => Degree_any va a W (h1.below hb))
    rw [he]
    rw [he] at hk
    have HT := hide (fun v (r : R3) W (hr : Rw W v r.x) (ht : Tm p r.x) (hl : r.x.length ≤ 2048) => byTop_any f p wd v r.x W hf hr ht (by omega))
    by_cases hn : tr a = []
    · have hd := hide (fun W (hb : Below w.heap.size w W) => descend_any f p wd vb va b a 0 W hf (h2.below hb) (h1.below hb) e2 e1 lb la (Int.le_refl 0))
      have HG : Hid (∀ A B g, Fnd p (0 : Int).toNat b a A B → Mon p A.x g → GcE f a b g) := fun A B g hv hg => HP.out g (hv.gcd hf.md e2 e1 (fun _ => hn) hg).swap
      have HL : Hid (∀ A B, Fnd p (0 : Int).toNat b a A B → Tm p A.x ∧ A.x.length ≤ 2048) := fun A B hv => ⟨(hv.tm hf.md e2 e1).2.2.2, (hv.alen hf.md e2 e1 lb la).1⟩
      have e : (((tr a).length : Int) - 1) = -1 := by rw [hn]; rfl
      rw [e] at hdg
      clear h1 h2 hf he e e1 e2 hn HP
      go_enter Try.func18, Try.ntmps18
      go_wp2_with fail
      refine hk.out.mono ?_; rintro e w1 ⟨rfl, hb1⟩
      go_wp2_with fail
      refine (hdg.out _ hb1).mono ?_; rintro e w9 ⟨rfl, hb9⟩
      have hb1 := Below.next hb1 hb9
      clear hb9
      go_wp2_with fail
      refine (hd.out _ hb1).mono ?_; rintro e w2 ⟨c0, c1, c2, d0, d1, d2, A, B, rfl, RA, RB, hv, hb2⟩
      obtain ⟨x1, y1, rfl, _⟩ := RA.1.spell
      obtain ⟨x2, y2, rfl, _⟩ := RA.2.1.spell
      obtain ⟨x3, y3, rfl, _⟩ := RA.2.2.spell
      obtain ⟨x4, y4, rfl, _⟩ := RB.1.spell
      obtain ⟨x5, y5, rfl, _⟩ := RB.2.1.spell
      obtain ⟨x6, y6, rfl, _⟩ := RB.2.2.spell
      have hb3 := Below.next hb1 hb2
      have HA := hide (al_two w2 42 _ _ _ _ _ _ A B RA RB)
      clear RA RB
      go_wp2_with fail
      refine (HT.out _ A _ HA.out.2.2.1.1 (HL.out A B hv).1 (HL.out A B hv).2).mono ?_; rintro e w4 ⟨v', g, rfl, hr, hg, hb4⟩
      have hb5 := Below.next (Below.next hb3 HA.out.2.2.2.2) hb4
      go_wp2
      go_ret2
      exact ⟨_, g, rfl, hr, HG.out A B g hv hg, hb5⟩
    · have hd := hide (fun W (hb : Below w.heap.size w W) => descend_any f p wd va vb a b 0 W hf (h1.below hb) (h2.below hb) e1 e2 la lb (Int.le_refl 0))
      have HG : Hid (∀ A B g, Fnd p (0 : Int).toNat a b A B → Mon p A.x g → GcE f a b g) := fun A B g hv hg => HP.out g (hv.gcd hf.md e1 e2 (fun h0 => absurd h0 hn) hg)
      have HL : Hid (∀ A B, Fnd p (0 : Int).toNat a b A B → Tm p A.x ∧ A.x.length ≤ 2048) := fun A B hv => ⟨(hv.tm hf.md e1 e2).2.2.2, (hv.alen hf.md e1 e2 la lb).1⟩
      have hpos := List.length_pos_iff.2 hn
      have ht : ¬ ((tr a).length : Int) - 1 < 0 := by omega
      clear h1 h2 hf he e1 e2 hn HP hpos
      generalize (tr a).length = na at *
      go_enter Try.func18, Try.ntmps18
      go_wp2_with fail
      refine hk.out.mono ?_; rintro e w1 ⟨rfl, hb1⟩
      go_wp2_with fail
      refine (hdg.out _ hb1).mono ?_; rintro e w9 ⟨rfl, hb9⟩
      have hb1 := Below.next hb1 hb9
      clear hb9
      go_wp2_with fail
      refine (hd.out _ hb1).mono ?_; rintro e w2 ⟨c0, c1, c2, d0, d1, d2, A, B, rfl, RA, RB, hv, hb2⟩
      obtain ⟨x1, y1, rfl, _⟩ := RA.1.spell
      obtain ⟨x2, y2, rfl, _⟩ := RA.2.1.spell
      obtain ⟨x3, y3, rfl, _⟩ := RA.2.2.spell
      obtain ⟨x4, y4, rfl, _⟩ := RB.1.spell
      obtain ⟨x5, y5, rfl, _⟩ := RB.2.1.spell
      obtain ⟨x6, y6, rfl, _⟩ := RB.2.2.spell
      have hb3 := Below.next hb1 hb2
      have HA := hide (al_two w2 42 _ _ _ _ _ _ A B RA RB)
      clear RA RB
      go_wp2_with fail
      refine (HT.out _ A _ HA.out.2.2.1.1 (HL.out A B hv).1 (HL.out A B hv).2).mono ?_; rintro e w4 ⟨v', g, rfl, hr, hg, hb4⟩
      have hb5 := Below.next (Below.next hb3 HA.out.2.2.2.2) hb4
      go_wp2
      go_ret2
      exact ⟨_, g, rfl, hr, HG.out A B g hv hg, hb5⟩
  · have ht : (chE f a b != 0) = true := bne_iff_ne.2 he
    have HP : Hid (GcE f a b []) := ⟨fun _ => rfl, fun h0 => absurd h0 he⟩
    clear h1 h2 he
    generalize chE f a b = e0 at *
    go_enter Try.func18, Try.ntmps18
    go_wp2_with (go_at_call 28; refine hk.out.mono ?_; rintro e w1 ⟨rfl, hb⟩)
    go_ret2
    exact ⟨_, _, rfl, rw0 _, HP.out, hb⟩

set_option maxRecDepth 100000 in
set_option maxHeartbeats 400000 in
theorem eModulo_any (f : Int) (va vm : Value) (a m : List Int) (w : World) (h1 : Rw w va a) (h2 : Rw w vm m) :
    Calls Try.prog 19 #[.int .u8 f, va, vm] w fun e w' => ∃ v' i ok, e = .returned (.tuple #[v', .bool ok, .int .i64 (moE f a m)]) ∧ Rw w' v' i ∧ MoE f a m i ok ∧ Below w.heap.size w w' := by
  have hk := hide (eCheck_any f va vm a m w h1 h2)
  by_cases he : chE f a m = 0
  · obtain ⟨p, wd, hf, i1, i2, la, lm⟩ := chE_zero he
    have e1 := els_of i1 h1.words
    have e2 := els_of i2 h2.words
    have hdg := hide (fun W (hb : Below w.heap.size w W) => Degree_any vm m W (h2.below hb))
    by_cases hn : tr m = []
    · have hE : moE f a m = 5 := by unfold moE; rw [if_pos he, if_pos hn]
      have HP : Hid (MoE f a m [] false) := ⟨fun _ => ⟨rfl, rfl⟩, fun h0 => by rw [hE] at h0; cases h0⟩
      have e : (((tr m).length : Int) - 1) = -1 := by rw [hn]; rfl
      rw [e] at hdg
      rw [hE]
      rw [he] at hk
      clear h1 h2 hf he e e1 e2 hn hE
      go_enter Try.func19, Try.ntmps19
      go_wp2_with fail
      refine hk.out.mono ?_; rintro e w1 ⟨rfl, hb1⟩
      go_wp2_with fail
      refine (hdg.out _ hb1).mono ?_; rintro e w9 ⟨rfl, hb9⟩
      go_wp2
      go_ret3
      exact ⟨_, _, _, rfl, rw0 _, HP.out, Below.next hb1 hb9⟩
    · have hE : moE f a m = 0 := by unfold moE; rw [if_pos he, if_neg hn]
      have HP : Hid (∀ i ok, Mo p a m i ok → MoE f a m i ok) := fun i ok hv => ⟨fun h0 => absurd hE h0, fun _ => by rw [pOf_eq hf]; exact hv⟩
      have hd := hide (fun W (hb : Below w.heap.size w W) => descend_any f p wd vm va m a 1 W hf (h2.below hb) (h1.below hb) e2 e1 lm la (by decide))
      have HF : Hid (∀ A B, Fnd p (1 : Int).toNat m a A B → B.x = [] → MoE f a m [] false) := fun A B hv h0 => HP.out _ _ ((hv.mo (i := []) hf.md e2 e1 hn).1 h0)
      have HC : Hid (∀ A B, Fnd p (1 : Int).toNat m a A B → B.x ≠ [] → ∃ c, B.x = [c] ∧ El p c ∧ c ≠ 0) := fun A B hv h0 => by
        have h3 := (hv.made hf.md e2 e1).2.1
        have h4 := List.length_pos_iff.2 h0
        have h5 : (1 : Int).toNat = 1 := rfl
        obtain ⟨c, hc⟩ := List.length_eq_one_iff.1 (show B.x.length = 1 by omega)
        have h6 := last_el hf.pos (hv.tm hf.md e2 e1).1 h0
        rw [hc] at h6
        exact ⟨c, hc, h6.1, h6.2⟩
      have HV : Hid (∀ A B c I R, Fnd p (1 : Int).toNat m a A B → B.x = [c] → El p c → c ≠ 0 → DvE f B.v [c] I R → MoE f a m I true ∧ Wd I) := fun A B c I R hv hx hc h0 hs => by
        have hl := hv.alen hf.md e2 e1 lm la
        have ht := hv.tm hf.md e2 e1
        have hz : divE f B.v [c] = 0 := by rw [div_ok hf ht.2.2.1.1 (Tm.single hc h0) (by omega) (by simp), if_neg (by simp)]
        have hdv := hs.dv hf hz
        have hq := div_const hf.md hc h0 hdv
        exact ⟨HP.out _ _ ((hv.mo hf.md e2 e1 hn).2 c _ hx hq.2.2.2 hq.2.1 hq.2.2.1), (dv_wd hf.md hf.top (Tm.single hc h0).1 hdv (by omega) (by simp)).1⟩
      have HE : Hid (∀ A B c, Fnd p (1 : Int).toNat m a A B → El p c → c ≠ 0 → divE f B.v [c] = 0) := fun A B c hv hc h0 => by
        have hl := hv.alen hf.md e2 e1 lm la
        rw [div_ok hf (hv.tm hf.md e2 e1).2.2.1.1 (Tm.single hc h0) (by omega) (by simp), if_neg (by simp)]
      have HTx : Hid (∀ A B, Fnd p (1 : Int).toNat m a A B → tr B.x = B.x) := fun A B hv => (hv.tm hf.md e2 e1).1.2
      have hpos := List.length_pos_iff.2 hn
      have ht : ¬ ((tr m).length : Int) - 1 < 0 := by omega
      rw [hE]
      rw [he] at hk
      clear h1 h2 hf he e1 e2 hn hE hpos HP
      generalize (tr m).length = nm at *
      go_enter Try.func19, Try.ntmps19
      go_wp2_with fail
      refine hk.out.mono ?_; rintro e w1 ⟨rfl, hb1⟩
      go_wp2_with fail
      refine (hdg.out _ hb1).mono ?_; rintro e w9 ⟨rfl, hb9⟩
      have hb1 := Below.next hb1 hb9
      clear hb9
      go_wp2_with fail
      refine (hd.out _ hb1).mono ?_; rintro e w2 ⟨c0, c1, c2, d0, d1, d2, A, B, rfl, RA, RB, hv, hb2⟩
      obtain ⟨x1, y1, rfl, _⟩ := RA.1.spell
      obtain ⟨x2, y2, rfl, _⟩ := RA.2.1.spell
      obtain ⟨x3, y3, rfl, _⟩ := RA.2.2.spell
      obtain ⟨x4, y4, rfl, _⟩ := RB.1.spell
      obtain ⟨x5, y5, rfl, _⟩ := RB.2.1.spell
      obtain ⟨x6, y6, rfl, _⟩ := RB.2.2.spell
      have hb3 := Below.next hb1 hb2
      have HA := hide (al_two w2 42 _ _ _ _ _ _ A B RA RB)
      clear RA RB
      go_wp2_with fail
      have hb4 := Below.next hb3 HA.out.2.2.2.2
      have HG := hide (Degree_any _ B.x _ HA.out.2.2.2.1.1)
      rw [HTx.out A B hv] at HG
      refine HG.out.mono ?_; rintro e w5 ⟨rfl, hb5⟩
      have RB := HA.out.2.2.2.1.below hb5
      obtain ⟨q1, q2, q3⟩ := (HA.out.2.1.below hb5).cell
      have hb6 := Below.next hb4 hb5
      by_cases hz : B.x = []
      · have HZ := hide (HF.out A B hv hz)
        have e : ((B.x.length : Int) - 1) = -1 := by rw [hz]; rfl
        rw [e]
        clear e RB
        go_wp2
        go_ret3
        exact ⟨_, _, _, rfl, rw0 _, HZ.out, hb6⟩
      · obtain ⟨c, hc, hce, hc0⟩ := HC.out A B hv hz
        have HD := hide (pDivMod_any f _ _ B.v [c] w5 RB.2.2 (by have := RB.1; rw [hc] at this; exact this))
        unfold Parts at HD
        rw [HE.out A B c hv hce hc0] at HD
        have e : ((B.x.length : Int) - 1) = 0 := by rw [hc]; rfl
        have e' : B.x.length = [c].length := by rw [hc]
        rw [e]
        rw [e'] at q1
        clear e e' RB
        go_wp2_with fail
        refine HD.out.mono ?_; rintro e w7 ⟨vq, vr, I, R, b', rfl, hS, hOq, hOr, _, _, hb7⟩
        have HQ := hide (HV.out A B c I R hv hc hce hc0 hS)
        have HR := hide (HQ.out.2.row hOq)
        clear hOq hOr
        go_wp2
        go_ret3
        exact ⟨_, I, _, rfl, HR.out, HQ.out.1, Below.next hb6 hb7⟩
  · have ht : (chE f a m != 0) = true := bne_iff_ne.2 he
    have hE : moE f a m = chE f a m := by unfold moE; rw [if_neg he]
    have HP : Hid (MoE f a m [] false) := ⟨fun _ => ⟨rfl, rfl⟩, fun h0 => by rw [hE] at h0; exact absurd h0 he⟩
    rw [hE]
    clear h1 h2 he hE
    generalize chE f a m = e0 at *
    go_enter Try.func19, Try.ntmps19
    go_wp2_with (go_at_call 28; refine hk.out.mono ?_; rintro e w1 ⟨rfl, hb⟩)
    go_ret3
    exact ⟨_, _, _, rfl, rw0 _, HP.out, hb⟩

end Go.Proofs.Ytdgcnockccjdjab
