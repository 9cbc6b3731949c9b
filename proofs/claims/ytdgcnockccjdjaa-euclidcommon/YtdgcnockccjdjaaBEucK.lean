/-
  Euclid: the document's own Modulo and Ratio.
-/
import Derived.Test.YtdgcnockccjdjaaBEucJ
namespace Go.Proofs.Ytdgcnockccjdjaa
open Go.RowKit Fld
set_option linter.unusedVariables false

namespace Fld
/-- Divided by itself an element is 1. -/
theorem inv_pl {p : Int} {wd : Bool} (hm : Md p wd) {c : Int} (hc : El p c) (h0 : c ≠ 0) : qm (pl p [inv p c]) (pl p [c]) = pl p [1] := by
  have hi := inv_one hm hc h0
  have hb := hm.bounds
  have e1 : (1 : Int) % p = 1 := Int.emod_eq_of_lt (by omega) (by omega)
  rw [← pl_two, Int.mul_comm, hi, e1]
/-- By an element everything has the remainder 0. -/
theorem mo_one {p : Int} {wd : Bool} (hm : Md p wd) {a m : List Int} (hme : Els p m) (hl : (tr m).length = 1) : Mo p a m [] true := by
  have hp : 0 < p := by have := hm.bounds; omega
  obtain ⟨c, hc⟩ := List.length_eq_one_iff.1 hl
  have h6 := last_el hp (Tm.tr hp hme) (by rw [hc]; simp)
  rw [hc] at h6
  refine .inl ⟨rfl, Tm.nil p, by rw [hl]; simp, [inv p c], [], ?_⟩
  rw [pl_nil_left, pl_nil_left, pl_nil_add, pl_add_nil, ← pl_tr p m, hc]
  exact inv_pl hm h6.1 h6.2
/-- Where the common divisor has a degree there is no inverse. -/
theorem mo_none {p : Int} {wd : Bool} (hm : Md p wd) {a m q a' g : List Int} (hme : Els p m) (hne : tr m ≠ []) (hd : Dv p a (tr m) q a') (hg : Gc p a' (tr m) g) (hl : g.length ≠ 1) : Mo p a m [] false := by
  have hp : 0 < p := by have := hm.bounds; omega
  have h1 := Dd.len hm hg.1 (Tm.tr hp hme) hg.2.2.2.1 hne
  have h2 := List.length_pos_iff.2 h1.1
  exact .inr ⟨rfl, rfl, g, hg.1, by omega, Dd.dv hd hg.2.2.2.1 hg.2.2.1, hg.2.2.2.1.same (pl_tr p m)⟩
/-- Where it has none the row that is found is an element. -/
theorem row_el {p : Int} {wd : Bool} (hm : Md p wd) {a' m' g : List Int} {A B : R3} (ha : Els p a') (hm' : Els p m') (hl : 2 ≤ (tr m').length) (hg : Gc p a' m' g) (h1 : g.length = 1) (h : Fnd p 1 m' a' A B) : ∃ c, B.x = [c] ∧ El p c ∧ c ≠ 0 := by
  have hp : 0 < p := by have := hm.bounds; omega
  have hne : B.x ≠ [] := by
    intro e
    rcases h.case hm hm' ha with ⟨h2, _⟩ | ⟨hi, _, h2, _⟩
    · omega
    · have h3 := (hi.com A.x).1 ⟨Dd.refl _ _, by rw [e]; exact Dd.nil _ _⟩
      have h4 := hg.2.2.2.2 A.x h3.2 h3.1
      have h5 := Dd.len hm hi.tx hg.1 h4 (fun e => by rw [e] at h1; simp at h1)
      omega
  have h3 := (h.made hm hm' ha).2.1
  have h4 := List.length_pos_iff.2 hne
  obtain ⟨c, hc⟩ := List.length_eq_one_iff.1 (show B.x.length = 1 by omega)
  have h6 := last_el hp (h.tm hm hm' ha).1 hne
  rw [hc] at h6
  exact ⟨c, hc, h6.1, h6.2⟩
theorem mo_ref {p : Int} {wd : Bool} (hm : Md p wd) {a m a' q u v1 v2 q2 : List Int} (hd : Dv p a (tr m) q a') (he : qa (qm (pl p v1) (pl p a')) (qm (pl p u) (pl p (tr m))) = pl p [1]) (hd2 : Dv p v1 (tr m) q2 v2) : Mo p a m v2 true := by
  have h1 := hd.rg.2.2.2
  have h2 := hd2.rg.2.2.2
  have hl := hd2.rg.2.2.1
  rw [tr_tr] at hl
  refine .inl ⟨rfl, hd2.rg.2.1, hl, sm p 1 (prd p q2 a') u, prd p v2 q, ?_⟩
  rw [pl_add, pl_mul, pl_mul, ← h1, ← he, ← h2, ← pl_tr p m]
  simp only [qa_qm, qm_qa, qm_assoc, qa_assoc]
  simp only [qa_assoc, qa_comm, qa_left, qm_comm, qm_left]
theorem mo_row {p : Int} {wd : Bool} (hm : Md p wd) {a' m' v1 : List Int} {A B : R3} {c : Int} (ha : Els p a') (hm' : Els p m') (h : Fnd p 1 m' a' A B) (hx : B.x = [c]) (hc : El p c) (h0 : c ≠ 0) (hv : pl p v1 = qm (pl p [inv p c]) (pl p B.v)) :
    qa (qm (pl p v1) (pl p a')) (qm (pl p (prd p [inv p c] B.u)) (pl p m')) = pl p [1] := by
  have h1 := (h.made hm hm' ha).1
  rw [hx] at h1
  rw [← inv_pl hm hc h0, h1, hv, pl_mul, qm_qa, qm_assoc, qm_assoc, qa_comm]
end Fld

theorem chE_swap {f : Int} {xs ys : List Int} (h : chE f xs ys = 0) (h1 : ∀ x ∈ xs, 0 ≤ x ∧ x ≤ 18446744073709551615) (h2 : ∀ x ∈ ys, 0 ≤ x ∧ x ≤ 18446744073709551615) : chE f ys xs = 0 := by
  obtain ⟨p, wd, hf, i1, i2, l1, l2⟩ := chE_zero h
  exact chE_yes hf (els_of i2 h2) (els_of i1 h1) l2 l1

set_option maxRecDepth 100000 in
set_option maxHeartbeats 400000 in
theorem rRatio_any (f : Int) (vg vm : Value) (g m : List Int) (s : Int) (w : World) (h1 : Rw w vg g) (h2 : Rw w vm m) :
    Calls Try.prog 18 #[.int .u8 f, vg, vm, .int .i64 s] w fun e w' => ∃ v1 v2 n d ok, e = .returned (.tuple #[v1, v2, .bool ok, .int .i64 (raE f g m s)]) ∧ Rw w' v1 n ∧ Rw w' v2 d ∧ RaE f g m s n d ok ∧ Below w.heap.size w w' := by
  have hk := hide (rbad_any f vg vm g m w h1 h2)
  by_cases hs : s < 0
  · have hst : stE f g m s = 2 := by unfold stE; rw [if_pos hs]
    have he : raE f g m s = 2 := by unfold raE; rw [hst, if_neg (by decide)]
    have HP : Hid (RaE f g m s [] [] false) := ⟨fun _ => ⟨rfl, rfl, rfl⟩, fun h0 => by rw [he] at h0; cases h0⟩
    rw [he]
    clear h1 h2 he hst
    by_cases h2 : chE f g m = 2
    · rw [h2] at hk
      go_enter Try.func18, Try.ntmps18
      go_wp2_with (go_at_call 27; refine hk.out.mono ?_; rintro e w1 ⟨rfl, hw⟩; rw [hw]; clear hw)
      refine bodyPost_ret (v := .tuple #[.slice none 0 0, .slice none 0 0, .bool false, .int .i64 2]) ?_ rfl ⟨_, _, _, _, _, rfl, rw0 _, rw0 _, HP.out, Below.refl _ _⟩
      simp [results, Try.results18, go_sem]
    · have hq : (chE f g m == 2) = false := beq_eq_false_iff_ne.2 h2
      clear h2
      generalize chE f g m = e0 at *
      go_enter Try.func18, Try.ntmps18
      go_wp2_with (go_at_call 27; refine hk.out.mono ?_; rintro e w1 ⟨rfl, hw⟩; rw [hw]; clear hw)
      refine bodyPost_ret (v := .tuple #[.slice none 0 0, .slice none 0 0, .bool false, .int .i64 2]) ?_ rfl ⟨_, _, _, _, _, rfl, rw0 _, rw0 _, HP.out, Below.refl _ _⟩
      simp [results, Try.results18, go_sem]
  by_cases he : chE f g m = 0
  · have hst : stE f g m s = 0 := by unfold stE; rw [if_neg hs, he]
    have hsw : stE f m g s = 0 := by unfold stE; rw [if_neg hs]; exact chE_swap he h1.words h2.words
    obtain ⟨p, wd, hf, i1, i2, lg, lm⟩ := chE_zero he
    have e1 := els_of i1 h1.words
    have e2 := els_of i2 h2.words
    have ht := hide (rTrim_any vm m w h2)
    have WT := hide (wd_els (e2.tr hf.pos) hf.top (show (tr m).length ≤ 17592186043904 by have := tr_len m; omega))
    by_cases hn : tr m = []
    · have hE : raE f g m s = 5 := by unfold raE; rw [if_pos hst, if_pos hn]
      have HP : Hid (RaE f g m s [] [] false) := ⟨fun _ => ⟨rfl, rfl, rfl⟩, fun h0 => by rw [hE] at h0; cases h0⟩
      rw [hE]
      rw [he] at hk
      rw [hn] at ht WT
      clear h1 h2 hf he e1 e2 hn hE hst hsw
      go_enter Try.func18, Try.ntmps18
      go_wp2_with fail
      refine hk.out.mono ?_; rintro e w1 ⟨rfl, hw⟩; rw [hw]; clear hw
      go_wp2_with fail
      refine hk.out.mono ?_; rintro e w1 ⟨rfl, hw⟩; rw [hw]; clear hw
      go_wp2_with fail
      refine ht.out.mono ?_; rintro e w1 ⟨u1, rfl, hO1, hb1⟩
      obtain ⟨a1, k1, rfl, _⟩ := (WT.out.row hO1).spell
      clear hO1
      go_wp2
      refine bodyPost_ret (v := .tuple #[.slice none 0 0, .slice none 0 0, .bool false, .int .i64 5]) ?_ rfl ⟨_, _, _, _, _, rfl, rw0 _, rw0 _, HP.out, hb1⟩
      simp [results, Try.results18, go_sem]
    · have hE : raE f g m s = 0 := by unfold raE; rw [if_pos hst, if_neg hn]
      have HP : Hid (∀ A B n d ok, Fnd p s.toNat m g A B → Ra p B.x B.v n d ok → RaE f g m s n d ok) := fun A B n d ok hv hr => ⟨fun h0 => absurd hE h0, fun _ => ⟨A, B, by rw [pOf_eq hf]; exact hv, by rw [pOf_eq hf]; exact hr⟩⟩
      have hd := hide (fun W (hb : Below w.heap.size w W) => rPartial_any f vm vg m g s W (h2.below hb) (h1.below hb))
      rw [hsw] at hd
      have HPt : Hid (∀ B, PtE f m g s B → ∃ A, Fnd p s.toNat m g A B) := fun B hv => by
        obtain ⟨A, h⟩ := hv.2 hsw
        rw [pOf_eq hf] at h; exact ⟨A, h⟩
      have HE : Hid (∀ A B, Fnd p s.toNat m g A B → divE f B.x B.v = if B.v = [] then 5 else 0) := fun A B hv => by
        have hl := hv.made hf.md e2 e1
        have n1 := tr_len m
        have n2 := tr_len g
        have ht := hv.tm hf.md e2 e1
        exact div_ok hf ht.1.1 ht.2.2.1 (by omega) (by omega)
      have HT := hide (fun W v A B (hv : Fnd p s.toNat m g A B) (hr : Rw W v B.v) => monic_any f p wd v B.v W hf hr (hv.tm hf.md e2 e1).2.2.1 (by have := hv.made hf.md e2 e1; have n1 := tr_len m; omega))
      have HDV : Hid (∀ A B n t, Fnd p s.toNat m g A B → B.v ≠ [] → DvE f B.x B.v n t → Dv p B.x B.v n t ∧ Wd n ∧ Wd t) := fun A B n t hv h0 hs => by
        have hl := hv.made hf.md e2 e1
        have n1 := tr_len m
        have n2 := tr_len g
        have ht := hv.tm hf.md e2 e1
        have hdv := hs.dv hf (by rw [HE.out A B hv, if_neg h0])
        have hw := dv_wd hf.md hf.top ht.2.2.1.1 hdv (by omega) (by omega)
        exact ⟨hdv, hw.1, hw.2⟩
      have hpos := List.length_pos_iff.2 hn
      have bz : (((tr m).length : Int) == 0) = false := beq_eq_false_iff_ne.2 (by omega)
      rw [hE]
      rw [he] at hk
      clear h1 h2 hf he e1 e2 hn hE hpos hst hsw
      go_enter Try.func18, Try.ntmps18
      go_wp2_with fail
      refine hk.out.mono ?_; rintro e w1 ⟨rfl, hw⟩; rw [hw]; clear hw
      go_wp2_with fail
      refine hk.out.mono ?_; rintro e w1 ⟨rfl, hw⟩; rw [hw]; clear hw
      go_wp2_with fail
      refine ht.out.mono ?_; rintro e w1 ⟨u1, rfl, hO1, hb1⟩
      obtain ⟨a1, k1, rfl, _⟩ := (WT.out.row hO1).spell
      clear hO1
      go_wp2_with fail
      refine (hd.out _ hb1).mono ?_; rintro e w2 ⟨d0, d1, d2, B, rfl, RB, hpt, hb2⟩
      obtain ⟨A, hv⟩ := HPt.out B hpt
      obtain ⟨x4, y4, rfl, _⟩ := RB.1.spell
      obtain ⟨x5, y5, rfl, _⟩ := RB.2.1.spell
      obtain ⟨x6, y6, rfl, _⟩ := RB.2.2.spell
      have hb3 := Below.next hb1 hb2
      by_cases hz : B.v = []
      · have HZ := hide (HP.out A B [] [] false hv (.inr ⟨rfl, rfl, rfl, .inl hz⟩))
        have e : (B.v.length : Int) = 0 := by rw [hz]; rfl
        clear RB
        go_wp2
        refine bodyPost_ret (v := .tuple #[.slice none 0 0, .slice none 0 0, .bool false, .int .i64 0]) ?_ rfl ⟨_, _, _, _, _, rfl, rw0 _, rw0 _, HZ.out, hb3⟩
        simp [results, Try.results18, go_sem]
      · have hzp := List.length_pos_iff.2 hz
        have bz2 : ((B.v.length : Int) == 0) = false := beq_eq_false_iff_ne.2 (by omega)
        have HD := hide (dDivMod_any f _ _ B.x B.v _ RB.1 RB.2.2)
        unfold PartsD at HD
        rw [HE.out A B hv, if_neg hz] at HD
        go_wp2_with fail
        refine HD.out.mono ?_; rintro e w5 ⟨vq, vr, N, R, rfl, hS, hOq, hOr, hb5⟩
        have HQ := hide (HDV.out A B N R hv hz hS)
        have HN := hide (HQ.out.2.1.row hOq)
        have HR := hide (HQ.out.2.2.row hOr)
        obtain ⟨x7, y7, rfl, _⟩ := HR.out.spell
        have HRB := hide (RB.below hb5)
        have hb6 := Below.next hb3 hb5
        clear hOq hOr HD RB
        by_cases hr : R = []
        · have e : ¬ (0 : Int) < (R.length : Int) := by rw [hr]; simp
          go_wp2_with fail
          refine (HT.out _ _ A B hv HRB.out.2.2).mono ?_; rintro e w7 ⟨v', d, rfl, hrd, hg, hb9⟩
          have HN := hide (HN.out.below hb9)
          have HZ := hide (HP.out A B N d true hv (.inl ⟨rfl, hz, by have := HQ.out.1; rw [hr] at this; exact this, hg⟩))
          go_wp2
          refine bodyPost_ret (v := .tuple #[vq, v', .bool true, .int .i64 0]) ?_ rfl ⟨_, _, _, _, _, rfl, HN.out, hrd, HZ.out, Below.next hb6 hb9⟩
          simp [results, Try.results18, go_sem]
        · have hrp := List.length_pos_iff.2 hr
          have HZ := hide (HP.out A B [] [] false hv (.inr ⟨rfl, rfl, rfl, .inr ⟨N, R, HQ.out.1, hr⟩⟩))
          have hge : (0 : Int) < (R.length : Int) := by omega
          go_wp2
          refine bodyPost_ret (v := .tuple #[.slice none 0 0, .slice none 0 0, .bool false, .int .i64 0]) ?_ rfl ⟨_, _, _, _, _, rfl, rw0 _, rw0 _, HZ.out, hb6⟩
          simp [results, Try.results18, go_sem]
  · have ht : (chE f g m != 0) = true := bne_iff_ne.2 he
    have hst : stE f g m s = chE f g m := by unfold stE; rw [if_neg hs]
    have hE : raE f g m s = chE f g m := by unfold raE; rw [hst, if_neg he]
    have HP : Hid (RaE f g m s [] [] false) := ⟨fun _ => ⟨rfl, rfl, rfl⟩, fun h0 => by rw [hE] at h0; exact absurd h0 he⟩
    rw [hE]
    clear h1 h2 hE hst
    by_cases h2 : chE f g m = 2
    · rw [h2] at hk
      rw [h2]
      go_enter Try.func18, Try.ntmps18
      go_wp2_with (go_at_call 27; refine hk.out.mono ?_; rintro e w1 ⟨rfl, hw⟩; rw [hw]; clear hw)
      refine bodyPost_ret (v := .tuple #[.slice none 0 0, .slice none 0 0, .bool false, .int .i64 2]) ?_ rfl ⟨_, _, _, _, _, rfl, rw0 _, rw0 _, HP.out, Below.refl _ _⟩
      simp [results, Try.results18, go_sem]
    · have hq : (chE f g m == 2) = false := beq_eq_false_iff_ne.2 h2
      clear h2 he
      generalize chE f g m = e0 at *
      go_enter Try.func18, Try.ntmps18
      go_wp2_with (go_at_call 27; refine hk.out.mono ?_; rintro e w1 ⟨rfl, hw⟩; rw [hw]; clear hw)
      refine bodyPost_ret (v := .tuple #[.slice none 0 0, .slice none 0 0, .bool false, .int .i64 e0]) ?_ rfl ⟨_, _, _, _, _, rfl, rw0 _, rw0 _, HP.out, Below.refl _ _⟩
      simp [results, Try.results18, go_sem]

end Go.Proofs.Ytdgcnockccjdjaa
