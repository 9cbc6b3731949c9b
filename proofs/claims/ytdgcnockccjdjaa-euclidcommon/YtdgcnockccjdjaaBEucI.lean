/-
  Euclid: the document's own bad, monic and GCD.
-/
import Derived.Test.YtdgcnockccjdjaaBEucF
import Derived.Test.YtdgcnockccjdjaaBPolJ
namespace Go.Proofs.Ytdgcnockccjdjaa
open Go.RowKit Fld
set_option linter.unusedVariables false

set_option maxHeartbeats 200000 in
theorem rbad_any (f : Int) (v1 v2 : Value) (xs ys : List Int) (w : World) (h1 : Rw w v1 xs) (h2 : Rw w v2 ys) :
    Calls Try.prog 27 #[.int .u8 f, v1, v2] w fun e w' => e = .returned (.int .i64 (chE f xs ys)) ∧ w' = w := by
  have hk := hide (rBad_any f v1 v2 xs ys w h1 h2)
  obtain ⟨a1, c1, rfl, _⟩ := h1.spell
  obtain ⟨a2, c2, rfl, _⟩ := h2.spell
  have l1 := h1.len
  have l2 := h2.len
  clear h1 h2
  by_cases he : er f xs ys = 2
  · have HC : Hid (chE f xs ys = 2) := by show _ = _; unfold chE; rw [if_pos he]
    rw [HC.out]
    rw [he] at hk
    go_enter Try.func27, Try.ntmps27
    go_wp2_with (go_at_call 22; refine hk.out.mono ?_; rintro e w1 ⟨rfl, hw⟩; rw [hw]; clear hw)
    go_ret
    exact ⟨rfl, rfl⟩
  · have HC : Hid (chE f xs ys = if 2048 < xs.length ∨ 2048 < ys.length then 4 else 0) := by show _ = _; unfold chE; rw [if_neg he]
    have hb : (er f xs ys == 2) = false := beq_eq_false_iff_ne.2 he
    rw [HC.out]
    clear HC he
    generalize er f xs ys = e0 at *
    generalize xs.length = n1 at *
    generalize ys.length = n2 at *
    by_cases hn : 2048 < n1
    · rw [if_pos (.inl hn)]
      go_enter Try.func27, Try.ntmps27
      go_wp2_with (go_at_call 22; refine hk.out.mono ?_; rintro e w1 ⟨rfl, hw⟩; rw [hw]; clear hw)
      go_ret
      exact ⟨rfl, rfl⟩
    · by_cases hm : 2048 < n2
      · rw [if_pos (.inr hm)]
        go_enter Try.func27, Try.ntmps27
        go_wp2_with (go_at_call 22; refine hk.out.mono ?_; rintro e w1 ⟨rfl, hw⟩; rw [hw]; clear hw)
        go_ret
        exact ⟨rfl, rfl⟩
      · rw [if_neg (by omega)]
        go_enter Try.func27, Try.ntmps27
        go_wp2_with (go_at_call 22; refine hk.out.mono ?_; rintro e w1 ⟨rfl, hw⟩; rw [hw]; clear hw)
        go_ret
        exact ⟨rfl, rfl⟩

theorem scl_facts {f p c : Int} {wd : Bool} (h : Fi f p wd) {xs : List Int} (hc : El p c) (hx : Els p xs) (l : xs.length ≤ 4096) : er f [c] xs = 0 ∧ Is p (sclL f c xs) (cv (co [c]) (co xs)) := by
  have he : er f [c] xs = 0 := er_yes h (allIn_of (fun x hx => by rw [List.mem_singleton.1 hx]; exact hc)) (allIn_of hx) (by simp) l
  have e : sclL f c xs = tr (sm p c [] xs) := by unfold sclL; rw [if_pos he, pOf_eq h]
  exact ⟨he, by rw [e]; exact is_scale h.pos c xs⟩

set_option maxRecDepth 100000 in
set_option maxHeartbeats 200000 in
theorem monic_any (f p : Int) (wd : Bool) (v : Value) (xs : List Int) (w : World) (h : Fi f p wd) (h1 : Rw w v xs) (t1 : Tm p xs) (l1 : xs.length ≤ 4096) :
    Calls Try.prog 32 #[.int .u8 f, v] w fun e w' => ∃ v' g, e = .returned v' ∧ Rw w' v' g ∧ Mon p xs g ∧ Below w.heap.size w w' := by
  by_cases hn : xs = []
  · subst hn
    obtain ⟨a1, c1, rfl, _⟩ := h1.spell
    clear h1
    go_enter Try.func32, Try.ntmps32
    go_wp2
    go_ret
    exact ⟨_, [], rfl, rw0 _, .inl ⟨rfl, rfl⟩, Below.refl _ _⟩
  · have hpos := List.length_pos_iff.2 hn
    obtain ⟨m, hm⟩ : ∃ m, xs.length = m + 1 := ⟨xs.length - 1, by omega⟩
    obtain ⟨a1, c1, rfl, hc1⟩ := h1.spell
    obtain ⟨b, off, rfl, hbl, hcl⟩ : ∃ b o, a1 = some ⟨b, o, none⟩ ∧ b < w.heap.size ∧ w.cell? ⟨b, o + m, none⟩ = some (.int .u64 (co xs m)) := by
      obtain ⟨⟨a, c, he, _, _, hc⟩, _⟩ := h1
      cases he
      obtain ⟨b, o, h3, h4, h5⟩ := hc hn
      exact ⟨b, o, h3, h4, h5 m (by omega)⟩
    have hl := last_el h.pos t1 hn
    have hmm : xs.length - 1 = m := by omega
    have HM := hide (fun g (hg : Is p g (cv (co [inv p (co xs m)]) (co xs))) => mon_scale h.md t1 hn (by rw [hmm]; exact hg))
    rw [hmm] at hl
    have hie := inv_el (p := p) (a := co xs m) h.pos
    have hsf := scl_facts h hie t1.1 l1
    have hP := hide (fun W => rP_yes f p wd W h)
    have hp2 : 2 ≤ p := by have := h.md.bounds; omega
    have HTu := hide (fun W => rTurned_any p (co xs m) W h.top hp2 hl.1)
    have HSc := hide (fun W (hb : Below w.heap.size w W) => dScale_any f (inv p (co xs m)) _ xs W (elWord hie h.top) (h1.below hb))
    unfold Gives at HSc
    rw [hsf.1] at HSc
    have HF := hide (HM.out _ hsf.2)
    have HW := hide (sclL_wd f (inv p (co xs m)) xs)
    have mw : IntKind.i64.wrap (m : Int) = (m : Int) := by rw [IntKind.wrap_i64]; omega
    have m0 : (0 : Int) ≤ (m : Int) := Int.natCast_nonneg _
    have m1' : (m : Int) < (m : Int) + 1 := by omega
    have bz : (((m + 1 : Nat) : Int) == 0) = false := beq_eq_false_iff_ne.2 (by omega)
    have hm4 : m < 4096 := by omega
    rw [hm] at hc1 HSc ⊢
    have HCell : Hid (∀ W, Below w.heap.size w W → W.cell? ⟨b, off + m, none⟩ = some (.int .u64 (co xs m))) := fun W hb => (hb.cell (p := ⟨b, off + m, none⟩) hbl).trans hcl
    clear h1 h hl hmm hie hsf HM l1 t1 hn hpos hp2
    generalize sclL f (inv p (co xs m)) xs = Z at *
    generalize inv p (co xs m) = iv at *
    generalize co xs m = c at *
    go_enter Try.func32, Try.ntmps32
    go_wp2_with fail
    have hb0 : Below w.heap.size w w.drew := drew_below w
    have hS0 := HCell.out _ hb0
    go_region_held3 (fun w' => w'.cell? ⟨b, off + m, none⟩ = some (.int .u64 c)) (first | with_reducible exact hS3 | with_reducible exact hS0) (first
      | (go_at_call 36; refine (hP.out _).mono ?_; rintro e w1 ⟨rfl, hw⟩; rw [hw]; clear hw)
      | (go_at_call 35; refine (HTu.out _).mono ?_; rintro e w1 ⟨rfl, hw⟩; rw [hw]; clear hw)
      | (go_at_call 34; refine (HSc.out _ hb0).mono ?_; rintro e w3 ⟨v', rfl, hO, hb3⟩; have hB3 := Below.next hb0 hb3; have hS3 := HCell.out _ hB3; have HR := hide (HW.out.row hO); clear hO))
    go_wp2
    go_ret
    exact ⟨_, Z, rfl, HR.out, HF.out, hB3⟩

theorem cm_len {p : Int} {wd : Bool} (hm : Md p wd) {x y q r : List Int} (hd : Dv p x y q r) (ht : tr y = y) : r.length < y.length := by have := hd.2.2.2.2.1; rw [ht] at this; exact this

set_option maxRecDepth 100000 in
set_option maxHeartbeats 400000 in
theorem rGCD_any (f : Int) (va vb : Value) (a b : List Int) (w : World) (h1 : Rw w va a) (h2 : Rw w vb b) :
    Calls Try.prog 14 #[.int .u8 f, va, vb] w fun e w' => ∃ v' g, e = .returned (.tuple #[v', .int .i64 (chE f a b)]) ∧ Rw w' v' g ∧ GcE f a b g ∧ Below w.heap.size w w' := by
  have hk := hide (rbad_any f va vb a b w h1 h2)
  by_cases he : chE f a b = 0
  · obtain ⟨p, wd, hf, i1, i2, la, lb⟩ := chE_zero he
    have e1 := els_of i1 h1.words
    have e2 := els_of i2 h2.words
    have n1 := tr_len a
    have n2 := tr_len b
    have HP : Hid (∀ x g, Cm p a b x [] → Mon p x g → GcE f a b g) := fun x g hc hg => ⟨fun h0 => absurd he h0, fun _ => by rw [pOf_eq hf]; exact hc.gc hg⟩
    have t1 := hide (rTrim_any va a w h1)
    have t2 := hide (fun W (hb : Below w.heap.size w W) => rTrim_any vb b W (h2.below hb))
    have W1 := hide (wd_els (e1.tr hf.pos) hf.top (show (tr a).length ≤ 17592186043904 by omega))
    have W2 := hide (wd_els (e2.tr hf.pos) hf.top (show (tr b).length ≤ 17592186043904 by omega))
    have HX0 := hide (Tm.tr hf.pos e1)
    have HY0 := hide (Tm.tr hf.pos e2)
    have HC0 := hide (Cm.start p a b)
    have HMo := hide (fun W v X (hr : Rw W v X) (ht : Tm p X) (hl : X.length ≤ 2048) => monic_any f p wd v X W hf hr ht (by omega))
    have HDi := hide (fun W v1 v2 X Y (r1 : Rw W v1 X) (r2 : Rw W v2 Y) => dDivMod_any f v1 v2 X Y W r1 r2)
    unfold PartsD at HDi
    have HE : Hid (∀ X Y, Tm p X → Tm p Y → X.length ≤ 2048 → Y.length ≤ 2048 → Y ≠ [] → divE f X Y = 0) := fun X Y tx ty lx ly hy => by rw [div_ok hf tx.1 ty (by omega) (by omega), if_neg hy]
    have HV : Hid (∀ X Y Q R, Tm p X → Tm p Y → X.length ≤ 2048 → Y.length ≤ 2048 → Y ≠ [] → DvE f X Y Q R → Dv p X Y Q R ∧ Wd R ∧ Tm p R ∧ R.length < Y.length) := fun X Y Q R tx ty lx ly hy hs => by
      have h0 := HE.out X Y tx ty lx ly hy
      have hd : Dv p X Y Q R := by have := hs.2 h0; rw [pOf_eq hf] at this; exact this
      exact ⟨hd, (dv_wd hf.md hf.top ty.1 hd (by omega) (by omega)).2, hd.rg.2.1, cm_len hf.md hd ty.2⟩
    rw [he]
    rw [he] at hk
    clear h1 h2 hf he e1 e2
    go_enter Try.func14, Try.ntmps14
    go_wp2_with fail
    refine hk.out.mono ?_; rintro e w1 ⟨rfl, hw⟩; rw [hw]; clear hw
    go_wp2_with fail
    refine t1.out.mono ?_; rintro e w1 ⟨u1, rfl, hO1, hb1⟩
    have R1 := hide (W1.out.row hO1)
    clear hO1
    go_wp2_with fail
    refine (t2.out _ hb1).mono ?_; rintro e w2 ⟨u2, rfl, hO2, hb2⟩
    have R1 := hide (R1.out.below hb2)
    have R2 := hide (W2.out.row hO2)
    have hb3 := Below.next hb1 hb2
    clear hO2 hb1 hb2 t1 t2
    go_wp2
    go_loopw [1, 2] (fun vx vy wr => ∃ X Y, Hid (Rw wr vx X) ∧ Hid (Rw wr vy Y) ∧ Hid (Tm p X) ∧ Hid (Tm p Y) ∧ X.length ≤ 2048 ∧ Y.length ≤ 2048 ∧ Hid (Cm p a b X Y) ∧ Below w.heap.size w wr) (fun _ vy _ => match vy with | .slice _ n _ => n | _ => 0)
    case atStart => exact ⟨_, _, R1, R2, HX0, HY0, by omega, by omega, HC0, hb3⟩
    case round =>
      clear R1 R2 HX0 HY0 HC0 hb3
      obtain ⟨X, Y, RX, RY, TX, TY, lx, ly, HC, hB⟩ := hrel
      obtain ⟨x1, y1, rfl, _⟩ := RX.out.spell
      obtain ⟨x2, y2, rfl, _⟩ := RY.out.spell
      by_cases hy : Y = []
      · subst hy
        go_wp2_with fail
        refine (HMo.out _ _ X RX.out TX.out lx).mono ?_; rintro e w4 ⟨v', g, rfl, hr, hg, hb4⟩
        go_wp2
        go_ret2
        exact ⟨_, g, rfl, hr, HP.out X g HC.out hg, Below.next hB hb4⟩
      · have hyp := List.length_pos_iff.2 hy
        have HD := hide (HDi.out _ _ _ X Y RX.out RY.out)
        rw [HE.out X Y TX.out TY.out lx ly hy] at HD
        go_wp2_with fail
        refine HD.out.mono ?_; rintro e w4 ⟨vq, vr, Q, R, rfl, hS, hOq, hOr, hb4⟩
        have HQ := hide (HV.out X Y Q R TX.out TY.out lx ly hy hS)
        have HRr := hide (HQ.out.2.1.row hOr)
        have HRy := hide (RY.out.below hb4)
        obtain ⟨x3, y3, rfl, _⟩ := HRr.out.spell
        have hlt := HQ.out.2.2.2
        clear hOq hOr HD
        go_wp2
        go_roundw
        case rel => exact ⟨Y, R, HRy, HRr, TY, HQ.out.2.2.1, ly, by omega, HC.out.next HQ.out.1, Below.next hB hb4⟩
        case measure => exact hlt
  · have ht : (chE f a b != 0) = true := bne_iff_ne.2 he
    have HP : Hid (GcE f a b []) := ⟨fun _ => rfl, fun h0 => absurd h0 he⟩
    clear h1 h2 he
    generalize chE f a b = e0 at *
    go_enter Try.func14, Try.ntmps14
    go_wp2_with (go_at_call 27; refine hk.out.mono ?_; rintro e w1 ⟨rfl, hw⟩; rw [hw]; clear hw)
    go_ret2
    exact ⟨_, _, rfl, rw0 _, HP.out, Below.refl _ _⟩

end Go.Proofs.Ytdgcnockccjdjaa
