/-
  Euclid: the document's own Partial.
-/
import Derived.Test.YtdgcnockccjdjaaBEucI
namespace Go.Proofs.Ytdgcnockccjdjaa
open Go.RowKit Fld
set_option linter.unusedVariables false

/-- A row's cell turned. -/
theorem Rw.apart1 {T : TypeId} {w : World} {v e : Value} {xs : List Int} {k i : Nat} {c0 c1 c2 : Value} (h : Rw w v xs) (hT : Th T k c0 c1 c2 w) (s0 : Sl c0) (s1 : Sl c1) (s2 : Sl c2) : Rw (w.setCell ⟨k, i, none⟩ e) v xs := by
  obtain ⟨⟨ao, cap, h1, h2, h3, h4⟩, h5⟩ := h
  refine ⟨⟨ao, cap, h1, h2, h3, fun hne => ?_⟩, h5⟩
  obtain ⟨b, off, h6, h7, h8⟩ := h4 hne
  refine ⟨b, off, h6, by simp [World.setCell]; exact h7, fun j hj => ?_⟩
  have hbk : b ≠ k := by
    intro e
    subst e
    have h9 := h8 0 (List.length_pos_iff.2 hne)
    rw [cell_of_row w b (off + 0) _ _ _ hT] at h9
    obtain ⟨_, _, _, rfl⟩ := s0
    obtain ⟨_, _, _, rfl⟩ := s1
    obtain ⟨_, _, _, rfl⟩ := s2
    match off, h9 with
    | 0, h9 => simp at h9
    | 1, h9 => simp at h9
    | 2, h9 => simp at h9
    | n + 3, h9 => simp at h9
  rw [cell_apart hbk]; exact h8 j hj
theorem Rr.apart1 {T : TypeId} {w : World} {x0 x1 x2 e : Value} {X : R3} {k i : Nat} {c0 c1 c2 : Value} (h : Rr w x0 x1 x2 X) (hT : Th T k c0 c1 c2 w) (s0 : Sl c0) (s1 : Sl c1) (s2 : Sl c2) : Rr (w.setCell ⟨k, i, none⟩ e) x0 x1 x2 X :=
  ⟨h.1.apart1 hT s0 s1 s2, h.2.1.apart1 hT s0 s1 s2, h.2.2.apart1 hT s0 s1 s2⟩
theorem Th.apart1 {T : TypeId} {g k i : Nat} {c0 c1 c2 e : Value} {w : World} (h : Th T g c0 c1 c2 w) (hne : g ≠ k) : Th T g c0 c1 c2 (w.setCell ⟨k, i, none⟩ e) := by
  unfold Th at h ⊢
  rw [Below.heap_setCell _ _ _ _ hne]; exact h
theorem Th.set0 {T : TypeId} {g : Nat} {c0 c1 c2 e : Value} {w : World} (h : Th T g c0 c1 c2 w) : Th T g e c1 c2 (w.setCell ⟨g, 0, none⟩ e) := block_set h
theorem Th.set1 {T : TypeId} {g : Nat} {c0 c1 c2 e : Value} {w : World} (h : Th T g c0 c1 c2 w) : Th T g c0 e c2 (w.setCell ⟨g, 1, none⟩ e) := block_set h
theorem Th.set2 {T : TypeId} {g : Nat} {c0 c1 c2 e : Value} {w : World} (h : Th T g c0 c1 c2 w) : Th T g c0 c1 e (w.setCell ⟨g, 2, none⟩ e) := block_set h

/-- Two rows at their blocks. -/
def PK (T : TypeId) (w : World) (g2 g3 : Nat) (c0 c1 c2 d0 d1 d2 : Value) (X Y : R3) (wr : World) : Prop :=
  Th T g2 c0 c1 c2 wr ∧ Th T g3 d0 d1 d2 wr ∧ Rr wr c0 c1 c2 X ∧ Rr wr d0 d1 d2 Y ∧ Below w.heap.size w wr
theorem PK.below {T : TypeId} {w : World} {g2 g3 : Nat} {c0 c1 c2 d0 d1 d2 : Value} {X Y : R3} {w1 w2 : World} (h : PK T w g2 g3 c0 c1 c2 d0 d1 d2 X Y w1) (hb : Below w1.heap.size w1 w2) : PK T w g2 g3 c0 c1 c2 d0 d1 d2 X Y w2 :=
  ⟨h.1.below hb, h.2.1.below hb, h.2.2.1.below hb, h.2.2.2.1.below hb, Below.next h.2.2.2.2 hb⟩
theorem PK.set1 {T : TypeId} {w : World} {g2 g3 g4 i : Nat} {c0 c1 c2 d0 d1 d2 z0 z1 z2 e : Value} {X Y : R3} {w1 : World} (h : PK T w g2 g3 c0 c1 c2 d0 d1 d2 X Y w1) (hT : Th T g4 z0 z1 z2 w1) (s0 : Sl z0) (s1 : Sl z1) (s2 : Sl z2) (h2 : g2 ≠ g4) (h3 : g3 ≠ g4) (hg : w.heap.size ≤ g4) : PK T w g2 g3 c0 c1 c2 d0 d1 d2 X Y (w1.setCell ⟨g4, i, none⟩ e) :=
  ⟨h.1.apart1 h2, h.2.1.apart1 h3, h.2.2.1.apart1 hT s0 s1 s2, h.2.2.2.1.apart1 hT s0 s1 s2, h.2.2.2.2.setCell hg _⟩
theorem rest_same {p : Int} (hp : 0 < p) {x y q r z : List Int} (hd : Dv p x y q r) (hz : Tm p z) (h : qa (pl p z) (qm (pl p q) (pl p y)) = pl p x) : z = r :=
  hz.only hp hd.rg.2.1 (qa_cancel (h.trans (by rw [qa_comm]; exact hd.rg.2.2.2.symm)))

/-- A new row's entry: one of the row two ahead less q times one of the row ahead. -/
def Ent (p : Int) (q x y z : List Int) : Prop := Tm p z ∧ qa (pl p z) (qm (pl p q) (pl p y)) = pl p x

set_option maxRecDepth 100000 in
set_option maxHeartbeats 1000000 in
theorem rPartial_any (f : Int) (va vb : Value) (a b : List Int) (s : Int) (w : World) (h1 : Rw w va a) (h2 : Rw w vb b) :
    Calls Try.prog 10 #[.int .u8 f, va, vb, .int .i64 s] w fun e w' => ∃ c0 c1 c2 B, e = .returned (.tuple #[c0, c1, c2, .int .i64 (stE f a b s)]) ∧ Rr w' c0 c1 c2 B ∧ PtE f a b s B ∧ Below w.heap.size w w' := by
  have hk := hide (rbad_any f va vb a b w h1 h2)
  by_cases hs : s < 0
  · have he : stE f a b s = 2 := by unfold stE; rw [if_pos hs]
    have HP : Hid (PtE f a b s R3.nil) := ⟨fun _ => rfl, fun h0 => by rw [he] at h0; cases h0⟩
    rw [he]
    clear h1 h2 he
    by_cases h2 : chE f a b = 2
    · rw [h2] at hk
      go_enter Try.func10, Try.ntmps10
      go_wp2_with (go_at_call 27; refine hk.out.mono ?_; rintro e w1 ⟨rfl, hw⟩; rw [hw]; clear hw)
      refine bodyPost_ret (v := .tuple #[.slice none 0 0, .slice none 0 0, .slice none 0 0, .int .i64 2]) ?_ rfl ⟨_, _, _, _, rfl, rr_nil _, HP.out, Below.refl _ _⟩
      simp [results, Try.results10, go_sem]
    · have hq : (chE f a b == 2) = false := beq_eq_false_iff_ne.2 h2
      clear h2
      generalize chE f a b = e0 at *
      go_enter Try.func10, Try.ntmps10
      go_wp2_with (go_at_call 27; refine hk.out.mono ?_; rintro e w1 ⟨rfl, hw⟩; rw [hw]; clear hw)
      refine bodyPost_ret (v := .tuple #[.slice none 0 0, .slice none 0 0, .slice none 0 0, .int .i64 2]) ?_ rfl ⟨_, _, _, _, rfl, rr_nil _, HP.out, Below.refl _ _⟩
      simp [results, Try.results10, go_sem]
  by_cases he : chE f a b = 0
  · have hst : stE f a b s = 0 := by unfold stE; rw [if_neg hs, he]
    obtain ⟨p, wd, hf, i1, i2, la, lb⟩ := chE_zero he
    have ha := els_of i1 h1.words
    have hb := els_of i2 h2.words
    have HP : Hid (∀ A B, Fnd p s.toNat a b A B → PtE f a b s B) := fun A B hv => ⟨fun h0 => absurd hst h0, fun _ => ⟨A, by rw [pOf_eq hf]; exact hv⟩⟩
    have HT1 := hide (fun W (hb : Below w.heap.size w W) => rTrim_any va a W (h1.below hb))
    have HT2 := hide (fun W (hb : Below w.heap.size w W) => rTrim_any vb b W (h2.below hb))
    have na := tr_len a
    have nb := tr_len b
    have W1 := hide (wd_els (ha.tr hf.pos) hf.top (show (tr a).length ≤ 17592186043904 by omega))
    have W2 := hide (wd_els (hb.tr hf.pos) hf.top (show (tr b).length ≤ 17592186043904 by omega))
    have HI0 := hide (In2.start hf.md ha hb)
    have HN := hide (fun X Y Z (hi : In2 p a b X Y) (hn : Nx p X Y Z) => hi.next hf.md hn)
    have HLn := hide (fun X Y (hi : In2 p a b X Y) => in2_lens hf.md hi (by omega) (by omega))
    have HDi := hide (fun W v1 v2 X Y (r1 : Rw W v1 X) (r2 : Rw W v2 Y) => dDivMod_any f v1 v2 X Y W r1 r2)
    unfold PartsD at HDi
    have HE : Hid (∀ X Y, In2 p a b X Y → Y.x ≠ [] → divE f X.x Y.x = 0) := fun X Y hi hy => by
      have := in2_lens hf.md hi (by omega) (by omega)
      rw [div_ok hf hi.tx.1 hi.sx (by omega) (by omega), if_neg hy]
    have HV : Hid (∀ X Y Q R, In2 p a b X Y → Y.x ≠ [] → DvE f X.x Y.x Q R → Dv p X.x Y.x Q R ∧ Wd Q) := fun X Y Q R hi hy hs => by
      have := in2_lens hf.md hi (by omega) (by omega)
      have hd := hs.dv hf (HE.out X Y hi hy)
      exact ⟨hd, (dv_wd hf.md hf.top hi.sx.1 hd (by omega) (by omega)).1⟩
    have HSame : Hid (∀ X Y Q R Z, Dv p X Y Q R → Ent p Q X Y Z → Z = R) := fun X Y Q R Z hd hz => rest_same hf.pos hd hz.1 hz.2
    have HMu : Hid (∀ W v1 v2 Q Y, Tm p Q → Tm p Y → Q.length ≤ 2048 → Y.length ≤ 2049 → Rw W v1 Q → Rw W v2 Y → Calls Try.prog 20 #[.int .u8 f, v1, v2] W fun e w' => ∃ v' M, e = .returned (.tuple #[v', .int .i64 0]) ∧ Rw w' v' M ∧ Tm p M ∧ M.length ≤ 4096 ∧ pl p M = qm (pl p Q) (pl p Y) ∧ Below W.heap.size W w') := fun W v1 v2 Q Y tq ty lq ly r1 r2 => by
      have hm := mul_facts hf tq ty (by omega) (by omega) (by omega)
      have hc := dMul_any f v1 v2 Q Y W r1 r2
      unfold Gives at hc
      rw [hm.1] at hc
      exact hc.mono fun e w' ⟨v', he, hO, hb⟩ => ⟨v', _, he, (mulL_wd f Q Y).row hO, hm.2.1, hm.2.2.2, hm.2.2.1, hb⟩
    have HSu : Hid (∀ W v1 v2 X M Q Y, Tm p X → Tm p M → X.length ≤ 2049 → M.length ≤ 4096 → pl p M = qm (pl p Q) (pl p Y) → Rw W v1 X → Rw W v2 M → Calls Try.prog 28 #[.int .u8 f, v1, v2] W fun e w' => ∃ v' Z, e = .returned (.tuple #[v', .int .i64 0]) ∧ Rw w' v' Z ∧ Ent p Q X Y Z ∧ Below W.heap.size W w') := fun W v1 v2 X M Q Y tx tm lx lm hM r1 r2 => by
      have hm := sub_facts hf tx.1 tm.1 (by omega) lm
      have hc := dSub_any f v1 v2 X M W r1 r2
      unfold Gives at hc
      rw [hm.1] at hc
      exact hc.mono fun e w' ⟨v', he, hO, hb⟩ => ⟨v', _, he, (subL_wd f X M).row hO, ⟨hm.2.1, by rw [← hM]; exact hm.2.2⟩, hb⟩
    rw [hst]
    rw [he] at hk
    clear h1 h2 hf he hst ha hb
    go_enter Try.func10, Try.ntmps10
    go_wp2_with fail
    refine hk.out.mono ?_; rintro e w1 ⟨rfl, hw⟩; rw [hw]; clear hw
    go_wp2_with fail
    refine hk.out.mono ?_; rintro e w1 ⟨rfl, hw⟩; rw [hw]; clear hw
    go_wp2_with fail
    refine (HT1.out _ (Below.refl _ _)).mono ?_; rintro e w1 ⟨u1, rfl, hO1, hb1⟩
    have R1 := W1.out.row hO1
    obtain ⟨a1, k1, rfl, _⟩ := R1.spell
    have hal := alloc_below w1 (.cells #[.int .u64 1] 49)
    have RX : Rr (w1.alloc (.cells #[.int .u64 1] 49)) (.slice a1 (tr a).length k1) (.slice (some ⟨w1.heap.size, 0, none⟩) 1 1) (.slice none 0 0) (rwA a) := ⟨R1.below hal, rw_one w1 _, rw0 _⟩
    have B1 := Below.next hb1 hal
    clear R1 hO1 hb1 hal
    go_wp2_with fail
    refine (HT2.out _ B1).mono ?_; rintro e w2 ⟨u2, rfl, hO2, hb2⟩
    have R2 := W2.out.row hO2
    obtain ⟨a2, k2, rfl, _⟩ := R2.spell
    have hal := alloc_below w2 (.cells #[.int .u64 1] 49)
    have RY : Rr (w2.alloc (.cells #[.int .u64 1] 49)) (.slice a2 (tr b).length k2) (.slice none 0 0) (.slice (some ⟨w2.heap.size, 0, none⟩) 1 1) (rwB b) := ⟨R2.below hal, rw0 _, rw_one w2 _⟩
    have HA := hide (al_two (w2.alloc (.cells #[.int .u64 1] 49)) 59 _ _ _ _ _ _ (rwA a) (rwB b) ((RX.below hb2).below hal) RY)
    have B2 := Below.next (Below.next B1 hb2) hal
    have e1 : (w2.alloc (.cells #[.int .u64 1] 49)).heap.size = w2.heap.size + 1 := by simp
    rw [e1] at HA
    have HK : Hid (PK 59 w (w2.heap.size + 1) (w2.heap.size + 1 + 1) _ _ _ _ _ _ (rwA a) (rwB b) _) := ⟨HA.out.1, HA.out.2.1, HA.out.2.2.1, HA.out.2.2.2.1, Below.next B2 (by rw [e1]; exact HA.out.2.2.2.2)⟩
    have hg2 : w.heap.size ≤ w2.heap.size + 1 := by have := B2.size; rw [e1] at this; exact this
    clear HA e1 B2 B1 hb2 hal RX RY R2 hO2
    go_wp2_with fail
    generalize (((w2.alloc (.cells #[.int .u64 1] 49)).alloc (.cells #[.slice a1 (tr a).length k1, .slice (some ⟨w1.heap.size, 0, none⟩) 1 1, .slice none 0 0] 59)).alloc (.cells #[.slice a2 (tr b).length k2, .slice none 0 0, .slice (some ⟨w2.heap.size, 0, none⟩) 1 1] 59)) = wL at *
    go_loopw [16] (fun _ wr => ∃ (c0 c1 c2 d0 d1 d2 : Value) (X Y : R3) (n : Nat), Hid (In2 p a b X Y) ∧ Hid (∀ m A B, Ds p s.toNat m X Y A B → Ds p s.toNat (m + n) (rwA a) (rwB b) A B) ∧ Hid (PK 59 w (w2.heap.size + 1) (w2.heap.size + 1 + 1) c0 c1 c2 d0 d1 d2 X Y wr)) (fun _ wr => match wr.cell? ⟨w2.heap.size + 1 + 1, 0, none⟩ with | some (.slice _ n _) => n | _ => 0)
    case atStart => exact ⟨_, _, _, _, _, _, _, _, 0, HI0, fun m A B h => h, HK⟩
    case round =>
      clear HK HT1 HT2 W1 W2 HI0 hk
      obtain ⟨c0, c1, c2, d0, d1, d2, X, Y, n, HI, HD, HK⟩ := hrel
      obtain ⟨T2, T3, RX, RY, B3⟩ := HK.out
      obtain ⟨x1, y1, rfl, _⟩ := RX.1.spell
      obtain ⟨x2, y2, rfl, _⟩ := RX.2.1.spell
      obtain ⟨x3, y3, rfl, _⟩ := RX.2.2.spell
      obtain ⟨x4, y4, rfl, _⟩ := RY.1.spell
      obtain ⟨x5, y5, rfl, _⟩ := RY.2.1.spell
      obtain ⟨x6, y6, rfl, _⟩ := RY.2.2.spell
      obtain ⟨q1, q2, q3⟩ := T2.cell
      obtain ⟨q7, q8, q9⟩ := T3.cell
      have hln := HLn.out X Y HI.out
      by_cases hx : X.x.length ≤ s.toNat
      · have hx1 : ¬ s < (X.x.length : Int) := by omega
        have RB := RX
        clear RX RY T2 T3
        go_wp2
        go_quiet (fail)
        have hb6 := below_drewN B3 nq
        have HR := hide (RB.below (below_drewN (Below.refl wr.heap.size wr) nq))
        go_wp2
        refine bodyPost_ret (v := .tuple #[.slice x1 X.x.length y1, .slice x2 X.u.length y2, .slice x3 X.v.length y3, .int .i64 0]) ?_ rfl ⟨_, _, _, X, rfl, HR.out, HP.out _ _ ⟨_, HD.out 1 _ _ (.inl ⟨hx, rfl, rfl⟩)⟩, hb6⟩
        simp [results, Try.results10, go_sem]
      have hx1 : s < (X.x.length : Int) := by omega
      by_cases hy : Y.x.length ≤ s.toNat
      · have hy1 : (Y.x.length : Int) ≤ s := by omega
        have RB := RY
        clear RX RY T2 T3
        go_wp2
        go_quiet (fail)
        have hb6 := below_drewN B3 nq
        have HR := hide (RB.below (below_drewN (Below.refl wr.heap.size wr) nq))
        go_wp2
        refine bodyPost_ret (v := .tuple #[.slice x4 Y.x.length y4, .slice x5 Y.u.length y5, .slice x6 Y.v.length y6, .int .i64 0]) ?_ rfl ⟨_, _, _, Y, rfl, HR.out, HP.out _ _ ⟨_, HD.out 1 _ _ (.inr (.inl ⟨by omega, hy, rfl, rfl⟩))⟩, hb6⟩
        simp [results, Try.results10, go_sem]
      have hy1 : ¬ (Y.x.length : Int) ≤ s := by omega
      have hyn : Y.x ≠ [] := fun e0 => hy (by rw [e0]; exact Nat.zero_le _)
      have HDv := hide (HDi.out _ _ _ X.x Y.x RX.1 RY.1)
      rw [HE.out X Y HI.out hyn] at HDv
      clear T2 T3 RX RY B3
      go_wp2_with fail
      refine HDv.out.mono ?_; rintro e w5 ⟨vq, vr, Q, R, rfl, hS, hOq, hOr, hb5⟩
      have HQ := hide (HV.out X Y Q R HI.out hyn hS)
      have HVq5 := hide (HQ.out.2.row hOq)
      have HK5 := hide (HK.out.below hb5)
      have hal := alloc_below w5 (.cells #[.slice none 0 0, .slice none 0 0, .slice none 0 0] 59)
      have HK6 := hide (HK5.out.below hal)
      have TZ6 := hide (Th.first w5 (.slice none 0 0) (.slice none 0 0) (.slice none 0 0) 59)
      have HVq6 := hide (HVq5.out.below hal)
      have hg3 := HK5.out.2.1.lt
      have hql := (hln.2.2.2.2.2.2 Q R HQ.out.1).1
      have hqu := (hln.2.2.2.2.2.2 Q R HQ.out.1).2
      have hwg : w.heap.size ≤ w5.heap.size := HK5.out.2.2.2.2.size
      have m2 := HK.out.2.1.cell.1
      clear hOq hOr hal HK5 HVq5 HDv q1 q2 q3 q7 q8 q9 hS
      go_wp2
      generalize w5.alloc (.cells #[.slice none 0 0, .slice none 0 0, .slice none 0 0] 59) = w6 at *
      go_loopw [20] (fun vi wx => ∃ (k : Nat) (e0 e1 e2 : Value) (Z0 Z1 Z2 : List Int), k ≤ 3 ∧ vi = .int .i64 k ∧ Hid (Th 59 w5.heap.size e0 e1 e2 wx) ∧ Hid (Sl e0) ∧ Hid (Sl e1) ∧ Hid (Sl e2) ∧ Hid (PK 59 w (w2.heap.size + 1) (w2.heap.size + 1 + 1) (.slice x1 X.x.length y1) (.slice x2 X.u.length y2) (.slice x3 X.v.length y3) (.slice x4 Y.x.length y4) (.slice x5 Y.u.length y5) (.slice x6 Y.v.length y6) X Y wx) ∧ Hid (Rw wx vq Q) ∧ Hid ((0 < k → Rw wx e0 Z0 ∧ Ent p Q X.x Y.x Z0) ∧ (1 < k → Rw wx e1 Z1 ∧ Ent p Q X.u Y.u Z1) ∧ (2 < k → Rw wx e2 Z2 ∧ Ent p Q X.v Y.v Z2))) (fun vi _ => 3 - (intOf vi).toNat)
      case atStart => exact ⟨0, _, _, _, [], [], [], by omega, rfl, TZ6, sl_nil, sl_nil, sl_nil, HK6, HVq6, ⟨fun h => by omega, fun h => by omega, fun h => by omega⟩⟩
      case round =>
        clear HK6 TZ6 HVq6 HK
        obtain ⟨k, e0, e1, e2, Z0, Z1, Z2, hk3, rfl, TZ, S0, S1, S2, HK, HVq, HZ⟩ := hrel
        obtain rfl | rfl | rfl | rfl : k = 0 ∨ k = 1 ∨ k = 2 ∨ k = 3 := by omega
        · -- entry 0
          obtain ⟨T2, T3, RX, RY, B3⟩ := HK.out
          have r0 := T3.cell.1
          have p0 := T2.cell.1
          have HC1 := hide (HMu.out wr vq _ Q Y.x HQ.out.1.rg.1 HI.out.sx hql (by omega) HVq.out RY.1)
          have HRX := hide (RX.1)
          clear T2 T3 RX RY B3
          go_wp2_with fail
          refine HC1.out.mono ?_; rintro e w7 ⟨vm, M, rfl, RM, tM, lM, eM, hb7⟩
          have HK7 := hide (HK.out.below hb7)
          have p0 := HK7.out.1.cell.1
          have HC2 := hide (HSu.out w7 _ vm X.x M Q Y.x HI.out.tx tM (by omega) lM eM (HRX.out.below hb7) RM)
          go_wp2_with fail
          refine HC2.out.mono ?_; rintro e w8 ⟨vz, Z, rfl, RZ, hZ, hb8⟩
          obtain ⟨xz, yz, rfl, _⟩ := RZ.spell
          have HK8 := hide (HK7.out.below hb8)
          have TZ8 := (TZ.out.below hb7).below hb8
          have HVq8 := hide ((HVq.out.below hb7).below hb8)
          obtain ⟨z0, z1, z2⟩ := TZ8.cell
          have zf := TZ8.free 0
          have HK9 := hide (HK8.out.set1 (i := 0) (e := .slice xz Z.length yz) TZ8 S0.out S1.out S2.out (by omega) (by omega) (by omega))
          have TZ9 := hide (TZ8.set0 (e := .slice xz Z.length yz))
          have HVq9 := hide (HVq8.out.apart1 (i := 0) (e := .slice xz Z.length yz) TZ8 S0.out S1.out S2.out)
          have HZ9 := hide (RZ.apart1 (i := 0) (e := .slice xz Z.length yz) TZ8 S0.out S1.out S2.out)
          clear RZ
          go_wp2
          go_roundw
          case rel => exact ⟨1, _, e1, e2, Z, Z1, Z2, by omega, rfl, TZ9, ⟨_, _, _, rfl⟩, S1, S2, HK9, HVq9, ⟨(fun _ => ⟨HZ9.out, hZ⟩), (fun h => by omega), (fun h => by omega)⟩⟩
          case measure => simp [intOf]
        · -- entry 1
          obtain ⟨T2, T3, RX, RY, B3⟩ := HK.out
          have r1 := T3.cell.2.1
          have p1 := T2.cell.2.1
          have HC1 := hide (HMu.out wr vq _ Q Y.u HQ.out.1.rg.1 HI.out.su hql (by omega) HVq.out RY.2.1)
          have HRX := hide (RX.2.1)
          clear T2 T3 RX RY B3
          go_wp2_with fail
          refine HC1.out.mono ?_; rintro e w7 ⟨vm, M, rfl, RM, tM, lM, eM, hb7⟩
          have HK7 := hide (HK.out.below hb7)
          have p1 := HK7.out.1.cell.2.1
          have HC2 := hide (HSu.out w7 _ vm X.u M Q Y.u HI.out.tu tM (by omega) lM eM (HRX.out.below hb7) RM)
          go_wp2_with fail
          refine HC2.out.mono ?_; rintro e w8 ⟨vz, Z, rfl, RZ, hZ, hb8⟩
          obtain ⟨xz, yz, rfl, _⟩ := RZ.spell
          have HK8 := hide (HK7.out.below hb8)
          have TZ8 := (TZ.out.below hb7).below hb8
          have HVq8 := hide ((HVq.out.below hb7).below hb8)
          obtain ⟨z0, z1, z2⟩ := TZ8.cell
          have zf := TZ8.free 1
          have HK9 := hide (HK8.out.set1 (i := 1) (e := .slice xz Z.length yz) TZ8 S0.out S1.out S2.out (by omega) (by omega) (by omega))
          have TZ9 := hide (TZ8.set1 (e := .slice xz Z.length yz))
          have HVq9 := hide (HVq8.out.apart1 (i := 1) (e := .slice xz Z.length yz) TZ8 S0.out S1.out S2.out)
          have HZ9 := hide (RZ.apart1 (i := 1) (e := .slice xz Z.length yz) TZ8 S0.out S1.out S2.out)
          have HE0 := hide (((((HZ.out.1 (by omega)).1.below hb7).below hb8).apart1 (i := 1) (e := .slice xz Z.length yz) TZ8 S0.out S1.out S2.out))
          clear RZ
          go_wp2
          go_roundw
          case rel => exact ⟨2, e0, _, e2, Z0, Z, Z2, by omega, rfl, TZ9, S0, ⟨_, _, _, rfl⟩, S2, HK9, HVq9, ⟨(fun _ => ⟨HE0.out, (HZ.out.1 (by omega)).2⟩), (fun _ => ⟨HZ9.out, hZ⟩), (fun h => by omega)⟩⟩
          case measure => simp [intOf]
        · -- entry 2
          obtain ⟨T2, T3, RX, RY, B3⟩ := HK.out
          have r2 := T3.cell.2.2
          have p2 := T2.cell.2.2
          have HC1 := hide (HMu.out wr vq _ Q Y.v HQ.out.1.rg.1 HI.out.sv hql (by omega) HVq.out RY.2.2)
          have HRX := hide (RX.2.2)
          clear T2 T3 RX RY B3
          go_wp2_with fail
          refine HC1.out.mono ?_; rintro e w7 ⟨vm, M, rfl, RM, tM, lM, eM, hb7⟩
          have HK7 := hide (HK.out.below hb7)
          have p2 := HK7.out.1.cell.2.2
          have HC2 := hide (HSu.out w7 _ vm X.v M Q Y.v HI.out.tv tM (by omega) lM eM (HRX.out.below hb7) RM)
          go_wp2_with fail
          refine HC2.out.mono ?_; rintro e w8 ⟨vz, Z, rfl, RZ, hZ, hb8⟩
          obtain ⟨xz, yz, rfl, _⟩ := RZ.spell
          have HK8 := hide (HK7.out.below hb8)
          have TZ8 := (TZ.out.below hb7).below hb8
          have HVq8 := hide ((HVq.out.below hb7).below hb8)
          obtain ⟨z0, z1, z2⟩ := TZ8.cell
          have zf := TZ8.free 2
          have HK9 := hide (HK8.out.set1 (i := 2) (e := .slice xz Z.length yz) TZ8 S0.out S1.out S2.out (by omega) (by omega) (by omega))
          have TZ9 := hide (TZ8.set2 (e := .slice xz Z.length yz))
          have HVq9 := hide (HVq8.out.apart1 (i := 2) (e := .slice xz Z.length yz) TZ8 S0.out S1.out S2.out)
          have HZ9 := hide (RZ.apart1 (i := 2) (e := .slice xz Z.length yz) TZ8 S0.out S1.out S2.out)
          have HE0 := hide (((((HZ.out.1 (by omega)).1.below hb7).below hb8).apart1 (i := 2) (e := .slice xz Z.length yz) TZ8 S0.out S1.out S2.out))
          have HE1 := hide (((((HZ.out.2.1 (by omega)).1.below hb7).below hb8).apart1 (i := 2) (e := .slice xz Z.length yz) TZ8 S0.out S1.out S2.out))
          clear RZ
          go_wp2
          go_roundw
          case rel => exact ⟨3, e0, e1, _, Z0, Z1, Z, by omega, rfl, TZ9, S0, S1, ⟨_, _, _, rfl⟩, HK9, HVq9, ⟨(fun _ => ⟨HE0.out, (HZ.out.1 (by omega)).2⟩), (fun _ => ⟨HE1.out, (HZ.out.2.1 (by omega)).2⟩), (fun _ => ⟨HZ9.out, hZ⟩)⟩⟩
          case measure => simp [intOf]
        · -- all
          obtain ⟨RZ0, EZ0⟩ := HZ.out.1 (by omega)
          obtain ⟨RZ1, EZ1⟩ := HZ.out.2.1 (by omega)
          obtain ⟨RZ2, EZ2⟩ := HZ.out.2.2 (by omega)
          obtain rfl := HSame.out _ _ _ _ _ HQ.out.1 EZ0
          have hn : Nx p X Y ⟨Z0, Z1, Z2⟩ := ⟨Q, HQ.out.1, EZ1.1, EZ2.1, EZ1.2, EZ2.2⟩
          obtain ⟨z0, z1, z2⟩ := TZ.out.cell
          obtain ⟨x7, y7, rfl, _⟩ := RZ0.spell
          obtain ⟨x8, y8, rfl, _⟩ := RZ1.spell
          obtain ⟨x9, y9, rfl, _⟩ := RZ2.spell
          obtain ⟨T2, T3, RX, RY, B3⟩ := HK.out
          obtain ⟨q1, q2, q3⟩ := T2.cell
          obtain ⟨q7, q8, q9⟩ := T3.cell
          have f1 := T2.free 0
          have f2 := T2.free 1
          have f3 := T2.free 2
          have f4 := T3.free 0
          have f5 := T3.free 1
          have f6 := T3.free 2
          have hne1 : w2.heap.size + 1 ≠ w5.heap.size := by omega
          have hne2 : w2.heap.size + 1 + 1 ≠ w5.heap.size := by omega
          go_wp2
          go_region
          all_goals (
            have E : ((((((wr.setCell ⟨w2.heap.size + 1, 0, none⟩ (.slice x4 Y.x.length y4)).setCell ⟨w2.heap.size + 1, 1, none⟩ (.slice x5 Y.u.length y5)).setCell ⟨w2.heap.size + 1, 2, none⟩ (.slice x6 Y.v.length y6)).setCell ⟨w2.heap.size + 1 + 1, 0, none⟩ (.slice x7 Z0.length y7)).setCell ⟨w2.heap.size + 1 + 1, 1, none⟩ (.slice x8 Z1.length y8)).setCell ⟨w2.heap.size + 1 + 1, 2, none⟩ (.slice x9 Z2.length y9)).drew = (set3 (set3 wr (w2.heap.size + 1) (.slice x4 Y.x.length y4) (.slice x5 Y.u.length y5) (.slice x6 Y.v.length y6)) (w2.heap.size + 1 + 1) (.slice x7 Z0.length y7) (.slice x8 Z1.length y8) (.slice x9 Z2.length y9)).drew := rfl
            have F := set_two (e0 := .slice x4 Y.x.length y4) (e1 := .slice x5 Y.u.length y5) (e2 := .slice x6 Y.v.length y6) (d0 := .slice x7 Z0.length y7) (d1 := .slice x8 Z1.length y8) (d2 := .slice x9 Z2.length y9) T2 T3 (by omega) RX.1.sl RX.2.1.sl RX.2.2.sl RY.1.sl RY.2.1.sl RY.2.2.sl
            rw [E]
            clear E q1 q2 q3 q7 q8 q9 f1 f2 f3 f4 f5 f6 z0 z1 z2
            generalize (set3 (set3 wr (w2.heap.size + 1) (.slice x4 Y.x.length y4) (.slice x5 Y.u.length y5) (.slice x6 Y.v.length y6)) (w2.heap.size + 1 + 1) (.slice x7 Z0.length y7) (.slice x8 Z1.length y8) (.slice x9 Z2.length y9)).drew = w7 at F ⊢
            obtain ⟨F1, F2, F3, F4, F5⟩ := F
            have HK7 : Hid (PK 59 w (w2.heap.size + 1) (w2.heap.size + 1 + 1) _ _ _ _ _ _ Y ⟨Z0, Z1, Z2⟩ w7) := ⟨F1, F2, F4 _ _ _ _ RY, F4 _ _ _ ⟨Z0, Z1, Z2⟩ ⟨RZ0, RZ1, RZ2⟩, F5 _ _ B3 (by omega) (by omega)⟩
            have m1 := HK7.out.2.1.cell.1
            go_wp2
            go_roundw
            case rel => exact ⟨_, _, _, _, _, _, Y, ⟨Z0, Z1, Z2⟩, n + 1, HN.out _ _ _ HI.out hn, (fun m A B hd => by
              have := HD.out (m + 1) A B (.inr (.inr ⟨by omega, by omega, ⟨Z0, Z1, Z2⟩, hn, hd⟩))
              have e : m + (n + 1) = m + 1 + n := by omega
              rw [e]; exact this), HK7⟩
            case measure =>
              rw [m1, m2]
              obtain ⟨q, hd, _⟩ := hn
              have := hd.2.2.2.2.1
              rw [HI.out.sx.2] at this
              exact this)
  · have ht : (chE f a b != 0) = true := bne_iff_ne.2 he
    have hE : stE f a b s = chE f a b := by unfold stE; rw [if_neg hs]
    have HP : Hid (PtE f a b s R3.nil) := ⟨fun _ => rfl, fun h0 => by rw [hE] at h0; exact absurd h0 he⟩
    rw [hE]
    clear h1 h2 hE
    by_cases h2 : chE f a b = 2
    · rw [h2] at hk
      rw [h2]
      go_enter Try.func10, Try.ntmps10
      go_wp2_with (go_at_call 27; refine hk.out.mono ?_; rintro e w1 ⟨rfl, hw⟩; rw [hw]; clear hw)
      refine bodyPost_ret (v := .tuple #[.slice none 0 0, .slice none 0 0, .slice none 0 0, .int .i64 2]) ?_ rfl ⟨_, _, _, _, rfl, rr_nil _, HP.out, Below.refl _ _⟩
      simp [results, Try.results10, go_sem]
    · have hq : (chE f a b == 2) = false := beq_eq_false_iff_ne.2 h2
      clear h2 he
      generalize chE f a b = e0 at *
      go_enter Try.func10, Try.ntmps10
      go_wp2_with (go_at_call 27; refine hk.out.mono ?_; rintro e w1 ⟨rfl, hw⟩; rw [hw]; clear hw)
      refine bodyPost_ret (v := .tuple #[.slice none 0 0, .slice none 0 0, .slice none 0 0, .int .i64 e0]) ?_ rfl ⟨_, _, _, _, rfl, rr_nil _, HP.out, Below.refl _ _⟩
      simp [results, Try.results10, go_sem]

end Go.Proofs.Ytdgcnockccjdjaa
