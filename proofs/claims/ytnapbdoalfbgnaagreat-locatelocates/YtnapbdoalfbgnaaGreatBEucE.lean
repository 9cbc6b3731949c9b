import Derived.Test.YtnapbdoalfbgnaaGreatBEucD
set_option linter.unusedVariables false
set_option linter.unusedSimpArgs false
set_option maxRecDepth 100000
set_option maxHeartbeats 4000000
namespace Go.Proofs.YtnapbdoalfbgnaaGreat
open Go.RowKit Fld
theorem rw_one (w : World) (T : TypeId) : Rw (w.alloc (.cells #[.int .u64 1] T)) (.slice (some ⟨w.heap.size, 0, none⟩) 1 1) [1] := rw1 w 1 (by decide) T
theorem drew_below (w : World) : Below w.heap.size w w.drew := (Below.refl w.heap.size w).drew
theorem set_two {T : TypeId} {w : World} {g1 g2 : Nat} {o0 o1 o2 p0 p1 p2 e0 e1 e2 d0 d1 d2 : Value} (T1 : Th T g1 o0 o1 o2 w) (T2 : Th T g2 p0 p1 p2 w) (hne : g1 ≠ g2) (s0 : Sl o0) (s1 : Sl o1) (s2 : Sl o2) (t0 : Sl p0) (t1 : Sl p1) (t2 : Sl p2) :
 Th T g1 e0 e1 e2 (set3 (set3 w g1 e0 e1 e2) g2 d0 d1 d2).drew ∧ Th T g2 d0 d1 d2 (set3 (set3 w g1 e0 e1 e2) g2 d0 d1 d2).drew ∧ (∀ g c0 c1 c2, g ≠ g1 → g ≠ g2 → Th T g c0 c1 c2 w → Th T g c0 c1 c2 (set3 (set3 w g1 e0 e1 e2) g2 d0 d1 d2).drew) ∧
  (∀ c0 c1 c2 X, Rr w c0 c1 c2 X → Rr (set3 (set3 w g1 e0 e1 e2) g2 d0 d1 d2).drew c0 c1 c2 X) ∧ ∀ b w0, Below b w0 w → b ≤ g1 → b ≤ g2 → Below b w0 (set3 (set3 w g1 e0 e1 e2) g2 d0 d1 d2).drew :=
 ⟨((T1.set).apart hne).below (drew_below _), ((T2.apart (Ne.symm hne)).set).below (drew_below _), fun g c0 c1 c2 h1 h2 h => ((h.apart h1).apart h2).below (drew_below _),
  fun c0 c1 c2 X h => ((h.apart T1 s0 s1 s2).apart (T2.apart (Ne.symm hne)) t0 t1 t2).below (drew_below _), fun b w0 h h1 h2 => (below_set3 (below_set3 h h1) h2).drew⟩
theorem set_two0 {T : TypeId} {w : World} {g1 g2 : Nat} {o0 o1 o2 p0 p1 p2 e0 e1 e2 d0 d1 d2 : Value} (T1 : Th T g1 o0 o1 o2 w) (T2 : Th T g2 p0 p1 p2 w) (hne : g1 ≠ g2) (s0 : Sl o0) (s1 : Sl o1) (s2 : Sl o2) (t0 : Sl p0) (t1 : Sl p1) (t2 : Sl p2) :
 Th T g1 e0 e1 e2 (set3 (set3 w g1 e0 e1 e2) g2 d0 d1 d2) ∧ Th T g2 d0 d1 d2 (set3 (set3 w g1 e0 e1 e2) g2 d0 d1 d2) ∧ (∀ g c0 c1 c2, g ≠ g1 → g ≠ g2 → Th T g c0 c1 c2 w → Th T g c0 c1 c2 (set3 (set3 w g1 e0 e1 e2) g2 d0 d1 d2)) ∧
  (∀ c0 c1 c2 X, Rr w c0 c1 c2 X → Rr (set3 (set3 w g1 e0 e1 e2) g2 d0 d1 d2) c0 c1 c2 X) ∧ ∀ b w0, Below b w0 w → b ≤ g1 → b ≤ g2 → Below b w0 (set3 (set3 w g1 e0 e1 e2) g2 d0 d1 d2) :=
 ⟨(T1.set).apart hne, (T2.apart (Ne.symm hne)).set, fun g c0 c1 c2 h1 h2 h => (h.apart h1).apart h2,
  fun c0 c1 c2 X h => (h.apart T1 s0 s1 s2).apart (T2.apart (Ne.symm hne)) t0 t1 t2, fun b w0 h h1 h2 => below_set3 (below_set3 h h1) h2⟩
def DK (T : TypeId) (w : World) (g1 g2 g3 : Nat) (c0 c1 c2 d0 d1 d2 : Value) (X Y : R3) (wr : World) : Prop :=
 Th T g1 (.slice none 0 0) (.slice none 0 0) (.slice none 0 0) wr ∧ Th T g2 c0 c1 c2 wr ∧ Th T g3 d0 d1 d2 wr ∧ Rr wr c0 c1 c2 X ∧ Rr wr d0 d1 d2 Y ∧ Below w.heap.size w wr
theorem DK.below {T : TypeId} {w : World} {g1 g2 g3 : Nat} {c0 c1 c2 d0 d1 d2 : Value} {X Y : R3} {w1 w2 : World} (h : DK T w g1 g2 g3 c0 c1 c2 d0 d1 d2 X Y w1) (hb : Below w1.heap.size w1 w2) : DK T w g1 g2 g3 c0 c1 c2 d0 d1 d2 X Y w2 :=
 ⟨h.1.below hb, h.2.1.below hb, h.2.2.1.below hb, h.2.2.2.1.below hb, h.2.2.2.2.1.below hb, Below.next h.2.2.2.2.2 hb⟩
theorem descend_any (f p : Int) (wd : Bool) (va vb : Value) (a b : List Int) (s : Int) (w : World) (h : Fi f p wd) (h1 : Rw w va a) (h2 : Rw w vb b) (ha : Els p a) (hb : Els p b) (la : a.length ≤ 2048) (lb : b.length ≤ 2048) (hs : 0 ≤ s) :
 Calls Tryz.prog 100 #[.int .u8 f, va, vb, .int .i64 s] w fun e w' => ∃ c0 c1 c2 d0 d1 d2 A B, e = .returned (.tuple #[.agg #[c0, c1, c2], .agg #[d0, d1, d2]]) ∧ Rr w' c0 c1 c2 A ∧ Rr w' d0 d1 d2 B ∧ Fnd p s.toNat a b A B ∧ Below w.heap.size w w' := by
 have HT1 := hide (fun W (hb : Below w.heap.size w W) => Trim_any va a W (h1.below hb))
 have HT2 := hide (fun W (hb : Below w.heap.size w W) => Trim_any vb b W (h2.below hb))
 have na := tr_len a
 have nb := tr_len b
 have W1 := hide (wd_els (ha.tr h.pos) h.top (show (tr a).length ≤ 17592186043904 by omega))
 have W2 := hide (wd_els (hb.tr h.pos) h.top (show (tr b).length ≤ 17592186043904 by omega))
 have HI0 := hide (In2.start h.md ha hb)
 have HF := hide (fun X Y c0 c1 c2 d0 d1 d2 W hi hX hY hy => following_any f p wd a b X Y c0 c1 c2 d0 d1 d2 W h hi (by omega) (by omega) hX hY hy)
 have HN := hide (fun X Y Z (hi : In2 p a b X Y) (hn : Nx p X Y Z) => hi.next h.md hn)
 clear h h1 h2 ha hb
 go_enter Tryz.func100, Tryz.ntmps100
 go_wp2
 go_step3
 go_wp2_with fail
 have hb0 : Below w.heap.size w ((w.alloc (.cells #[.slice none 0 0, .slice none 0 0, .slice none 0 0] 131)).alloc (.cells #[.slice none 0 0, .slice none 0 0, .slice none 0 0] 131)) := ((Below.refl _ _).alloc (Nat.le_refl _) _).alloc (by simp) _
 refine (HT1.out _ hb0).mono ?_; rintro e w1 ⟨u1, rfl, hO1, hb1⟩
 have T1 := ((Th.first w (.slice none 0 0) (.slice none 0 0) (.slice none 0 0) 131).below (alloc_below _ (.cells #[.slice none 0 0, .slice none 0 0, .slice none 0 0] 131))).below hb1
 have T2 := (Th.first (w.alloc (.cells #[.slice none 0 0, .slice none 0 0, .slice none 0 0] 131)) (.slice none 0 0) (.slice none 0 0) (.slice none 0 0) 131).below hb1
 have e1 : (w.alloc (.cells #[.slice none 0 0, .slice none 0 0, .slice none 0 0] 131)).heap.size = w.heap.size + 1 := by simp
 rw [e1] at T2
 have R1 := W1.out.row hO1
 obtain ⟨a1, k1, rfl, _⟩ := R1.spell
 have B1 := Below.next hb0 hb1
 clear e1 hO1 hb1 hb0
 have hal := alloc_below w1 (.cells #[.int .u64 1] 42)
 have T1' := T1.below hal
 have T2' := T2.below hal
 have RX : Rr (w1.alloc (.cells #[.int .u64 1] 42)) (.slice a1 (tr a).length k1) (.slice (some ⟨w1.heap.size, 0, none⟩) 1 1) (.slice none 0 0) (rwA a) := ⟨R1.below hal, rw_one w1 _, rw0 _⟩
 have B1' := Below.next B1 hal
 obtain ⟨q1, q2, q3⟩ := T2'.cell
 have q4 := T2'.free 0
 have q5 := T2'.free 1
 have q6 := T2'.free 2
 go_wp2_with fail
 have e : ((((w1.alloc (.cells #[.int .u64 1] 42)).setCell ⟨w.heap.size + 1, 0, none⟩ (.slice a1 (tr a).length k1)).setCell ⟨w.heap.size + 1, 1, none⟩ (.slice (some ⟨w1.heap.size, 0, none⟩) 1 1)).setCell ⟨w.heap.size + 1, 2, none⟩ (.slice none 0 0)) = set3 (w1.alloc (.cells #[.int .u64 1] 42)) (w.heap.size + 1) (.slice a1 (tr a).length k1) (.slice (some ⟨w1.heap.size, 0, none⟩) 1 1) (.slice none 0 0) := rfl
 rw [e]
 clear e q1 q2 q3 q4 q5 q6
 have T3 := T1'.apart (e0 := .slice a1 (tr a).length k1) (e1 := .slice (some ⟨w1.heap.size, 0, none⟩) 1 1) (e2 := .slice none 0 0) (show w.heap.size ≠ w.heap.size + 1 by omega)
 have T4 := T2'.set (e0 := .slice a1 (tr a).length k1) (e1 := .slice (some ⟨w1.heap.size, 0, none⟩) 1 1) (e2 := .slice none 0 0)
 have RX2 := RX.apart (e0 := .slice a1 (tr a).length k1) (e1 := .slice (some ⟨w1.heap.size, 0, none⟩) 1 1) (e2 := .slice none 0 0) T2' sl_nil sl_nil sl_nil
 have B2 := below_set3 (e0 := .slice a1 (tr a).length k1) (e1 := .slice (some ⟨w1.heap.size, 0, none⟩) 1 1) (e2 := .slice none 0 0) B1' (show w.heap.size ≤ w.heap.size + 1 by omega)
 clear T1 T2 T1' T2' RX B1' B1 hal R1
 generalize set3 (w1.alloc (.cells #[.int .u64 1] 42)) (w.heap.size + 1) (.slice a1 (tr a).length k1) (.slice (some ⟨w1.heap.size, 0, none⟩) 1 1) (.slice none 0 0) = wA at *
 refine (HT2.out _ B2).mono ?_; rintro e w2 ⟨u2, rfl, hO2, hb2⟩
 have R2 := W2.out.row hO2
 obtain ⟨a2, k2, rfl, _⟩ := R2.spell
 have hal := alloc_below w2 (.cells #[.int .u64 1] 42)
 have hal2 := alloc_below (w2.alloc (.cells #[.int .u64 1] 42)) (.cells #[.slice a2 (tr b).length k2, .slice none 0 0, .slice (some ⟨w2.heap.size, 0, none⟩) 1 1] 131)
 have T1 := ((T3.below hb2).below hal).below hal2
 have T2 := ((T4.below hb2).below hal).below hal2
 have RX := ((RX2.below hb2).below hal).below hal2
 have TB := Th.first (w2.alloc (.cells #[.int .u64 1] 42)) (.slice a2 (tr b).length k2) (.slice none 0 0) (.slice (some ⟨w2.heap.size, 0, none⟩) 1 1) 131
 have e1 : (w2.alloc (.cells #[.int .u64 1] 42)).heap.size = w2.heap.size + 1 := by simp
 rw [e1] at TB
 have RY : Rr ((w2.alloc (.cells #[.int .u64 1] 42)).alloc (.cells #[.slice a2 (tr b).length k2, .slice none 0 0, .slice (some ⟨w2.heap.size, 0, none⟩) 1 1] 131)) (.slice a2 (tr b).length k2) (.slice none 0 0) (.slice (some ⟨w2.heap.size, 0, none⟩) 1 1) (rwB b) := ⟨(R2.below hal).below hal2, rw0 _, (rw_one w2 _).below hal2⟩
 have B3 := Below.next (Below.next (Below.next B2 hb2) hal) hal2
 have hsz := (Below.next B2 hb2).size
 have hlt := (T4.below hb2).lt
 have HK : Hid (DK 131 w w.heap.size (w.heap.size + 1) (w2.heap.size + 1) _ _ _ _ _ _ (rwA a) (rwB b) _) := ⟨T1, T2, TB, RX, RY, B3⟩
 clear e1 hO2 R2 hb2 T3 T4 RX2 B2 hal hal2 T1 T2 TB RX RY B3
 have hne : w2.heap.size + 1 ≠ w.heap.size + 1 := by omega
 have hne0 : w.heap.size ≠ w2.heap.size + 1 := by omega
 have hgw : w.heap.size ≤ w2.heap.size + 1 := by omega
 go_wp2_with fail
 generalize ((w2.alloc (.cells #[.int .u64 1] 42)).alloc (.cells #[.slice a2 (tr b).length k2, .slice none 0 0, .slice (some ⟨w2.heap.size, 0, none⟩) 1 1] 131)) = wL at *
 go_step3
 go_wp2
 go_loopw [19] (fun _ wr => ∃ (c0 c1 c2 d0 d1 d2 : Value) (X Y : R3) (n : Nat), Hid (In2 p a b X Y) ∧ Hid (∀ m A B, Ds p s.toNat m X Y A B → Ds p s.toNat (m + n) (rwA a) (rwB b) A B) ∧ Hid (DK 131 w w.heap.size (w.heap.size + 1) (w2.heap.size + 1) c0 c1 c2 d0 d1 d2 X Y wr)) (fun _ wr => match wr.cell? ⟨w2.heap.size + 1, 0, none⟩ with | some (.slice _ n _) => n | _ => 0)
 case atStart => exact ⟨_, _, _, _, _, _, _, _, 0, HI0, fun m A B h => h, HK⟩
 case round =>
  clear HK HT1 HT2 W1 W2 HI0
  obtain ⟨c0, c1, c2, d0, d1, d2, X, Y, n, HI, HD, HK⟩ := hrel
  obtain ⟨T1, T2, T3, RX, RY, B3⟩ := HK.out
  obtain ⟨x1, y1, rfl, _⟩ := RX.1.spell
  obtain ⟨x2, y2, rfl, _⟩ := RX.2.1.spell
  obtain ⟨x3, y3, rfl, _⟩ := RX.2.2.spell
  obtain ⟨x4, y4, rfl, _⟩ := RY.1.spell
  obtain ⟨x5, y5, rfl, _⟩ := RY.2.1.spell
  obtain ⟨x6, y6, rfl, _⟩ := RY.2.2.spell
  have HG1 := hide (Degree_any _ X.x wr RX.1)
  rw [HI.out.tx.2] at HG1
  have HG2 := hide (fun W hb => Degree_any _ Y.x W (RY.1.below hb))
  rw [HI.out.sx.2] at HG2
  obtain ⟨q1, q2, q3⟩ := T2.cell
  clear T1 T2 T3 RX RY B3
  by_cases hx : X.x.length ≤ s.toNat
  · have hx1 : (X.x.length : Int) - 1 < s := by omega
    go_wp2_with fail
    refine HG1.out.mono ?_; rintro e w4 ⟨rfl, hb4⟩
    have HK4 := hide (HK.out.below hb4)
    go_wp2
    obtain ⟨T1, T2, T3, RX, RY, B3⟩ := HK4.out
    obtain ⟨q1, q2, q3⟩ := T2.cell
    obtain ⟨q4, q5, q6⟩ := T1.cell
    have f1 := T1.free 0
    have f2 := T1.free 1
    have f3 := T1.free 2
    have f4 := T2.free 0
    have f5 := T2.free 1
    have f6 := T2.free 2
    go_region
    all_goals (
     have E : ((((((w4.setCell ⟨w.heap.size, 0, none⟩ (.slice none 0 0)).setCell ⟨w.heap.size, 1, none⟩ (.slice none 0 0)).setCell ⟨w.heap.size, 2, none⟩ (.slice none 0 0)).setCell ⟨w.heap.size + 1, 0, none⟩ (.slice x1 X.x.length y1)).setCell ⟨w.heap.size + 1, 1, none⟩ (.slice x2 X.u.length y2)).setCell ⟨w.heap.size + 1, 2, none⟩ (.slice x3 X.v.length y3)).drew = (set3 (set3 w4 w.heap.size (.slice none 0 0) (.slice none 0 0) (.slice none 0 0)) (w.heap.size + 1) (.slice x1 X.x.length y1) (.slice x2 X.u.length y2) (.slice x3 X.v.length y3)).drew := rfl
     have F := set_two (e0 := .slice none 0 0) (e1 := .slice none 0 0) (e2 := .slice none 0 0) (d0 := .slice x1 X.x.length y1) (d1 := .slice x2 X.u.length y2) (d2 := .slice x3 X.v.length y3) T1 T2 (by omega) sl_nil sl_nil sl_nil RX.1.sl RX.2.1.sl RX.2.2.sl
     rw [E]
     clear E q1 q2 q3 q4 q5 q6 f1 f2 f3 f4 f5 f6
     generalize (set3 (set3 w4 w.heap.size (.slice none 0 0) (.slice none 0 0) (.slice none 0 0)) (w.heap.size + 1) (.slice x1 X.x.length y1) (.slice x2 X.u.length y2) (.slice x3 X.v.length y3)).drew = wF at F ⊢
     obtain ⟨F1, F2, _, F4, F5⟩ := F
     have FR := hide (F4 _ _ _ _ RX)
     have FN := hide (F4 _ _ _ R3.nil ⟨rw0 _, rw0 _, rw0 _⟩)
     have FB := hide (F5 _ _ B3 (Nat.le_refl _) (by omega))
     clear F4 F5 T1 T2 T3 RX RY B3
     obtain ⟨q1, q2, q3⟩ := F2.cell
     obtain ⟨q4, q5, q6⟩ := F1.cell
     go_wp2
     rw [Exit.noGoto_ret]
     refine bodyPost_ret (v := .tuple #[.agg #[.slice none 0 0, .slice none 0 0, .slice none 0 0], .agg #[.slice x1 X.x.length y1, .slice x2 X.u.length y2, .slice x3 X.v.length y3]]) ?_ rfl ⟨_, _, _, _, _, _, R3.nil, X, rfl, FN.out, FR.out, ⟨_, HD.out 1 _ _ (.inl ⟨hx, rfl, rfl⟩)⟩, FB.out⟩
     simp [results, Tryz.results100, go_sem, q1, q2, q3, q4, q5, q6])
  · have hx1 : ¬ (X.x.length : Int) - 1 < s := by omega
    go_wp2_with fail
    refine HG1.out.mono ?_; rintro e w4 ⟨rfl, hb4⟩
    have HK4 := hide (HK.out.below hb4)
    obtain ⟨q7, q8, q9⟩ := HK4.out.2.2.1.cell
    go_wp2_with fail
    refine (HG2.out _ hb4).mono ?_; rintro e w5 ⟨rfl, hb5⟩
    have HK5 := hide (HK4.out.below hb5)
    clear q1 q2 q3 q7 q8 q9 HG1 HG2
    obtain ⟨T1, T2, T3, RX, RY, B3⟩ := HK5.out
    obtain ⟨q1, q2, q3⟩ := T2.cell
    obtain ⟨q4, q5, q6⟩ := T1.cell
    obtain ⟨q7, q8, q9⟩ := T3.cell
    have f1 := T1.free 0
    have f2 := T1.free 1
    have f3 := T1.free 2
    have f4 := T2.free 0
    have f5 := T2.free 1
    have f6 := T2.free 2
    by_cases hy : Y.x.length ≤ s.toNat
    · have hy1 : (Y.x.length : Int) - 1 < s := by omega
      go_wp2
      go_region
      all_goals (
       have E : ((((((w5.setCell ⟨w.heap.size, 0, none⟩ (.slice x1 X.x.length y1)).setCell ⟨w.heap.size, 1, none⟩ (.slice x2 X.u.length y2)).setCell ⟨w.heap.size, 2, none⟩ (.slice x3 X.v.length y3)).setCell ⟨w.heap.size + 1, 0, none⟩ (.slice x4 Y.x.length y4)).setCell ⟨w.heap.size + 1, 1, none⟩ (.slice x5 Y.u.length y5)).setCell ⟨w.heap.size + 1, 2, none⟩ (.slice x6 Y.v.length y6)).drew = (set3 (set3 w5 (w.heap.size) (.slice x1 X.x.length y1) (.slice x2 X.u.length y2) (.slice x3 X.v.length y3)) (w.heap.size + 1) (.slice x4 Y.x.length y4) (.slice x5 Y.u.length y5) (.slice x6 Y.v.length y6)).drew := rfl
       have F := set_two (e0 := .slice x1 X.x.length y1) (e1 := .slice x2 X.u.length y2) (e2 := .slice x3 X.v.length y3) (d0 := .slice x4 Y.x.length y4) (d1 := .slice x5 Y.u.length y5) (d2 := .slice x6 Y.v.length y6) T1 T2 (by omega) sl_nil sl_nil sl_nil RX.1.sl RX.2.1.sl RX.2.2.sl
       rw [E]
       clear E q1 q2 q3 q4 q5 q6 q7 q8 q9 f1 f2 f3 f4 f5 f6
       generalize (set3 (set3 w5 (w.heap.size) (.slice x1 X.x.length y1) (.slice x2 X.u.length y2) (.slice x3 X.v.length y3)) (w.heap.size + 1) (.slice x4 Y.x.length y4) (.slice x5 Y.u.length y5) (.slice x6 Y.v.length y6)).drew = w6 at F ⊢
       obtain ⟨F1, F2, _, F4, F5⟩ := F
       have RX := F4 _ _ _ _ RX
       have RY := F4 _ _ _ _ RY
       have B3 := F5 _ _ B3 (Nat.le_refl _) (by omega)
       clear F4 F5 T1 T2 T3
       obtain ⟨q1, q2, q3⟩ := F2.cell
       obtain ⟨q4, q5, q6⟩ := F1.cell
       have f1 := F1.free 0
       have f2 := F1.free 1
       have f3 := F1.free 2
       have f4 := F2.free 0
       have f5 := F2.free 1
       have f6 := F2.free 2
       go_wp2
       go_region
       all_goals (
        have E : ((((((w6.setCell ⟨w.heap.size, 0, none⟩ (.slice x1 X.x.length y1)).setCell ⟨w.heap.size, 1, none⟩ (.slice x2 X.u.length y2)).setCell ⟨w.heap.size, 2, none⟩ (.slice x3 X.v.length y3)).setCell ⟨w.heap.size + 1, 0, none⟩ (.slice x4 Y.x.length y4)).setCell ⟨w.heap.size + 1, 1, none⟩ (.slice x5 Y.u.length y5)).setCell ⟨w.heap.size + 1, 2, none⟩ (.slice x6 Y.v.length y6)).drew = (set3 (set3 w6 (w.heap.size) (.slice x1 X.x.length y1) (.slice x2 X.u.length y2) (.slice x3 X.v.length y3)) (w.heap.size + 1) (.slice x4 Y.x.length y4) (.slice x5 Y.u.length y5) (.slice x6 Y.v.length y6)).drew := rfl
        have F := set_two (e0 := .slice x1 X.x.length y1) (e1 := .slice x2 X.u.length y2) (e2 := .slice x3 X.v.length y3) (d0 := .slice x4 Y.x.length y4) (d1 := .slice x5 Y.u.length y5) (d2 := .slice x6 Y.v.length y6) F1 F2 (by omega) RX.1.sl RX.2.1.sl RX.2.2.sl RY.1.sl RY.2.1.sl RY.2.2.sl
        rw [E]
        clear E q1 q2 q3 q4 q5 q6 f1 f2 f3 f4 f5 f6
        generalize (set3 (set3 w6 (w.heap.size) (.slice x1 X.x.length y1) (.slice x2 X.u.length y2) (.slice x3 X.v.length y3)) (w.heap.size + 1) (.slice x4 Y.x.length y4) (.slice x5 Y.u.length y5) (.slice x6 Y.v.length y6)).drew = wF at F ⊢
        obtain ⟨F1, F2, _, F4, F5⟩ := F
        have FR := hide (F4 _ _ _ _ RY)
        have FN := hide (F4 _ _ _ _ RX)
        have FB := hide (F5 _ _ B3 (Nat.le_refl _) (by omega))
        clear F4 F5 RX RY B3
        obtain ⟨q1, q2, q3⟩ := F2.cell
        obtain ⟨q4, q5, q6⟩ := F1.cell
        go_wp2
        rw [Exit.noGoto_ret]
        refine bodyPost_ret (v := .tuple #[.agg #[.slice x1 X.x.length y1, .slice x2 X.u.length y2, .slice x3 X.v.length y3], .agg #[.slice x4 Y.x.length y4, .slice x5 Y.u.length y5, .slice x6 Y.v.length y6]]) ?_ rfl ⟨_, _, _, _, _, _, X, Y, rfl, FN.out, FR.out, ⟨_, HD.out 1 _ _ (.inr (.inl ⟨by omega, hy, rfl, rfl⟩))⟩, FB.out⟩
        simp [results, Tryz.results100, go_sem, q1, q2, q3, q4, q5, q6]))
    · have hy1 : ¬ (Y.x.length : Int) - 1 < s := by omega
      have hyn : Y.x ≠ [] := fun e0 => hy (by rw [e0]; exact Nat.zero_le _)
      go_wp2
      clear f1 f2 f3 f4 f5 f6 q4 q5 q6
      go_region_with (go_at_call 119; refine (HF.out X Y _ _ _ _ _ _ _ HI.out (RX.below (drew_below _)) (RY.below (drew_below _)) hyn).mono ?_; rintro e w6 ⟨e0, e1, e2, Z, rfl, RZ, hn, hb6⟩; obtain ⟨x7, y7, rfl, _⟩ := RZ.1.spell; obtain ⟨x8, y8, rfl, _⟩ := RZ.2.1.spell; obtain ⟨x9, y9, rfl, _⟩ := RZ.2.2.spell; have HK6 := hide ((HK5.out.below (drew_below _)).below hb6); have r2 := HK6.out.2.1.cell; have r21 := r2.1; have r22 := r2.2.1; have r23 := r2.2.2; clear r2; have r3 := HK6.out.2.2.1.cell; have r31 := r3.1; have r32 := r3.2.1; have r33 := r3.2.2; clear r3; have f1 := HK6.out.2.1.free 0; have f2 := HK6.out.2.1.free 1; have f3 := HK6.out.2.1.free 2; have f4 := HK6.out.2.2.1.free 0; have f5 := HK6.out.2.2.1.free 1; have f6 := HK6.out.2.2.1.free 2)
      all_goals (
       have E : ((((((w6.setCell ⟨w.heap.size + 1, 0, none⟩ (.slice x4 Y.x.length y4)).setCell ⟨w.heap.size + 1, 1, none⟩ (.slice x5 Y.u.length y5)).setCell ⟨w.heap.size + 1, 2, none⟩ (.slice x6 Y.v.length y6)).setCell ⟨w2.heap.size + 1, 0, none⟩ (.slice x7 Z.x.length y7)).setCell ⟨w2.heap.size + 1, 1, none⟩ (.slice x8 Z.u.length y8)).setCell ⟨w2.heap.size + 1, 2, none⟩ (.slice x9 Z.v.length y9)) = (set3 (set3 w6 (w.heap.size + 1) (.slice x4 Y.x.length y4) (.slice x5 Y.u.length y5) (.slice x6 Y.v.length y6)) (w2.heap.size + 1) (.slice x7 Z.x.length y7) (.slice x8 Z.u.length y8) (.slice x9 Z.v.length y9)) := rfl
       clear T1 T2 T3 RX RY B3
       obtain ⟨T1, T2, T3, RX, RY, B3⟩ := HK6.out
       have F := set_two0 (e0 := .slice x4 Y.x.length y4) (e1 := .slice x5 Y.u.length y5) (e2 := .slice x6 Y.v.length y6) (d0 := .slice x7 Z.x.length y7) (d1 := .slice x8 Z.u.length y8) (d2 := .slice x9 Z.v.length y9) T2 T3 (by omega) RX.1.sl RX.2.1.sl RX.2.2.sl RY.1.sl RY.2.1.sl RY.2.2.sl
       rw [E]
       clear E q1 q2 q3 q7 q8 q9 f1 f2 f3 f4 f5 f6 r21 r22 r23 r31 r32 r33
       generalize (set3 (set3 w6 (w.heap.size + 1) (.slice x4 Y.x.length y4) (.slice x5 Y.u.length y5) (.slice x6 Y.v.length y6)) (w2.heap.size + 1) (.slice x7 Z.x.length y7) (.slice x8 Z.u.length y8) (.slice x9 Z.v.length y9)) = w7 at F ⊢
       obtain ⟨F1, F2, F3, F4, F5⟩ := F
       have HK7 : Hid (DK 131 w w.heap.size (w.heap.size + 1) (w2.heap.size + 1) _ _ _ _ _ _ Y Z w7) := ⟨F3 _ _ _ _ (by omega) (by omega) T1, F1, F2, F4 _ _ _ _ RY, F4 _ _ _ _ RZ, F5 _ _ B3 (by omega) (by omega)⟩
       have m1 := HK7.out.2.2.1.cell.1
       have m2 := HK.out.2.2.1.cell.1
       go_wp2
       go_roundw
       case rel => exact ⟨_, _, _, _, _, _, Y, Z, n + 1, HN.out _ _ _ HI.out hn, (fun m A B hd => by
        have := HD.out (m + 1) A B (.inr (.inr ⟨by omega, by omega, Z, hn, hd⟩))
        have e : m + (n + 1) = m + 1 + n := by omega
        rw [e]; exact this), HK7⟩
       case measure =>
        rw [m1, m2]
        obtain ⟨q, hd, _⟩ := hn
        have := hd.2.2.2.2.1
        rw [HI.out.sx.2] at this
        exact this)
end Go.Proofs.YtnapbdoalfbgnaaGreat
