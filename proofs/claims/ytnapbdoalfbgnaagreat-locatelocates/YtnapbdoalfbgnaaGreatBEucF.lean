import Derived.Test.YtnapbdoalfbgnaaGreatBEucE
set_option linter.unusedVariables false
set_option linter.unusedSimpArgs false
set_option maxRecDepth 100000
set_option maxHeartbeats 4000000
namespace Go.Proofs.YtnapbdoalfbgnaaGreat
open Go.RowKit Fld
def PtE (f : Int) (a b : List Int) (s : Int) (B : R3) : Prop := (stE f a b s ≠ 0 → B = R3.nil) ∧ (stE f a b s = 0 → ∃ A, Fnd (pOf f) s.toNat a b A B)
theorem al_two (w : World) (T : TypeId) (c0 c1 c2 d0 d1 d2 : Value) (A B : R3) (RA : Rr w c0 c1 c2 A) (RB : Rr w d0 d1 d2 B) :
 Th T w.heap.size c0 c1 c2 ((w.alloc (.cells #[c0, c1, c2] T)).alloc (.cells #[d0, d1, d2] T)) ∧ Th T (w.heap.size + 1) d0 d1 d2 ((w.alloc (.cells #[c0, c1, c2] T)).alloc (.cells #[d0, d1, d2] T)) ∧
  Rr ((w.alloc (.cells #[c0, c1, c2] T)).alloc (.cells #[d0, d1, d2] T)) c0 c1 c2 A ∧ Rr ((w.alloc (.cells #[c0, c1, c2] T)).alloc (.cells #[d0, d1, d2] T)) d0 d1 d2 B ∧ Below w.heap.size w ((w.alloc (.cells #[c0, c1, c2] T)).alloc (.cells #[d0, d1, d2] T)) := by
 have a1 := alloc_below w (.cells #[c0, c1, c2] T)
 have a2 := alloc_below (w.alloc (.cells #[c0, c1, c2] T)) (.cells #[d0, d1, d2] T)
 have t2 := Th.first (w.alloc (.cells #[c0, c1, c2] T)) d0 d1 d2 T
 have e : (w.alloc (.cells #[c0, c1, c2] T)).heap.size = w.heap.size + 1 := by simp
 rw [e] at t2
 exact ⟨(Th.first w c0 c1 c2 T).below a2, t2, (RA.below a1).below a2, (RB.below a1).below a2, Below.next a1 a2⟩
theorem div_ok {f p : Int} {wd : Bool} (h : Fi f p wd) {xs ys : List Int} (hx : Els p xs) (hy : Tm p ys) (l1 : xs.length ≤ 4096) (l2 : ys.length ≤ 4096) : divE f xs ys = if ys = [] then 5 else 0 := by
 unfold divE
 rw [er_yes h (allIn_of hx) (allIn_of hy.1) l1 l2, if_pos rfl, hy.2]
theorem DvE.dv {f p : Int} {wd : Bool} (h : Fi f p wd) {xs ys A B : List Int} (he : divE f xs ys = 0) (hs : DvE f xs ys A B) : Dv p xs ys A B := by have := hs.2 he; rw [pOf_eq h] at this; exact this
theorem rr_nil (w : World) : Rr w (.slice none 0 0) (.slice none 0 0) (.slice none 0 0) R3.nil := ⟨rw0 _, rw0 _, rw0 _⟩
theorem ePartial_any (f : Int) (va vb : Value) (a b : List Int) (s : Int) (w : World) (h1 : Rw w va a) (h2 : Rw w vb b) :
 Calls Tryz.prog 78 #[.int .u8 f, va, vb, .int .i64 s] w fun e w' => ∃ c0 c1 c2 B, e = .returned (.tuple #[c0, c1, c2, .int .i64 (stE f a b s)]) ∧ Rr w' c0 c1 c2 B ∧ PtE f a b s B ∧ Below w.heap.size w w' := by
 have hk := hide (eStop_any f va vb a b s w h1 h2)
 by_cases he : stE f a b s = 0
 · obtain ⟨hs, hc⟩ := stE_zero he
   obtain ⟨p, wd, hf, i1, i2, la, lb⟩ := chE_zero hc
   have hd := hide (fun W (hb : Below w.heap.size w W) => descend_any f p wd va vb a b s W hf (h1.below hb) (h2.below hb) (els_of i1 h1.words) (els_of i2 h2.words) la lb hs)
   have HP : Hid (∀ A B, Fnd p s.toNat a b A B → PtE f a b s B) := fun A B hv => ⟨fun h0 => absurd he h0, fun _ => ⟨A, by rw [pOf_eq hf]; exact hv⟩⟩
   rw [he]
   rw [he] at hk
   clear h1 h2 hf hc he
   go_enter Tryz.func78, Tryz.ntmps78
   go_wp2_with fail
   refine hk.out.mono ?_; rintro e w1 ⟨rfl, hb1⟩
   go_wp2_with fail
   refine (hd.out _ hb1).mono ?_; rintro e w2 ⟨c0, c1, c2, d0, d1, d2, A, B, rfl, RA, RB, hv, hb2⟩
   obtain ⟨x1, y1, rfl, _⟩ := RA.1.spell
   obtain ⟨x2, y2, rfl, _⟩ := RA.2.1.spell
   obtain ⟨x3, y3, rfl, _⟩ := RA.2.2.spell
   obtain ⟨x4, y4, rfl, _⟩ := RB.1.spell
   obtain ⟨x5, y5, rfl, _⟩ := RB.2.1.spell
   obtain ⟨x6, y6, rfl, _⟩ := RB.2.2.spell
   have hb3 := Below.next hb1 hb2
   have HA := hide (al_two w2 131 _ _ _ _ _ _ A B RA RB)
   clear RA RB
   go_wp2
   generalize ((w2.alloc (.cells #[.slice x1 A.x.length y1, .slice x2 A.u.length y2, .slice x3 A.v.length y3] 131)).alloc (.cells #[.slice x4 B.x.length y4, .slice x5 B.u.length y5, .slice x6 B.v.length y6] 131)) = w3 at HA ⊢
   obtain ⟨T1, T2, RA, RB, hb4⟩ := HA.out
   obtain ⟨q1, q2, q3⟩ := T2.cell
   have HRB := hide RB
   clear T1 T2 RA RB HA
   go_quiet (fail)
   have hb5 := Below.next hb3 hb4
   have hb6 := below_drewN hb5 nq
   have HR := hide (HRB.out.below (below_drewN (Below.refl w3.heap.size w3) nq))
   go_wp2
   refine bodyPost_ret (v := .tuple #[.slice x4 B.x.length y4, .slice x5 B.u.length y5, .slice x6 B.v.length y6, .int .i64 0]) ?_ rfl ⟨_, _, _, B, rfl, HR.out, HP.out _ _ hv, hb6⟩
   simp [results, Tryz.results78, go_sem]
 · have ht : (stE f a b s != 0) = true := bne_iff_ne.2 he
   have HP : Hid (PtE f a b s R3.nil) := ⟨fun _ => rfl, fun h0 => absurd h0 he⟩
   clear h1 h2 he
   generalize stE f a b s = e0 at *
   go_enter Tryz.func78, Tryz.ntmps78
   go_wp2_with (go_at_call 99; refine hk.out.mono ?_; rintro e w1 ⟨rfl, hb⟩)
   refine bodyPost_ret (v := .tuple #[.slice none 0 0, .slice none 0 0, .slice none 0 0, .int .i64 e0]) ?_ rfl ⟨_, _, _, _, rfl, rr_nil _, HP.out, hb⟩
   simp [results, Tryz.results78, go_sem]
end Go.Proofs.YtnapbdoalfbgnaaGreat
