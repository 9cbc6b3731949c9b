import Derived.Test.YtnakbpaiidolbaaGreatBRplB
import Derived.Test.YtnakbpaiidolbaaGreatBunH
import Derived.Test.YtnakbpaiidolbaaGreatBEvqF
import Derived.Laws.EntriesVeiled
import Derived.Test.YtnakbpaiidolbaaGreatBPlrA
namespace Go.Proofs.YtnakbpaiidolbaaGreat
open Go.RowKit Fld Slp Pln Shr
set_option linter.unusedVariables false
set_option linter.unusedSimpArgs false
theorem cell_at {W : World} {b i : Nat} {cs : Array Value} {T : TypeId} {fz : Nat × Nat} {x : Value} (h : W.heap[b]? = some (.cells cs T fz)) (hx : cs[i]? = some x) : W.cell? ⟨b, i, none⟩ = some x := by
 unfold World.cell?; simp [h, hx]
def tkl (p : Pn) (n : Int) (vo vu : Value) : List Value := [.int .u8 p.f, .int .i64 p.n, .int .i64 p.k, .int .i64 p.t, .int .i64 p.s, .int .i64 p.e, .int .i64 p.d, .int .i64 p.w, .int .i64 n, vo, vu]
theorem tk_cells {W : World} {b : Nat} {p : Pn} {n : Int} {vo vu : Value} {l : List Value} {T : TypeId} {fz : Nat × Nat} (h : W.heap[b]? = some (.cells (tkl p n vo vu ++ l).toArray T fz)) : (W.cell? ⟨b, 0, none⟩ = some (.int .u8 p.f) ∧ W.cell? ⟨b, 1, none⟩ = some (.int .i64 p.n) ∧ W.cell? ⟨b, 2, none⟩ = some (.int .i64 p.k) ∧ W.cell? ⟨b, 3, none⟩ = some (.int .i64 p.t) ∧ W.cell? ⟨b, 4, none⟩ = some (.int .i64 p.s) ∧ W.cell? ⟨b, 5, none⟩ = some (.int .i64 p.e) ∧ W.cell? ⟨b, 6, none⟩ = some (.int .i64 p.d) ∧ W.cell? ⟨b, 7, none⟩ = some (.int .i64 p.w)) ∧ W.cell? ⟨b, 8, none⟩ = some (.int .i64 n) ∧ W.cell? ⟨b, 9, none⟩ = some vo ∧ W.cell? ⟨b, 10, none⟩ = some vu :=
 ⟨⟨cell_at h rfl, cell_at h rfl, cell_at h rfl, cell_at h rfl, cell_at h rfl, cell_at h rfl, cell_at h rfl, cell_at h rfl⟩, cell_at h rfl, cell_at h rfl, cell_at h rfl⟩
theorem tk_box (w : World) (p : Pn) (n : Int) (vo vu : Value) (T : TypeId) : Below w.heap.size w (w.alloc (.cells #[.int .u8 p.f, .int .i64 p.n, .int .i64 p.k, .int .i64 p.t, .int .i64 p.s, .int .i64 p.e, .int .i64 p.d, .int .i64 p.w, .int .i64 n, vo, vu] T)) ∧ ∀ W, Below (w.heap.size + 1) (w.alloc (.cells #[.int .u8 p.f, .int .i64 p.n, .int .i64 p.k, .int .i64 p.t, .int .i64 p.s, .int .i64 p.e, .int .i64 p.d, .int .i64 p.w, .int .i64 n, vo, vu] T)) W → (W.cell? ⟨w.heap.size, 0, none⟩ = some (.int .u8 p.f) ∧ W.cell? ⟨w.heap.size, 1, none⟩ = some (.int .i64 p.n) ∧ W.cell? ⟨w.heap.size, 2, none⟩ = some (.int .i64 p.k) ∧ W.cell? ⟨w.heap.size, 3, none⟩ = some (.int .i64 p.t) ∧ W.cell? ⟨w.heap.size, 4, none⟩ = some (.int .i64 p.s) ∧ W.cell? ⟨w.heap.size, 5, none⟩ = some (.int .i64 p.e) ∧ W.cell? ⟨w.heap.size, 6, none⟩ = some (.int .i64 p.d) ∧ W.cell? ⟨w.heap.size, 7, none⟩ = some (.int .i64 p.w)) ∧ W.cell? ⟨w.heap.size, 8, none⟩ = some (.int .i64 n) ∧ W.cell? ⟨w.heap.size, 9, none⟩ = some vo ∧ W.cell? ⟨w.heap.size, 10, none⟩ = some vu :=
 ⟨alloc_below _ _, fun W hb => tk_cells (l := []) (T := T) (fz := (0, 0)) ((hb.block _ (Nat.lt_succ_self _)).trans (heap_alloc_new _ _))⟩
set_option maxRecDepth 100000 in
set_option maxHeartbeats 1000000 in
theorem tFits (p : Pn) (q : Pr) (vo vu : Value) (w : World) (hp : Ok8p p) (hq : Pm w (.agg #[.int .i64 q.inp, vo, vu]) q) : Calls Tryz.prog 31 #[.agg #[.int .u8 p.f, .int .i64 p.n, .int .i64 p.k, .int .i64 p.t, .int .i64 p.s, .int .i64 p.e, .int .i64 p.d, .int .i64 p.w, .int .i64 q.inp, vo, vu]] w fun e w' => e = .returned (.bool (fitQ p q)) ∧ Below w.heap.size w w' := by
 have HM := hide (gMay p hp)
 unfold Ans at HM
 rw [plan_eq] at HM
 have HO := hide (fun W (hb : Below w.heap.size w W) => gOf _ q W (hq.below hb))
 unfold IsOf at HO
 obtain ⟨v1, v2, e, ho, hu⟩ := hq.form
 injection e with e
 injection e with e
 injection e with _ e
 injection e with e1 e
 injection e with e2 _
 subst e1 e2
 obtain ⟨ao, ca, rfl, _⟩ := ho.spell
 obtain ⟨au, cu, rfl, _⟩ := hu.spell
 obtain ⟨hA, hS⟩ := tk_box w p q.inp (.slice ao q.ops.length ca) (.slice au q.outs.length cu) 73
 have HS := hide hS
 clear hS ho hu hq hp
 have hF : fitQ p q = (mayP p && (decide (ofE q = 0) && (decide (q.inp = p.w) && decide (ofV q ≤ p.d)))) := rfl
 cases hm : mayP p with
 | false =>
  rw [hm] at HM hF
  rw [hF]
  clear hF hm
  go_enter Tryz.func31, Tryz.ntmps31
  go_wp2_with (go_at_call 55; refine (HM.out _).mono ?_; rintro e w1 ⟨rfl, hb1⟩; have hB1 := Below.next hA hb1)
  go_ret
  exact ⟨rfl, hB1⟩
 | true =>
  rw [hm] at HM hF
  by_cases hi : q.inp = p.w
  · have hne : (q.inp != p.w) = false := by simp [hi]
    have hF : fitQ p q = (decide (ofE q = 0) && decide (ofV q ≤ p.d)) := by rw [hF]; simp [hi]
    rw [hF]
    clear hF hm hi
    generalize ofE q = er at *
    generalize ofV q = dv at *
    by_cases he : er = 0
    · subst he
      rw [show (decide ((0 : Int) = 0) && decide (dv ≤ p.d)) = decide (dv ≤ p.d) by simp]
      go_enter Tryz.func31, Tryz.ntmps31
      go_wp2_with (first
       | (go_at_call 55; refine (HM.out _).mono ?_; rintro e w1 ⟨rfl, hb1⟩; have hB1 := Below.next hA hb1; obtain ⟨⟨c0, c1, c2, c3, c4, c5, c6, c7⟩, d0, d1, d2⟩ := HS.out _ (by simpa using hb1))
       | (go_at_call 56; refine (HO.out _ hB1).mono ?_; rintro e w2 ⟨rfl, hb2⟩; have hB2 := Below.next hB1 hb2; clear c0 c1 c2 c3 c4 c5 c6 c7 d0 d1 d2; obtain ⟨⟨c0, c1, c2, c3, c4, c5, c6, c7⟩, d0, d1, d2⟩ := HS.out _ (by simpa using Below.next hb1 hb2)))
      go_ret
      exact ⟨rfl, hB2⟩
    · have he' : (er == 0) = false := by simp [he]
      rw [show (decide (er = 0) && decide (dv ≤ p.d)) = false by simp [he]]
      clear he
      go_enter Tryz.func31, Tryz.ntmps31
      go_wp2_with (first
       | (go_at_call 55; refine (HM.out _).mono ?_; rintro e w1 ⟨rfl, hb1⟩; have hB1 := Below.next hA hb1; obtain ⟨⟨c0, c1, c2, c3, c4, c5, c6, c7⟩, d0, d1, d2⟩ := HS.out _ (by simpa using hb1))
       | (go_at_call 56; refine (HO.out _ hB1).mono ?_; rintro e w2 ⟨rfl, hb2⟩; have hB2 := Below.next hB1 hb2; clear c0 c1 c2 c3 c4 c5 c6 c7 d0 d1 d2; obtain ⟨⟨c0, c1, c2, c3, c4, c5, c6, c7⟩, d0, d1, d2⟩ := HS.out _ (by simpa using Below.next hb1 hb2)))
      go_ret
      exact ⟨rfl, hB2⟩
  · have hne : (q.inp != p.w) = true := bne_iff_ne.2 hi
    rw [show fitQ p q = false by rw [hF]; simp [hi]]
    clear hF hm hi
    go_enter Tryz.func31, Tryz.ntmps31
    go_wp2_with (go_at_call 55; refine (HM.out _).mono ?_; rintro e w1 ⟨rfl, hb1⟩; have hB1 := Below.next hA hb1; obtain ⟨⟨c0, c1, c2, c3, c4, c5, c6, c7⟩, d0, d1, d2⟩ := HS.out _ (by simpa using hb1))
    go_ret
    exact ⟨rfl, hB1⟩
theorem tk_box3 (w : World) (p : Pn) (n : Int) (vo vu vr : Value) (T1 T2 T3 : TypeId) : ∃ W1, ((w.alloc (.cells #[.int .u8 p.f, .int .i64 p.n, .int .i64 p.k, .int .i64 p.t, .int .i64 p.s, .int .i64 p.e, .int .i64 p.d, .int .i64 p.w] T1)).alloc (.cells #[.int .i64 n, vo, vu] T2)).alloc (.cells #[.int .u8 p.f, .int .i64 p.n, .int .i64 p.k, .int .i64 p.t, .int .i64 p.s, .int .i64 p.e, .int .i64 p.d, .int .i64 p.w, .int .i64 n, vo, vu, vr] T3) = W1 ∧ Below w.heap.size w W1 ∧ ∀ W, Below W1.heap.size W1 W → (W.cell? ⟨w.heap.size + 1 + 1, 0, none⟩ = some (.int .u8 p.f) ∧ W.cell? ⟨w.heap.size + 1 + 1, 1, none⟩ = some (.int .i64 p.n) ∧ W.cell? ⟨w.heap.size + 1 + 1, 2, none⟩ = some (.int .i64 p.k) ∧ W.cell? ⟨w.heap.size + 1 + 1, 3, none⟩ = some (.int .i64 p.t) ∧ W.cell? ⟨w.heap.size + 1 + 1, 4, none⟩ = some (.int .i64 p.s) ∧ W.cell? ⟨w.heap.size + 1 + 1, 5, none⟩ = some (.int .i64 p.e) ∧ W.cell? ⟨w.heap.size + 1 + 1, 6, none⟩ = some (.int .i64 p.d) ∧ W.cell? ⟨w.heap.size + 1 + 1, 7, none⟩ = some (.int .i64 p.w)) ∧ W.cell? ⟨w.heap.size + 1 + 1, 8, none⟩ = some (.int .i64 n) ∧ W.cell? ⟨w.heap.size + 1 + 1, 9, none⟩ = some vo ∧ W.cell? ⟨w.heap.size + 1 + 1, 10, none⟩ = some vu ∧ W.cell? ⟨w.heap.size + 1 + 1, 11, none⟩ = some vr := by
 refine ⟨_, rfl, Below.next (Below.next (alloc_below _ _) (alloc_below _ _)) (alloc_below _ _), fun W hb => ?_⟩
 have hN := heap_alloc_new ((w.alloc (.cells #[.int .u8 p.f, .int .i64 p.n, .int .i64 p.k, .int .i64 p.t, .int .i64 p.s, .int .i64 p.e, .int .i64 p.d, .int .i64 p.w] T1)).alloc (.cells #[.int .i64 n, vo, vu] T2)) (.cells #[.int .u8 p.f, .int .i64 p.n, .int .i64 p.k, .int .i64 p.t, .int .i64 p.s, .int .i64 p.e, .int .i64 p.d, .int .i64 p.w, .int .i64 n, vo, vu, vr] T3)
 have h1 := (hb.block _ (Array.getElem?_eq_some_iff.1 hN).1).trans hN
 have hs : ((w.alloc (.cells #[.int .u8 p.f, .int .i64 p.n, .int .i64 p.k, .int .i64 p.t, .int .i64 p.s, .int .i64 p.e, .int .i64 p.d, .int .i64 p.w] T1)).alloc (.cells #[.int .i64 n, vo, vu] T2)).heap.size = w.heap.size + 1 + 1 := by simp
 rw [hs] at h1
 obtain ⟨a, b, c, d⟩ := tk_cells (l := [vr]) h1
 exact ⟨a, b, c, d, cell_at h1 rfl⟩
set_option maxRecDepth 100000 in
set_option maxHeartbeats 1000000 in
theorem iOutE (p : Pn) (q : Pr) (vo vu vi : Value) (xs : List Int) (w : World) (hq : Pm w (.agg #[.int .i64 q.inp, vo, vu]) q) (hr : Rw w vi xs) : Gives 49 #[.agg #[.int .u8 p.f, .int .i64 p.n, .int .i64 p.k, .int .i64 p.t, .int .i64 p.s, .int .i64 p.e, .int .i64 p.d, .int .i64 p.w, .int .i64 q.inp, vo, vu, .func (.func 27) #[] #[]], vi] w (ruL p.f q xs) (evE p.f q xs) := by
 unfold Gives
 have HR := hide (fun W (hb : Below w.heap.size w W) => eRun p.f q _ _ xs W (hq.below hb) (hr.below hb))
 unfold Gives at HR
 have hA := alloc_below w (.cells #[.int .u8 p.f, .int .i64 p.n, .int .i64 p.k, .int .i64 p.t, .int .i64 p.s, .int .i64 p.e, .int .i64 p.d, .int .i64 p.w, .int .i64 q.inp, vo, vu, .func (.func 27) #[] #[]] 96)
 clear hq hr
 generalize ruL p.f q xs = rs at *
 generalize evE p.f q xs = er at *
 go_enter Tryz.func49, Tryz.ntmps49
 go_wp2_with (go_at_call 27; refine (HR.out _ hA).mono ?_; rintro e w1 ⟨v1, rfl, ho1, hb1⟩)
 go_ret2
 exact ⟨_, rfl, own_mono ho1 hA.size, Below.next hA hb1⟩
set_option maxRecDepth 100000 in
set_option maxHeartbeats 1000000 in
theorem iMadeE (p : Pn) (q : Pr) (vo vu : Value) (w : World) (hp : Ok8p p) (hq : Pm w (.agg #[.int .i64 q.inp, vo, vu]) q) : Calls Tryz.prog 26 #[plv p, .agg #[.int .i64 q.inp, vo, vu], .func (.func 27) #[] #[]] w fun e w' => e = .returned (.tuple #[if fitQ p q = true then .func (.func 49) #[.agg #[.int .u8 p.f, .int .i64 p.n, .int .i64 p.k, .int .i64 p.t, .int .i64 p.s, .int .i64 p.e, .int .i64 p.d, .int .i64 p.w, .int .i64 q.inp, vo, vu, .func (.func 27) #[] #[]]] #[] else .nilFunc, .int .i64 (ftQ p q)]) ∧ Below w.heap.size w w' := by
 obtain ⟨v1, v2, e, ho, hu⟩ := hq.form
 injection e with e
 injection e with e
 injection e with _ e
 injection e with e1 e
 injection e with e2 _
 subst e1 e2
 obtain ⟨ao, ca, rfl, _⟩ := ho.spell
 obtain ⟨au, cu, rfl, _⟩ := hu.spell
 have HF := hide (fun W (hb : Below w.heap.size w W) => tFits p q _ _ W hp (hq.below hb))
 obtain ⟨W1, hW, hA, hS⟩ := tk_box3 w p q.inp (.slice ao q.ops.length ca) (.slice au q.outs.length cu) (.func (.func 27) #[] #[]) 24 28 96
 have HW := hide hW
 have HS := hide hS
 clear hW hS hq hp ho hu
 obtain ⟨⟨c0, c1, c2, c3, c4, c5, c6, c7⟩, d0, d1, d2, d3⟩ := HS.out _ (Below.refl _ _)
 rw [plan_eq]
 cases hf : fitQ p q with
 | false =>
  rw [ftQ_no hf, if_neg (by decide)]
  rw [hf] at HF
  clear hf
  go_enter Tryz.func26, Tryz.ntmps26
  go_upto_region 2 with fail
  rw [HW.out]
  go_wp2_with (go_at_call 31; refine (HF.out _ hA).mono ?_; rintro e w1 ⟨rfl, hb1⟩; have hB1 := Below.next hA hb1)
  go_ret2
  exact ⟨rfl, hB1⟩
 | true =>
  rw [ftQ_yes hf, if_pos rfl]
  rw [hf] at HF
  clear hf
  have hmf : ∀ (fn : Fn) (first cap : Array Value) (w : World), (Instr.makeFunc fn first cap).run Tryz.prog w = .ok (.func fn first cap) w := fun _ _ _ _ => rfl
  go_enter Tryz.func26, Tryz.ntmps26
  go_upto_region 2 with fail
  rw [HW.out]
  go_wp2_with (go_at_call 31; refine (HF.out _ hA).mono ?_; rintro e w1 ⟨rfl, hb1⟩; have hB1 := Below.next hA hb1; clear c0 c1 c2 c3 c4 c5 c6 c7 d0 d1 d2 d3; obtain ⟨⟨c0, c1, c2, c3, c4, c5, c6, c7⟩, d0, d1, d2, d3⟩ := HS.out _ hb1)
  go_ret2
  exact ⟨rfl, hB1⟩
set_option maxRecDepth 100000 in
set_option maxHeartbeats 1000000 in
theorem iOutQ (p : Pn) (q : Pr) (vo vu vi : Value) (xs : List (List Int)) (w : World) (hq : Pm w (.agg #[.int .i64 q.inp, vo, vu]) q) (hr : Rws w vi xs) : GivesL11 59 #[.agg #[.int .u8 p.f, .int .i64 p.n, .int .i64 p.k, .int .i64 p.t, .int .i64 p.s, .int .i64 p.e, .int .i64 p.d, .int .i64 p.w, .int .i64 q.inp, vo, vu, .func (.func 35) #[] #[]], vi] w (coL p.f q xs) (coE p.f q xs) := by
 unfold GivesL11
 have HR := hide (fun W (hb : Below w.heap.size w W) => qCompose p.f q _ _ xs W (hq.below hb) (hr.below hb))
 unfold GivesL11 at HR
 have hA := alloc_below w (.cells #[.int .u8 p.f, .int .i64 p.n, .int .i64 p.k, .int .i64 p.t, .int .i64 p.s, .int .i64 p.e, .int .i64 p.d, .int .i64 p.w, .int .i64 q.inp, vo, vu, .func (.func 35) #[] #[]] 106)
 clear hq hr
 generalize coL p.f q xs = rs at *
 generalize coE p.f q xs = er at *
 go_enter Tryz.func59, Tryz.ntmps59
 go_wp2_with (go_at_call 35; refine (HR.out _ hA).mono ?_; rintro e w1 ⟨v1, us1, rfl, ho1, hb1⟩)
 go_ret2
 exact ⟨_, us1, rfl, ho1.low hA.size, Below.next hA hb1⟩
set_option maxRecDepth 100000 in
set_option maxHeartbeats 1000000 in
theorem iMadeQ (p : Pn) (q : Pr) (vo vu : Value) (w : World) (hp : Ok8p p) (hq : Pm w (.agg #[.int .i64 q.inp, vo, vu]) q) : Calls Tryz.prog 34 #[plv p, .agg #[.int .i64 q.inp, vo, vu], .func (.func 35) #[] #[]] w fun e w' => e = .returned (.tuple #[if fitQ p q = true then .func (.func 59) #[.agg #[.int .u8 p.f, .int .i64 p.n, .int .i64 p.k, .int .i64 p.t, .int .i64 p.s, .int .i64 p.e, .int .i64 p.d, .int .i64 p.w, .int .i64 q.inp, vo, vu, .func (.func 35) #[] #[]]] #[] else .nilFunc, .int .i64 (ftQ p q)]) ∧ Below w.heap.size w w' := by
 obtain ⟨v1, v2, e, ho, hu⟩ := hq.form
 injection e with e
 injection e with e
 injection e with _ e
 injection e with e1 e
 injection e with e2 _
 subst e1 e2
 obtain ⟨ao, ca, rfl, _⟩ := ho.spell
 obtain ⟨au, cu, rfl, _⟩ := hu.spell
 have HF := hide (fun W (hb : Below w.heap.size w W) => tFits p q _ _ W hp (hq.below hb))
 obtain ⟨W1, hW, hA, hS⟩ := tk_box3 w p q.inp (.slice ao q.ops.length ca) (.slice au q.outs.length cu) (.func (.func 35) #[] #[]) 24 28 106
 have HW := hide hW
 have HS := hide hS
 clear hW hS hq hp ho hu
 obtain ⟨⟨c0, c1, c2, c3, c4, c5, c6, c7⟩, d0, d1, d2, d3⟩ := HS.out _ (Below.refl _ _)
 rw [plan_eq]
 cases hf : fitQ p q with
 | false =>
  rw [ftQ_no hf, if_neg (by decide)]
  rw [hf] at HF
  clear hf
  go_enter Tryz.func34, Tryz.ntmps34
  go_upto_region 2 with fail
  rw [HW.out]
  go_wp2_with (go_at_call 31; refine (HF.out _ hA).mono ?_; rintro e w1 ⟨rfl, hb1⟩; have hB1 := Below.next hA hb1)
  go_ret2
  exact ⟨rfl, hB1⟩
 | true =>
  rw [ftQ_yes hf, if_pos rfl]
  rw [hf] at HF
  clear hf
  have hmf : ∀ (fn : Fn) (first cap : Array Value) (w : World), (Instr.makeFunc fn first cap).run Tryz.prog w = .ok (.func fn first cap) w := fun _ _ _ _ => rfl
  go_enter Tryz.func34, Tryz.ntmps34
  go_upto_region 2 with fail
  rw [HW.out]
  go_wp2_with (go_at_call 31; refine (HF.out _ hA).mono ?_; rintro e w1 ⟨rfl, hb1⟩; have hB1 := Below.next hA hb1; clear c0 c1 c2 c3 c4 c5 c6 c7 d0 d1 d2 d3; obtain ⟨⟨c0, c1, c2, c3, c4, c5, c6, c7⟩, d0, d1, d2, d3⟩ := HS.out _ hb1)
  go_ret2
  exact ⟨rfl, hB1⟩
end Go.Proofs.YtnakbpaiidolbaaGreat
namespace Go.Proofs.YtnakbpaiidolbaaGreat
open Go.RowKit Fld Slp Pln Shr
set_option linter.unusedVariables false
set_option linter.unusedSimpArgs false
theorem pq_box (w : World) (p : Pn) (n : Int) (vo vu : Value) (T1 T2 : TypeId) : ∃ W1, (w.alloc (.cells #[.int .u8 p.f, .int .i64 p.n, .int .i64 p.k, .int .i64 p.t, .int .i64 p.s, .int .i64 p.e, .int .i64 p.d, .int .i64 p.w] T1)).alloc (.cells #[.int .i64 n, vo, vu] T2) = W1 ∧ Below w.heap.size w W1 ∧ ∀ W, Below W1.heap.size W1 W → (W.cell? ⟨w.heap.size, 0, none⟩ = some (.int .u8 p.f) ∧ W.cell? ⟨w.heap.size, 1, none⟩ = some (.int .i64 p.n) ∧ W.cell? ⟨w.heap.size, 2, none⟩ = some (.int .i64 p.k) ∧ W.cell? ⟨w.heap.size, 3, none⟩ = some (.int .i64 p.t) ∧ W.cell? ⟨w.heap.size, 4, none⟩ = some (.int .i64 p.s) ∧ W.cell? ⟨w.heap.size, 5, none⟩ = some (.int .i64 p.e) ∧ W.cell? ⟨w.heap.size, 6, none⟩ = some (.int .i64 p.d) ∧ W.cell? ⟨w.heap.size, 7, none⟩ = some (.int .i64 p.w)) ∧ W.cell? ⟨w.heap.size + 1, 0, none⟩ = some (.int .i64 n) ∧ W.cell? ⟨w.heap.size + 1, 1, none⟩ = some vo ∧ W.cell? ⟨w.heap.size + 1, 2, none⟩ = some vu := by
 refine ⟨_, rfl, Below.next (alloc_below _ _) (alloc_below _ _), fun W hb => ?_⟩
 have h0 := heap_alloc_new w (.cells #[.int .u8 p.f, .int .i64 p.n, .int .i64 p.k, .int .i64 p.t, .int .i64 p.s, .int .i64 p.e, .int .i64 p.d, .int .i64 p.w] T1)
 have hb0 := alloc_below (w.alloc (.cells #[.int .u8 p.f, .int .i64 p.n, .int .i64 p.k, .int .i64 p.t, .int .i64 p.s, .int .i64 p.e, .int .i64 p.d, .int .i64 p.w] T1)) (.cells #[.int .i64 n, vo, vu] T2)
 have hN := heap_alloc_new (w.alloc (.cells #[.int .u8 p.f, .int .i64 p.n, .int .i64 p.k, .int .i64 p.t, .int .i64 p.s, .int .i64 p.e, .int .i64 p.d, .int .i64 p.w] T1)) (.cells #[.int .i64 n, vo, vu] T2)
 have h1 := (hb.block _ (Array.getElem?_eq_some_iff.1 hN).1).trans hN
 have h2 := ((Below.next hb0 hb).block _ (Array.getElem?_eq_some_iff.1 h0).1).trans h0
 have hs : (w.alloc (.cells #[.int .u8 p.f, .int .i64 p.n, .int .i64 p.k, .int .i64 p.t, .int .i64 p.s, .int .i64 p.e, .int .i64 p.d, .int .i64 p.w] T1)).heap.size = w.heap.size + 1 := by simp
 rw [hs] at h1
 exact ⟨⟨cell_at h2 rfl, cell_at h2 rfl, cell_at h2 rfl, cell_at h2 rfl, cell_at h2 rfl, cell_at h2 rfl, cell_at h2 rfl, cell_at h2 rfl⟩, cell_at h1 rfl, cell_at h1 rfl, cell_at h1 rfl⟩
set_option maxRecDepth 100000 in
set_option maxHeartbeats 1000000 in
theorem gCheckD (p : Pn) (vd : Value) (dl : List (List Int)) (w : World) (hp : Ok8p p) (h1 : Rws w vd dl) : Calls Tryz.prog 29 #[plv p, vd] w fun e w' => e = .returned (.int .i64 (bkE (noT p) dl [] [0])) ∧ Below w.heap.size w w' := by
 have HH := hide (fun W (hb : Below w.heap.size w W) => gShare (noT p) vd (.slice none 0 0) dl [] 0 W (ok_noT hp) (h1.below hb) (rws_nil W))
 unfold Gives at HH
 rw [plan_eq] at HH ⊢
 have e3 : (noT p).t = 0 := rfl
 rw [e3] at HH
 have e4 : (noT p).f = p.f ∧ (noT p).n = p.n ∧ (noT p).k = p.k ∧ (noT p).s = p.s ∧ (noT p).e = p.e ∧ (noT p).d = p.d ∧ (noT p).w = p.w := ⟨rfl, rfl, rfl, rfl, rfl, rfl, rfl⟩
 rw [e4.1, e4.2.1, e4.2.2.1, e4.2.2.2.1, e4.2.2.2.2.1, e4.2.2.2.2.2.1, e4.2.2.2.2.2.2] at HH
 clear e3 e4
 generalize bkE (noT p) dl [] [0] = er at *
 generalize shaL (noT p) dl [] 0 = rs at *
 obtain ⟨pb, hA⟩ := pb_box (w := w) p
 have HP := hide pb
 have HA := hide hA
 clear pb hA h1 hp
 go_enter Tryz.func29, Tryz.ntmps29
 go_upto_region 1 with fail
 obtain ⟨W1, HW⟩ : ∃ W1, Hid (w.alloc (.cells #[.int .u8 p.f, .int .i64 p.n, .int .i64 p.k, .int .i64 p.t, .int .i64 p.s, .int .i64 p.e, .int .i64 p.d, .int .i64 p.w] 24) = W1) := ⟨_, rfl⟩
 rw [HW.out] at HP HA ⊢
 obtain ⟨c0, c1, c2, c3, c4, c5, c6, c7⟩ := HP.out.cells
 have fz := HP.out.free
 go_upto_region 2 with fail
 clear c0 c1 c2 c3 c4 c5 c6 c7 fz
 obtain ⟨W2, HW2⟩ : ∃ W2, Hid (W1.setCell ⟨w.heap.size, 3, none⟩ (.int .i64 0) = W2) := ⟨_, rfl⟩
 have HQ := hide (HP.out.set (q := noT p) 3 (.int .i64 0) rfl)
 have HB := hide (below_set (k := 3) (v := .int .i64 0) HA.out (Nat.le_refl w.heap.size))
 rw [HW2.out] at HQ HB ⊢
 obtain ⟨c0, c1, c2, c3, c4, c5, c6, c7⟩ := HQ.out.cells
 go_wp2_with (go_at_call 39; refine (HH.out _ HB.out).mono ?_; rintro e w1 ⟨v1, rfl, ho1, hb1⟩)
 go_ret
 exact ⟨rfl, Below.next HB.out hb1⟩
set_option maxRecDepth 100000 in
set_option maxHeartbeats 1000000 in
theorem gFits (p : Pn) (q : Pr) (vq : Value) (w : World) (hp : Ok8p p) (hq : Pm w vq q) : Calls Tryz.prog 11 #[plv p, vq] w fun e w' => e = .returned (.int .i64 (ftQ p q)) ∧ Below w.heap.size w w' := by
 obtain ⟨vo, vu, rfl, ho, hu⟩ := hq.form
 obtain ⟨ao, ca, rfl, _⟩ := ho.spell
 obtain ⟨au, cu, rfl, _⟩ := hu.spell
 have HF := hide (fun W (hb : Below w.heap.size w W) => tFits p q _ _ W hp (hq.below hb))
 clear ho hu hq hp
 obtain ⟨W1, hW, hA, hS⟩ := pq_box w p q.inp (.slice ao q.ops.length ca) (.slice au q.outs.length cu) 24 28
 have HW := hide hW
 have HS := hide hS
 clear hW hS
 obtain ⟨⟨c0, c1, c2, c3, c4, c5, c6, c7⟩, d0, d1, d2⟩ := HS.out _ (Below.refl _ _)
 rw [plan_eq]
 cases hf : fitQ p q with
 | false =>
  rw [ftQ_no hf]
  rw [hf] at HF
  clear hf
  go_enter Tryz.func11, Tryz.ntmps11
  go_upto_region 1 with fail
  rw [HW.out]
  go_wp2_with (go_at_call 31; refine (HF.out _ hA).mono ?_; rintro e w1 ⟨rfl, hb1⟩)
  go_ret
  exact ⟨rfl, Below.next hA hb1⟩
 | true =>
  rw [ftQ_yes hf]
  rw [hf] at HF
  clear hf
  go_enter Tryz.func11, Tryz.ntmps11
  go_upto_region 1 with fail
  rw [HW.out]
  go_wp2_with (go_at_call 31; refine (HF.out _ hA).mono ?_; rintro e w1 ⟨rfl, hb1⟩)
  go_ret
  exact ⟨rfl, Below.next hA hb1⟩
set_option maxRecDepth 100000 in
set_option maxHeartbeats 1000000 in
theorem gReply (p : Pn) (q : Pr) (vq vi : Value) (xs : List Int) (w : World) (hp : Ok8p p) (hq : Pm w vq q) (hr : Rw w vi xs) : Gives 7 #[plv p, vq, vi] w (rpL p q xs) (rpE p q xs) := by
 unfold Gives
 obtain ⟨vo, vu, rfl, ho, hu⟩ := hq.form
 obtain ⟨ao, ca, rfl, _⟩ := ho.spell
 obtain ⟨au, cu, rfl, _⟩ := hu.spell
 have HM := hide (fun W (hb : Below w.heap.size w W) => iMadeE p q _ _ W hp (hq.below hb))
 have HO := hide (fun W (hb : Below w.heap.size w W) => iOutE p q _ _ vi xs W (hq.below hb) (hr.below hb))
 unfold Gives at HO
 obtain ⟨ai, ci, rfl, _⟩ := hr.spell
 generalize xs.length = ln at *
 clear ho hu hq hp hr
 obtain ⟨W1, hW, hA, hS⟩ := pq_box w p q.inp (.slice ao q.ops.length ca) (.slice au q.outs.length cu) 24 28
 have HW := hide hW
 have HS := hide hS
 clear hW hS
 obtain ⟨⟨c0, c1, c2, c3, c4, c5, c6, c7⟩, d0, d1, d2⟩ := HS.out _ (Below.refl _ _)
 rw [plan_eq] at *
 cases hf : fitQ p q with
 | false =>
  obtain ⟨e1, e2⟩ := rp_no (xs := xs) hf
  rw [e1, e2]
  rw [hf, ftQ_no hf, if_neg (by decide)] at HM
  clear hf e1 e2
  go_enter Tryz.func7, Tryz.ntmps7
  go_upto_region 1 with fail
  rw [HW.out]
  go_wp2_with (go_at_call 26; refine (HM.out _ hA).mono ?_; rintro e w1 ⟨rfl, hb1⟩; have hB1 := Below.next hA hb1; clear c0 c1 c2 c3 c4 c5 c6 c7 d0 d1 d2; obtain ⟨⟨c0, c1, c2, c3, c4, c5, c6, c7⟩, d0, d1, d2⟩ := HS.out _ hb1)
  go_ret2
  exact ⟨_, rfl, World.ownsRow_nil _ _ _ _, hB1⟩
 | true =>
  obtain ⟨e1, e2⟩ := rp_yes (xs := xs) hf
  rw [e1, e2]
  rw [hf, ftQ_yes hf, if_pos rfl] at HM
  clear hf e1 e2
  generalize ruL p.f q xs = rs at *
  generalize evE p.f q xs = er at *
  go_enter Tryz.func7, Tryz.ntmps7
  go_upto_region 1 with fail
  rw [HW.out]
  go_wp2_with (first
   | (go_at_call 26; refine (HM.out _ hA).mono ?_; rintro e w1 ⟨rfl, hb1⟩; have hB1 := Below.next hA hb1; clear c0 c1 c2 c3 c4 c5 c6 c7 d0 d1 d2; obtain ⟨⟨c0, c1, c2, c3, c4, c5, c6, c7⟩, d0, d1, d2⟩ := HS.out _ hb1)
   | (go_at_call 49; refine (HO.out _ hB1).mono ?_; rintro e w2 ⟨v2, rfl, ho2, hb2⟩))
  go_ret2
  exact ⟨_, rfl, own_mono ho2 hB1.size, Below.next hB1 hb2⟩
set_option maxRecDepth 100000 in
set_option maxHeartbeats 1000000 in
theorem gHonest (p : Pn) (q : Pr) (vq vd vp : Value) (dl pl : List (List Int)) (i : Int) (w : World) (hp : Ok8p p) (hq : Pm w vq q) (h1 : Rws w vd dl) (h2 : Rws w vp pl) : Gives 18 #[plv p, vq, vd, vp, .int .i64 i] w (hnL p q dl pl i) (hnE p q dl pl i) := by
 unfold Gives
 obtain ⟨vo, vu, rfl, ho, hu⟩ := hq.form
 obtain ⟨ao, ca, rfl, _⟩ := ho.spell
 obtain ⟨au, cu, rfl, _⟩ := hu.spell
 have HM := hide (fun W (hb : Below w.heap.size w W) => iMadeE p q _ _ W hp (hq.below hb))
 have HO := hide (fun W vi xs (hb : Below w.heap.size w W) (hr : Rw W vi xs) => iOutE p q _ _ vi xs W (hq.below hb) hr)
 have HSh := hide (fun W (hb : Below w.heap.size w W) => gShare p vd vp dl pl i W hp (h1.below hb) (h2.below hb))
 unfold Gives at HO HSh
 have W1' := h1.wordsH
 have W2' := h2.wordsH
 obtain ⟨_, _, q5⟩ := ans_wd (p := p) W1' W2'
 have WD5 : Hid (∀ W base n v, World.ownsRow W base 58 1 v n (vals (shaL p dl pl i)) → Rw W v (shaL p dl pl i)) := fun W base n v h => (q5 i).row h
 obtain ⟨ad, cd, rfl, _, _, _⟩ := h1
 obtain ⟨ap, cp, rfl, _, _, _⟩ := h2
 generalize dl.length = nd at *
 generalize pl.length = np at *
 clear ho hu hq hp q5
 obtain ⟨W1, hW, hA, hS⟩ := pq_box w p q.inp (.slice ao q.ops.length ca) (.slice au q.outs.length cu) 24 28
 have HW := hide hW
 have HS := hide hS
 clear hW hS
 obtain ⟨⟨c0, c1, c2, c3, c4, c5, c6, c7⟩, d0, d1, d2⟩ := HS.out _ (Below.refl _ _)
 rw [plan_eq] at *
 cases hf : fitQ p q with
 | false =>
  obtain ⟨e1, e2⟩ := hn_no (dl := dl) (pl := pl) (i := i) hf
  rw [e1, e2]
  rw [hf, ftQ_no hf, if_neg (by decide)] at HM
  clear hf e1 e2
  go_enter Tryz.func18, Tryz.ntmps18
  go_upto_region 1 with fail
  rw [HW.out]
  go_wp2_with (go_at_call 26; refine (HM.out _ hA).mono ?_; rintro e w1 ⟨rfl, hb1⟩; have hB1 := Below.next hA hb1; clear c0 c1 c2 c3 c4 c5 c6 c7 d0 d1 d2; obtain ⟨⟨c0, c1, c2, c3, c4, c5, c6, c7⟩, d0, d1, d2⟩ := HS.out _ hb1)
  go_ret2
  exact ⟨_, rfl, World.ownsRow_nil _ _ _ _, hB1⟩
 | true =>
  rw [hf, ftQ_yes hf, if_pos rfl] at HM
  by_cases hz : bkE p dl pl [i] = 0
  · obtain ⟨e1, e2, e3⟩ := hn_yes W1' W2' hf hz
    rw [e3, ← e2]
    rw [hz] at HSh
    have HE : Hid (evE p.f q (shaL p dl pl i) = 0) := e1
    clear hf e1 e2 e3 hz W1' W2'
    generalize shaL p dl pl i = ss at *
    have HR := hide (fun W vi hb hr => HO.out W vi ss hb hr)
    rw [HE.out] at HR
    generalize ruL p.f q ss = rs at *
    generalize ss.length = ln at *
    clear HO HE
    go_enter Tryz.func18, Tryz.ntmps18
    go_upto_region 1 with fail
    rw [HW.out]
    go_wp2_with (first
     | (go_at_call 26; refine (HM.out _ hA).mono ?_; rintro e w1 ⟨rfl, hb1⟩; have hB1 := Below.next hA hb1; clear c0 c1 c2 c3 c4 c5 c6 c7 d0 d1 d2; obtain ⟨⟨c0, c1, c2, c3, c4, c5, c6, c7⟩, d0, d1, d2⟩ := HS.out _ hb1)
     | (go_at_call 39; refine (HSh.out _ hB1).mono ?_; rintro e w2 ⟨v2, rfl, ho2, hb2⟩; have hB2 := Below.next hB1 hb2; have R2 := hide (WD5.out _ _ _ _ ho2); obtain ⟨a2, k2, rfl⟩ := own_form ho2; clear ho2)
     | (go_at_call 49; refine (HR.out _ _ hB2 R2.out).mono ?_; rintro e w3 ⟨v3, rfl, ho3, hb3⟩))
    go_ret2
    exact ⟨_, rfl, own_mono ho3 hB2.size, Below.next hB2 hb3⟩
  · obtain ⟨e1, e2⟩ := hn_bad hf hz
    rw [e1, e2]
    have ht : (bkE p dl pl [i] != 0) = true := bne_iff_ne.2 hz
    clear hf e1 e2 hz HO
    generalize shaL p dl pl i = ss at *
    generalize bkE p dl pl [i] = er at *
    go_enter Tryz.func18, Tryz.ntmps18
    go_upto_region 1 with fail
    rw [HW.out]
    go_wp2_with (first
     | (go_at_call 26; refine (HM.out _ hA).mono ?_; rintro e w1 ⟨rfl, hb1⟩; have hB1 := Below.next hA hb1; clear c0 c1 c2 c3 c4 c5 c6 c7 d0 d1 d2; obtain ⟨⟨c0, c1, c2, c3, c4, c5, c6, c7⟩, d0, d1, d2⟩ := HS.out _ hb1)
     | (go_at_call 39; refine (HSh.out _ hB1).mono ?_; rintro e w2 ⟨v2, rfl, ho2, hb2⟩; have hB2 := Below.next hB1 hb2))
    go_ret2
    exact ⟨_, rfl, World.ownsRow_nil _ _ _ _, hB2⟩
set_option maxRecDepth 100000 in
set_option maxHeartbeats 1000000 in
theorem gPolysR (p : Pn) (q : Pr) (vq vd vp : Value) (dl pl : List (List Int)) (w : World) (hp : Ok8p p) (hq : Pm w vq q) (h1 : Rws w vd dl) (h2 : Rws w vp pl) : GivesL11 16 #[plv p, vq, vd, vp] w (cmL p q dl pl) (cmE p q dl pl) := by
 unfold GivesL11
 obtain ⟨vo, vu, rfl, ho, hu⟩ := hq.form
 obtain ⟨ao, ca, rfl, _⟩ := ho.spell
 obtain ⟨au, cu, rfl, _⟩ := hu.spell
 have HM := hide (fun W (hb : Below w.heap.size w W) => iMadeQ p q _ _ W hp (hq.below hb))
 have HO := hide (fun W vi (hb : Below w.heap.size w W) (hr : Rws W vi (polL p dl pl)) => iOutQ p q _ _ vi (polL p dl pl) W (hq.below hb) hr)
 have HSh := hide (fun W (hb : Below w.heap.size w W) => gPolys p vd vp dl pl W hp (h1.below hb) (h2.below hb))
 unfold GivesL11 at HO
 unfold GivesM at HSh
 have W1' := h1.wordsH
 have W2' := h2.wordsH
 obtain ⟨⟨q1, q2⟩, _, _⟩ := ans_wd (p := p) W1' W2'
 have WD1 : Hid (∀ W lo v us, Mtx W lo v us (polL p dl pl) → Rws W v (polL p dl pl)) := fun W lo v us h => h.rws (getD_wd q1) (by omega)
 obtain ⟨ad, cd, rfl, _, _, _⟩ := h1
 obtain ⟨ap, cp, rfl, _, _, _⟩ := h2
 generalize dl.length = nd at *
 generalize pl.length = np at *
 clear ho hu hq hp q1 q2
 obtain ⟨W1, hW, hA, hS⟩ := pq_box w p q.inp (.slice ao q.ops.length ca) (.slice au q.outs.length cu) 24 28
 have HW := hide hW
 have HS := hide hS
 clear hW hS
 obtain ⟨⟨c0, c1, c2, c3, c4, c5, c6, c7⟩, d0, d1, d2⟩ := HS.out _ (Below.refl _ _)
 rw [plan_eq] at *
 cases hf : fitQ p q with
 | false =>
  obtain ⟨e1, e2⟩ := cm_no (dl := dl) (pl := pl) hf
  rw [e1, e2]
  rw [hf, ftQ_no hf, if_neg (by decide)] at HM
  clear hf e1 e2
  go_enter Tryz.func16, Tryz.ntmps16
  go_upto_region 1 with fail
  rw [HW.out]
  go_wp2_with (go_at_call 34; refine (HM.out _ hA).mono ?_; rintro e w1 ⟨rfl, hb1⟩; have hB1 := Below.next hA hb1; clear c0 c1 c2 c3 c4 c5 c6 c7 d0 d1 d2; obtain ⟨⟨c0, c1, c2, c3, c4, c5, c6, c7⟩, d0, d1, d2⟩ := HS.out _ hb1)
  go_ret2
  exact ⟨_, [], rfl, Lss.nil _ _ _, hB1⟩
 | true =>
  rw [hf, ftQ_yes hf, if_pos rfl] at HM
  by_cases hz : bkE p dl pl [] = 0
  · obtain ⟨e1, e2⟩ := cm_yes hf hz
    rw [e1, e2]
    rw [hz] at HSh
    clear hf e1 e2 hz W1' W2'
    generalize polL p dl pl = ss at *
    generalize coL p.f q ss = rs at *
    generalize coE p.f q ss = er at *
    generalize ss.length = ln at *
    go_enter Tryz.func16, Tryz.ntmps16
    go_upto_region 1 with fail
    rw [HW.out]
    go_wp2_with (first
     | (go_at_call 34; refine (HM.out _ hA).mono ?_; rintro e w1 ⟨rfl, hb1⟩; have hB1 := Below.next hA hb1; clear c0 c1 c2 c3 c4 c5 c6 c7 d0 d1 d2; obtain ⟨⟨c0, c1, c2, c3, c4, c5, c6, c7⟩, d0, d1, d2⟩ := HS.out _ hb1)
     | (go_at_call 36; refine (HSh.out _ hB1).mono ?_; rintro e w2 ⟨v2, us2, rfl, ho2, hb2⟩; have hB2 := Below.next hB1 hb2; have R2 := hide (WD1.out _ _ _ _ ho2); obtain ⟨a2, k2, rfl⟩ := own_form ho2.row; clear ho2)
     | (go_at_call 59; refine (HO.out _ _ hB2 R2.out).mono ?_; rintro e w3 ⟨v3, us3, rfl, ho3, hb3⟩))
    go_ret2
    exact ⟨_, us3, rfl, ho3.low hB2.size, Below.next hB2 hb3⟩
  · obtain ⟨e1, e2⟩ := cm_bad hf hz
    rw [e1, e2]
    have ht : (bkE p dl pl [] != 0) = true := bne_iff_ne.2 hz
    clear hf e1 e2 hz HO
    generalize polL p dl pl = ss at *
    generalize bkE p dl pl [] = er at *
    go_enter Tryz.func16, Tryz.ntmps16
    go_upto_region 1 with fail
    rw [HW.out]
    go_wp2_with (first
     | (go_at_call 34; refine (HM.out _ hA).mono ?_; rintro e w1 ⟨rfl, hb1⟩; have hB1 := Below.next hA hb1; clear c0 c1 c2 c3 c4 c5 c6 c7 d0 d1 d2; obtain ⟨⟨c0, c1, c2, c3, c4, c5, c6, c7⟩, d0, d1, d2⟩ := HS.out _ hb1)
     | (go_at_call 36; refine (HSh.out _ hB1).mono ?_; rintro e w2 ⟨v2, us2, rfl, ho2, hb2⟩; have hB2 := Below.next hB1 hb2))
    go_ret2
    exact ⟨_, [], rfl, Lss.nil _ _ _, hB2⟩
set_option maxRecDepth 100000 in
set_option maxHeartbeats 1000000 in
theorem gResults (p : Pn) (q : Pr) (vq vd : Value) (dl : List (List Int)) (w : World) (hp : Ok8p p) (hq : Pm w vq q) (h1 : Rws w vd dl) : GivesL11 9 #[plv p, vq, vd] w (rsL p q dl) (rsE p q dl) := by
 unfold GivesL11
 obtain ⟨i0, hi0, hz0, hz1, hz2⟩ := info_parts sl_infoE
 obtain ⟨vo, vu, rfl, ho, hu⟩ := hq.form
 obtain ⟨ao, ca, rfl, _⟩ := ho.spell
 obtain ⟨au, cu, rfl, _⟩ := hu.spell
 have HM := hide (fun W (hb : Below w.heap.size w W) => iMadeE p q _ _ W hp (hq.below hb))
 have HO := hide (fun W vi xs (hb : Below w.heap.size w W) (hr : Rw W vi xs) => iOutE p q _ _ vi xs W (hq.below hb) hr)
 have HC := hide (fun W (hb : Below w.heap.size w W) => gCheckD p vd dl W hp (h1.below hb))
 unfold Gives at HO
 obtain ⟨ad, cd, rfl, hlen, hcap, hcell⟩ := h1
 clear ho hu hq hp
 obtain ⟨W1, hW, hA, hS⟩ := pq_box w p q.inp (.slice ao q.ops.length ca) (.slice au q.outs.length cu) 24 28
 have HW := hide hW
 have HS := hide hS
 clear hW hS
 obtain ⟨⟨c0, c1, c2, c3, c4, c5, c6, c7⟩, d0, d1, d2⟩ := HS.out _ (Below.refl _ _)
 rw [plan_eq] at *
 cases hf : fitQ p q with
 | false =>
  obtain ⟨e1, e2⟩ := rsE_no (dl := dl) hf
  rw [e1, e2]
  rw [hf, ftQ_no hf, if_neg (by decide)] at HM
  clear hf e1 e2 hcell
  generalize dl.length = nd at *
  go_enter Tryz.func9, Tryz.ntmps9
  go_upto_region 1 with fail
  rw [HW.out]
  go_wp2_with (go_at_call 26; refine (HM.out _ hA).mono ?_; rintro e w1 ⟨rfl, hb1⟩; have hB1 := Below.next hA hb1; clear c0 c1 c2 c3 c4 c5 c6 c7 d0 d1 d2; obtain ⟨⟨c0, c1, c2, c3, c4, c5, c6, c7⟩, d0, d1, d2⟩ := HS.out _ hb1)
  go_ret2
  exact ⟨_, [], rfl, Lss.nil _ _ _, hB1⟩
 | true =>
  rw [hf, ftQ_yes hf, if_pos rfl] at HM
  rw [rs_prog hf] at HC
  by_cases hz : rsE p q dl = 0
  · obtain ⟨x1, x2, hl64, hall⟩ := rs_zero hz
    clear x1 x2
    have HAll : Hid (∀ k, k < dl.length → evE p.f q (dl.getD k []) = 0 ∧ ruL p.f q (dl.getD k []) = rnO (Rf p.f) q (dl.getD k [])) := fun k hk => (hall _ (getD_mem hk)).2
    have HML : Hid (rsL p q dl = dl.map (rnO (Rf p.f) q)) := if_pos hz
    rw [hz] at HC ⊢
    clear hf hz hall
    go_enter Tryz.func9, Tryz.ntmps9
    go_upto_region 1 with fail
    rw [HW.out]
    go_upto_region 7 with (first
     | (go_at_call 26; refine (HM.out _ hA).mono ?_; rintro e w1 ⟨rfl, hb1⟩; have hB1 := Below.next hA hb1; clear c0 c1 c2 c3 c4 c5 c6 c7 d0 d1 d2; obtain ⟨⟨c0, c1, c2, c3, c4, c5, c6, c7⟩, d0, d1, d2⟩ := HS.out _ hb1)
     | (go_at_call 29; refine (HC.out _ hB1).mono ?_; rintro e w9 ⟨rfl, hb9⟩; have hBw := Below.next hB1 hb9))
    clear c0 c1 c2 c3 c4 c5 c6 c7 d0 d1 d2 HM HC HW HS hb9
    go_wp2
    go_loopw [10, 32] (fun vo vi wr => ∃ (k : Nat) (us : List Value), k ≤ dl.length ∧ vi = .int .i64 k ∧ Hid (Lss wr w9.heap.size wr.heap.size vo us ((dl.take k).map (rnO (Rf p.f) q))) ∧ Below w9.heap.size w9 wr) (fun _ vi _ => dl.length - (intOf vi).toNat)
    case atStart => exact ⟨0, [], Nat.zero_le _, rfl, Lss.nil _ _ _, Below.refl _ _⟩
    case round =>
     obtain ⟨k, us, hk, rfl, HL, hB'⟩ := hrel
     have hBw' := Below.next hBw hB'
     by_cases hlt : k < dl.length
     · obtain ⟨b, off, rfl, hbl, hc⟩ := hcell (by intro e; rw [e] at hlt; simp at hlt)
       obtain ⟨u, hcu, hru⟩ := hc k hlt
       have hck := (hBw'.cell (p := ⟨b, off + k, none⟩) hbl).trans hcu
       have HX := hide (HO.out wr u (dl.getD k []) hBw' (hru.below hBw'))
       rw [(HAll.out k hlt).1, (HAll.out k hlt).2] at HX
       have HS := hide (take_snocL (rnO (Rf p.f) q) dl hlt)
       have hml : ((dl.take k).map (rnO (Rf p.f) q)).length = k := by simp; omega
       obtain ⟨au', cu', rfl, _⟩ := hru.spell
       have k0 : (0 : Int) ≤ (k : Int) := by omega
       have k1 : (k : Int) < (dl.length : Int) := by omega
       clear hc hcell hcu hru
       generalize rnO (Rf p.f) q (dl.getD k []) = fx at *
       generalize (dl.getD k []).length = ln at *
       generalize (dl.take k).map (rnO (Rf p.f) q) = lss at *
       go_upto_region 12 with (go_at_call 49; refine HX.out.mono ?_; rintro e w3 ⟨v3, rfl, hor, hb3⟩)
       obtain ⟨ar, cr, rfl⟩ := own_form hor
       have HL3 := hide (HL.out.below hb3)
       have hsz3 := hb3.size
       have hbs := hB'.size
       have hB3 := Below.next hB' hb3
       go_wp2_with (at_builtin; refine wpList_append_lies _ rfl _ _ _ rfl w9.heap.size 30 i0 _ 1 24 Tryz.underlying29 hi0 hz0 hz1 hz2 rfl (by omega) u10 lss.length us rfl (HL3.out.row.alloc _) ⟨w3.heap.size, 0, none⟩ 1 1 [.slice ar fx.length cr] rfl rfl (World.news_of_block (cs := #[.slice ar fx.length cr]) (t := 30) (fr := (0, 0)) (heap_alloc_new w3 _)) (by simp [Value.oneCell']) (by omega) (by unfold maxLen; omega) (by omega) (by simp; omega) (w3.heap.size + 1) (by simp) ?_; intro gg cap2 w4 hown4 hgrow hat hltg)
       have R := hide (HL3.out.push (w := w9) (H := wr.heap.size) (Nat.le_refl _) hbs (Nat.le_refl _) hB3 hor hown4 hgrow)
       clear hown4 hgrow hat hltg HL HL3 hor
       rw [HS.out, hml] at R
       go_roundw
       case rel => exact ⟨k + 1, _, by omega, by go_num, lss_here R.out.1, R.out.2⟩
       case measure => simp [intOf]; omega
     · obtain rfl : k = dl.length := by omega
       rw [List.take_length] at HL
       have HLw := hide (lss_lo HL.out hBw.size)
       rw [← HML.out] at HLw
       clear hcell HL
       go_wp2
       go_ret2
       exact ⟨_, us, rfl, HLw.out, hBw'⟩
  · rw [rsL_no hz]
    have ht : (rsE p q dl != 0) = true := bne_iff_ne.2 hz
    clear hf hz HO hcell
    generalize rsE p q dl = er at *
    generalize dl.length = nd at *
    go_enter Tryz.func9, Tryz.ntmps9
    go_upto_region 1 with fail
    rw [HW.out]
    go_wp2_with (first
     | (go_at_call 26; refine (HM.out _ hA).mono ?_; rintro e w1 ⟨rfl, hb1⟩; have hB1 := Below.next hA hb1; clear c0 c1 c2 c3 c4 c5 c6 c7 d0 d1 d2; obtain ⟨⟨c0, c1, c2, c3, c4, c5, c6, c7⟩, d0, d1, d2⟩ := HS.out _ hb1)
     | (go_at_call 29; refine (HC.out _ hB1).mono ?_; rintro e w9 ⟨rfl, hb9⟩; have hBw := Below.next hB1 hb9))
    go_ret2
    exact ⟨_, [], rfl, Lss.nil _ _ _, hBw⟩
end Go.Proofs.YtnakbpaiidolbaaGreat
namespace Go.Proofs.YtnakbpaiidolbaaGreat
open Go.RowKit Fld Slp Pln Shr
set_option linter.unusedVariables false
set_option linter.unusedSimpArgs false
set_option maxRecDepth 100000 in
set_option maxHeartbeats 1000000 in
theorem dFits16 (p : Pn) (q : Pr) (vq : Value) (w : World) (hp : Ok8p p) (hq : Pm w vq q) : Calls Tryz.prog 12 #[plv p, vq] w fun e w' => e = .returned (.int .i64 (ftQ p q)) ∧ Below w.heap.size w w' := by
 obtain ⟨vo, vu, rfl, ho, hu⟩ := hq.form
 obtain ⟨ao, ca, rfl, _⟩ := ho.spell
 obtain ⟨au, cu, rfl, _⟩ := hu.spell
 have HO := hide (fun W (hb : Below w.heap.size w W) => dOf _ q W (hq.below hb))
 have HM := hide (dMayP p hp)
 unfold IsOf at HO
 unfold Ans at HM
 clear ho hu hq hp
 obtain ⟨W1, hW, hA, hS⟩ := pq_box w p q.inp (.slice ao q.ops.length ca) (.slice au q.outs.length cu) 24 28
 have HW := hide hW
 have HS := hide hS
 clear hW hS
 obtain ⟨⟨c0, c1, c2, c3, c4, c5, c6, c7⟩, d0, d1, d2⟩ := HS.out _ (Below.refl _ _)
 rw [plan_eq] at *
 have hF : fitQ p q = (mayP p && (decide (ofE q = 0) && (decide (q.inp = p.w) && decide (ofV q ≤ p.d)))) := rfl
 cases hm : mayP p with
 | false =>
  rw [hm] at HM hF
  rw [ftQ_no hF]
  clear hF hm
  generalize ofE q = er at *
  generalize ofV q = dv at *
  go_enter Tryz.func12, Tryz.ntmps12
  go_upto_region 1 with fail
  rw [HW.out]
  go_wp2_with (first
   | (go_at_call 32; refine (HO.out _ hA).mono ?_; rintro e w1 ⟨rfl, hb1⟩; have hB1 := Below.next hA hb1; clear c0 c1 c2 c3 c4 c5 c6 c7 d0 d1 d2; obtain ⟨⟨c0, c1, c2, c3, c4, c5, c6, c7⟩, d0, d1, d2⟩ := HS.out _ hb1)
   | (go_at_call 33; refine (HM.out _).mono ?_; rintro e w2 ⟨rfl, hb2⟩; have hC2 := Below.next hb1 hb2; have hB2 := Below.next hB1 hb2; clear c0 c1 c2 c3 c4 c5 c6 c7 d0 d1 d2; obtain ⟨⟨c0, c1, c2, c3, c4, c5, c6, c7⟩, d0, d1, d2⟩ := HS.out _ hC2))
  go_ret
  exact ⟨rfl, hB2⟩
 | true =>
  rw [hm] at HM hF
  by_cases he : ofE q = 0
  · by_cases hi : q.inp = p.w
    · have hne : (q.inp != p.w) = false := by simp [hi]
      by_cases hd : ofV q ≤ p.d
      · rw [ftQ_yes (by rw [hF]; simp [hi, he, hd])]
        rw [he] at HO
        have hd' : ¬ p.d < ofV q := by omega
        clear hF hm hi he hd
        generalize ofV q = dv at *
        go_enter Tryz.func12, Tryz.ntmps12
        go_upto_region 1 with fail
        rw [HW.out]
        go_wp2_with (first
         | (go_at_call 32; refine (HO.out _ hA).mono ?_; rintro e w1 ⟨rfl, hb1⟩; have hB1 := Below.next hA hb1; clear c0 c1 c2 c3 c4 c5 c6 c7 d0 d1 d2; obtain ⟨⟨c0, c1, c2, c3, c4, c5, c6, c7⟩, d0, d1, d2⟩ := HS.out _ hb1)
         | (go_at_call 33; refine (HM.out _).mono ?_; rintro e w2 ⟨rfl, hb2⟩; have hC2 := Below.next hb1 hb2; have hB2 := Below.next hB1 hb2; clear c0 c1 c2 c3 c4 c5 c6 c7 d0 d1 d2; obtain ⟨⟨c0, c1, c2, c3, c4, c5, c6, c7⟩, d0, d1, d2⟩ := HS.out _ hC2))
        go_ret
        exact ⟨rfl, hB2⟩
      · rw [ftQ_no (by rw [hF]; simp [hi, he, hd])]
        rw [he] at HO
        have hd' : p.d < ofV q := by omega
        clear hF hm hi he hd
        generalize ofV q = dv at *
        go_enter Tryz.func12, Tryz.ntmps12
        go_upto_region 1 with fail
        rw [HW.out]
        go_wp2_with (first
         | (go_at_call 32; refine (HO.out _ hA).mono ?_; rintro e w1 ⟨rfl, hb1⟩; have hB1 := Below.next hA hb1; clear c0 c1 c2 c3 c4 c5 c6 c7 d0 d1 d2; obtain ⟨⟨c0, c1, c2, c3, c4, c5, c6, c7⟩, d0, d1, d2⟩ := HS.out _ hb1)
         | (go_at_call 33; refine (HM.out _).mono ?_; rintro e w2 ⟨rfl, hb2⟩; have hC2 := Below.next hb1 hb2; have hB2 := Below.next hB1 hb2; clear c0 c1 c2 c3 c4 c5 c6 c7 d0 d1 d2; obtain ⟨⟨c0, c1, c2, c3, c4, c5, c6, c7⟩, d0, d1, d2⟩ := HS.out _ hC2))
        go_ret
        exact ⟨rfl, hB2⟩
    · have hne : (q.inp != p.w) = true := bne_iff_ne.2 hi
      rw [ftQ_no (by rw [hF]; simp [hi])]
      rw [he] at HO
      clear hF hm hi he
      generalize ofV q = dv at *
      go_enter Tryz.func12, Tryz.ntmps12
      go_upto_region 1 with fail
      rw [HW.out]
      go_wp2_with (first
       | (go_at_call 32; refine (HO.out _ hA).mono ?_; rintro e w1 ⟨rfl, hb1⟩; have hB1 := Below.next hA hb1; clear c0 c1 c2 c3 c4 c5 c6 c7 d0 d1 d2; obtain ⟨⟨c0, c1, c2, c3, c4, c5, c6, c7⟩, d0, d1, d2⟩ := HS.out _ hb1)
       | (go_at_call 33; refine (HM.out _).mono ?_; rintro e w2 ⟨rfl, hb2⟩; have hC2 := Below.next hb1 hb2; have hB2 := Below.next hB1 hb2; clear c0 c1 c2 c3 c4 c5 c6 c7 d0 d1 d2; obtain ⟨⟨c0, c1, c2, c3, c4, c5, c6, c7⟩, d0, d1, d2⟩ := HS.out _ hC2))
      go_ret
      exact ⟨rfl, hB2⟩
  · have he' : (ofE q != 0) = true := bne_iff_ne.2 he
    rw [ftQ_no (by rw [hF]; simp [he])]
    clear hF hm he
    generalize ofE q = er at *
    generalize ofV q = dv at *
    go_enter Tryz.func12, Tryz.ntmps12
    go_upto_region 1 with fail
    rw [HW.out]
    go_wp2_with (first
     | (go_at_call 32; refine (HO.out _ hA).mono ?_; rintro e w1 ⟨rfl, hb1⟩; have hB1 := Below.next hA hb1; clear c0 c1 c2 c3 c4 c5 c6 c7 d0 d1 d2; obtain ⟨⟨c0, c1, c2, c3, c4, c5, c6, c7⟩, d0, d1, d2⟩ := HS.out _ hb1)
     | (go_at_call 33; refine (HM.out _).mono ?_; rintro e w2 ⟨rfl, hb2⟩; have hC2 := Below.next hb1 hb2; have hB2 := Below.next hB1 hb2; clear c0 c1 c2 c3 c4 c5 c6 c7 d0 d1 d2; obtain ⟨⟨c0, c1, c2, c3, c4, c5, c6, c7⟩, d0, d1, d2⟩ := HS.out _ hC2))
    go_ret
    exact ⟨rfl, hB2⟩
set_option maxRecDepth 100000 in
set_option maxHeartbeats 1000000 in
theorem dReply16 (p : Pn) (q : Pr) (vq vi : Value) (xs : List Int) (w : World) (hp : Ok8p p) (hq : Pm w vq q) (hr : Rw w vi xs) : Gives 8 #[plv p, vq, vi] w (rpL p q xs) (rpE p q xs) := by
 unfold Gives
 obtain ⟨vo, vu, rfl, ho, hu⟩ := hq.form
 obtain ⟨ao, ca, rfl, _⟩ := ho.spell
 obtain ⟨au, cu, rfl, _⟩ := hu.spell
 have HF := hide (fun W (hb : Below w.heap.size w W) => dFits16 p q _ W hp (hq.below hb))
 have HO := hide (fun W (hb : Below w.heap.size w W) => dRun p.f q _ vi xs W (hq.below hb) (hr.below hb))
 unfold Gives at HO
 obtain ⟨ai, ci, rfl, _⟩ := hr.spell
 generalize xs.length = ln at *
 clear ho hu hq hp hr
 obtain ⟨W1, hW, hA, hS⟩ := pq_box w p q.inp (.slice ao q.ops.length ca) (.slice au q.outs.length cu) 24 28
 have HW := hide hW
 have HS := hide hS
 clear hW hS
 obtain ⟨⟨c0, c1, c2, c3, c4, c5, c6, c7⟩, d0, d1, d2⟩ := HS.out _ (Below.refl _ _)
 rw [plan_eq] at *
 cases hf : fitQ p q with
 | false =>
  obtain ⟨e1, e2⟩ := rp_no (xs := xs) hf
  rw [e1, e2]
  rw [ftQ_no hf] at HF
  clear hf e1 e2
  go_enter Tryz.func8, Tryz.ntmps8
  go_upto_region 1 with fail
  rw [HW.out]
  go_wp2_with (go_at_call 12; refine (HF.out _ hA).mono ?_; rintro e w1 ⟨rfl, hb1⟩; have hB1 := Below.next hA hb1; clear c0 c1 c2 c3 c4 c5 c6 c7 d0 d1 d2; obtain ⟨⟨c0, c1, c2, c3, c4, c5, c6, c7⟩, d0, d1, d2⟩ := HS.out _ hb1)
  go_ret2
  exact ⟨_, rfl, World.ownsRow_nil _ _ _ _, hB1⟩
 | true =>
  obtain ⟨e1, e2⟩ := rp_yes (xs := xs) hf
  rw [e1, e2]
  rw [ftQ_yes hf] at HF
  clear hf e1 e2
  generalize ruL p.f q xs = rs at *
  generalize evE p.f q xs = er at *
  go_enter Tryz.func8, Tryz.ntmps8
  go_upto_region 1 with fail
  rw [HW.out]
  go_wp2_with (first
   | (go_at_call 12; refine (HF.out _ hA).mono ?_; rintro e w1 ⟨rfl, hb1⟩; have hB1 := Below.next hA hb1; clear c0 c1 c2 c3 c4 c5 c6 c7 d0 d1 d2; obtain ⟨⟨c0, c1, c2, c3, c4, c5, c6, c7⟩, d0, d1, d2⟩ := HS.out _ hb1)
   | (go_at_call 28; refine (HO.out _ hB1).mono ?_; rintro e w2 ⟨v2, rfl, ho2, hb2⟩))
  go_ret2
  exact ⟨_, rfl, own_mono ho2 hB1.size, Below.next hB1 hb2⟩
def zrk (v n k : Nat) : List (List Int) := mkl n (fun t => if t < k then List.replicate v 0 else [])
theorem zrk_len (v n k : Nat) : (zrk v n k).length = n := mkl_len _ _
theorem zrk_lay (v : Nat) {n k : Nat} (hk : k < n) : (zrk v n k).set k (List.replicate v 0) = zrk v n (k + 1) := by
 unfold zrk
 rw [mkl_set _ hk]
 refine mkl_congr (fun t ht => ?_)
 by_cases h : t = k
 · rw [if_pos h, if_pos (by omega)]
 · rw [if_neg h]
   by_cases h2 : t < k
   · rw [if_pos h2, if_pos (by omega)]
   · rw [if_neg h2, if_neg (by omega)]
theorem zrk_end (v n : Nat) : zrk v n n = List.replicate n (List.replicate v 0) := by
 refine ext_l (by rw [zrk_len, List.length_replicate]) (fun i hi => ?_)
 rw [zrk_len] at hi
 unfold zrk
 rw [mkl_at _ hi, if_pos hi, List.getD_eq_getElem?_getD, List.getElem?_replicate, if_pos hi]
 rfl
set_option maxRecDepth 100000 in
set_option maxHeartbeats 1600000 in
theorem dResults16 (p : Pn) (q : Pr) (vq vd : Value) (dl : List (List Int)) (w : World) (hp : Ok8p p) (hq : Pm w vq q) (h1 : Rws w vd dl) : GivesL11 10 #[plv p, vq, vd] w (rsL p q dl) (rsE p q dl) := by
 unfold GivesL11
 obtain ⟨vo, vu, rfl, ho, hu⟩ := hq.form
 obtain ⟨ao, ca, rfl, _⟩ := ho.spell
 obtain ⟨au, cu, rfl, _⟩ := hu.spell
 have HF := hide (fun W (hb : Below w.heap.size w W) => dFits16 p q _ W hp (hq.below hb))
 have HBd := hide (fun W v (hb : Below w.heap.size w W) (hr : Rws W v (zpd p)) => dBad14 p vd v dl (zpd p) W hp (h1.below hb) hr)
 have HMa := hide (fun W (hb : Below w.heap.size w W) => dMany p.f q _ vd dl W (hq.below hb) (h1.below hb))
 unfold GivesL11 at HMa
 obtain ⟨ad, cd, rfl, _, _, _⟩ := h1
 generalize dl.length = nd at *
 clear ho hu hq hp
 obtain ⟨W1, hW, hA, hS⟩ := pq_box w p q.inp (.slice ao q.ops.length ca) (.slice au q.outs.length cu) 24 28
 have HW := hide hW
 have HS := hide hS
 clear hW hS
 obtain ⟨⟨c0, c1, c2, c3, c4, c5, c6, c7⟩, d0, d1, d2⟩ := HS.out _ (Below.refl _ _)
 rw [plan_eq] at *
 cases hf : fitQ p q with
 | false =>
  obtain ⟨e1, e2⟩ := rsE_no (dl := dl) hf
  rw [e1, e2]
  rw [ftQ_no hf] at HF
  clear hf e1 e2
  go_enter Tryz.func10, Tryz.ntmps10
  go_upto_region 1 with fail
  rw [HW.out]
  go_wp2_with (go_at_call 12; refine (HF.out _ hA).mono ?_; rintro e w1 ⟨rfl, hb1⟩; have hB1 := Below.next hA hb1; clear c0 c1 c2 c3 c4 c5 c6 c7 d0 d1 d2; obtain ⟨⟨c0, c1, c2, c3, c4, c5, c6, c7⟩, d0, d1, d2⟩ := HS.out _ hb1)
  go_ret2
  exact ⟨_, [], rfl, Lss.nil _ _ _, hB1⟩
 | true =>
  rw [ftQ_yes hf] at HF
  rw [rs_doc hf] at HBd
  have hm := (fit_facts hf).1
  obtain ⟨t0, k1, v0, v1⟩ : 0 ≤ p.t ∧ p.t ≤ 64 ∧ 1 ≤ p.w ∧ p.w ≤ 64 := by
   have h := may_facts hm
   omega
  obtain ⟨n, hn⟩ : ∃ n : Nat, p.t = n := ⟨p.t.toNat, by omega⟩
  obtain ⟨m, hm'⟩ : ∃ m : Nat, p.w = m := ⟨p.w.toNat, by omega⟩
  have HZ : Hid (zrk m n n = zpd p) := by show _ = _; rw [zrk_end]; unfold zpd; rw [hn, hm']; rfl
  have HMany : Hid (rsE p q dl = 0 → maE p.f q dl = 0 ∧ maL p.f q dl = rsL p q dl) := fun h => rs_many h
  have HNo : Hid (rsE p q dl ≠ 0 → rsL p q dl = []) := fun h => rsL_no h
  have hmk1 : ∀ W, (Instr.makeSlice 29 (.int .i64 p.t) (.int .i64 p.t)).run Tryz.prog W = .ok (.slice (some ⟨W.heap.size, 0, none⟩) n n) (W.alloc (.cells (nvs n).toArray 30)) := fun W => by rw [hn]; exact makeN n (by omega) W
  have HMW : Hid (∀ W, (Instr.makeSlice 30 (.int .i64 p.w) (.int .i64 p.w)).run Tryz.prog W = .ok (.slice (some ⟨W.heap.size, 0, none⟩) m m) (W.alloc (.cells (zrs m).toArray 58))) := fun W => by rw [hm']; exact makeW m (by omega) W
  have hn1000 : n ≤ 64 := by omega
  have hm1000 : m ≤ 64 := by omega
  have HT := hide hn
  have HWd : Hid (∀ i, Wd ((zpd p).getD i [])) := fun i => getD_wd (fun b hb => by
   rw [(List.mem_replicate.1 hb).2]
   exact ⟨by rw [List.length_replicate]; omega, fun x hx => by rw [(List.mem_replicate.1 hx).2]; decide⟩) i
  have HZl : Hid ((zpd p).length = n) := by show _ = _; unfold zpd; rw [List.length_replicate]; omega
  clear hf hm hn hm' t0 v0 v1 k1
  generalize zpd p = zl at *
  generalize rsE p q dl = er at *
  generalize rsL p q dl = rs at *
  generalize maE p.f q dl = mE at *
  generalize maL p.f q dl = mL at *
  go_enter Tryz.func10, Tryz.ntmps10
  go_upto_region 1 with fail
  rw [HW.out]
  go_upto_region 5 with (go_at_call 12; refine (HF.out _ hA).mono ?_; rintro e w1 ⟨rfl, hb1⟩; have hB1 := Below.next hA hb1; clear c0 c1 c2 c3 c4 c5 c6 c7 d0 d1 d2; obtain ⟨⟨c0, c1, c2, c3, c4, c5, c6, c7⟩, d0, d1, d2⟩ := HS.out _ hb1)
  clear hmk1
  have HM0 := hide (mtx_new w1 (lo := w1.heap.size) (n := n) (Nat.le_refl _) (by omega) (fun t => if t < 0 then List.replicate m 0 else []) (fun t ht => if_neg (by omega)))
  rw [show mkl n (fun t => if t < 0 then List.replicate m 0 else []) = zrk m n 0 from rfl] at HM0
  have hA0 := alloc_below w1 (.cells (nvs n).toArray 30)
  generalize w1.alloc (.cells (nvs n).toArray 30) = W0 at *
  clear c0 c1 c2 c3 c4 c5 c6 c7 d0 d1 d2
  go_wp2
  go_loopw [10] (fun vi wr => ∃ (k : Nat) (us : List Value), k ≤ n ∧ vi = .int .i64 k ∧ Hid (Mtx wr w1.heap.size (.slice (some ⟨w1.heap.size, 0, none⟩) n n) us (zrk m n k)) ∧ Below w1.heap.size w1 wr) (fun vi _ => n - (intOf vi).toNat)
  case atStart => exact ⟨0, _, Nat.zero_le _, rfl, HM0, hA0⟩
  case round =>
   clear HM0 hA0
   obtain ⟨k, us, hk, rfl, HM, hB⟩ := hrel
   have hC := Below.next hb1 hB
   obtain ⟨⟨c0, c1, c2, c3, c4, c5, c6, c7⟩, d0, d1, d2⟩ := HS.out _ hC
   by_cases hlt : k < n
   · have hcG := HM.out.cell (i := k) (by rw [zrk_len]; exact hlt)
     have hGt := cell_in hcG
     have hfG := free_own (by have := HM.out.row; rw [zrk_len] at this; exact this) k
     have k0 : (0 : Int) ≤ (k : Int) := by omega
     have k1 : (k : Int) < (n : Int) := by omega
     have k2 : (k : Int) < p.t := by rw [HT.out]; omega
     have hal := alloc_below wr (.cells (zrs m).toArray 58)
     have hmk := HMW.out
     have hZ : World.ownsRow (wr.alloc (.cells (zrs m).toArray 58)) w1.heap.size 58 1 (.slice (some ⟨wr.heap.size, 0, none⟩) m m) (List.replicate m (0 : Int)).length (vals (List.replicate m 0)) := by
      rw [List.length_replicate]
      exact own_new (cs := vals (List.replicate m 0)) hB.size (by rw [vals_length]; simp) (by omega)
     have HM1 := hide ((HM.out.below hal).lay (by rw [zrk_len]) (k := k) (by rw [zrk_len]; exact hlt) hZ (fun i g hi hne hg e => by
      have := HM.out.tops hi hg
      have e2 : g = wr.heap.size := by simpa [Value.ownBlock] using e.symm
      omega))
     rw [zrk_lay m hlt] at HM1
     have hB1' : Below w1.heap.size w1 ((wr.alloc (.cells (zrs m).toArray 58)).setCell ⟨w1.heap.size, k, none⟩ (.slice (some ⟨wr.heap.size, 0, none⟩) m m)) := (Below.next hB hal).setCell (p := ⟨w1.heap.size, k, none⟩) (Nat.le_refl _) _
     have hcG1 : (wr.alloc (.cells (zrs m).toArray 58)).cell? ⟨w1.heap.size, k, none⟩ = some (us.getD k nov) := (hal.cell (p := ⟨w1.heap.size, k, none⟩) hGt).trans hcG
     rw [World.setCell_alloc_past _ _ _ _ hGt] at HM1 hB1'
     clear HM hZ hal
     generalize us.getD k nov = u0 at *
     go_wp2_with fail
     clear hmk hcG hcG1 hfG
     generalize (wr.setCell ⟨w1.heap.size, k, none⟩ (.slice (some ⟨wr.heap.size, 0, none⟩) m m)).alloc (.cells (zrs m).toArray 58) = W2 at *
     go_roundw
     case rel => exact ⟨k + 1, _, by omega, by go_num, HM1, hB1'⟩
     case measure => simp [intOf]; omega
   · obtain rfl : k = n := by omega
     have k2 : ¬ ((k : Int) < p.t) := by rw [HT.out]; omega
     have hBw := Below.next hB1 hB
     have HR : Hid (Rws wr (.slice (some ⟨w1.heap.size, 0, none⟩) k k) zl) := by
      have h := HM.out
      rw [HZ.out] at h
      exact h.rws HWd.out (by rw [HZl.out]; omega)
     clear HM HZl HWd HZ HMW
     by_cases hz : er = 0
     · subst hz
       obtain ⟨m1, m2⟩ := HMany.out rfl
       subst m1 m2
       clear HMany HNo
       go_wp2_with (first
        | (go_at_call 20; refine (HBd.out _ _ hBw HR.out).mono ?_; rintro e w2 ⟨rfl, hb2⟩; have hB2 := Below.next hBw hb2; have hC2 := Below.next hC hb2; clear c0 c1 c2 c3 c4 c5 c6 c7 d0 d1 d2; obtain ⟨⟨c0, c1, c2, c3, c4, c5, c6, c7⟩, d0, d1, d2⟩ := HS.out _ hC2)
        | (go_at_call 30; refine (HMa.out _ hB2).mono ?_; rintro e w3 ⟨v3, us3, rfl, ho3, hb3⟩))
       go_ret2
       exact ⟨_, us3, rfl, ho3.low hB2.size, Below.next hB2 hb3⟩
     · have ht : (er != 0) = true := bne_iff_ne.2 hz
       have HR0 := hide (HNo.out hz)
       clear hz HMany HNo
       go_wp2_with (go_at_call 20; refine (HBd.out _ _ hBw HR.out).mono ?_; rintro e w2 ⟨rfl, hb2⟩; have hB2 := Below.next hBw hb2; have hC2 := Below.next hC hb2; clear c0 c1 c2 c3 c4 c5 c6 c7 d0 d1 d2; obtain ⟨⟨c0, c1, c2, c3, c4, c5, c6, c7⟩, d0, d1, d2⟩ := HS.out _ hC2)
       go_ret2
       exact ⟨_, [], rfl, by rw [HR0.out]; exact Lss.nil _ _ _, hB2⟩
end Go.Proofs.YtnakbpaiidolbaaGreat
namespace Go.Proofs.YtnakbpaiidolbaaGreat
open Go.RowKit Fld Slp Pln Shr
set_option linter.unusedVariables false
set_option linter.unusedSimpArgs false
def fourD : Pn := { f := 1, n := 4, k := 2, t := 1, s := 0, e := 0, d := 2, w := 1 }
def sqQ : Pr := ⟨1, [⟨3, 0, 0, 0⟩], [1]⟩
theorem fourD_ok : Ok8p fourD ∧ fitQ fourD sqQ = true ∧ bkE fourD [[5], [7]] [[9]] [] = 0 ∧ innL fourD = [0, 1, 2] := by unfold Ok8p I64; decide +kernel
theorem fourD_pol : polL fourD [[5], [7]] [[9]] = [[5, 2]] := by
 unfold polL
 rw [if_pos fourD_ok.2.2.1, fourD_ok.2.2.2]
 show [py 2013265921 [0, 1, 2] [[5], [7], [9]] 0] = _
 rw [four_py]
theorem fourD_co : coE 1 sqQ [[5, 2]] = 0 ∧ coL 1 sqQ [[5, 2]] = [[25, 20, 4]] := by decide +kernel
theorem fourD_cm : cmE fourD sqQ [[5], [7]] [[9]] = 0 ∧ cmL fourD sqQ [[5], [7]] [[9]] = [[25, 20, 4]] := by
 obtain ⟨e1, e2⟩ := cm_yes fourD_ok.2.1 fourD_ok.2.2.1
 rw [e1, e2, fourD_pol]
 exact fourD_co
theorem sqq_pm {W : World} {b c : Nat} (h1 : W.heap[b]? = some (.cells #[.int .u8 3, .int .i64 0, .int .i64 0, .int .u64 0] 78 (0, 0))) (h2 : W.heap[c]? = some (.cells #[.int .i64 1] 3 (0, 0))) : Pm W (.agg #[.int .i64 1, .slice (some ⟨b, 0, none⟩) 1 1, .slice (some ⟨c, 0, none⟩) 1 1]) sqQ := by
 have o1 := own_lit (s := 4) (n := 1) (sqQ.ops.flatMap opw) h1 rfl (by decide)
 have o2 := own_lit (s := 1) (n := 1) (sqQ.outs.flatMap iw) h2 rfl (by decide)
 refine ⟨⟨_, _, rfl, lm_of_own opw_len (by decide) o1 (by decide), lm_of_own iw_len (by decide) o2 (by decide)⟩, by decide, ?_, ?_⟩
 · intro o ho
   have : o = ⟨3, 0, 0, 0⟩ := by simpa [sqQ] using ho
   subst this
   unfold Ok4; decide
 · intro x hx
   have : x = 1 := by simpa [sqQ] using hx
   subst this
   decide
theorem rw_lit3 {W : World} {n : Nat} (hn : W.heap.size = n) (x y z : Int) (hx : 0 ≤ x ∧ x ≤ 18446744073709551615) (hy : 0 ≤ y ∧ y ≤ 18446744073709551615) (hz : 0 ≤ z ∧ z ≤ 18446744073709551615) (T : TypeId) : Rw (W.alloc (.cells #[.int .u64 x, .int .u64 y, .int .u64 z] T)) (.slice (some ⟨n, 0, none⟩) 3 3) [x, y, z] := by
 subst hn
 refine ⟨⟨_, _, rfl, by simp, by simp; exact ⟨hx, hy, hz⟩, fun _ => ⟨_, _, rfl, by simp, fun i hi => ?_⟩⟩, _, _, _, rfl, Nat.le_refl _⟩
 have : i = 0 ∨ i = 1 ∨ i = 2 := by simp at hi; omega
 rcases this with rfl | rfl | rfl <;> simp [go_sem]
theorem lit16 (w : World) : Pm (((((((((w.alloc (.cells #[.int .u8 1, .int .i64 4, .int .i64 2, .int .i64 1, .int .i64 0, .int .i64 0, .int .i64 2, .int .i64 1] 24)).alloc (.cells #[.int .u8 3, .int .i64 0, .int .i64 0, .int .u64 0] 78)).alloc (.cells #[.int .i64 1] 3)).alloc (.cells #[.int .i64 1, .slice (some ⟨w.heap.size + 1, 0, none⟩) 1 1, .slice (some ⟨w.heap.size + 1 + 1, 0, none⟩) 1 1] 28)).alloc (.cells #[.int .u64 5] 58)).alloc (.cells #[.int .u64 7] 58)).alloc (.cells #[.slice (some ⟨w.heap.size + 1 + 1 + 1 + 1, 0, none⟩) 1 1, .slice (some ⟨w.heap.size + 1 + 1 + 1 + 1 + 1, 0, none⟩) 1 1] 30)).alloc (.cells #[.int .u64 9] 58)).alloc (.cells #[.slice (some ⟨w.heap.size + 1 + 1 + 1 + 1 + 1 + 1 + 1, 0, none⟩) 1 1] 30)) (.agg #[.int .i64 1, .slice (some ⟨w.heap.size + 1, 0, none⟩) 1 1, .slice (some ⟨w.heap.size + 1 + 1, 0, none⟩) 1 1]) sqQ ∧ Rws (((((((((w.alloc (.cells #[.int .u8 1, .int .i64 4, .int .i64 2, .int .i64 1, .int .i64 0, .int .i64 0, .int .i64 2, .int .i64 1] 24)).alloc (.cells #[.int .u8 3, .int .i64 0, .int .i64 0, .int .u64 0] 78)).alloc (.cells #[.int .i64 1] 3)).alloc (.cells #[.int .i64 1, .slice (some ⟨w.heap.size + 1, 0, none⟩) 1 1, .slice (some ⟨w.heap.size + 1 + 1, 0, none⟩) 1 1] 28)).alloc (.cells #[.int .u64 5] 58)).alloc (.cells #[.int .u64 7] 58)).alloc (.cells #[.slice (some ⟨w.heap.size + 1 + 1 + 1 + 1, 0, none⟩) 1 1, .slice (some ⟨w.heap.size + 1 + 1 + 1 + 1 + 1, 0, none⟩) 1 1] 30)).alloc (.cells #[.int .u64 9] 58)).alloc (.cells #[.slice (some ⟨w.heap.size + 1 + 1 + 1 + 1 + 1 + 1 + 1, 0, none⟩) 1 1] 30)) (.slice (some ⟨w.heap.size + 1 + 1 + 1 + 1 + 1 + 1, 0, none⟩) 2 2) [[5], [7]] ∧ Rws (((((((((w.alloc (.cells #[.int .u8 1, .int .i64 4, .int .i64 2, .int .i64 1, .int .i64 0, .int .i64 0, .int .i64 2, .int .i64 1] 24)).alloc (.cells #[.int .u8 3, .int .i64 0, .int .i64 0, .int .u64 0] 78)).alloc (.cells #[.int .i64 1] 3)).alloc (.cells #[.int .i64 1, .slice (some ⟨w.heap.size + 1, 0, none⟩) 1 1, .slice (some ⟨w.heap.size + 1 + 1, 0, none⟩) 1 1] 28)).alloc (.cells #[.int .u64 5] 58)).alloc (.cells #[.int .u64 7] 58)).alloc (.cells #[.slice (some ⟨w.heap.size + 1 + 1 + 1 + 1, 0, none⟩) 1 1, .slice (some ⟨w.heap.size + 1 + 1 + 1 + 1 + 1, 0, none⟩) 1 1] 30)).alloc (.cells #[.int .u64 9] 58)).alloc (.cells #[.slice (some ⟨w.heap.size + 1 + 1 + 1 + 1 + 1 + 1 + 1, 0, none⟩) 1 1] 30)) (.slice (some ⟨w.heap.size + 1 + 1 + 1 + 1 + 1 + 1 + 1 + 1, 0, none⟩) 1 1) [[9]] ∧ Below w.heap.size w (((((((((w.alloc (.cells #[.int .u8 1, .int .i64 4, .int .i64 2, .int .i64 1, .int .i64 0, .int .i64 0, .int .i64 2, .int .i64 1] 24)).alloc (.cells #[.int .u8 3, .int .i64 0, .int .i64 0, .int .u64 0] 78)).alloc (.cells #[.int .i64 1] 3)).alloc (.cells #[.int .i64 1, .slice (some ⟨w.heap.size + 1, 0, none⟩) 1 1, .slice (some ⟨w.heap.size + 1 + 1, 0, none⟩) 1 1] 28)).alloc (.cells #[.int .u64 5] 58)).alloc (.cells #[.int .u64 7] 58)).alloc (.cells #[.slice (some ⟨w.heap.size + 1 + 1 + 1 + 1, 0, none⟩) 1 1, .slice (some ⟨w.heap.size + 1 + 1 + 1 + 1 + 1, 0, none⟩) 1 1] 30)).alloc (.cells #[.int .u64 9] 58)).alloc (.cells #[.slice (some ⟨w.heap.size + 1 + 1 + 1 + 1 + 1 + 1 + 1, 0, none⟩) 1 1] 30)) := by
 have s1 := size_alloc (W := w) rfl (.cells #[.int .u8 1, .int .i64 4, .int .i64 2, .int .i64 1, .int .i64 0, .int .i64 0, .int .i64 2, .int .i64 1] 24)
 have s2 := size_alloc s1 (.cells #[.int .u8 3, .int .i64 0, .int .i64 0, .int .u64 0] 78)
 have s3 := size_alloc s2 (.cells #[.int .i64 1] 3)
 have s4 := size_alloc s3 (.cells #[.int .i64 1, .slice (some ⟨w.heap.size + 1, 0, none⟩) 1 1, .slice (some ⟨w.heap.size + 1 + 1, 0, none⟩) 1 1] 28)
 have s5 := size_alloc s4 (.cells #[.int .u64 5] 58)
 have s6 := size_alloc s5 (.cells #[.int .u64 7] 58)
 have s7 := size_alloc s6 (.cells #[.slice (some ⟨w.heap.size + 1 + 1 + 1 + 1, 0, none⟩) 1 1, .slice (some ⟨w.heap.size + 1 + 1 + 1 + 1 + 1, 0, none⟩) 1 1] 30)
 have s8 := size_alloc s7 (.cells #[.int .u64 9] 58)
 have r1 := rw_lit s4 5 (by decide) 58
 have r2 := rw_lit s5 7 (by decide) 58
 have r3 := rws_lit2 s6 (r1.below (alloc_below _ _)) r2 30
 have r4 := rw_lit s7 9 (by decide) 58
 have r5 := rws_lit1 s8 r4 30
 obtain ⟨n1, n2, _, hb⟩ := alloc3 (w.alloc (.cells #[.int .u8 1, .int .i64 4, .int .i64 2, .int .i64 1, .int .i64 0, .int .i64 0, .int .i64 2, .int .i64 1] 24)) (.cells #[.int .u8 3, .int .i64 0, .int .i64 0, .int .u64 0] 78) (.cells #[.int .i64 1] 3) (.cells #[.int .i64 1, .slice (some ⟨w.heap.size + 1, 0, none⟩) 1 1, .slice (some ⟨w.heap.size + 1 + 1, 0, none⟩) 1 1] 28)
 rw [s1] at n1 n2
 have q1 := (sqq_pm n1 n2)
 have b5 := Below.next (Below.next (Below.next (Below.next (alloc_below ((((w.alloc (.cells #[.int .u8 1, .int .i64 4, .int .i64 2, .int .i64 1, .int .i64 0, .int .i64 0, .int .i64 2, .int .i64 1] 24)).alloc (.cells #[.int .u8 3, .int .i64 0, .int .i64 0, .int .u64 0] 78)).alloc (.cells #[.int .i64 1] 3)).alloc (.cells #[.int .i64 1, .slice (some ⟨w.heap.size + 1, 0, none⟩) 1 1, .slice (some ⟨w.heap.size + 1 + 1, 0, none⟩) 1 1] 28)) (.cells #[.int .u64 5] 58)) (alloc_below _ (.cells #[.int .u64 7] 58))) (alloc_below _ (.cells #[.slice (some ⟨w.heap.size + 1 + 1 + 1 + 1, 0, none⟩) 1 1, .slice (some ⟨w.heap.size + 1 + 1 + 1 + 1 + 1, 0, none⟩) 1 1] 30))) (alloc_below _ (.cells #[.int .u64 9] 58))) (alloc_below _ (.cells #[.slice (some ⟨w.heap.size + 1 + 1 + 1 + 1 + 1 + 1 + 1, 0, none⟩) 1 1] 30))
 exact ⟨q1.below b5, (r3.below (alloc_below _ _)).below (alloc_below _ _), r5, Below.next (Below.next (alloc_below _ _) hb) b5⟩
theorem lit16b (w : World) (T S : TypeId) : Rws ((w.alloc (.cells #[.int .u64 25, .int .u64 20, .int .u64 4] T)).alloc (.cells #[.slice (some ⟨w.heap.size, 0, none⟩) 3 3] S)) (.slice (some ⟨w.heap.size + 1, 0, none⟩) 1 1) [[25, 20, 4]] ∧ Below w.heap.size w ((w.alloc (.cells #[.int .u64 25, .int .u64 20, .int .u64 4] T)).alloc (.cells #[.slice (some ⟨w.heap.size, 0, none⟩) 3 3] S)) := by
 have s1 := size_alloc (W := w) rfl (.cells #[.int .u64 25, .int .u64 20, .int .u64 4] T)
 have r1 := rw_lit3 (W := w) rfl 25 20 4 (by decide) (by decide) (by decide) T
 exact ⟨rws_lit1 s1 r1 S, Below.next (alloc_below _ _) (alloc_below _ _)⟩
set_option maxRecDepth 100000 in
set_option maxHeartbeats 1000000 in
theorem anch16 : Ans 15 #[] (.bool true) := by
 intro w
 have HA := hide (fun W v0 v1 v2 h0 h1 h2 => gPolysR fourD sqQ v0 v1 v2 [[5], [7]] [[9]] W fourD_ok.1 h0 h1 h2)
 unfold GivesL11 at HA
 rw [fourD_cm.1, fourD_cm.2, plan_eq] at HA
 unfold fourD at HA
 dsimp only at HA
 have HD := hide (lit16 w)
 have HL := hide (fun W T S => lit16b W T S)
 go_enter Tryz.func15, Tryz.ntmps15
 go_wp2_with (first
  | (go_at_call 16; refine (HA.out _ _ _ _ HD.out.1 HD.out.2.1 HD.out.2.2.1).mono ?_; rintro e w1 ⟨v1, us1, rfl, hM1, hb1⟩; have hB1 := Below.next HD.out.2.2.2 hb1; have r1 := hide (hM1.rws (getD_wd (by unfold Wd; decide)) (by simp)); obtain ⟨a1, k1, rfl⟩ := own_form hM1.row; clear hM1)
  | (go_at_call 14; refine (Rows_h _ _ _ _ (r1.out.below (HL.out _ _ _).2) (HL.out _ _ _).1).mono ?_; rintro e w2 ⟨rfl, hb2⟩; have hB2 := Below.next (Below.next hB1 (HL.out _ _ _).2) hb2))
 go_ret
 exact ⟨rfl, hB2⟩
end Go.Proofs.YtnakbpaiidolbaaGreat
namespace Go.Proofs.YtnakbpaiidolbaaGreat
open Go.RowKit Fld Slp Pln Shr
set_option linter.unusedVariables false
set_option linter.unusedSimpArgs false
theorem psec_box (w : World) (p : Pn) (n : Int) (vo vu vd vp : Value) (T1 T2 T3 : TypeId) : ∃ W1, ((w.alloc (.cells #[.int .u8 p.f, .int .i64 p.n, .int .i64 p.k, .int .i64 p.t, .int .i64 p.s, .int .i64 p.e, .int .i64 p.d, .int .i64 p.w] T1)).alloc (.cells #[.int .i64 n, vo, vu] T2)).alloc (.cells #[vd, vp] T3) = W1 ∧ Below w.heap.size w W1 ∧ ∀ W, Below W1.heap.size W1 W → (W.cell? ⟨w.heap.size, 0, none⟩ = some (.int .u8 p.f) ∧ W.cell? ⟨w.heap.size, 1, none⟩ = some (.int .i64 p.n) ∧ W.cell? ⟨w.heap.size, 2, none⟩ = some (.int .i64 p.k) ∧ W.cell? ⟨w.heap.size, 3, none⟩ = some (.int .i64 p.t) ∧ W.cell? ⟨w.heap.size, 4, none⟩ = some (.int .i64 p.s) ∧ W.cell? ⟨w.heap.size, 5, none⟩ = some (.int .i64 p.e) ∧ W.cell? ⟨w.heap.size, 6, none⟩ = some (.int .i64 p.d) ∧ W.cell? ⟨w.heap.size, 7, none⟩ = some (.int .i64 p.w)) ∧ (W.cell? ⟨w.heap.size + 1, 0, none⟩ = some (.int .i64 n) ∧ W.cell? ⟨w.heap.size + 1, 1, none⟩ = some vo ∧ W.cell? ⟨w.heap.size + 1, 2, none⟩ = some vu) ∧ W.cell? ⟨w.heap.size + 1 + 1, 0, none⟩ = some vd ∧ W.cell? ⟨w.heap.size + 1 + 1, 1, none⟩ = some vp := by
 obtain ⟨n1, n2, n3, hB⟩ := alloc3 w (.cells #[.int .u8 p.f, .int .i64 p.n, .int .i64 p.k, .int .i64 p.t, .int .i64 p.s, .int .i64 p.e, .int .i64 p.d, .int .i64 p.w] T1) (.cells #[.int .i64 n, vo, vu] T2) (.cells #[vd, vp] T3)
 refine ⟨_, rfl, hB, fun W hb => ?_⟩
 have h1 := (hb.block _ (Array.getElem?_eq_some_iff.1 n1).1).trans n1
 have h2 := (hb.block _ (Array.getElem?_eq_some_iff.1 n2).1).trans n2
 have h3 := (hb.block _ (Array.getElem?_eq_some_iff.1 n3).1).trans n3
 exact ⟨⟨cell_at h1 rfl, cell_at h1 rfl, cell_at h1 rfl, cell_at h1 rfl, cell_at h1 rfl, cell_at h1 rfl, cell_at h1 rfl, cell_at h1 rfl⟩, ⟨cell_at h2 rfl, cell_at h2 rfl, cell_at h2 rfl⟩, cell_at h3 rfl, cell_at h3 rfl⟩
end Go.Proofs.YtnakbpaiidolbaaGreat
