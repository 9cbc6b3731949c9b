import Derived.Test.YtipobchbnjgenaaGreatBunK
import Derived.Laws.EntriesVeiled
set_option linter.unusedVariables false
set_option linter.unusedSimpArgs false
set_option maxRecDepth 100000
set_option maxHeartbeats 4000000
namespace Go.Proofs.YtipobchbnjgenaaGreat
open Go.RowKit Fld Slp Pln Shr
theorem cell_at {W : World} {b i : Nat} {cs : Array Value} {T : TypeId} {fz : Nat × Nat} {x : Value} (h : W.heap[b]? = some (.cells cs T fz)) (hx : cs[i]? = some x) : W.cell? ⟨b, i, none⟩ = some x := by
 unfold World.cell?; simp [h, hx]
def tkl (p : Pn) (n : Int) (vo vu : Value) : List Value := [.int .u8 p.f, .int .i64 p.n, .int .i64 p.k, .int .i64 p.t, .int .i64 p.s, .int .i64 p.e, .int .i64 p.d, .int .i64 p.w, .int .i64 n, vo, vu]
theorem tk_cells {W : World} {b : Nat} {p : Pn} {n : Int} {vo vu : Value} {l : List Value} {T : TypeId} {fz : Nat × Nat} (h : W.heap[b]? = some (.cells (tkl p n vo vu ++ l).toArray T fz)) : (W.cell? ⟨b, 0, none⟩ = some (.int .u8 p.f) ∧ W.cell? ⟨b, 1, none⟩ = some (.int .i64 p.n) ∧ W.cell? ⟨b, 2, none⟩ = some (.int .i64 p.k) ∧ W.cell? ⟨b, 3, none⟩ = some (.int .i64 p.t) ∧ W.cell? ⟨b, 4, none⟩ = some (.int .i64 p.s) ∧ W.cell? ⟨b, 5, none⟩ = some (.int .i64 p.e) ∧ W.cell? ⟨b, 6, none⟩ = some (.int .i64 p.d) ∧ W.cell? ⟨b, 7, none⟩ = some (.int .i64 p.w)) ∧ W.cell? ⟨b, 8, none⟩ = some (.int .i64 n) ∧ W.cell? ⟨b, 9, none⟩ = some vo ∧ W.cell? ⟨b, 10, none⟩ = some vu :=
 ⟨⟨cell_at h rfl, cell_at h rfl, cell_at h rfl, cell_at h rfl, cell_at h rfl, cell_at h rfl, cell_at h rfl, cell_at h rfl⟩, cell_at h rfl, cell_at h rfl, cell_at h rfl⟩
theorem tk_box (w : World) (p : Pn) (n : Int) (vo vu : Value) (T : TypeId) : Below w.heap.size w (w.alloc (.cells #[.int .u8 p.f, .int .i64 p.n, .int .i64 p.k, .int .i64 p.t, .int .i64 p.s, .int .i64 p.e, .int .i64 p.d, .int .i64 p.w, .int .i64 n, vo, vu] T)) ∧ ∀ W, Below (w.heap.size + 1) (w.alloc (.cells #[.int .u8 p.f, .int .i64 p.n, .int .i64 p.k, .int .i64 p.t, .int .i64 p.s, .int .i64 p.e, .int .i64 p.d, .int .i64 p.w, .int .i64 n, vo, vu] T)) W -> (W.cell? ⟨w.heap.size, 0, none⟩ = some (.int .u8 p.f) ∧ W.cell? ⟨w.heap.size, 1, none⟩ = some (.int .i64 p.n) ∧ W.cell? ⟨w.heap.size, 2, none⟩ = some (.int .i64 p.k) ∧ W.cell? ⟨w.heap.size, 3, none⟩ = some (.int .i64 p.t) ∧ W.cell? ⟨w.heap.size, 4, none⟩ = some (.int .i64 p.s) ∧ W.cell? ⟨w.heap.size, 5, none⟩ = some (.int .i64 p.e) ∧ W.cell? ⟨w.heap.size, 6, none⟩ = some (.int .i64 p.d) ∧ W.cell? ⟨w.heap.size, 7, none⟩ = some (.int .i64 p.w)) ∧ W.cell? ⟨w.heap.size, 8, none⟩ = some (.int .i64 n) ∧ W.cell? ⟨w.heap.size, 9, none⟩ = some vo ∧ W.cell? ⟨w.heap.size, 10, none⟩ = some vu :=
 ⟨alloc_below _ _, fun W hb => tk_cells (l := []) (T := T) (fz := (0, 0)) ((hb.block _ (Nat.lt_succ_self _)).trans (heap_alloc_new _ _))⟩
theorem tFits (p : Pn) (q : Pr) (vo vu : Value) (w : World) (hp : Ok8p p) (hq : Pm w (.agg #[.int .i64 q.inp, vo, vu]) q) : Calls Tryz.prog 98 #[.agg #[.int .u8 p.f, .int .i64 p.n, .int .i64 p.k, .int .i64 p.t, .int .i64 p.s, .int .i64 p.e, .int .i64 p.d, .int .i64 p.w, .int .i64 q.inp, vo, vu]] w fun e w' => e = .returned (.bool (fitQ p q)) ∧ Below w.heap.size w w' := by
 have HM := hide (gMay p hp)
 unfold Ans at HM
 rw [plan_eq] at HM
 have HO := hide (fun W (hb : Below w.heap.size w W) => gOf _ q W (hq.below hb))
 unfold IsOf at HO
 obtain ⟨v1, v2, e, ho, hu⟩ := hq.form
 injection e with e
 injection e with e
 injection e with _ e
 injection e with e1 e
 injection e with e2 _
 subst e1 e2
 obtain ⟨ao, ca, rfl, _⟩ := ho.spell
 obtain ⟨au, cu, rfl, _⟩ := hu.spell
 obtain ⟨hA, hS⟩ := tk_box w p q.inp (.slice ao q.ops.length ca) (.slice au q.outs.length cu) 162
 have HS := hide hS
 clear hS ho hu hq hp
 have hF : fitQ p q = (mayP p && (decide (ofE q = 0) && (decide (q.inp = p.w) && decide (ofV q <= p.d)))) := rfl
 cases hm : mayP p with
 | false =>
  rw [hm] at HM hF
  rw [hF]
  clear hF hm
  go_enter Tryz.func98, Tryz.ntmps98
  go_wp2_with (go_at_call 121; refine (HM.out _).mono ?_; rintro e w1 ⟨rfl, hb1⟩; have hB1 := Below.next hA hb1)
  go_ret
  exact ⟨rfl, hB1⟩
 | true =>
  rw [hm] at HM hF
  by_cases hi : q.inp = p.w
  · have hne : (q.inp != p.w) = false := by simp [hi]
    have hF : fitQ p q = (decide (ofE q = 0) && decide (ofV q <= p.d)) := by rw [hF]; simp [hi]
    rw [hF]
    clear hF hm hi
    generalize ofE q = er at *
    generalize ofV q = dv at *
    by_cases he : er = 0
    · subst he
      rw [show (decide ((0 : Int) = 0) && decide (dv <= p.d)) = decide (dv <= p.d) by simp]
      go_enter Tryz.func98, Tryz.ntmps98
      go_wp2_with (first
       | (go_at_call 121; refine (HM.out _).mono ?_; rintro e w1 ⟨rfl, hb1⟩; have hB1 := Below.next hA hb1; obtain ⟨⟨c0, c1, c2, c3, c4, c5, c6, c7⟩, d0, d1, d2⟩ := HS.out _ (by simpa using hb1))
       | (go_at_call 122; refine (HO.out _ hB1).mono ?_; rintro e w2 ⟨rfl, hb2⟩; have hB2 := Below.next hB1 hb2; clear c0 c1 c2 c3 c4 c5 c6 c7 d0 d1 d2; obtain ⟨⟨c0, c1, c2, c3, c4, c5, c6, c7⟩, d0, d1, d2⟩ := HS.out _ (by simpa using Below.next hb1 hb2)))
      go_ret
      exact ⟨rfl, hB2⟩
    · have he' : (er == 0) = false := by simp [he]
      rw [show (decide (er = 0) && decide (dv <= p.d)) = false by simp [he]]
      clear he
      go_enter Tryz.func98, Tryz.ntmps98
      go_wp2_with (first
       | (go_at_call 121; refine (HM.out _).mono ?_; rintro e w1 ⟨rfl, hb1⟩; have hB1 := Below.next hA hb1; obtain ⟨⟨c0, c1, c2, c3, c4, c5, c6, c7⟩, d0, d1, d2⟩ := HS.out _ (by simpa using hb1))
       | (go_at_call 122; refine (HO.out _ hB1).mono ?_; rintro e w2 ⟨rfl, hb2⟩; have hB2 := Below.next hB1 hb2; clear c0 c1 c2 c3 c4 c5 c6 c7 d0 d1 d2; obtain ⟨⟨c0, c1, c2, c3, c4, c5, c6, c7⟩, d0, d1, d2⟩ := HS.out _ (by simpa using Below.next hb1 hb2)))
      go_ret
      exact ⟨rfl, hB2⟩
  · have hne : (q.inp != p.w) = true := bne_iff_ne.2 hi
    rw [show fitQ p q = false by rw [hF]; simp [hi]]
    clear hF hm hi
    go_enter Tryz.func98, Tryz.ntmps98
    go_wp2_with (go_at_call 121; refine (HM.out _).mono ?_; rintro e w1 ⟨rfl, hb1⟩; have hB1 := Below.next hA hb1; obtain ⟨⟨c0, c1, c2, c3, c4, c5, c6, c7⟩, d0, d1, d2⟩ := HS.out _ (by simpa using hb1))
    go_ret
    exact ⟨rfl, hB1⟩
theorem tk_box3 (w : World) (p : Pn) (n : Int) (vo vu vr : Value) (T1 T2 T3 : TypeId) : ∃ W1, ((w.alloc (.cells #[.int .u8 p.f, .int .i64 p.n, .int .i64 p.k, .int .i64 p.t, .int .i64 p.s, .int .i64 p.e, .int .i64 p.d, .int .i64 p.w] T1)).alloc (.cells #[.int .i64 n, vo, vu] T2)).alloc (.cells #[.int .u8 p.f, .int .i64 p.n, .int .i64 p.k, .int .i64 p.t, .int .i64 p.s, .int .i64 p.e, .int .i64 p.d, .int .i64 p.w, .int .i64 n, vo, vu, vr] T3) = W1 ∧ Below w.heap.size w W1 ∧ ∀ W, Below W1.heap.size W1 W -> (W.cell? ⟨w.heap.size + 1 + 1, 0, none⟩ = some (.int .u8 p.f) ∧ W.cell? ⟨w.heap.size + 1 + 1, 1, none⟩ = some (.int .i64 p.n) ∧ W.cell? ⟨w.heap.size + 1 + 1, 2, none⟩ = some (.int .i64 p.k) ∧ W.cell? ⟨w.heap.size + 1 + 1, 3, none⟩ = some (.int .i64 p.t) ∧ W.cell? ⟨w.heap.size + 1 + 1, 4, none⟩ = some (.int .i64 p.s) ∧ W.cell? ⟨w.heap.size + 1 + 1, 5, none⟩ = some (.int .i64 p.e) ∧ W.cell? ⟨w.heap.size + 1 + 1, 6, none⟩ = some (.int .i64 p.d) ∧ W.cell? ⟨w.heap.size + 1 + 1, 7, none⟩ = some (.int .i64 p.w)) ∧ W.cell? ⟨w.heap.size + 1 + 1, 8, none⟩ = some (.int .i64 n) ∧ W.cell? ⟨w.heap.size + 1 + 1, 9, none⟩ = some vo ∧ W.cell? ⟨w.heap.size + 1 + 1, 10, none⟩ = some vu ∧ W.cell? ⟨w.heap.size + 1 + 1, 11, none⟩ = some vr := by
 refine ⟨_, rfl, Below.next (Below.next (alloc_below _ _) (alloc_below _ _)) (alloc_below _ _), fun W hb => ?_⟩
 have hN := heap_alloc_new ((w.alloc (.cells #[.int .u8 p.f, .int .i64 p.n, .int .i64 p.k, .int .i64 p.t, .int .i64 p.s, .int .i64 p.e, .int .i64 p.d, .int .i64 p.w] T1)).alloc (.cells #[.int .i64 n, vo, vu] T2)) (.cells #[.int .u8 p.f, .int .i64 p.n, .int .i64 p.k, .int .i64 p.t, .int .i64 p.s, .int .i64 p.e, .int .i64 p.d, .int .i64 p.w, .int .i64 n, vo, vu, vr] T3)
 have h1 := (hb.block _ (Array.getElem?_eq_some_iff.1 hN).1).trans hN
 have hs : ((w.alloc (.cells #[.int .u8 p.f, .int .i64 p.n, .int .i64 p.k, .int .i64 p.t, .int .i64 p.s, .int .i64 p.e, .int .i64 p.d, .int .i64 p.w] T1)).alloc (.cells #[.int .i64 n, vo, vu] T2)).heap.size = w.heap.size + 1 + 1 := by simp
 rw [hs] at h1
 obtain ⟨a, b, c, d⟩ := tk_cells (l := [vr]) h1
 exact ⟨a, b, c, d, cell_at h1 rfl⟩
theorem iOutE (p : Pn) (q : Pr) (vo vu vi : Value) (xs : List Int) (w : World) (hq : Pm w (.agg #[.int .i64 q.inp, vo, vu]) q) (hr : Rw w vi xs) : Gives 139 #[.agg #[.int .u8 p.f, .int .i64 p.n, .int .i64 p.k, .int .i64 p.t, .int .i64 p.s, .int .i64 p.e, .int .i64 p.d, .int .i64 p.w, .int .i64 q.inp, vo, vu, .func (.func 108) #[] #[]], vi] w (ruL p.f q xs) (evE p.f q xs) := by
 unfold Gives
 have HR := hide (fun W (hb : Below w.heap.size w W) => eRun p.f q _ _ xs W (hq.below hb) (hr.below hb))
 unfold Gives at HR
 have hA := alloc_below w (.cells #[.int .u8 p.f, .int .i64 p.n, .int .i64 p.k, .int .i64 p.t, .int .i64 p.s, .int .i64 p.e, .int .i64 p.d, .int .i64 p.w, .int .i64 q.inp, vo, vu, .func (.func 108) #[] #[]] 203)
 clear hq hr
 generalize ruL p.f q xs = rs at *
 generalize evE p.f q xs = er at *
 go_enter Tryz.func139, Tryz.ntmps139
 go_wp2_with (go_at_call 108; refine (HR.out _ hA).mono ?_; rintro e w1 ⟨v1, rfl, ho1, hb1⟩)
 go_ret2
 exact ⟨_, rfl, own_mono ho1 hA.size, Below.next hA hb1⟩
theorem iMadeE (p : Pn) (q : Pr) (vo vu : Value) (w : World) (hp : Ok8p p) (hq : Pm w (.agg #[.int .i64 q.inp, vo, vu]) q) : Calls Tryz.prog 107 #[plv p, .agg #[.int .i64 q.inp, vo, vu], .func (.func 108) #[] #[]] w fun e w' => e = .returned (.tuple #[if fitQ p q = true then .func (.func 139) #[.agg #[.int .u8 p.f, .int .i64 p.n, .int .i64 p.k, .int .i64 p.t, .int .i64 p.s, .int .i64 p.e, .int .i64 p.d, .int .i64 p.w, .int .i64 q.inp, vo, vu, .func (.func 108) #[] #[]]] #[] else .nilFunc, .int .i64 (ftQ p q)]) ∧ Below w.heap.size w w' := by
 obtain ⟨v1, v2, e, ho, hu⟩ := hq.form
 injection e with e
 injection e with e
 injection e with _ e
 injection e with e1 e
 injection e with e2 _
 subst e1 e2
 obtain ⟨ao, ca, rfl, _⟩ := ho.spell
 obtain ⟨au, cu, rfl, _⟩ := hu.spell
 have HF := hide (fun W (hb : Below w.heap.size w W) => tFits p q _ _ W hp (hq.below hb))
 obtain ⟨W1, hW, hA, hS⟩ := tk_box3 w p q.inp (.slice ao q.ops.length ca) (.slice au q.outs.length cu) (.func (.func 108) #[] #[]) 24 28 203
 have HW := hide hW
 have HS := hide hS
 clear hW hS hq hp ho hu
 obtain ⟨⟨c0, c1, c2, c3, c4, c5, c6, c7⟩, d0, d1, d2, d3⟩ := HS.out _ (Below.refl _ _)
 rw [plan_eq]
 cases hf : fitQ p q with
 | false =>
  rw [ftQ_no hf, if_neg (by decide)]
  rw [hf] at HF
  clear hf
  go_enter Tryz.func107, Tryz.ntmps107
  go_upto_region 2 with fail
  rw [HW.out]
  go_wp2_with (go_at_call 98; refine (HF.out _ hA).mono ?_; rintro e w1 ⟨rfl, hb1⟩; have hB1 := Below.next hA hb1)
  go_ret2
  exact ⟨rfl, hB1⟩
 | true =>
  rw [ftQ_yes hf, if_pos rfl]
  rw [hf] at HF
  clear hf
  have hmf : ∀ (fn : Fn) (first cap : Array Value) (w : World), (Instr.makeFunc fn first cap).run Tryz.prog w = .ok (.func fn first cap) w := fun _ _ _ _ => rfl
  go_enter Tryz.func107, Tryz.ntmps107
  go_upto_region 2 with fail
  rw [HW.out]
  go_wp2_with (go_at_call 98; refine (HF.out _ hA).mono ?_; rintro e w1 ⟨rfl, hb1⟩; have hB1 := Below.next hA hb1; clear c0 c1 c2 c3 c4 c5 c6 c7 d0 d1 d2 d3; obtain ⟨⟨c0, c1, c2, c3, c4, c5, c6, c7⟩, d0, d1, d2, d3⟩ := HS.out _ hb1)
  go_ret2
  exact ⟨rfl, hB1⟩
theorem pq_box (w : World) (p : Pn) (n : Int) (vo vu : Value) (T1 T2 : TypeId) : ∃ W1, (w.alloc (.cells #[.int .u8 p.f, .int .i64 p.n, .int .i64 p.k, .int .i64 p.t, .int .i64 p.s, .int .i64 p.e, .int .i64 p.d, .int .i64 p.w] T1)).alloc (.cells #[.int .i64 n, vo, vu] T2) = W1 ∧ Below w.heap.size w W1 ∧ ∀ W, Below W1.heap.size W1 W -> (W.cell? ⟨w.heap.size, 0, none⟩ = some (.int .u8 p.f) ∧ W.cell? ⟨w.heap.size, 1, none⟩ = some (.int .i64 p.n) ∧ W.cell? ⟨w.heap.size, 2, none⟩ = some (.int .i64 p.k) ∧ W.cell? ⟨w.heap.size, 3, none⟩ = some (.int .i64 p.t) ∧ W.cell? ⟨w.heap.size, 4, none⟩ = some (.int .i64 p.s) ∧ W.cell? ⟨w.heap.size, 5, none⟩ = some (.int .i64 p.e) ∧ W.cell? ⟨w.heap.size, 6, none⟩ = some (.int .i64 p.d) ∧ W.cell? ⟨w.heap.size, 7, none⟩ = some (.int .i64 p.w)) ∧ W.cell? ⟨w.heap.size + 1, 0, none⟩ = some (.int .i64 n) ∧ W.cell? ⟨w.heap.size + 1, 1, none⟩ = some vo ∧ W.cell? ⟨w.heap.size + 1, 2, none⟩ = some vu := by
 refine ⟨_, rfl, Below.next (alloc_below _ _) (alloc_below _ _), fun W hb => ?_⟩
 have h0 := heap_alloc_new w (.cells #[.int .u8 p.f, .int .i64 p.n, .int .i64 p.k, .int .i64 p.t, .int .i64 p.s, .int .i64 p.e, .int .i64 p.d, .int .i64 p.w] T1)
 have hb0 := alloc_below (w.alloc (.cells #[.int .u8 p.f, .int .i64 p.n, .int .i64 p.k, .int .i64 p.t, .int .i64 p.s, .int .i64 p.e, .int .i64 p.d, .int .i64 p.w] T1)) (.cells #[.int .i64 n, vo, vu] T2)
 have hN := heap_alloc_new (w.alloc (.cells #[.int .u8 p.f, .int .i64 p.n, .int .i64 p.k, .int .i64 p.t, .int .i64 p.s, .int .i64 p.e, .int .i64 p.d, .int .i64 p.w] T1)) (.cells #[.int .i64 n, vo, vu] T2)
 have h1 := (hb.block _ (Array.getElem?_eq_some_iff.1 hN).1).trans hN
 have h2 := ((Below.next hb0 hb).block _ (Array.getElem?_eq_some_iff.1 h0).1).trans h0
 have hs : (w.alloc (.cells #[.int .u8 p.f, .int .i64 p.n, .int .i64 p.k, .int .i64 p.t, .int .i64 p.s, .int .i64 p.e, .int .i64 p.d, .int .i64 p.w] T1)).heap.size = w.heap.size + 1 := by simp
 rw [hs] at h1
 exact ⟨⟨cell_at h2 rfl, cell_at h2 rfl, cell_at h2 rfl, cell_at h2 rfl, cell_at h2 rfl, cell_at h2 rfl, cell_at h2 rfl, cell_at h2 rfl⟩, cell_at h1 rfl, cell_at h1 rfl, cell_at h1 rfl⟩
theorem gFits (p : Pn) (q : Pr) (vq : Value) (w : World) (hp : Ok8p p) (hq : Pm w vq q) : Calls Tryz.prog 73 #[plv p, vq] w fun e w' => e = .returned (.int .i64 (ftQ p q)) ∧ Below w.heap.size w w' := by
 obtain ⟨vo, vu, rfl, ho, hu⟩ := hq.form
 obtain ⟨ao, ca, rfl, _⟩ := ho.spell
 obtain ⟨au, cu, rfl, _⟩ := hu.spell
 have HF := hide (fun W (hb : Below w.heap.size w W) => tFits p q _ _ W hp (hq.below hb))
 clear ho hu hq hp
 obtain ⟨W1, hW, hA, hS⟩ := pq_box w p q.inp (.slice ao q.ops.length ca) (.slice au q.outs.length cu) 24 28
 have HW := hide hW
 have HS := hide hS
 clear hW hS
 obtain ⟨⟨c0, c1, c2, c3, c4, c5, c6, c7⟩, d0, d1, d2⟩ := HS.out _ (Below.refl _ _)
 rw [plan_eq]
 cases hf : fitQ p q with
 | false =>
  rw [ftQ_no hf]
  rw [hf] at HF
  clear hf
  go_enter Tryz.func73, Tryz.ntmps73
  go_upto_region 1 with fail
  rw [HW.out]
  go_wp2_with (go_at_call 98; refine (HF.out _ hA).mono ?_; rintro e w1 ⟨rfl, hb1⟩)
  go_ret
  exact ⟨rfl, Below.next hA hb1⟩
 | true =>
  rw [ftQ_yes hf]
  rw [hf] at HF
  clear hf
  go_enter Tryz.func73, Tryz.ntmps73
  go_upto_region 1 with fail
  rw [HW.out]
  go_wp2_with (go_at_call 98; refine (HF.out _ hA).mono ?_; rintro e w1 ⟨rfl, hb1⟩)
  go_ret
  exact ⟨rfl, Below.next hA hb1⟩
theorem gReply (p : Pn) (q : Pr) (vq vi : Value) (xs : List Int) (w : World) (hp : Ok8p p) (hq : Pm w vq q) (hr : Rw w vi xs) : Gives 82 #[plv p, vq, vi] w (rpL p q xs) (rpE p q xs) := by
 unfold Gives
 obtain ⟨vo, vu, rfl, ho, hu⟩ := hq.form
 obtain ⟨ao, ca, rfl, _⟩ := ho.spell
 obtain ⟨au, cu, rfl, _⟩ := hu.spell
 have HM := hide (fun W (hb : Below w.heap.size w W) => iMadeE p q _ _ W hp (hq.below hb))
 have HO := hide (fun W (hb : Below w.heap.size w W) => iOutE p q _ _ vi xs W (hq.below hb) (hr.below hb))
 unfold Gives at HO
 obtain ⟨ai, ci, rfl, _⟩ := hr.spell
 generalize xs.length = ln at *
 clear ho hu hq hp hr
 obtain ⟨W1, hW, hA, hS⟩ := pq_box w p q.inp (.slice ao q.ops.length ca) (.slice au q.outs.length cu) 24 28
 have HW := hide hW
 have HS := hide hS
 clear hW hS
 obtain ⟨⟨c0, c1, c2, c3, c4, c5, c6, c7⟩, d0, d1, d2⟩ := HS.out _ (Below.refl _ _)
 rw [plan_eq] at *
 cases hf : fitQ p q with
 | false =>
  obtain ⟨e1, e2⟩ := rp_no (xs := xs) hf
  rw [e1, e2]
  rw [hf, ftQ_no hf, if_neg (by decide)] at HM
  clear hf e1 e2
  go_enter Tryz.func82, Tryz.ntmps82
  go_upto_region 1 with fail
  rw [HW.out]
  go_wp2_with (go_at_call 107; refine (HM.out _ hA).mono ?_; rintro e w1 ⟨rfl, hb1⟩; have hB1 := Below.next hA hb1; clear c0 c1 c2 c3 c4 c5 c6 c7 d0 d1 d2; obtain ⟨⟨c0, c1, c2, c3, c4, c5, c6, c7⟩, d0, d1, d2⟩ := HS.out _ hb1)
  go_ret2
  exact ⟨_, rfl, World.ownsRow_nil _ _ _ _, hB1⟩
 | true =>
  obtain ⟨e1, e2⟩ := rp_yes (xs := xs) hf
  rw [e1, e2]
  rw [hf, ftQ_yes hf, if_pos rfl] at HM
  clear hf e1 e2
  generalize ruL p.f q xs = rs at *
  generalize evE p.f q xs = er at *
  go_enter Tryz.func82, Tryz.ntmps82
  go_upto_region 1 with fail
  rw [HW.out]
  go_wp2_with (first
   | (go_at_call 107; refine (HM.out _ hA).mono ?_; rintro e w1 ⟨rfl, hb1⟩; have hB1 := Below.next hA hb1; clear c0 c1 c2 c3 c4 c5 c6 c7 d0 d1 d2; obtain ⟨⟨c0, c1, c2, c3, c4, c5, c6, c7⟩, d0, d1, d2⟩ := HS.out _ hb1)
   | (go_at_call 139; refine (HO.out _ hB1).mono ?_; rintro e w2 ⟨v2, rfl, ho2, hb2⟩))
  go_ret2
  exact ⟨_, rfl, own_mono ho2 hB1.size, Below.next hB1 hb2⟩
theorem dFits16 (p : Pn) (q : Pr) (vq : Value) (w : World) (hp : Ok8p p) (hq : Pm w vq q) : Calls Tryz.prog 61 #[plv p, vq] w fun e w' => e = .returned (.int .i64 (ftQ p q)) ∧ Below w.heap.size w w' := by
 obtain ⟨vo, vu, rfl, ho, hu⟩ := hq.form
 obtain ⟨ao, ca, rfl, _⟩ := ho.spell
 obtain ⟨au, cu, rfl, _⟩ := hu.spell
 have HO := hide (fun W (hb : Below w.heap.size w W) => dOf _ q W (hq.below hb))
 have HM := hide (dMayP p hp)
 unfold IsOf at HO
 unfold Ans at HM
 clear ho hu hq hp
 obtain ⟨W1, hW, hA, hS⟩ := pq_box w p q.inp (.slice ao q.ops.length ca) (.slice au q.outs.length cu) 24 28
 have HW := hide hW
 have HS := hide hS
 clear hW hS
 obtain ⟨⟨c0, c1, c2, c3, c4, c5, c6, c7⟩, d0, d1, d2⟩ := HS.out _ (Below.refl _ _)
 rw [plan_eq] at *
 have hF : fitQ p q = (mayP p && (decide (ofE q = 0) && (decide (q.inp = p.w) && decide (ofV q <= p.d)))) := rfl
 cases hm : mayP p with
 | false =>
  rw [hm] at HM hF
  rw [ftQ_no hF]
  clear hF hm
  generalize ofE q = er at *
  generalize ofV q = dv at *
  go_enter Tryz.func61, Tryz.ntmps61
  go_upto_region 1 with fail
  rw [HW.out]
  go_wp2_with (first
   | (go_at_call 91; refine (HO.out _ hA).mono ?_; rintro e w1 ⟨rfl, hb1⟩; have hB1 := Below.next hA hb1; clear c0 c1 c2 c3 c4 c5 c6 c7 d0 d1 d2; obtain ⟨⟨c0, c1, c2, c3, c4, c5, c6, c7⟩, d0, d1, d2⟩ := HS.out _ hb1)
   | (go_at_call 89; refine (HM.out _).mono ?_; rintro e w2 ⟨rfl, hb2⟩; have hC2 := Below.next hb1 hb2; have hB2 := Below.next hB1 hb2; clear c0 c1 c2 c3 c4 c5 c6 c7 d0 d1 d2; obtain ⟨⟨c0, c1, c2, c3, c4, c5, c6, c7⟩, d0, d1, d2⟩ := HS.out _ hC2))
  go_ret
  exact ⟨rfl, hB2⟩
 | true =>
  rw [hm] at HM hF
  by_cases he : ofE q = 0
  · by_cases hi : q.inp = p.w
    · have hne : (q.inp != p.w) = false := by simp [hi]
      by_cases hd : ofV q <= p.d
      · rw [ftQ_yes (by rw [hF]; simp [hi, he, hd])]
        rw [he] at HO
        have hd' : ¬ p.d < ofV q := by omega
        clear hF hm hi he hd
        generalize ofV q = dv at *
        go_enter Tryz.func61, Tryz.ntmps61
        go_upto_region 1 with fail
        rw [HW.out]
        go_wp2_with (first
         | (go_at_call 91; refine (HO.out _ hA).mono ?_; rintro e w1 ⟨rfl, hb1⟩; have hB1 := Below.next hA hb1; clear c0 c1 c2 c3 c4 c5 c6 c7 d0 d1 d2; obtain ⟨⟨c0, c1, c2, c3, c4, c5, c6, c7⟩, d0, d1, d2⟩ := HS.out _ hb1)
         | (go_at_call 89; refine (HM.out _).mono ?_; rintro e w2 ⟨rfl, hb2⟩; have hC2 := Below.next hb1 hb2; have hB2 := Below.next hB1 hb2; clear c0 c1 c2 c3 c4 c5 c6 c7 d0 d1 d2; obtain ⟨⟨c0, c1, c2, c3, c4, c5, c6, c7⟩, d0, d1, d2⟩ := HS.out _ hC2))
        go_ret
        exact ⟨rfl, hB2⟩
      · rw [ftQ_no (by rw [hF]; simp [hi, he, hd])]
        rw [he] at HO
        have hd' : p.d < ofV q := by omega
        clear hF hm hi he hd
        generalize ofV q = dv at *
        go_enter Tryz.func61, Tryz.ntmps61
        go_upto_region 1 with fail
        rw [HW.out]
        go_wp2_with (first
         | (go_at_call 91; refine (HO.out _ hA).mono ?_; rintro e w1 ⟨rfl, hb1⟩; have hB1 := Below.next hA hb1; clear c0 c1 c2 c3 c4 c5 c6 c7 d0 d1 d2; obtain ⟨⟨c0, c1, c2, c3, c4, c5, c6, c7⟩, d0, d1, d2⟩ := HS.out _ hb1)
         | (go_at_call 89; refine (HM.out _).mono ?_; rintro e w2 ⟨rfl, hb2⟩; have hC2 := Below.next hb1 hb2; have hB2 := Below.next hB1 hb2; clear c0 c1 c2 c3 c4 c5 c6 c7 d0 d1 d2; obtain ⟨⟨c0, c1, c2, c3, c4, c5, c6, c7⟩, d0, d1, d2⟩ := HS.out _ hC2))
        go_ret
        exact ⟨rfl, hB2⟩
    · have hne : (q.inp != p.w) = true := bne_iff_ne.2 hi
      rw [ftQ_no (by rw [hF]; simp [hi])]
      rw [he] at HO
      clear hF hm hi he
      generalize ofV q = dv at *
      go_enter Tryz.func61, Tryz.ntmps61
      go_upto_region 1 with fail
      rw [HW.out]
      go_wp2_with (first
       | (go_at_call 91; refine (HO.out _ hA).mono ?_; rintro e w1 ⟨rfl, hb1⟩; have hB1 := Below.next hA hb1; clear c0 c1 c2 c3 c4 c5 c6 c7 d0 d1 d2; obtain ⟨⟨c0, c1, c2, c3, c4, c5, c6, c7⟩, d0, d1, d2⟩ := HS.out _ hb1)
       | (go_at_call 89; refine (HM.out _).mono ?_; rintro e w2 ⟨rfl, hb2⟩; have hC2 := Below.next hb1 hb2; have hB2 := Below.next hB1 hb2; clear c0 c1 c2 c3 c4 c5 c6 c7 d0 d1 d2; obtain ⟨⟨c0, c1, c2, c3, c4, c5, c6, c7⟩, d0, d1, d2⟩ := HS.out _ hC2))
      go_ret
      exact ⟨rfl, hB2⟩
  · have he' : (ofE q != 0) = true := bne_iff_ne.2 he
    rw [ftQ_no (by rw [hF]; simp [he])]
    clear hF hm he
    generalize ofE q = er at *
    generalize ofV q = dv at *
    go_enter Tryz.func61, Tryz.ntmps61
    go_upto_region 1 with fail
    rw [HW.out]
    go_wp2_with (first
     | (go_at_call 91; refine (HO.out _ hA).mono ?_; rintro e w1 ⟨rfl, hb1⟩; have hB1 := Below.next hA hb1; clear c0 c1 c2 c3 c4 c5 c6 c7 d0 d1 d2; obtain ⟨⟨c0, c1, c2, c3, c4, c5, c6, c7⟩, d0, d1, d2⟩ := HS.out _ hb1)
     | (go_at_call 89; refine (HM.out _).mono ?_; rintro e w2 ⟨rfl, hb2⟩; have hC2 := Below.next hb1 hb2; have hB2 := Below.next hB1 hb2; clear c0 c1 c2 c3 c4 c5 c6 c7 d0 d1 d2; obtain ⟨⟨c0, c1, c2, c3, c4, c5, c6, c7⟩, d0, d1, d2⟩ := HS.out _ hC2))
    go_ret
    exact ⟨rfl, hB2⟩
theorem dReply16 (p : Pn) (q : Pr) (vq vi : Value) (xs : List Int) (w : World) (hp : Ok8p p) (hq : Pm w vq q) (hr : Rw w vi xs) : Gives 31 #[plv p, vq, vi] w (rpL p q xs) (rpE p q xs) := by
 unfold Gives
 obtain ⟨vo, vu, rfl, ho, hu⟩ := hq.form
 obtain ⟨ao, ca, rfl, _⟩ := ho.spell
 obtain ⟨au, cu, rfl, _⟩ := hu.spell
 have HF := hide (fun W (hb : Below w.heap.size w W) => dFits16 p q _ W hp (hq.below hb))
 have HO := hide (fun W (hb : Below w.heap.size w W) => dRun p.f q _ vi xs W (hq.below hb) (hr.below hb))
 unfold Gives at HO
 obtain ⟨ai, ci, rfl, _⟩ := hr.spell
 generalize xs.length = ln at *
 clear ho hu hq hp hr
 obtain ⟨W1, hW, hA, hS⟩ := pq_box w p q.inp (.slice ao q.ops.length ca) (.slice au q.outs.length cu) 24 28
 have HW := hide hW
 have HS := hide hS
 clear hW hS
 obtain ⟨⟨c0, c1, c2, c3, c4, c5, c6, c7⟩, d0, d1, d2⟩ := HS.out _ (Below.refl _ _)
 rw [plan_eq] at *
 cases hf : fitQ p q with
 | false =>
  obtain ⟨e1, e2⟩ := rp_no (xs := xs) hf
  rw [e1, e2]
  rw [ftQ_no hf] at HF
  clear hf e1 e2
  go_enter Tryz.func31, Tryz.ntmps31
  go_upto_region 1 with fail
  rw [HW.out]
  go_wp2_with (go_at_call 61; refine (HF.out _ hA).mono ?_; rintro e w1 ⟨rfl, hb1⟩; have hB1 := Below.next hA hb1; clear c0 c1 c2 c3 c4 c5 c6 c7 d0 d1 d2; obtain ⟨⟨c0, c1, c2, c3, c4, c5, c6, c7⟩, d0, d1, d2⟩ := HS.out _ hb1)
  go_ret2
  exact ⟨_, rfl, World.ownsRow_nil _ _ _ _, hB1⟩
 | true =>
  obtain ⟨e1, e2⟩ := rp_yes (xs := xs) hf
  rw [e1, e2]
  rw [ftQ_yes hf] at HF
  clear hf e1 e2
  generalize ruL p.f q xs = rs at *
  generalize evE p.f q xs = er at *
  go_enter Tryz.func31, Tryz.ntmps31
  go_upto_region 1 with fail
  rw [HW.out]
  go_wp2_with (first
   | (go_at_call 61; refine (HF.out _ hA).mono ?_; rintro e w1 ⟨rfl, hb1⟩; have hB1 := Below.next hA hb1; clear c0 c1 c2 c3 c4 c5 c6 c7 d0 d1 d2; obtain ⟨⟨c0, c1, c2, c3, c4, c5, c6, c7⟩, d0, d1, d2⟩ := HS.out _ hb1)
   | (go_at_call 65; refine (HO.out _ hB1).mono ?_; rintro e w2 ⟨v2, rfl, ho2, hb2⟩))
  go_ret2
  exact ⟨_, rfl, own_mono ho2 hB1.size, Below.next hB1 hb2⟩
end Go.Proofs.YtipobchbnjgenaaGreat
