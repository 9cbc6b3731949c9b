import Derived.Test.YtcglbbglapomgaaBNdtE
import Derived.Test.YtcglbbglapomgaaBQTail
set_option linter.unusedVariables false
set_option linter.unusedSimpArgs false
set_option maxRecDepth 100000
set_option maxHeartbeats 4000000
namespace Go.Proofs.Ytcglbbglapomgaa
open Go.RowKit Fld
theorem Nd.has_no {w : World} {base g : Nat} {v : Value} {N : Nt} {es : List Dk} (h : Nd w base g v N es) {i : Nat} (hi : i < N.l.length) : ∃ e, es[i]? = some e ∧ N.l.getD (i : Int).toNat pk0 = e.1 := by
 obtain ⟨e, h1, h2⟩ := h.has hi
 refine ⟨e, h1, ?_⟩
 have := at_getD hi
 rw [h2] at this
 simpa using this.symm
theorem drewN_below (w : World) : ∀ n, Below w.heap.size w (w.drewN n)
 | 0 => Below.refl _ w
 | n + 1 => (drewN_below w n).drew
theorem Nd.set3_ {w : World} {base g : Nat} {v : Value} {N : Nt} {es : List Dk} (h : Nd w base g v N es) (d : Nat) : Nd (w.setCell ⟨g, 3, none⟩ (.int .i64 (d : Int))) base g v { N with d := d } es :=
 ⟨by rw [set_blk h.net 3 _]; rfl, ⟨ownsRow_setCell_other h.pks.row h.ne _, fun e he => ⟨ownsRow_setCell_other (h.pks.each e he).1 (h.une he) _, (h.pks.each e he).2⟩⟩, h.eq, h.low⟩
theorem Nd.set4_ {w : World} {base g : Nat} {v : Value} {N : Nt} {es : List Dk} (h : Nd w base g v N es) (c : Nat) : Nd (w.setCell ⟨g, 4, none⟩ (.int .i64 (c : Int))) base g v { N with c := c } es :=
 ⟨by rw [set_blk h.net 4 _]; rfl, ⟨ownsRow_setCell_other h.pks.row h.ne _, fun e he => ⟨ownsRow_setCell_other (h.pks.each e he).1 (h.une he) _, (h.pks.each e he).2⟩⟩, h.eq, h.low⟩
theorem Nd.rb_mv {w w' : World} {base g : Nat} {v v' : Value} {N : Nt} {es : List Dk} (h : Nd w base g v N es) (m : Mv w w' g v v') {e : Dk} (he : e ∈ es) : w'.ownsRow base 5 1 e.2 e.1.b.length (valb e.1.b) := by
 refine m.kq.own (h.pks.each e he).1 (fun j hj => ⟨((h.pks.each e he).1.lt j hj).2, fun e2 => ?_, fun e2 => ?_⟩)
 · subst e2; exact h.une he hj
 · exact own_kindO (h.pks.each e he).1 h.pks.row (by decide) j hj e2
theorem dDrop21 {w : World} {base g : Nat} {v : Value} {N : Nt} (hy : Ny w base g v N) (hb : base <= w.heap.size) (hk : NtOk N) (hs : N.s < 4611686018427387904) (i : Int) :
 Calls Try.prog 26 #[.pointer (some ⟨g, 0, none⟩), .int .i64 i] w fun e w' => ∃ v', e = .returned (.int .i64 (plE N i)) ∧ Ny w' base g v' (dpN N i) ∧ Mv w w' g v v' := by
 have HP := hide hy
 obtain ⟨es, h⟩ := hy
 have H := hide (dHas21 h i)
 rcases pl_cases N i with ⟨k, rfl, hkl, hh, e⟩ | ⟨hh, e⟩
 · have e2 : dpN N (k : Int) = { N with l := N.l.eraseIdx k, c := N.c + 1 } := by unfold dpN; rw [if_pos hh, Int.toNat_natCast]
   rw [hh] at H
   rw [e, e2]
   obtain ⟨x, hx, _⟩ := h.has_no hkl
   have hsum := hk.sum
   have h1 := h.set4_ (N.c + 1)
   have HT := hide (dTake21 h1 (by simpa using hb) hk.len hx)
   have HM := hide (mv_set w g 4 (.int .i64 ((N.c + 1 : Nat) : Int)) v)
   have c4 := h.cells.2.2.2.2
   have f4 := h.free 4
   have hc : (N.c : Int) + 1 = ((N.c + 1 : Nat) : Int) := by omega
   have hc3 : N.c + 1 < 4611686018427387905 := by omega
   clear e e2 hh hkl h h1 hsum hx
   dsimp only at HT
   generalize ((N.c + 1 : Nat) : Int) = c1 at *
   generalize hW1 : w.setCell ⟨g, 4, none⟩ (.int .i64 c1) = w1 at *
   go_enter Try.func26, Try.ntmps26
   go_wp2_with (first
    | (go_at_call 42; refine H.out.mono ?_; rintro e w2 ⟨rfl, hw2⟩; rw [hw2]; clear hw2)
    | (go_at_call 43; refine HT.out.mono ?_; rintro e w3 ⟨rfl, r', c', hn3, hm3⟩))
   go_ret
   exact ⟨_, rfl, ⟨_, hn3⟩, HM.out.trans hm3⟩
 · rw [hh] at H
   have e2 : dpN N i = N := by unfold dpN; rw [if_neg (by rw [hh]; decide)]
   rw [e, e2]
   have HM := hide (Mv.refl w g v)
   clear e e2 hh h
   go_enter Try.func26, Try.ntmps26
   go_wp2_with (go_at_call 42; refine H.out.mono ?_; rintro e w1 ⟨rfl, rfl⟩)
   go_ret
   exact ⟨_, rfl, HP.out, HM.out⟩
theorem dDouble21 {w : World} {base g : Nat} {v : Value} {N : Nt} (hy : Ny w base g v N) (hb : base <= w.heap.size) (hk : NtOk N) (hs : N.s < 4611686018427387904) (i : Int) :
 Calls Try.prog 27 #[.pointer (some ⟨g, 0, none⟩), .int .i64 i] w fun e w' => ∃ v', e = .returned (.int .i64 (dbE N i)) ∧ Ny w' base g v' (dbN N i) ∧ Mv w w' g v v' := by
 have HP := hide hy
 obtain ⟨es, h⟩ := hy
 have H := hide (dHas21 h i)
 rcases pl_cases N i with ⟨k, rfl, hkl, hh, e⟩ | ⟨hh, e⟩
 · rw [hh] at H
   obtain ⟨x, hx, hg⟩ := h.has_no hkl
   have hmem := List.mem_of_getElem? hx
   have hpk := hk.pk _ (getD_mem hh)
   rw [hg] at hpk
   have hrb := h.pks.rb hmem
   have hB := fun n => drewN_below w n
   have HS := hide (fun n => dSend21 (h.below (hB n)) (Nat.le_trans hb (hB n).size) hs x.1.f x.1.t (hrb.below (hB n)))
   have e1 : sdE N x.1.f x.1.t x.1.b = dbE N (k : Int) := by
    unfold sdE dbE
    rw [if_pos (by omega), if_pos hh]
    by_cases q : 4096 <= N.l.length
    · rw [if_pos q, if_pos (.inl q)]
    · rw [if_neg q, if_neg (by omega)]
   have e2 : sdN N x.1.f x.1.t x.1.b = dbN N (k : Int) := by
    unfold sdN dbN
    rw [e1]
    by_cases q : dbE N (k : Int) = 0
    · rw [if_pos q, if_pos q, hg]
    · rw [if_neg q, if_neg q]
   rw [e1, e2] at HS
   have HM := hide (fun n => Mv.of_below g v (hB n))
   obtain ⟨ao, cap, rfl, hcap, hr⟩ := h.spell
   have hel := h.len
   obtain ⟨r, rfl, _, _⟩ := hr (by omega)
   obtain ⟨p0, p1, p2⟩ := h.pks.pk hx
   have c1 := h.cells.2.1
   obtain ⟨bo, bc, hxb, _⟩ := hrb.spell
   rw [hxb] at p2 HS
   have hk1 : (k : Int) < (es.length : Int) := by omega
   have hk0 : (0 : Int) <= (k : Int) := by omega
   clear e e1 e2 hh h hpk hx hg hmem hrb hB hkl hr hel
   go_enter Try.func27, Try.ntmps27
   go_wp2_with (go_at_call 42; refine H.out.mono ?_; rintro e w2 ⟨rfl, hw2⟩; rw [hw2]; clear hw2)
   refine wp_region_callS (by kernel_rfl) (by kernel_rfl) (by kernel_rfl) (by kernel_rfl) rfl ?_
   simp only [List.dropLast]
   go_big_quiet_step (fail)
   repeat (go_big_quiet_step (fail))
   refine wpQuiet_nil ?_
   intro _ hw'
   obtain ⟨nq, hw''⟩ := hw'
   subst hw''
   simp only [lastL]
   clear c1 p0 p1 p2
   go_wp2_with (go_at_call 23; refine (HS.out nq).mono ?_; rintro e w3 ⟨v3, rfl, hn3, hm3⟩)
   simp only [tailQ]
   go_wp2
   go_ret
   exact ⟨_, rfl, hn3, (HM.out nq).trans hm3⟩
 · rw [hh] at H
   have e1 : dbE N i = 2 := by unfold dbE; rw [if_neg (by rw [hh]; decide)]
   have e2 : dbN N i = N := by unfold dbN; rw [if_neg (by rw [e1]; decide)]
   rw [e1, e2]
   have HM := hide (Mv.refl w g v)
   clear e e1 e2 hh h
   go_enter Try.func27, Try.ntmps27
   go_wp2_with (go_at_call 42; refine H.out.mono ?_; rintro e w1 ⟨rfl, rfl⟩)
   go_ret
   exact ⟨_, rfl, HP.out, HM.out⟩
end Go.Proofs.Ytcglbbglapomgaa
