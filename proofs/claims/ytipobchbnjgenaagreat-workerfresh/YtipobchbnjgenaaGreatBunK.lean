import Derived.Test.YtipobchbnjgenaaGreatBunH
import Derived.Lib.AppendZerosOnto
import Derived.Test.YtipobchbnjgenaaGreatBunYQ
import Derived.Test.YtipobchbnjgenaaGreatBRndA
import Derived.Test.YtipobchbnjgenaaGreatBunNA
import Derived.Test.YtipobchbnjgenaaGreatBRngA
import Derived.Test.YtipobchbnjgenaaGreatBEvrA
set_option linter.unusedVariables false
set_option linter.unusedSimpArgs false
set_option maxRecDepth 100000
set_option maxHeartbeats 4000000
namespace Go.Proofs.YtipobchbnjgenaaGreat
open Go.RowKit Fld Slp
def topK (xss : List (List Int)) (k : Nat) : Nat := (xss.take k).foldl (fun m xs => max m ((tr xs).length - 1)) 0
def top (xss : List (List Int)) : Nat := topK xss xss.length
end Go.Proofs.YtipobchbnjgenaaGreat
namespace Go.Proofs.YtipobchbnjgenaaGreat
open Go.RowKit Fld
end Go.Proofs.YtipobchbnjgenaaGreat
namespace Go.Proofs.YtipobchbnjgenaaGreat
open Go.RowKit Go.Shelf Fld
attribute [local go_sem] Oper.semAt_some
theorem cell_of_heap {W W' : World} {b k : Nat} (h : W'.heap[b]? = W.heap[b]?) : W'.cell? ⟨b, k, none⟩ = W.cell? ⟨b, k, none⟩ := World.cell?_of_block h
end Go.Proofs.YtipobchbnjgenaaGreat
namespace Go.Proofs.YtipobchbnjgenaaGreat
open Go.RowKit Fld
end Go.Proofs.YtipobchbnjgenaaGreat
namespace Go.Proofs.YtipobchbnjgenaaGreat
open Go.RowKit Go.Shelf Fld
attribute [local go_sem] Oper.semAt_some
attribute [local go_sem] Oper.semAt_some
end Go.Proofs.YtipobchbnjgenaaGreat
namespace Go.Proofs.YtipobchbnjgenaaGreat
open Go.RowKit Fld Pln
end Go.Proofs.YtipobchbnjgenaaGreat
namespace Go.Proofs.YtipobchbnjgenaaGreat
open Go.RowKit Fld Pln Shr
def elsB (f : Int) (l : List (List Int)) : Bool := l.all (fun xs => inF f xs)
def lenB (w : Int) (l : List (List Int)) : Bool := l.all (fun xs => decide ((xs.length : Int) = w))
def blkB (w n : Int) (l : List (List Int)) : Bool := lenB w l && decide ((l.length : Int) = n)
def whoB (n : Int) (l : List Int) : Bool := l.all (fun x => decide (0 <= x ∧ x < n))
def bkE (p : Pn) (dl pl : List (List Int)) (who : List Int) : Int := if mayP p && elsB p.f dl && elsB p.f pl && whoB p.n who then (if blkB p.w p.k dl && blkB p.w p.t pl then 0 else 3) else 2
end Go.Proofs.YtipobchbnjgenaaGreat
namespace Go.Proofs.YtipobchbnjgenaaGreat
open Go.RowKit Fld Slp Pln Shr
def fitQ (p : Pn) (q : Pr) : Bool := mayP p && (decide (ofE q = 0) && (decide (q.inp = p.w) && decide (ofV q <= p.d)))
def ftQ (p : Pn) (q : Pr) : Int := if fitQ p q = true then 0 else 2
def rpE (p : Pn) (q : Pr) (xs : List Int) : Int := if fitQ p q = true then evE p.f q xs else 2
def rpL (p : Pn) (q : Pr) (xs : List Int) : List Int := if rpE p q xs = 0 then rnO (Rf p.f) q xs else []
def hnE (p : Pn) (q : Pr) (dl pl : List (List Int)) (i : Int) : Int := if fitQ p q = true then bkE p dl pl [i] else 2
theorem fit_facts {p : Pn} {q : Pr} (h : fitQ p q = true) : mayP p = true ∧ mayB q = true ∧ ofE q = 0 ∧ q.inp = p.w ∧ ofV q <= p.d := by
 unfold fitQ at h
 rw [Bool.and_eq_true, Bool.and_eq_true, Bool.and_eq_true] at h
 obtain ⟨h1, h2, h3, h4⟩ := h
 have h2 := of_decide_eq_true h2
 refine ⟨h1, ?_, h2, of_decide_eq_true h3, of_decide_eq_true h4⟩
 cases hm : mayB q with
 | true => rfl
 | false => unfold ofE at h2; rw [hm] at h2; simp at h2
theorem ftQ_yes {p : Pn} {q : Pr} (h : fitQ p q = true) : ftQ p q = 0 := if_pos h
theorem ftQ_no {p : Pn} {q : Pr} (h : fitQ p q = false) : ftQ p q = 2 := by unfold ftQ; rw [h]; rfl
end Go.Proofs.YtipobchbnjgenaaGreat
namespace Go.Proofs.YtipobchbnjgenaaGreat
open Go.RowKit Fld Slp
theorem ru_wd (f : Int) (q : Pr) (xs : List Int) (hw : ∀ x ∈ xs, 0 <= x ∧ x <= 18446744073709551615) : ((ruL f q xs).length <= 64 ∧ ∀ x ∈ ruL f q xs, 0 <= x ∧ x <= 18446744073709551615) ∧ ((stL f q xs).length <= 320 ∧ ∀ x ∈ stL f q xs, 0 <= x ∧ x <= 18446744073709551615) := by
 by_cases he : evE f q xs = 0
 · obtain ⟨hm, h1, h2⟩ := evE_zero he
   obtain ⟨p, wd, hf, hi⟩ := inF_fi h1
   have hx := els_of hi hw
   obtain ⟨⟨j0, j1, l1, l2⟩, _, _⟩ := mayB_iff.1 hm
   have e1 : ruL f q xs = rnO (Rf f) q xs := by unfold ruL; rw [if_pos he]
   have e2 : stL f q xs = rns (Rf f) q xs := by unfold stL; rw [if_pos he]
   have hall : Els p (rns (Rf f) q xs) := el_all hf q.ops xs hx
   rw [e1, e2]
   refine ⟨⟨by rw [rnO_len]; omega, fun x hx' => ?_⟩, by unfold rns; rw [rnL_len]; omega, els_words hall hf.top⟩
   obtain ⟨v, _, rfl⟩ := List.mem_map.1 hx'
   exact elWord (hall.co hf.pos v.toNat) hf.top
 · have e1 : ruL f q xs = [] := by unfold ruL; rw [if_neg he]
   have e2 : stL f q xs = [] := by unfold stL; rw [if_neg he]
   rw [e1, e2]
   simp
section
variable {w W W' : World} {p : Pr} {vo vu : Value} {b0 b1 B b7 : Nat} {yo yu : Value} {os : List O4} {us : List Int}
end
end Go.Proofs.YtipobchbnjgenaaGreat
namespace Go.Proofs.YtipobchbnjgenaaGreat
open Go.RowKit Fld Rnk
end Go.Proofs.YtipobchbnjgenaaGreat
namespace Go.Proofs.YtipobchbnjgenaaGreat
open Go.RowKit Fld Pln Shr
end Go.Proofs.YtipobchbnjgenaaGreat
namespace Go.Proofs.YtipobchbnjgenaaGreat
open Go.RowKit Fld
end Go.Proofs.YtipobchbnjgenaaGreat
namespace Go.Proofs.YtipobchbnjgenaaGreat
open Go.RowKit Fld Pln Shr
theorem cell_far {W : World} {g k b off : Nat} {v : Value} (h : b ≠ g) : (W.setCell ⟨g, k, none⟩ v).cell? ⟨b, off, none⟩ = W.cell? ⟨b, off, none⟩ := World.cell?_of_block (Below.heap_setCell W ⟨g, k, none⟩ v b h)
theorem plan_eq (p : Pn) : plv p = .agg #[.int .u8 p.f, .int .i64 p.n, .int .i64 p.k, .int .i64 p.t, .int .i64 p.s, .int .i64 p.e, .int .i64 p.d, .int .i64 p.w] := rfl
theorem getD_app {α : Type} (a b : List α) (d : α) (i : Nat) : (a ++ b).getD i d = if i < a.length then a.getD i d else b.getD (i - a.length) d := by
 rw [List.getD_eq_getElem?_getD, List.getD_eq_getElem?_getD, List.getD_eq_getElem?_getD]
 by_cases h : i < a.length
 · rw [if_pos h, List.getElem?_append_left h]
 · rw [if_neg h, List.getElem?_append_right (by omega)]
end Go.Proofs.YtipobchbnjgenaaGreat
namespace Go.Proofs.YtipobchbnjgenaaGreat
open Go.RowKit Pln
theorem fd_btw (f : Int) : fdB f = btw f 1 2 := by
 unfold fdB btw
 rw [Bool.eq_iff_iff]
 simp only [Bool.or_eq_true, beq_iff_eq, decide_eq_true_iff]
 omega
theorem dWithin (n a b : Int) (w : World) : Calls Tryz.prog 113 #[.int .i64 n, .int .i64 a, .int .i64 b] w fun e w' => e = .returned (.bool (btw n a b)) ∧ w' = w := by
 by_cases h1 : a <= n <;> by_cases h2 : n <= b
 all_goals
  go_enter Tryz.func113, Tryz.ntmps113
  go_wp2
  all_goals
   go_ret
   refine ⟨?_, rfl⟩
   simp_all [btw]
   try omega
theorem dMayP (p : Pn) (h : Ok8p p) : Ans 89 #[plv p] (.bool (mayP p)) := by
 intro w
 rw [mayP_all, fd_btw]
 obtain ⟨⟨hf0, hf1⟩, _, hk, _⟩ := h
 unfold I64 at hk
 have H0 := hide (dWithin p.f 1 2)
 have H1 := hide (dWithin p.n 1 64)
 have H2 := hide (dWithin p.k 1 64)
 have H3 := hide (dWithin p.w 1 64)
 have H4 := hide (dWithin p.t 0 (64 - p.k))
 have H5 := hide (dWithin p.s 0 64)
 have H6 := hide (dWithin p.e 0 64)
 have H7 := hide (dWithin p.d 0 1024)
 have hkb : btw p.k 1 64 = true -> 1 <= p.k ∧ p.k <= 64 := fun h => of_decide_eq_true h
 have HK := hide hkb
 clear hkb
 generalize btw p.f 1 2 = b0 at *
 generalize btw p.n 1 64 = b1 at *
 generalize btw p.k 1 64 = b2 at *
 generalize btw p.w 1 64 = b3 at *
 generalize btw p.t 0 (64 - p.k) = b4 at *
 generalize btw p.s 0 64 = b5 at *
 generalize btw p.e 0 64 = b6 at *
 generalize btw p.d 0 1024 = b7 at *
 unfold plv plw
 have hcs : b0 = false ∨ (b0 = true ∧ b1 = false) ∨ (b0 = true ∧ b1 = true ∧ b2 = false) ∨ (b0 = true ∧ b1 = true ∧ b2 = true ∧ b3 = false) ∨ (b0 = true ∧ b1 = true ∧ b2 = true ∧ b3 = true ∧ b4 = false) ∨ (b0 = true ∧ b1 = true ∧ b2 = true ∧ b3 = true ∧ b4 = true ∧ b5 = false) ∨ (b0 = true ∧ b1 = true ∧ b2 = true ∧ b3 = true ∧ b4 = true ∧ b5 = true ∧ b6 = false) ∨ (b0 = true ∧ b1 = true ∧ b2 = true ∧ b3 = true ∧ b4 = true ∧ b5 = true ∧ b6 = true) := by
  cases b0 <;> cases b1 <;> cases b2 <;> cases b3 <;> cases b4 <;> cases b5 <;> cases b6 <;> decide
 rcases hcs with rfl | ⟨rfl, rfl⟩ | ⟨rfl, rfl, rfl⟩ | ⟨rfl, rfl, rfl, rfl⟩ | ⟨rfl, rfl, rfl, rfl, rfl⟩ | ⟨rfl, rfl, rfl, rfl, rfl, rfl⟩ | ⟨rfl, rfl, rfl, rfl, rfl, rfl, rfl⟩ | ⟨rfl, rfl, rfl, rfl, rfl, rfl, rfl⟩
 all_goals
  try have hk2 := HK.out rfl
  go_enter Tryz.func89, Tryz.ntmps89
  go_wp2_with (first
   | (go_at_call 113; with_reducible refine (H0.out _).mono ?_; rintro e w1 ⟨rfl, hw⟩; rw [hw]; clear hw)
   | (go_at_call 113; with_reducible refine (H1.out _).mono ?_; rintro e w1 ⟨rfl, hw⟩; rw [hw]; clear hw)
   | (go_at_call 113; with_reducible refine (H2.out _).mono ?_; rintro e w1 ⟨rfl, hw⟩; rw [hw]; clear hw)
   | (go_at_call 113; with_reducible refine (H3.out _).mono ?_; rintro e w1 ⟨rfl, hw⟩; rw [hw]; clear hw)
   | (go_at_call 113; with_reducible refine (H4.out _).mono ?_; rintro e w1 ⟨rfl, hw⟩; rw [hw]; clear hw)
   | (go_at_call 113; with_reducible refine (H5.out _).mono ?_; rintro e w1 ⟨rfl, hw⟩; rw [hw]; clear hw)
   | (go_at_call 113; with_reducible refine (H6.out _).mono ?_; rintro e w1 ⟨rfl, hw⟩; rw [hw]; clear hw)
   | (go_at_call 113; with_reducible refine (H7.out _).mono ?_; rintro e w1 ⟨rfl, hw⟩; rw [hw]; clear hw))
  go_ret
  refine ⟨?_, alloc_below _ _⟩
  simp
theorem dD (p : Pn) (hm : mayP p = true) : Ans 90 #[plv p] (.int .i64 (dg p)) := by
 intro w
 obtain ⟨_, ⟨k0, k1⟩, ⟨t0, t1⟩, _, _, ⟨d0, d1⟩, _⟩ := may_facts hm
 obtain ⟨g0, g1⟩ := dg_bound hm
 obtain ⟨D, hD⟩ : ∃ D, p.d * (p.k + p.t - 1) = D := ⟨_, rfl⟩
 rw [show dg p = D from hD] at g0 g1 ⊢
 clear hm
 unfold plv plw
 go_enter Tryz.func90, Tryz.ntmps90
 go_wp2
 go_ret
 exact ⟨rfl, alloc_below _ _⟩
theorem dAccept (p : Pn) (h : Ok8p p) : Ans 60 #[plv p] (.int .i64 (acE p)) := by
 intro w
 have HM := hide (dMayP p h)
 obtain ⟨pb, hA⟩ := pb_box (w := w) p
 cases hm : mayP p with
 | false =>
  rw [hm] at HM
  rw [acE_no hm]
  clear hm h
  unfold plv plw at *
  go_enter Tryz.func60, Tryz.ntmps60
  go_wp2_with (go_at_call 89; refine (HM.out _).mono ?_; rintro e w1 ⟨rfl, hb1⟩)
  go_ret
  exact ⟨rfl, Below.next hA hb1⟩
 | true =>
  rw [hm] at HM
  have HD := hide (dD p hm)
  obtain ⟨⟨n0, n1⟩, _, _, ⟨s0, s1⟩, ⟨e0, e1⟩, _, _⟩ := may_facts hm
  obtain ⟨g0, g1⟩ := dg_bound hm
  rw [acE_yes hm]
  unfold spare
  generalize dg p = D at *
  clear hm h
  unfold plv plw at *
  have hw0 : IntKind.i64.wrap (2 * p.e) = 2 * p.e := by rw [IntKind.wrap_i64]; omega
  have hw1 : IntKind.i64.wrap (D + p.s) = D + p.s := by rw [IntKind.wrap_i64]; omega
  have hw2 : IntKind.i64.wrap (D + p.s + 2 * p.e) = D + p.s + 2 * p.e := by rw [IntKind.wrap_i64]; omega
  have hw3 : IntKind.i64.wrap (D + p.s + 2 * p.e + 1) = D + p.s + 2 * p.e + 1 := by rw [IntKind.wrap_i64]; omega
  have hw4 : IntKind.i64.wrap (p.n - (D + p.s + 2 * p.e + 1)) = p.n - (D + p.s + 2 * p.e + 1) := by rw [IntKind.wrap_i64]; omega
  by_cases hD : p.n < D + p.s + 2 * p.e + 1
  · rw [if_pos (by omega)]
    go_enter Tryz.func60, Tryz.ntmps60
    go_upto_region 3 with (go_at_call 89; refine (HM.out _).mono ?_; rintro e w1 ⟨rfl, hb1⟩; have pb1 := hide (pb.below hb1))
    have hS0 := (pb1.out.below ((Below.refl _ w1).drew)).cells
    go_region_held3 (fun W' => W'.cell? ⟨w.heap.size, 0, none⟩ = some (.int .u8 p.f) ∧ W'.cell? ⟨w.heap.size, 1, none⟩ = some (.int .i64 p.n) ∧ W'.cell? ⟨w.heap.size, 2, none⟩ = some (.int .i64 p.k) ∧ W'.cell? ⟨w.heap.size, 3, none⟩ = some (.int .i64 p.t) ∧ W'.cell? ⟨w.heap.size, 4, none⟩ = some (.int .i64 p.s) ∧ W'.cell? ⟨w.heap.size, 5, none⟩ = some (.int .i64 p.e) ∧ W'.cell? ⟨w.heap.size, 6, none⟩ = some (.int .i64 p.d) ∧ W'.cell? ⟨w.heap.size, 7, none⟩ = some (.int .i64 p.w)) (first | with_reducible exact hS1 | with_reducible exact hS0) (first
     | (go_at_call 90; refine (HD.out _).mono ?_; rintro e w2 ⟨rfl, hb2⟩; have hS1 := (pb1.out.below ((Below.refl _ w1).drew.trans hb2)).cells))
    go_wp2
    go_ret
    exact ⟨rfl, Below.next (Below.next hA hb1) ((Below.refl _ w1).drew.trans hb2)⟩
  · rw [if_neg (by omega)]
    go_enter Tryz.func60, Tryz.ntmps60
    go_upto_region 3 with (go_at_call 89; refine (HM.out _).mono ?_; rintro e w1 ⟨rfl, hb1⟩; have pb1 := hide (pb.below hb1))
    have hS0 := (pb1.out.below ((Below.refl _ w1).drew)).cells
    go_region_held3 (fun W' => W'.cell? ⟨w.heap.size, 0, none⟩ = some (.int .u8 p.f) ∧ W'.cell? ⟨w.heap.size, 1, none⟩ = some (.int .i64 p.n) ∧ W'.cell? ⟨w.heap.size, 2, none⟩ = some (.int .i64 p.k) ∧ W'.cell? ⟨w.heap.size, 3, none⟩ = some (.int .i64 p.t) ∧ W'.cell? ⟨w.heap.size, 4, none⟩ = some (.int .i64 p.s) ∧ W'.cell? ⟨w.heap.size, 5, none⟩ = some (.int .i64 p.e) ∧ W'.cell? ⟨w.heap.size, 6, none⟩ = some (.int .i64 p.d) ∧ W'.cell? ⟨w.heap.size, 7, none⟩ = some (.int .i64 p.w)) (first | with_reducible exact hS1 | with_reducible exact hS0) (first
     | (go_at_call 90; refine (HD.out _).mono ?_; rintro e w2 ⟨rfl, hb2⟩; have hS1 := (pb1.out.below ((Below.refl _ w1).drew.trans hb2)).cells))
    go_wp2
    go_ret
    exact ⟨rfl, Below.next (Below.next hA hb1) ((Below.refl _ w1).drew.trans hb2)⟩
end Go.Proofs.YtipobchbnjgenaaGreat
namespace Go.Proofs.YtipobchbnjgenaaGreat
open Go.RowKit Fld
end Go.Proofs.YtipobchbnjgenaaGreat
namespace Go.Proofs.YtipobchbnjgenaaGreat
open Go.RowKit Fld Pln
end Go.Proofs.YtipobchbnjgenaaGreat
namespace Go.Proofs.YtipobchbnjgenaaGreat
open Go.RowKit Fld
end Go.Proofs.YtipobchbnjgenaaGreat
namespace Go.Proofs.YtipobchbnjgenaaGreat
open Go.RowKit Fld Pln Shr
theorem lm_one (V : World) (i : Int) (T : TypeId) : Lm iw 1 (V.alloc (.cells #[.int .i64 i] T)) (.slice (some ⟨V.heap.size, 0, none⟩) 1 1) [i] := by
 refine ⟨_, _, rfl, ⟨by simp, by simp, fun h => by cases h⟩, fun _ => ⟨_, _, rfl, by simp, fun k x hx j u hu => ?_⟩⟩
 have hk : k = 0 := by have := (List.getElem?_eq_some_iff.1 hx).1; simp at this; omega
 subst hk
 have hx : i = x := by simpa using hx
 subst hx
 have hj : j = 0 := by have := (List.getElem?_eq_some_iff.1 hu).1; rw [iw_len] at this; omega
 subst hj
 have hu : Value.int .i64 i = u := by simpa [iw] using hu
 subst hu
 simp [go_sem]
end Go.Proofs.YtipobchbnjgenaaGreat
namespace Go.Proofs.YtipobchbnjgenaaGreat
open Go.RowKit Fld Pln
end Go.Proofs.YtipobchbnjgenaaGreat
namespace Go.Proofs.YtipobchbnjgenaaGreat
open Go.RowKit Fld Pln Shr
end Go.Proofs.YtipobchbnjgenaaGreat
namespace Go.Proofs.YtipobchbnjgenaaGreat
open Go.RowKit Fld Slp Pln Shr
theorem rp_yes {p : Pn} {q : Pr} {xs : List Int} (h : fitQ p q = true) : rpE p q xs = evE p.f q xs ∧ rpL p q xs = ruL p.f q xs := by
 have e : rpE p q xs = evE p.f q xs := if_pos h
 exact ⟨e, by unfold rpL ruL; rw [e]⟩
theorem rp_no {p : Pn} {q : Pr} {xs : List Int} (h : fitQ p q = false) : rpE p q xs = 2 ∧ rpL p q xs = [] := by
 have e : rpE p q xs = 2 := by unfold rpE; rw [h]; rfl
 exact ⟨e, by unfold rpL; rw [e]; rfl⟩
theorem rp_wd (p : Pn) (q : Pr) {xs : List Int} (hw : ∀ x ∈ xs, 0 <= x ∧ x <= 18446744073709551615) : Wd (rpL p q xs) := by
 cases hf : fitQ p q with
 | false => rw [(rp_no hf).2]; exact wd_nil
 | true => rw [(rp_yes hf).2]; have := (ru_wd p.f q xs hw).1; exact ⟨by omega, this.2⟩
end Go.Proofs.YtipobchbnjgenaaGreat
