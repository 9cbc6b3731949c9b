import Derived.Test.YtjhididlcdepdaaGreatBDivA
import Derived.Test.YtjhididlcdepdaaGreatBPntM
import Derived.Test.YtjhididlcdepdaaGreatBunIB
set_option linter.unusedVariables false
set_option linter.unusedSimpArgs false
set_option maxRecDepth 100000
set_option maxHeartbeats 4000000
namespace Go.Proofs.YtjhididlcdepdaaGreat
open Go.RowKit Fld Rnk
theorem rem_low (l y : Int) (w : World) (l0 : 0 <= l) (l1 : l <= 18446744073709551615) (y0 : 0 < y) (y1 : y <= 18446744073709551615) :
 Calls Tryz.prog 96 #[.int .u64 0, .int .u64 l, .int .u64 y] w fun e w' => e = .returned (.int .u64 (l % y)) ∧ ∃ n, w' = w.drewN n := by
 have HD := hide (div_low l y w l0 l1 y0 y1)
 have hy : ¬ y = 0 := by omega
 generalize l % y = r at *
 go_enter Tryz.func96, Tryz.ntmps96
 go_wp2_with (go_at_call 125; refine HD.out.mono ?_; rintro e w1 ⟨z, rfl, n, rfl⟩)
 go_ret
 exact ⟨rfl, n, rfl⟩
theorem rem_large (h l : Int) (w : World) (h0 : 0 <= h) (h1 : h < 18446744069414584321) (l0 : 0 <= l) (l1 : l <= 18446744073709551615) :
 Calls Tryz.prog 96 #[.int .u64 h, .int .u64 l, .int .u64 18446744069414584321] w fun e w' => e = .returned (.int .u64 ((h * 18446744073709551616 + l) % 18446744069414584321)) ∧ ∃ n, w' = w.drewN n := by
 by_cases c : h = 0
 · subst c
   have := rem_low l 18446744069414584321 w l0 l1 (by decide) (by decide)
   rw [show (0 : Int) * 18446744073709551616 + l = l by omega]
   exact this
 · have HD := hide (div_large h l w (by omega) h1 l0 l1)
   have hm : h % 18446744069414584321 = h := by omega
   generalize (h * 18446744073709551616 + l) % 18446744069414584321 = r at *
   go_enter Tryz.func96, Tryz.ntmps96
   go_wp2_with (go_at_call 125; refine HD.out.mono ?_; rintro e w1 ⟨z, rfl, rfl⟩)
   go_ret
   exact ⟨rfl, 0, rfl⟩
end Go.Proofs.YtjhididlcdepdaaGreat
namespace Go.Proofs.YtjhididlcdepdaaGreat
open Go.RowKit Go.Shelf Fld
attribute [local go_sem] Oper.semAt_some
def hst (p x : Int) (l : List Int) (y : Int) (k : Nat) : Int := (y * x + co l (l.length - 1 - k)) % p
def hfo (p x : Int) (l : List Int) (pre : List Nat) : Int := pre.foldl (hst p x l) 0
theorem hfo_snoc (p x : Int) (l : List Int) (pre : List Nat) (k : Nat) : hfo p x l (pre ++ [k]) = hst p x l (hfo p x l pre) k := by unfold hfo; rw [List.foldl_append]; rfl
theorem hst_el {p : Int} (hp : 0 < p) (x : Int) (l : List Int) (y : Int) (k : Nat) : El p (hst p x l y k) := emod_el hp _
theorem fold_el {p : Int} (hp : 0 < p) (x : Int) (l : List Int) : ∀ (pre : List Nat) (y : Int), El p y -> El p (pre.foldl (hst p x l) y)
 | [], y, h => h
 | k :: pre, y, h => fold_el hp x l pre _ (hst_el hp x l y k)
theorem hfo_el {p : Int} (hp : 0 < p) (x : Int) (l : List Int) (pre : List Nat) : El p (hfo p x l pre) := fold_el hp x l pre 0 ⟨by omega, hp⟩
theorem hfo_range {p : Int} (x : Int) (l : List Int) : ∀ k, k <= l.length -> hfo p x l (List.range k) = hn p x l (l.length - k)
 | 0, _ => by rw [Nat.sub_zero, hn_top]; rfl
 | k + 1, h => by
  rw [List.range_succ, hfo_snoc, hfo_range x l k (by omega)]
  obtain ⟨i, hi⟩ : ∃ i, i + k + 1 = l.length := ⟨l.length - 1 - k, by omega⟩
  have e1 : l.length - k = i + 1 := by omega
  have e2 : l.length - 1 - k = i := by omega
  have e3 : l.length - (k + 1) = i := by omega
  unfold hst
  rw [e1, e2, e3, <- hn_step (p := p) (t := x) (xs := l) (i := i) (by omega)]
  unfold add mul
  rw [Int.emod_add_emod]
theorem hfo_all {p : Int} (x : Int) (l : List Int) : hfo p x l (List.range l.length) = vl p x l := by
 rw [hfo_range x l l.length (Nat.le_refl _), Nat.sub_self, hn_zero]
structure Hwd (p y x a hh ll cc l2 r : Int) : Prop where
 h0 : 0 <= hh ∧ hh <= 18446744073709551615
 c0 : 0 <= cc ∧ cc <= 18446744073709551615
 s : hh + cc <= 18446744073709551615
 l0 : 0 <= ll ∧ ll <= 18446744073709551615
 m0 : 0 <= l2 ∧ l2 <= 18446744073709551615
 mul : ∀ w : World, Calls Tryz.prog 94 #[.int .u64 y, .int .u64 x] w fun e w' => e = .returned (.tuple #[.int .u64 hh, .int .u64 ll]) ∧ w' = w
 add : ∀ w : World, (callFunc 95 #[.int .u64 ll, .int .u64 a, .int .u64 0]).run Tryz.prog w = .ok (.value (.tuple #[.int .u64 l2, .int .u64 cc])) w
 rem : ∀ w : World, Calls Tryz.prog 96 #[.int .u64 (hh + cc), .int .u64 l2, .int .u64 p] w fun e w' => e = .returned (.int .u64 r) ∧ ∃ n, w' = w.drewN n
theorem hwd_of {p y x a : Int} {wd : Bool} (hm : Md p wd) (hy : El p y) (hx : El p x) (ha : El p a) : ∃ hh ll cc l2, Hwd p y x a hh ll cc l2 ((y * x + a) % p) := by
 obtain ⟨y0, y1⟩ := hy; obtain ⟨x0, x1⟩ := hx; obtain ⟨a0, a1⟩ := ha
 have hb := hm.bounds
 have m0 := Int.mul_nonneg y0 x0
 have mp : y * x <= (p - 1) * (p - 1) := (mul_le (k := p - 1) y0 x0 (by omega) (by omega)).2
 have mq : y * x < 18446744073709551615 * 18446744073709551615 := Int.lt_of_le_of_lt (mul_le (k := 18446744073709551614) y0 x0 (by omega) (by omega)).2 (by decide)
 have k1 : 0 <= low64 (y * x) ∧ low64 (y * x) <= 18446744073709551615 ∧ 0 <= high64 (y * x) ∧ high64 (y * x) <= 18446744073709551614 := by
  unfold low64 high64; omega
 have k2 : 0 <= low64 (low64 (y * x) + a) ∧ low64 (low64 (y * x) + a) <= 18446744073709551615 ∧ 0 <= high64 (low64 (y * x) + a) ∧ high64 (low64 (y * x) + a) <= 1 := by
  unfold low64 high64; omega
 have e : (high64 (y * x) + high64 (low64 (y * x) + a)) * 18446744073709551616 + low64 (low64 (y * x) + a) = y * x + a := by unfold low64 high64; omega
 refine ⟨high64 (y * x), low64 (y * x), high64 (low64 (y * x) + a), low64 (low64 (y * x) + a), ⟨by omega, by omega⟩, ⟨by omega, by omega⟩, by omega, ⟨by omega, by omega⟩, ⟨by omega, by omega⟩, fun w => mul64_any y x w y0 (by omega) x0 (by omega), fun w => add64 _ _ (by omega) a0 w, fun w => ?_⟩
 generalize high64 (y * x) + high64 (low64 (y * x) + a) = H at *
 generalize low64 (low64 (y * x) + a) = L at *
 rcases hm with ⟨h1, rfl⟩ | ⟨h1, rfl⟩
 · subst h1
   have hH : H = 0 := by omega
   subst hH
   have := rem_low L 2013265921 w k2.1 k2.2.1 (by decide) (by decide)
   rw [show y * x + a = L by omega]
   exact this
 · subst h1
   have := rem_large H L w (by omega) (by omega) k2.1 k2.2.1
   rw [e] at this
   exact this
structure Vst (w W : World) (p x y : Int) : Prop where
 big : w.heap.size + 4 <= W.heap.size
 pb : W.cell? ⟨w.heap.size, 0, none⟩ = some (.int .u64 p)
 xb : W.cell? ⟨w.heap.size + 1, 0, none⟩ = some (.int .u64 x)
 yb : W.cell? ⟨w.heap.size + 2, 0, none⟩ = some (.int .u64 y)
 yf : W.frozen? ⟨w.heap.size + 2, 0, none⟩ = false
 below : Below w.heap.size w W
theorem Vst.after {w W W' : World} {p x y : Int} (h : Vst w W p x y) (hb : Below W.heap.size W W') : Vst w W' p x y :=
 ⟨Nat.le_trans h.big hb.size, (hb.cell (cell_lt h.pb)).trans h.pb, (hb.cell (cell_lt h.xb)).trans h.xb, (hb.cell (cell_lt h.yb)).trans h.yb, (World.frozen?_of_block (hb.block _ (cell_lt h.yb))).trans h.yf, Below.next h.below hb⟩
theorem Vst.put {w W : World} {p x y : Int} (h : Vst w W p x y) (z : Int) : Vst w (W.setCell ⟨w.heap.size + 2, 0, none⟩ (.int .u64 z)) p x z :=
 ⟨by simpa using h.big, (cell_other (by omega)).trans h.pb, (cell_other (by omega)).trans h.xb, World.cell?_setCell_same' _ _ _ (by rw [h.yb]; rfl), by rw [World.frozen?_setCell]; exact h.yf, h.below.setCell (p := ⟨w.heap.size + 2, 0, none⟩) (by show w.heap.size <= w.heap.size + 2; omega) _⟩
theorem vst_own {β : Type} {w : World} {p x : Int} {B : Nat} (G : β -> Int) (hB : w.heap.size <= B) : OwnFrom B (fun (s : β) W => Vst w W p x (G s)) := fun s W W' row h hg hr => by
 have hr2 : ∀ r, row = some r -> ∃ o : Obj, W.heap[r]? = some o ∧ o.isCells = false := fun r e => (hr r e).2
 exact ⟨Nat.le_trans h.big hg.size, cell_kept h.pb hg hr2, cell_kept h.xb hg hr2, cell_kept h.yb hg hr2, (frozen_kept h.yb hg hr2).trans h.yf, h.below.grown hg h.below.size (fun k e => Nat.le_trans hB (hr k e).1)⟩
theorem gValueR (p x : Int) (wd : Bool) (v : Value) (l : List Int) (w : World) (hm : Md p wd) (h1 : Rw w v l) (he : Els p l) (hx : El p x) :
 Calls Tryz.prog 63 #[.int .u64 p, v, .int .u64 x] w fun e w' => e = .returned (.int .u64 (vl p x l)) ∧ Below w.heap.size w w' := by
 have hp0 : 0 < p := by have := hm.bounds; omega
 have hll := h1.len
 have HE := hide he
 have HM := hide hm
 have HX := hide hx
 obtain ⟨⟨ao, cap, rfl, hlen, hw, hc⟩, _⟩ := h1
 have HC : Hid (∀ W, Below w.heap.size w W -> ∀ j, j < l.length -> ∃ b off, ao = some ⟨b, off, none⟩ ∧ b < w.heap.size ∧ W.cell? ⟨b, off + j, none⟩ = some (.int .u64 (l.getD j 0))) := fun W hb j hj => by
  obtain ⟨b, off, e, h2, h3⟩ := hc (by intro e; rw [e] at hj; simp at hj)
  exact ⟨b, off, e, h2, (hb.cell (p := ⟨b, off + j, none⟩) h2).trans (h3 j hj)⟩
 have HV := hide (hfo_all (p := p) x l)
 clear hc hw he hm hx
 obtain ⟨n, HN⟩ : ∃ n, Hid (l.length = n) := ⟨_, rfl⟩
 have hlen : n <= 17592186043904 := by rw [<- HN.out]; exact hll
 have a0 := alloc_below w (.cells #[.int .u64 p] 64)
 have a1 := alloc_below (w.alloc (.cells #[.int .u64 p] 64)) (.cells #[.int .u64 x] 64)
 have a2 := alloc_below ((w.alloc (.cells #[.int .u64 p] 64)).alloc (.cells #[.int .u64 x] 64)) (.cells #[.int .u64 0] 64)
 have a3 := alloc_below (((w.alloc (.cells #[.int .u64 p] 64)).alloc (.cells #[.int .u64 x] 64)).alloc (.cells #[.int .u64 0] 64)) (.cells #[.slice ao n cap] 36)
 have HS : Hid (Vst w ((((w.alloc (.cells #[.int .u64 p] 64)).alloc (.cells #[.int .u64 x] 64)).alloc (.cells #[.int .u64 0] 64)).alloc (.cells #[.slice ao n cap] 36)) p x 0) := by
  refine ⟨by simp, ?_, ?_, ?_, ?_, Below.next (Below.next (Below.next a0 a1) a2) a3⟩
  · rw [a3.cell (p := ⟨w.heap.size, 0, none⟩) (by simp; omega), a2.cell (p := ⟨w.heap.size, 0, none⟩) (by simp; omega), a1.cell (p := ⟨w.heap.size, 0, none⟩) (by simp)]; simp [go_sem]
  · rw [a3.cell (p := ⟨w.heap.size + 1, 0, none⟩) (by simp), a2.cell (p := ⟨w.heap.size + 1, 0, none⟩) (by simp)]
    have : (w.alloc (.cells #[.int .u64 p] 64)).heap.size = w.heap.size + 1 := by simp
    rw [<- this]; simp [go_sem]
  · rw [a3.cell (p := ⟨w.heap.size + 2, 0, none⟩) (by simp)]
    have : ((w.alloc (.cells #[.int .u64 p] 64)).alloc (.cells #[.int .u64 x] 64)).heap.size = w.heap.size + 2 := by simp
    rw [<- this]; simp [go_sem]
  · rw [World.frozen?_of_block (a3.block _ (by simp))]
    have : ((w.alloc (.cells #[.int .u64 p] 64)).alloc (.cells #[.int .u64 x] 64)).heap.size = w.heap.size + 2 := by simp
    rw [<- this]; simp [go_sem]
 have HBk := hide ((callsIn_wide (n := 1)).1 (back_in Fence.wide 1 trivial rfl ao n cap (((w.alloc (.cells #[.int .u64 p] 64)).alloc (.cells #[.int .u64 x] 64)).alloc (.cells #[.int .u64 0] 64))))
 have hs3 : (((w.alloc (.cells #[.int .u64 p] 64)).alloc (.cells #[.int .u64 x] 64)).alloc (.cells #[.int .u64 0] 64)).heap.size = w.heap.size + 3 := by simp
 rw [hs3] at HBk
 clear a0 a1 a2 a3
 refine (callsIn_wide (n := 5)).1 ?_
 refine callsIn_of_wp_marks Tryz.func63 rfl trivial ?_ rfl
 simp only [Tryz.ntmps63, List.size_toArray, List.length_cons, List.length_nil, Nat.reduceAdd, Nat.reduceSub, Array.replicate_succ, Array.replicate_zero, List.push_toArray, List.append_toArray, List.nil_append, List.cons_append]
 refine wpIn_wide.2 ?_
 rw [HN.out] at HC ⊢
 go_wp2_with (go_at_call 93; refine HBk.out.mono ?_; rintro e w5 ⟨rfl, hw5⟩)
 try rw [hw5]
 try clear hw5
 clear HBk
 have hW4c : ((((w.alloc (.cells #[.int .u64 p] 64)).alloc (.cells #[.int .u64 x] 64)).alloc (.cells #[.int .u64 0] 64)).alloc (.cells #[.slice ao n cap] 36)).cell? ⟨w.heap.size + 3, 0, none⟩ = some (.slice ao n cap) := by rw [<- hs3]; simp [go_sem]
 have hW4s : ((((w.alloc (.cells #[.int .u64 p] 64)).alloc (.cells #[.int .u64 x] 64)).alloc (.cells #[.int .u64 0] 64)).alloc (.cells #[.slice ao n cap] 36)).heap.size = w.heap.size + 4 := by simp
 clear hs3
 generalize (((w.alloc (.cells #[.int .u64 p] 64)).alloc (.cells #[.int .u64 x] 64)).alloc (.cells #[.int .u64 0] 64)).alloc (.cells #[.slice ao n cap] 36) = W4 at *
 have hseq := bk_stops Fence.wide 4 trivial rfl (by omega) (w.heap.size + 3) w.heap.size cap ao l hll W4 (by omega) (by omega) (by rw [HN.out]; exact hW4c) (by rw [HN.out]; exact HC.out _ HS.out.below)
 rw [HN.out] at hseq
 have e2 : w.heap.size + 1 + 1 = w.heap.size + 2 := rfl
 rw [e2]
 clear e2
 refine (wpIn_wide (n := 5)).1 ?_
 refine wpIn_rangeFunc_ownG rfl (by omega) (gf := 124) (lb := #[.pointer (some ⟨w.heap.size + 3, 0, none⟩)]) rfl trivial (enters_of Tryz.func124 (by kernel_rfl) rfl)
  hseq KpB.trans (KpB.turn (by omega) (by omega)) (Below.refl _ _) (fun _ => rfl)
  (fun pre W => Vst w W p x (hfo p x l pre))
  (fun _ _ _ => False)
  (vst_own (fun pre => hfo p x l pre) (by omega))
  (fun _ _ _ _ _ hs _ _ => hs)
  HS.out
  (fun k => { tmps := #[.int .u64 p, .slice ao n cap, .int .u64 x, .pointer (some ⟨w.heap.size, 0, none⟩), undef, .pointer (some ⟨w.heap.size + 1, 0, none⟩), .pointer (some ⟨w.heap.size + 2, 0, none⟩), undef, .int .u64 (l.getD (l.length - 1 - k) 0), undef, undef, undef, .slice ao n cap, .func (.func 124) #[] #[.pointer (some ⟨w.heap.size + 3, 0, none⟩)], .int .i64 ((l.length - 1 - k : Nat) : Int), .int .u64 (l.getD (l.length - 1 - k) 0), undef, undef, undef, undef, undef, undef, undef, undef, undef, undef, undef, undef, undef, undef, undef, undef, undef, undef, undef], defers := [] }) ?assign ?body ?done ?stop
 case assign =>
  intro L k W K hK
  unfold bkv
  gi_wp2
  exact hK
 case body =>
  intro L pre k W hI hlt
  have hyel := hfo_el hp0 x l pre
  have HF : Hid (hfo p x l (pre ++ [k]) = (hfo p x l pre * x + co l (l.length - 1 - k)) % p) := hfo_snoc p x l pre k
  obtain ⟨hh, ll, cc, l2, hwd⟩ := hwd_of HM.out hyel HX.out (HE.out.co hp0 (l.length - 1 - k))
  have HQ : Hid (∀ W', KeepsFrom W4.heap.size W W' -> KpB w.heap.size (w.heap.size + 3) W W' -> Vst w W' p x ((hfo p x l pre * x + co l (l.length - 1 - k)) % p) -> ∀ a', ownPostG W4.heap.size (KpB w.heap.size (w.heap.size + 3)) (fun pre W => Vst w W p x (hfo p x l pre)) (fun _ _ _ => False) (pre ++ [k]) W .normal a' W') := fun W' k1 k2 k3 a' => ⟨k1, k2, by show Vst _ _ _ _ _; rw [HF.out]; exact k3⟩
  change (_ : Code).wpIn _ _ _ _ _ _
  generalize ownPostG W4.heap.size (KpB w.heap.size (w.heap.size + 3)) (fun pre W => Vst w W p x (hfo p x l pre)) (fun _ _ _ => False) (pre ++ [k]) W = QQ at HQ ⊢
  have ea : l.getD (l.length - 1 - k) 0 = co l (l.length - 1 - k) := rfl
  rw [ea]
  generalize co l (l.length - 1 - k) = a at *
  generalize hfo p x l pre = y at *
  generalize hr : (y * x + a) % p = r at *
  have HS2 := hide hI
  have c1 := hI.pb
  have c2 := hI.xb
  have c3 := hI.yb
  have c4 := hI.yf
  obtain ⟨t1, t2, t3, t4, t5, t6, t7, t8⟩ := hwd
  have HMul := hide t6
  have HRem := hide t8
  dsimp only
  clear hI ea hyel hr t6 t8
  gi_wp2_with (first
   | (refine ⟨trivial, ?_⟩; gi_at_call 94; refine (CallsIn.inRound L (callsIn_wide.2 (HMul.out _))).mono ?_; rintro e W6 ⟨rfl, rfl⟩)
   | (refine ⟨trivial, ?_⟩; gi_at_call 96; refine (CallsIn.inRound L (callsIn_wide.2 (HRem.out _))).mono ?_; rintro e W7 ⟨rfl, m, rfl⟩))
  refine ⟨trivial, ?_⟩
  have hbm : ∀ m, Below W6.heap.size W6 (W6.drewN m) := fun m => ⟨rfl, rfl, rfl, Nat.le_refl _, fun _ _ => rfl⟩
  have c5 : ∀ m, (W6.drewN m).frozen? ⟨w.heap.size + 2, 0, none⟩ = false := fun m => (HS2.out.after (hbm m)).yf
  gi_wp2_with (refine ⟨trivial, ?_⟩; gi_at_call 96; refine (CallsIn.inRound L (callsIn_wide.2 (HRem.out _))).mono ?_; rintro e W7 ⟨rfl, m, rfl⟩; have c6 := c5 m; have c7 := (HS2.out.after (hbm m)).yb)
  have HS7 := HS2.out.after (hbm m)
  have h6 := HS2.out.below.size
  have h7 := HS2.out.big
  refine HQ.out _ ?_ ?_ (HS7.put r) _
  · exact KeepsFrom.trans ⟨(hbm m).size, fun j o _ hj _ => ((hbm m).block j (Array.getElem?_eq_some_iff.1 hj).1).trans hj⟩ ((KeepsOthers.setCell _ _ _).from _)
  · refine ⟨((hbm m).mono h6).setCell (p := ⟨w.heap.size + 2, 0, none⟩) (show w.heap.size <= w.heap.size + 2 by omega) _, ?_⟩
    rw [setCell_heap_far _ _ _ (show w.heap.size + 2 ≠ w.heap.size + 3 by omega)]
    exact (hbm m).block _ (by omega)
 case done =>
  rintro D zs W hD rfl hI hK
  have c2 := hI.yb
  have c3 := hI.yf
  have hI2 := hI.put (hfo p x l (List.range n))
  have hBW := hI2.below
  have c4 := hI2.yb
  have HV2 : Hid (hfo p x l (List.range n) = vl p x l) := by rw [<- HN.out]; exact HV.out
  have hD2 : w.heap.size + 4 <= D := by omega
  have hDw : w.heap.size <= D := by omega
  have hK2 : (W.setCell ⟨w.heap.size + 2, 0, none⟩ (.int .u64 (hfo p x l (List.range n)))).heap[D]? = some (.deferred (some [])) := (Below.heap_setCell _ _ _ D (by show D ≠ w.heap.size + 2; omega)).trans hK
  clear hI hI2
  generalize hfo p x l (List.range n) = y at *
  go_wp2
  refine ⟨by simp, .inl ⟨_, _, rfl, run_takeDeferred hK2, ?_⟩⟩
  have c5 : ((W.setCell ⟨w.heap.size + 2, 0, none⟩ (.int .u64 y)).putObj D (Obj.deferred none)).cell? ⟨w.heap.size + 2, 0, none⟩ = some (.int .u64 y) := (cell_of_heap (World.putObj_heap_other (by omega))).trans c4
  have hl : (loadVar 64 ⟨w.heap.size + 2, 0, none⟩).run Tryz.prog ((W.setCell ⟨w.heap.size + 2, 0, none⟩ (.int .u64 y)).putObj D (Obj.deferred none)) = .ok (.int .u64 y) ((W.setCell ⟨w.heap.size + 2, 0, none⟩ (.int .u64 y)).putObj D (Obj.deferred none)) := by simp [go_sem, c5]
  exact ⟨_, resCell1 (a := 6) Tryz.results63 rfl hl, by rw [HV2.out], hBW.trans (belowK_b (w := w) (Nat.le_refl _) _ D _ _ hDw hK2 rfl rfl)⟩
 case stop =>
  rintro D c pre W _ _ hx _
  exact hx.elim
end Go.Proofs.YtjhididlcdepdaaGreat
