import Derived.Test.YtjhididlcdepdaaGreatBShaM
import Derived.Test.YtjhididlcdepdaaGreatBQMute
import Derived.Test.YtjhididlcdepdaaGreatBTkA
import Derived.Test.YtjhididlcdepdaaGreatBunIC
set_option linter.unusedVariables false
set_option linter.unusedSimpArgs false
set_option maxRecDepth 100000
set_option maxHeartbeats 4000000
namespace Go.Proofs.YtjhididlcdepdaaGreat
open Go.RowKit Fld Pln Shr
theorem Rws.wordsH {w : World} {v : Value} {xss : List (List Int)} (h : Rws w v xss) : ∀ xs ∈ xss, Wd xs := fun xs hx => by
 obtain ⟨ao, cap, rfl, _, _, hc⟩ := h
 obtain ⟨i, hi, rfl⟩ := List.mem_iff_getElem.1 hx
 obtain ⟨b, off, _, _, hcell⟩ := hc (by intro e; rw [e] at hi; simp at hi)
 obtain ⟨u, _, hR⟩ := hcell i hi
 rw [List.getD_eq_getElem?_getD, List.getElem?_eq_getElem hi] at hR
 exact ⟨hR.len, hR.words⟩
theorem plan_eq (p : Pn) : plv p = .agg #[.int .u8 p.f, .int .i64 p.n, .int .i64 p.k, .int .i64 p.t, .int .i64 p.s, .int .i64 p.e, .int .i64 p.d, .int .i64 p.w] := rfl
theorem getD_wd {l : List (List Int)} (h : ∀ b ∈ l, Wd b) (i : Nat) : Wd (l.getD i []) := by
 by_cases hi : i < l.length
 · exact h _ (getD_memA [] hi)
 · rw [List.getD_eq_getElem?_getD, List.getElem?_eq_none (by omega)]; exact wd_nil
theorem getD_app {α : Type} (a b : List α) (d : α) (i : Nat) : (a ++ b).getD i d = if i < a.length then a.getD i d else b.getD (i - a.length) d := by
 rw [List.getD_eq_getElem?_getD, List.getD_eq_getElem?_getD, List.getD_eq_getElem?_getD]
 by_cases h : i < a.length
 · rw [if_pos h, List.getElem?_append_left h]
 · rw [if_neg h, List.getElem?_append_right (by omega)]
theorem thr_zeroL {f q : Int} {wd : Bool} (hf : Fi f q wd) {xs ys : List Int} (hx : Els q xs) (hn : xs.Nodup) (hy : Els q ys) (hl : ys.length = xs.length) (lx : xs.length <= 512) : thrL f xs ys = tp q xs ys xs.length := by
 have e1 : inF f xs = true := by rw [inF_yes hf]; exact allIn_of hx
 have e2 : inF f ys = true := by rw [inF_yes hf]; exact allIn_of hy
 have hb : bad f xs ys ys.length = 0 := by rw [bad_end e1 e2 hl.symm (by omega), if_pos hn]
 unfold thrL
 rw [if_pos hb, pOf_eq hf]
theorem bk_facts {p : Pn} {dl pl : List (List Int)} {who : List Int} (h : bkE p dl pl who = 0) (w1 : ∀ b ∈ dl, Wd b) (w2 : ∀ b ∈ pl, Wd b) : ∃ q wd, mayP p = true ∧ Fi p.f q wd ∧ (∀ b ∈ dl ++ pl, Els q b) ∧ (∀ b ∈ dl ++ pl, b.length = p.w.toNat) ∧ dl.length = p.k.toNat ∧ pl.length = p.t.toNat ∧ (dl ++ pl).length = (innL p).length ∧ Els q (innL p) ∧ (innL p).Nodup ∧ (innL p).length <= 64 ∧ Els q (outL p) ∧ (outL p).length = p.n.toNat ∧ (outL p).length <= 64 ∧ 0 < dl.length ∧ ∀ x ∈ who, 0 <= x ∧ x < p.n := by
 obtain ⟨hm, ⟨q, wd, hf, he⟩, hw, hd, hp, hwho⟩ := bk_zero h
 obtain ⟨⟨n0, n1⟩, ⟨k0, k1⟩, ⟨t0, t1⟩, _⟩ := may_facts hm
 obtain ⟨i1, i2, i3, i4, i5, i6⟩ := inn_facts hm hf
 refine ⟨q, wd, hm, hf, fun b hb => els_of (he b hb) ?_, hw, hd, hp, by rw [List.length_append]; omega, i1, i2, by omega, i4, i6, by omega, by omega, hwho⟩
 rcases List.mem_append.1 hb with hb | hb
 · exact (w1 b hb).2
 · exact (w2 b hb).2
end Go.Proofs.YtjhididlcdepdaaGreat
namespace Go.Proofs.YtjhididlcdepdaaGreat
open Go.RowKit Pln
theorem fd_btw (f : Int) : fdB f = btw f 1 2 := by
 unfold fdB btw
 rw [Bool.eq_iff_iff]
 simp only [Bool.or_eq_true, beq_iff_eq, decide_eq_true_iff]
 omega
theorem dWithin (n a b : Int) (w : World) : Calls Tryz.prog 72 #[.int .i64 n, .int .i64 a, .int .i64 b] w fun e w' => e = .returned (.bool (btw n a b)) ∧ w' = w := by
 by_cases h1 : a <= n <;> by_cases h2 : n <= b
 all_goals
  go_enter Tryz.func72, Tryz.ntmps72
  go_wp2
  all_goals
   go_ret
   refine ⟨?_, rfl⟩
   simp_all [btw]
   try omega
theorem dMayP (p : Pn) (h : Ok8p p) : Ans 39 #[plv p] (.bool (mayP p)) := by
 intro w
 rw [mayP_all, fd_btw]
 obtain ⟨⟨hf0, hf1⟩, _, hk, _⟩ := h
 unfold I64 at hk
 have H0 := hide (dWithin p.f 1 2)
 have H1 := hide (dWithin p.n 1 64)
 have H2 := hide (dWithin p.k 1 64)
 have H3 := hide (dWithin p.w 1 64)
 have H4 := hide (dWithin p.t 0 (64 - p.k))
 have H5 := hide (dWithin p.s 0 64)
 have H6 := hide (dWithin p.e 0 64)
 have H7 := hide (dWithin p.d 0 1024)
 have hkb : btw p.k 1 64 = true -> 1 <= p.k ∧ p.k <= 64 := fun h => of_decide_eq_true h
 have HK := hide hkb
 clear hkb
 generalize btw p.f 1 2 = b0 at *
 generalize btw p.n 1 64 = b1 at *
 generalize btw p.k 1 64 = b2 at *
 generalize btw p.w 1 64 = b3 at *
 generalize btw p.t 0 (64 - p.k) = b4 at *
 generalize btw p.s 0 64 = b5 at *
 generalize btw p.e 0 64 = b6 at *
 generalize btw p.d 0 1024 = b7 at *
 unfold plv plw
 have hcs : b0 = false ∨ (b0 = true ∧ b1 = false) ∨ (b0 = true ∧ b1 = true ∧ b2 = false) ∨ (b0 = true ∧ b1 = true ∧ b2 = true ∧ b3 = false) ∨ (b0 = true ∧ b1 = true ∧ b2 = true ∧ b3 = true ∧ b4 = false) ∨ (b0 = true ∧ b1 = true ∧ b2 = true ∧ b3 = true ∧ b4 = true ∧ b5 = false) ∨ (b0 = true ∧ b1 = true ∧ b2 = true ∧ b3 = true ∧ b4 = true ∧ b5 = true ∧ b6 = false) ∨ (b0 = true ∧ b1 = true ∧ b2 = true ∧ b3 = true ∧ b4 = true ∧ b5 = true ∧ b6 = true) := by
  cases b0 <;> cases b1 <;> cases b2 <;> cases b3 <;> cases b4 <;> cases b5 <;> cases b6 <;> decide
 rcases hcs with rfl | ⟨rfl, rfl⟩ | ⟨rfl, rfl, rfl⟩ | ⟨rfl, rfl, rfl, rfl⟩ | ⟨rfl, rfl, rfl, rfl, rfl⟩ | ⟨rfl, rfl, rfl, rfl, rfl, rfl⟩ | ⟨rfl, rfl, rfl, rfl, rfl, rfl, rfl⟩ | ⟨rfl, rfl, rfl, rfl, rfl, rfl, rfl⟩
 all_goals
  try have hk2 := HK.out rfl
  go_enter Tryz.func39, Tryz.ntmps39
  go_wp2_with (first
   | (go_at_call 72; with_reducible refine (H0.out _).mono ?_; rintro e w1 ⟨rfl, hw⟩; rw [hw]; clear hw)
   | (go_at_call 72; with_reducible refine (H1.out _).mono ?_; rintro e w1 ⟨rfl, hw⟩; rw [hw]; clear hw)
   | (go_at_call 72; with_reducible refine (H2.out _).mono ?_; rintro e w1 ⟨rfl, hw⟩; rw [hw]; clear hw)
   | (go_at_call 72; with_reducible refine (H3.out _).mono ?_; rintro e w1 ⟨rfl, hw⟩; rw [hw]; clear hw)
   | (go_at_call 72; with_reducible refine (H4.out _).mono ?_; rintro e w1 ⟨rfl, hw⟩; rw [hw]; clear hw)
   | (go_at_call 72; with_reducible refine (H5.out _).mono ?_; rintro e w1 ⟨rfl, hw⟩; rw [hw]; clear hw)
   | (go_at_call 72; with_reducible refine (H6.out _).mono ?_; rintro e w1 ⟨rfl, hw⟩; rw [hw]; clear hw)
   | (go_at_call 72; with_reducible refine (H7.out _).mono ?_; rintro e w1 ⟨rfl, hw⟩; rw [hw]; clear hw))
  go_ret
  refine ⟨?_, alloc_below _ _⟩
  simp
theorem dD (p : Pn) (hm : mayP p = true) : Ans 34 #[plv p] (.int .i64 (dg p)) := by
 intro w
 obtain ⟨_, ⟨k0, k1⟩, ⟨t0, t1⟩, _, _, ⟨d0, d1⟩, _⟩ := may_facts hm
 obtain ⟨g0, g1⟩ := dg_bound hm
 obtain ⟨D, hD⟩ : ∃ D, p.d * (p.k + p.t - 1) = D := ⟨_, rfl⟩
 rw [show dg p = D from hD] at g0 g1 ⊢
 clear hm
 unfold plv plw
 go_enter Tryz.func34, Tryz.ntmps34
 go_wp2
 go_ret
 exact ⟨rfl, alloc_below _ _⟩
theorem dNeeded (p : Pn) (h : Ok8p p) : Ans 64 #[plv p] (.tuple #[.int .i64 (ndV p), .int .i64 (erP p)]) := by
 intro w
 have HM := hide (dMayP p h)
 obtain ⟨pb, hA⟩ := pb_box (w := w) p
 cases hm : mayP p with
 | false =>
  rw [hm] at HM
  rw [ndV_no hm, erP_no hm]
  clear hm h
  unfold plv plw at *
  go_enter Tryz.func64, Tryz.ntmps64
  go_wp2_with (go_at_call 39; refine (HM.out _).mono ?_; rintro e w1 ⟨rfl, hb1⟩)
  go_ret2
  exact ⟨rfl, Below.next hA hb1⟩
 | true =>
  rw [hm] at HM
  have HD := hide (dD p hm)
  obtain ⟨⟨n0, n1⟩, _, _, ⟨s0, s1⟩, ⟨e0, e1⟩, _, _⟩ := may_facts hm
  obtain ⟨g0, g1⟩ := dg_bound hm
  rw [ndV_yes hm, erP_yes hm]
  unfold need
  generalize dg p = D at *
  have hw0 : IntKind.i64.wrap (2 * p.e) = 2 * p.e := by rw [IntKind.wrap_i64]; omega
  have hw1 : IntKind.i64.wrap (D + 2 * p.e) = D + 2 * p.e := by rw [IntKind.wrap_i64]; omega
  have hw2 : IntKind.i64.wrap (D + 2 * p.e + 1) = D + 2 * p.e + 1 := by rw [IntKind.wrap_i64]; omega
  clear hm h
  unfold plv plw at *
  go_enter Tryz.func64, Tryz.ntmps64
  go_upto_region 3 with (go_at_call 39; refine (HM.out _).mono ?_; rintro e w1 ⟨rfl, hb1⟩; have pb1 := hide (pb.below hb1))
  have hS0 := (pb1.out.below ((Below.refl _ w1).drew)).cells
  go_region_held3 (fun W' => W'.cell? ⟨w.heap.size, 0, none⟩ = some (.int .u8 p.f) ∧ W'.cell? ⟨w.heap.size, 1, none⟩ = some (.int .i64 p.n) ∧ W'.cell? ⟨w.heap.size, 2, none⟩ = some (.int .i64 p.k) ∧ W'.cell? ⟨w.heap.size, 3, none⟩ = some (.int .i64 p.t) ∧ W'.cell? ⟨w.heap.size, 4, none⟩ = some (.int .i64 p.s) ∧ W'.cell? ⟨w.heap.size, 5, none⟩ = some (.int .i64 p.e) ∧ W'.cell? ⟨w.heap.size, 6, none⟩ = some (.int .i64 p.d) ∧ W'.cell? ⟨w.heap.size, 7, none⟩ = some (.int .i64 p.w)) (first | with_reducible exact hS1 | with_reducible exact hS0) (first
   | (go_at_call 34; refine (HD.out _).mono ?_; rintro e w2 ⟨rfl, hb2⟩; have hS1 := (pb1.out.below ((Below.refl _ w1).drew.trans hb2)).cells))
  go_wp2
  go_ret2
  exact ⟨rfl, Below.next (Below.next hA hb1) ((Below.refl _ w1).drew.trans hb2)⟩
theorem dAccept (p : Pn) (h : Ok8p p) : Ans 16 #[plv p] (.int .i64 (acE p)) := by
 intro w
 have HM := hide (dMayP p h)
 obtain ⟨pb, hA⟩ := pb_box (w := w) p
 cases hm : mayP p with
 | false =>
  rw [hm] at HM
  rw [acE_no hm]
  clear hm h
  unfold plv plw at *
  go_enter Tryz.func16, Tryz.ntmps16
  go_wp2_with (go_at_call 39; refine (HM.out _).mono ?_; rintro e w1 ⟨rfl, hb1⟩)
  go_ret
  exact ⟨rfl, Below.next hA hb1⟩
 | true =>
  rw [hm] at HM
  have HD := hide (dD p hm)
  obtain ⟨⟨n0, n1⟩, _, _, ⟨s0, s1⟩, ⟨e0, e1⟩, _, _⟩ := may_facts hm
  obtain ⟨g0, g1⟩ := dg_bound hm
  rw [acE_yes hm]
  unfold spare
  generalize dg p = D at *
  clear hm h
  unfold plv plw at *
  have hw0 : IntKind.i64.wrap (2 * p.e) = 2 * p.e := by rw [IntKind.wrap_i64]; omega
  have hw1 : IntKind.i64.wrap (D + p.s) = D + p.s := by rw [IntKind.wrap_i64]; omega
  have hw2 : IntKind.i64.wrap (D + p.s + 2 * p.e) = D + p.s + 2 * p.e := by rw [IntKind.wrap_i64]; omega
  have hw3 : IntKind.i64.wrap (D + p.s + 2 * p.e + 1) = D + p.s + 2 * p.e + 1 := by rw [IntKind.wrap_i64]; omega
  have hw4 : IntKind.i64.wrap (p.n - (D + p.s + 2 * p.e + 1)) = p.n - (D + p.s + 2 * p.e + 1) := by rw [IntKind.wrap_i64]; omega
  by_cases hD : p.n < D + p.s + 2 * p.e + 1
  · rw [if_pos (by omega)]
    go_enter Tryz.func16, Tryz.ntmps16
    go_upto_region 3 with (go_at_call 39; refine (HM.out _).mono ?_; rintro e w1 ⟨rfl, hb1⟩; have pb1 := hide (pb.below hb1))
    have hS0 := (pb1.out.below ((Below.refl _ w1).drew)).cells
    go_region_held3 (fun W' => W'.cell? ⟨w.heap.size, 0, none⟩ = some (.int .u8 p.f) ∧ W'.cell? ⟨w.heap.size, 1, none⟩ = some (.int .i64 p.n) ∧ W'.cell? ⟨w.heap.size, 2, none⟩ = some (.int .i64 p.k) ∧ W'.cell? ⟨w.heap.size, 3, none⟩ = some (.int .i64 p.t) ∧ W'.cell? ⟨w.heap.size, 4, none⟩ = some (.int .i64 p.s) ∧ W'.cell? ⟨w.heap.size, 5, none⟩ = some (.int .i64 p.e) ∧ W'.cell? ⟨w.heap.size, 6, none⟩ = some (.int .i64 p.d) ∧ W'.cell? ⟨w.heap.size, 7, none⟩ = some (.int .i64 p.w)) (first | with_reducible exact hS1 | with_reducible exact hS0) (first
     | (go_at_call 34; refine (HD.out _).mono ?_; rintro e w2 ⟨rfl, hb2⟩; have hS1 := (pb1.out.below ((Below.refl _ w1).drew.trans hb2)).cells))
    go_wp2
    go_ret
    exact ⟨rfl, Below.next (Below.next hA hb1) ((Below.refl _ w1).drew.trans hb2)⟩
  · rw [if_neg (by omega)]
    go_enter Tryz.func16, Tryz.ntmps16
    go_upto_region 3 with (go_at_call 39; refine (HM.out _).mono ?_; rintro e w1 ⟨rfl, hb1⟩; have pb1 := hide (pb.below hb1))
    have hS0 := (pb1.out.below ((Below.refl _ w1).drew)).cells
    go_region_held3 (fun W' => W'.cell? ⟨w.heap.size, 0, none⟩ = some (.int .u8 p.f) ∧ W'.cell? ⟨w.heap.size, 1, none⟩ = some (.int .i64 p.n) ∧ W'.cell? ⟨w.heap.size, 2, none⟩ = some (.int .i64 p.k) ∧ W'.cell? ⟨w.heap.size, 3, none⟩ = some (.int .i64 p.t) ∧ W'.cell? ⟨w.heap.size, 4, none⟩ = some (.int .i64 p.s) ∧ W'.cell? ⟨w.heap.size, 5, none⟩ = some (.int .i64 p.e) ∧ W'.cell? ⟨w.heap.size, 6, none⟩ = some (.int .i64 p.d) ∧ W'.cell? ⟨w.heap.size, 7, none⟩ = some (.int .i64 p.w)) (first | with_reducible exact hS1 | with_reducible exact hS0) (first
     | (go_at_call 34; refine (HD.out _).mono ?_; rintro e w2 ⟨rfl, hb2⟩; have hS1 := (pb1.out.below ((Below.refl _ w1).drew.trans hb2)).cells))
    go_wp2
    go_ret
    exact ⟨rfl, Below.next (Below.next hA hb1) ((Below.refl _ w1).drew.trans hb2)⟩
end Go.Proofs.YtjhididlcdepdaaGreat
namespace Go.Proofs.YtjhididlcdepdaaGreat
open Go.RowKit Fld Pln
theorem dFrom (a n : Int) (w : World) (ha : 0 <= a) (hn : 0 <= n) (han : a + n <= 1000) : Calls Tryz.prog 65 #[.int .i64 a, .int .i64 n] w fun e w' => ∃ v, e = .returned v ∧ w'.ownsRow w.heap.size 64 1 v (pts a n.toNat).length (vals (pts a n.toNat)) ∧ Below w.heap.size w w' := by
 obtain ⟨i0, hi0, hz0, hz1, hz2⟩ := info_parts u64_info
 obtain ⟨N, rfl⟩ : ∃ N : Nat, n = N := ⟨n.toNat, by omega⟩
 rw [Int.toNat_natCast]
 go_enter Tryz.func65, Tryz.ntmps65
 go_wp2_with fail
 go_loopw [5, 6] (fun vl vi wr => ∃ (k : Nat) (ao : Option Addr) (cap : Nat), k <= N ∧ vi = .int .i64 k ∧ vl = .slice ao k cap ∧ Hid (wr.ownsRow w.heap.size 64 1 (.slice ao k cap) k (vals (pts a k))) ∧ Below w.heap.size w wr) (fun _ vi _ => N - (intOf vi).toNat)
 case atStart => exact ⟨0, none, 0, Nat.zero_le _, rfl, rfl, World.ownsRow_nil _ _ _ _, Below.refl _ _⟩
 case round =>
  obtain ⟨k, ao, cap, hk, rfl, rfl, HO, hB⟩ := hrel
  by_cases hlt : k < N
  · have hsz := hB.size
    go_wp2_with (at_builtin; refine wpList_append_own _ rfl _ _ 36 rfl w.heap.size 64 i0 (.int .u64 0) 1 8 Tryz.underlying36 hi0 hz0 hz1 hz2 rfl (by decide) _ k (vals (pts a k)) rfl (own_below HO.out (alloc_below wr _)) ⟨wr.heap.size, 0, none⟩ 1 1 [.int .u64 (a + (k : Int))] rfl rfl (cell_one_new _ _ _) (by simp [Value.oneCell']) (by unfold maxLen; omega) (by omega) (by simp; omega) ?_; intro v' w3 hown3 hg3 hnil3; clear hnil3; obtain ⟨a3, k3, rfl⟩ := own_form hown3)
    have HO3 : Hid (w3.ownsRow w.heap.size 64 1 (.slice a3 (k + 1) k3) (k + 1) (vals (pts a (k + 1)))) := by
     show World.ownsRow _ _ _ _ _ _ _
     rw [pts_succ, show vals (pts a k ++ [a + (k : Int)]) = vals (pts a k) ++ [.int .u64 (a + (k : Int))] by simp [vals]]
     exact hown3
    have hB3 : Below w.heap.size w w3 := (Below.next hB (alloc_below wr _)).grown hg3 (by simp; omega) (fun j e => own_base HO.out j e)
    clear hown3 hg3
    go_roundw
    case rel => exact ⟨k + 1, a3, k3, by omega, by go_num, rfl, HO3, hB3⟩
    case measure => simp [intOf]; omega
  · obtain rfl : k = N := by omega
    go_wp2
    go_ret
    exact ⟨_, rfl, by rw [pts_len]; exact HO.out, hB⟩
theorem dInner (p : Pn) (w : World) (h : mayP p = true) : Calls Tryz.prog 110 #[plv p] w fun e w' => ∃ v, e = .returned v ∧ w'.ownsRow w.heap.size 64 1 v (innL p).length (vals (innL p)) ∧ Below w.heap.size w w' := by
 obtain ⟨_, ⟨k0, k1⟩, ⟨t0, t1⟩, _⟩ := may_facts h
 have HR := hide (fun W => dFrom 0 (p.k + p.t) W (by omega) (by omega) (by omega))
 rw [show pts 0 (p.k + p.t).toNat = innL p from rfl] at HR
 obtain ⟨pb, hA⟩ := pb_box (w := w) p
 obtain ⟨c0, c1, c2, c3, c4, c5, c6, c7⟩ := pb.cells
 generalize innL p = xs at *
 unfold plv plw at *
 clear h
 go_enter Tryz.func110, Tryz.ntmps110
 go_wp2_with (go_at_call 65; refine (HR.out _).mono ?_; rintro e w1 ⟨v1, rfl, hO1, hb1⟩)
 go_ret
 exact ⟨_, rfl, own_mono hO1 hA.size, Below.next hA hb1⟩
theorem dOuter (p : Pn) (w : World) (h : mayP p = true) : Calls Tryz.prog 32 #[plv p] w fun e w' => ∃ v, e = .returned v ∧ w'.ownsRow w.heap.size 64 1 v (outL p).length (vals (outL p)) ∧ Below w.heap.size w w' := by
 obtain ⟨⟨n0, n1⟩, ⟨k0, k1⟩, ⟨t0, t1⟩, _⟩ := may_facts h
 have HR := hide (fun W => dFrom (p.k + p.t) p.n W (by omega) (by omega) (by omega))
 rw [show pts (p.k + p.t) p.n.toNat = outL p from rfl] at HR
 obtain ⟨pb, hA⟩ := pb_box (w := w) p
 obtain ⟨c0, c1, c2, c3, c4, c5, c6, c7⟩ := pb.cells
 generalize outL p = xs at *
 unfold plv plw at *
 clear h
 go_enter Tryz.func32, Tryz.ntmps32
 go_wp2_with (go_at_call 65; refine (HR.out _).mono ?_; rintro e w1 ⟨v1, rfl, hO1, hb1⟩)
 go_ret
 exact ⟨_, rfl, own_mono hO1 hA.size, Below.next hA hb1⟩
end Go.Proofs.YtjhididlcdepdaaGreat
namespace Go.Proofs.YtjhididlcdepdaaGreat
open Go.RowKit Fld Pln Shr
def bdE (p : Pn) (l : List (List Int)) (n : Int) : Int := if elsB p.f l then (if blkB p.w n l then 0 else 3) else 2
theorem blkB_len {w n : Int} {l : List (List Int)} (h : ¬ (l.length : Int) = n) : blkB w n l = false := by
 unfold blkB
 rw [decide_eq_false h, Bool.and_false]
theorem dBad1 (p : Pn) (n : Int) (v : Value) (l : List (List Int)) (w : World) (h : Rws w v l) : Calls Tryz.prog 50 #[plv p, v, .int .i64 n] w fun e w' => e = .returned (.int .i64 (bdE p l n)) ∧ Below w.heap.size w w' := by
 have HI := hide (fun W u xs (hr : Rw W u xs) => rIn_any p.f u xs W hr.1)
 have HN := hide (fun k hk hf => elsB_no (f := p.f) (l := l) (k := k) hk hf)
 have HY := hide (fun hy => elsB_yes (f := p.f) (l := l) hy)
 have HN2 := hide (fun k hk hf => blkB_no (w := p.w) (n := n) (l := l) (k := k) hk hf)
 have HY2 := hide (fun hy => blkB_yes (w := p.w) (n := n) (l := l) hy)
 have HL2 := hide (fun hy => blkB_len (w := p.w) (n := n) (l := l) hy)
 obtain ⟨pb, hA⟩ := pb_box (w := w) p
 have HS := hide (fun W' (hb : Below (w.alloc (.cells #[.int .u8 p.f, .int .i64 p.n, .int .i64 p.k, .int .i64 p.t, .int .i64 p.s, .int .i64 p.e, .int .i64 p.d, .int .i64 p.w] 24)).heap.size _ W') => (pb.below hb).cells)
 obtain ⟨ao, cap, rfl, hlen, hcap, hc⟩ := h
 unfold bdE
 generalize elsB p.f l = b1 at *
 generalize blkB p.w n l = b2 at *
 obtain ⟨res, HX⟩ : ∃ r : Int, Hid ((if b1 = true then (if b2 = true then 0 else 3) else 2) = r) := ⟨_, rfl⟩
 rw [HX.out]
 clear pb
 rw [plan_eq] at *
 go_enter Tryz.func50, Tryz.ntmps50
 go_wp2_with fail
 generalize w.alloc (.cells #[.int .u8 p.f, .int .i64 p.n, .int .i64 p.k, .int .i64 p.t, .int .i64 p.s, .int .i64 p.e, .int .i64 p.d, .int .i64 p.w] 24) = W0 at *
 go_loopw [7] (fun vi wr => ∃ k : Nat, k <= l.length ∧ vi = .int .i64 k ∧ Hid (∀ i, i < k -> inF p.f (l.getD i []) = true) ∧ Below W0.heap.size W0 wr) (fun vi _ => l.length - (intOf vi).toNat)
 case atStart => exact ⟨0, Nat.zero_le _, rfl, fun i hi => by omega, Below.refl _ _⟩
 case round =>
  obtain ⟨k, hk, rfl, HQ, hB⟩ := hrel
  by_cases hlt : k < l.length
  · obtain ⟨b, off, rfl, hbl, hcell⟩ := hc (by intro h; rw [h] at hlt; simp at hlt)
    obtain ⟨u, hu, hR⟩ := hcell k hlt
    have hck := ((Below.next hA hB).cell (p := ⟨b, off + k, none⟩) hbl).trans hu
    have hin := hide (fun V (hb : Below w.heap.size w V) => HI.out V u _ (hR.below hb))
    obtain ⟨au, cu, rfl, _⟩ := hR.spell
    have k0 : (0 : Int) <= (k : Int) := by omega
    have k1 : (k : Int) < (l.length : Int) := by omega
    obtain ⟨c0, c1, c2, c3, c4, c5, c6, c7⟩ := HS.out _ hB
    have hBw := hide (fun nq => Below.next hA (below_drewN hB nq))
    clear hcell hc hR hu HI
    cases hi : inF p.f (l.getD k []) with
    | false =>
     have HR := hide (HN.out k hlt hi)
     rw [hi] at hin
     clear HN HY HN2 HY2 HL2 HQ hi
     generalize l.getD k [] = xs at *
     go_upto_region 4 with fail
     go_quiet (exact Calls.quiet_of_same (hin.out _ (hBw.out _)))
     go_wp2
     go_ret
     exact ⟨by have hr := HR.out; subst hr; rw [<- HX.out]; rfl, hBw.out _⟩
    | true =>
     have HA2 : Hid (∀ i, i < k + 1 -> inF p.f (l.getD i []) = true) := fun i h' => by
      rcases Nat.lt_or_eq_of_le (Nat.le_of_lt_succ h') with h1 | h1
      · exact HQ.out i h1
      · rw [h1]; exact hi
     rw [hi] at hin
     clear HN HY HN2 HY2 HL2 HQ hi
     generalize l.getD k [] = xs at *
     go_upto_region 4 with fail
     go_quiet (exact Calls.quiet_of_same (hin.out _ (hBw.out _)))
     have hB2 := below_drewN hB nq
     go_wp2
     go_roundw
     case rel => exact ⟨k + 1, by omega, by go_num, HA2, hB2⟩
     case measure => simp [intOf]; omega
  · obtain rfl : k = l.length := by omega
    have HR := hide (HY.out HQ.out)
    have hr := HR.out
    subst hr
    clear HN HY HQ HI HR
    obtain ⟨m, hm⟩ : ∃ m, m = l.length := ⟨_, rfl⟩
    have Hm := hide hm
    by_cases hi : (l.length : Int) = n
    · have hi2 : ((l.length : Int) != n) = false := by rw [hi]; simp
      have HY3 := HY2
      rw [decide_eq_true hi] at HY3
      clear hi hm HY2 HL2
      go_wp2_with fail
      obtain ⟨w9, Hw9⟩ : ∃ w9, Hid (wr = w9) := ⟨_, rfl⟩
      go_loopw [8] (fun vi wq => ∃ k : Nat, k <= l.length ∧ vi = .int .i64 k ∧ Hid (∀ i, i < k -> ((l.getD i []).length : Int) = p.w) ∧ Below W0.heap.size W0 wq) (fun vi _ => l.length - (intOf vi).toNat)
      case atStart => exact ⟨0, Nat.zero_le _, rfl, fun i hi => by omega, hB⟩
      case round =>
       clear hB Hw9
       obtain ⟨k, hk, rfl, HQ, hB⟩ := hrel
       by_cases hlt : k < l.length
       · obtain ⟨b, off, rfl, hbl, hcell⟩ := hc (by intro h; rw [h] at hlt; simp at hlt)
         obtain ⟨u, hu, hR⟩ := hcell k hlt
         have hck := ((Below.next hA hB).cell (p := ⟨b, off + k, none⟩) hbl).trans hu
         obtain ⟨au, cu, rfl, _⟩ := hR.spell
         have k0 : (0 : Int) <= (k : Int) := by omega
         have k1 : (k : Int) < (l.length : Int) := by omega
         have hll := hR.len
         obtain ⟨c0, c1, c2, c3, c4, c5, c6, c7⟩ := HS.out _ hB
         clear hcell hc hR hu
         by_cases hi : ((l.getD k []).length : Int) = p.w
         · have HA2 : Hid (∀ i, i < k + 1 -> ((l.getD i []).length : Int) = p.w) := fun i h' => by
            rcases Nat.lt_or_eq_of_le (Nat.le_of_lt_succ h') with h1 | h1
            · exact HQ.out i h1
            · rw [h1]; exact hi
           clear HN2 HY3 HQ
           generalize (l.getD k []).length = m2 at *
           have ht : ((m2 : Int) != p.w) = false := by rw [hi]; simp
           clear hi
           go_upto_region 11 with fail
           go_quiet (fail)
           have hB2 := below_drewN hB nq
           go_wp2
           go_roundw
           case rel => exact ⟨k + 1, by omega, by go_num, HA2, hB2⟩
           case measure => simp [intOf]; omega
         · have HR := hide (HN2.out k hlt hi)
           clear HN2 HY3 HQ
           generalize (l.getD k []).length = m2 at *
           have ht : ((m2 : Int) != p.w) = true := bne_iff_ne.2 hi
           clear hi
           go_upto_region 11 with fail
           go_quiet (fail)
           have hB2 := below_drewN hB nq
           go_wp2
           go_ret
           exact ⟨by have hr := HR.out; subst hr; rw [<- HX.out]; rfl, Below.next hA hB2⟩
       · obtain rfl : k = l.length := by omega
         have HR := hide (HY3.out HQ.out)
         clear HN2 HY3 HQ hc
         go_wp2
         go_ret
         exact ⟨by have hr := HR.out; subst hr; rw [<- HX.out]; rfl, Below.next hA hB⟩
    · have HR := hide (HL2.out hi)
      have ht : ((l.length : Int) != n) = true := bne_iff_ne.2 hi
      clear hi HN2 HY2 HL2 hc hm
      go_wp2
      go_ret
      exact ⟨by have hr := HR.out; subst hr; rw [<- HX.out]; rfl, Below.next hA hB⟩
theorem bd_three (p : Pn) (l : List (List Int)) (n : Int) : bdE p l n = 0 ∨ bdE p l n = 2 ∨ bdE p l n = 3 := by
 unfold bdE; split
 · split
   · exact .inl rfl
   · exact .inr (.inr rfl)
 · exact .inr (.inl rfl)
theorem bk_bd {p : Pn} {dl pl : List (List Int)} (hm : mayP p = true) : bkE p dl pl [] = if bdE p dl p.k = 2 ∨ bdE p pl p.t = 2 then 2 else if bdE p dl p.k < bdE p pl p.t then bdE p pl p.t else bdE p dl p.k := by
 rw [bk_none, hm, Bool.true_and]
 unfold bdE
 cases elsB p.f dl <;> cases elsB p.f pl <;> cases blkB p.w p.k dl <;> cases blkB p.w p.t pl <;> simp
theorem dBad14 (p : Pn) (vd vp : Value) (dl pl : List (List Int)) (w : World) (hp : Ok8p p) (h1 : Rws w vd dl) (h2 : Rws w vp pl) : Calls Tryz.prog 18 #[plv p, vd, vp] w fun e w' => e = .returned (.int .i64 (bkE p dl pl [])) ∧ Below w.heap.size w w' := by
 have HM := hide (dMayP p hp)
 have H1 := hide (fun W (hb : Below w.heap.size w W) => dBad1 p p.k vd dl W (h1.below hb))
 have H2 := hide (fun W (hb : Below w.heap.size w W) => dBad1 p p.t vp pl W (h2.below hb))
 have HB := hide (fun hm => bk_bd (p := p) (dl := dl) (pl := pl) hm)
 have HF : Hid (mayP p = false -> bkE p dl pl [] = 2) := fun hm => by rw [bk_none, hm]; rfl
 have a3 := bd_three p dl p.k
 have b3 := bd_three p pl p.t
 obtain ⟨pb, hA⟩ := pb_box (w := w) p
 have HS := hide (fun W' (hb : Below (w.alloc (.cells #[.int .u8 p.f, .int .i64 p.n, .int .i64 p.k, .int .i64 p.t, .int .i64 p.s, .int .i64 p.e, .int .i64 p.d, .int .i64 p.w] 24)).heap.size _ W') => (pb.below hb).cells)
 obtain ⟨c0, c1, c2, c3, c4, c5, c6, c7⟩ := pb.cells
 obtain ⟨ad, cd, rfl, _, _, _⟩ := h1
 obtain ⟨ap, cp, rfl, _, _, _⟩ := h2
 clear pb hp
 generalize bkE p dl pl [] = res at *
 generalize bdE p dl p.k = ea at *
 generalize bdE p pl p.t = eb at *
 generalize dl.length = nd at *
 generalize pl.length = np at *
 rw [plan_eq] at *
 cases hm : mayP p with
 | false =>
  have hr := HF.out hm
  subst hr
  rw [hm] at HM
  clear HB HF H1 H2 a3 b3 hm
  go_enter Tryz.func18, Tryz.ntmps18
  go_wp2_with (go_at_call 39; refine (HM.out _).mono ?_; rintro e w1 ⟨rfl, hb1⟩)
  go_ret
  exact ⟨rfl, Below.next hA hb1⟩
 | true =>
  have HR := hide (HB.out hm)
  rw [hm] at HM
  clear HB HF hm
  go_enter Tryz.func18, Tryz.ntmps18
  go_upto_region 3 with (go_at_call 39; refine (HM.out _).mono ?_; rintro e w1 ⟨rfl, hb1⟩)
  have hC1 := hb1
  have hdr : Below w1.heap.size w1 w1.drew := (Below.refl _ w1).drew
  have hS0 := HS.out _ (Below.next hC1 hdr)
  have hB1 := Below.next hA (Below.next hC1 hdr)
  clear c0 c1 c2 c3 c4 c5 c6 c7
  refine wp_region_held_drew (S := (fun V => V.cell? ⟨w.heap.size, 0, none⟩ = some (.int .u8 p.f) ∧ V.cell? ⟨w.heap.size, 1, none⟩ = some (.int .i64 p.n) ∧ V.cell? ⟨w.heap.size, 2, none⟩ = some (.int .i64 p.k) ∧ V.cell? ⟨w.heap.size, 3, none⟩ = some (.int .i64 p.t) ∧ V.cell? ⟨w.heap.size, 4, none⟩ = some (.int .i64 p.s) ∧ V.cell? ⟨w.heap.size, 5, none⟩ = some (.int .i64 p.e) ∧ V.cell? ⟨w.heap.size, 6, none⟩ = some (.int .i64 p.d) ∧ V.cell? ⟨w.heap.size, 7, none⟩ = some (.int .i64 p.w))) (by kernel_rfl) (by ((try dsimp only) <;> (first | with_reducible exact hS2 | with_reducible exact hS1 | with_reducible exact hS0))) (fun hHeld => ?_)
  refine tkY 0 ?_
  refine tkY 1 ?_
  refine tkY 2 ?_
  refine tkY 3 ?_
  refine tkY 5 ?_
  refine tkY 6 ?_
  refine tkY 7 ?_
  refine tkY 8 ?_
  refine rd1 4 (fun K hK => ?_)
  (try simp only [ly0, ly1, ly2, ly3, ly4, ly5, ly6, ly7])
  go_simp
  (first | (go_at_call 50; with_reducible refine (H2.out _ hB2).mono ?_; rintro e w3 ⟨rfl, hb3⟩; have hC3 := Below.next hC2 hb3; have hB3 := Below.next hA hC3; have hS2 := HS.out _ hC3) | (go_at_call 50; with_reducible refine (H1.out _ hB1).mono ?_; rintro e w2 ⟨rfl, hb2⟩; have hC2 := Below.next (Below.next hC1 hdr) hb2; have hB2 := Below.next hA hC2; have hS1 := HS.out _ hC2))
  first | refine hK.out _ _ ?k5 (fun hHeld => ?_) | (go_wp2_with fail; refine hK.out _ _ ?k5 (fun hHeld => ?_))
  case k5 => ((try dsimp only) <;> (first | with_reducible exact hS2 | with_reducible exact hS1 | with_reducible exact hS0))
  clear hK K
  (try simp only [ly0, ly1, ly2, ly3, ly4, ly5, ly6, ly7])
  refine rd1 9 (fun K hK => ?_)
  (try simp only [ly0, ly1, ly2, ly3, ly4, ly5, ly6, ly7])
  go_simp
  (first | (go_at_call 50; with_reducible refine (H2.out _ hB2).mono ?_; rintro e w3 ⟨rfl, hb3⟩; have hC3 := Below.next hC2 hb3; have hB3 := Below.next hA hC3; have hS2 := HS.out _ hC3) | (go_at_call 50; with_reducible refine (H1.out _ hB1).mono ?_; rintro e w2 ⟨rfl, hb2⟩; have hC2 := Below.next (Below.next hC1 hdr) hb2; have hB2 := Below.next hA hC2; have hS1 := HS.out _ hC2))
  first | refine hK.out _ _ ?k6 (fun hHeld => ?_) | (go_wp2_with fail; refine hK.out _ _ ?k6 (fun hHeld => ?_))
  case k6 => ((try dsimp only) <;> (first | with_reducible exact hS2 | with_reducible exact hS1 | with_reducible exact hS0))
  clear hK K
  (try simp only [ly0, ly1, ly2, ly3, ly4, ly5, ly6, ly7])
  refine tkY 10 ?_
  refine tkY 11 ?_
  refine wpAnyH_done (by kernel_rfl) ?_ _
  rcases a3 with rfl | rfl | rfl <;> rcases b3 with rfl | rfl | rfl
  all_goals
   go_wp2
   go_ret
   exact ⟨by have hr := HR.out; subst hr; rfl, hB3⟩
theorem vals_snocH (xs : List Int) (x : Int) : vals (xs ++ [x]) = vals xs ++ [.int .u64 x] := by simp [vals]
theorem col_take {l : List (List Int)} {k t : Nat} (hk : k < l.length) : col (l.take k) t ++ [co (l.getD k []) t] = col (l.take (k + 1)) t := by
 rw [List.take_succ_eq_append_getElem hk, col_app, List.getD_eq_getElem?_getD, List.getElem?_eq_getElem hk]; rfl
theorem dColumn (v1 v2 : Value) (l1 l2 : List (List Int)) (t : Nat) (w : World) (h1 : Rws w v1 l1) (h2 : Rws w v2 l2) (hl : ∀ b ∈ l1 ++ l2, t < b.length) (n1 : l1.length + l2.length <= 1000) :
 Calls Tryz.prog 111 #[v1, v2, .int .i64 t] w fun e w' => ∃ v', e = .returned v' ∧ w'.ownsRow w.heap.size 64 1 v' (col (l1 ++ l2) t).length (vals (col (l1 ++ l2) t)) ∧ Below w.heap.size w w' := by
 obtain ⟨i0, hi0, hz0, hz1, hz2⟩ := info_parts w64_info
 have HT1 := hide (fun k hk => col_take (l := l1) (k := k) (t := t) hk)
 have HT2 : Hid (∀ k, k < l2.length -> (col l1 t ++ col (l2.take k) t) ++ [co (l2.getD k []) t] = col l1 t ++ col (l2.take (k + 1)) t) := fun k hk => by rw [List.append_assoc, col_take hk]
 have HL1 : Hid (∀ k, k < l1.length -> t < (l1.getD k []).length) := fun k hk => hl _ (List.mem_append.2 (.inl (getD_memA [] hk)))
 have HL2 : Hid (∀ k, k < l2.length -> t < (l2.getD k []).length) := fun k hk => hl _ (List.mem_append.2 (.inr (getD_memA [] hk)))
 have HLn : Hid (∀ k, k <= l1.length -> (col (l1.take k) t).length = k) := fun k hk => by rw [col_len, List.length_take]; omega
 have HLm : Hid (∀ k, k <= l2.length -> (col l1 t ++ col (l2.take k) t).length = l1.length + k) := fun k hk => by rw [List.length_append, col_len, col_len, List.length_take]; omega
 have HEnd : Hid (col l1 t ++ col (l2.take l2.length) t = col (l1 ++ l2) t) := by show _ = _; rw [List.take_length, col_app]
 have HEl : Hid ((col (l1 ++ l2) t).length = l1.length + l2.length) := by show _ = _; rw [col_len, List.length_append]
 have R1 := hide h1
 have R2 := hide h2
 obtain ⟨a1, c1, rfl, _, _, _⟩ := h1
 obtain ⟨a2, c2, rfl, _, _, _⟩ := h2
 clear hl
 go_enter Tryz.func111, Tryz.ntmps111
 go_wp2_with fail
 go_loopw [7, 8] (fun vl vi wr => ∃ (k : Nat) (ao : Option Addr) (cap : Nat), k <= l1.length ∧ vi = .int .i64 k ∧ vl = .slice ao k cap ∧ Hid (wr.ownsRow w.heap.size 64 1 (.slice ao k cap) k (vals (col (l1.take k) t))) ∧ Below w.heap.size w wr) (fun _ vi _ => l1.length - (intOf vi).toNat)
 case atStart => exact ⟨0, none, 0, Nat.zero_le _, rfl, rfl, World.ownsRow_nil _ _ _ _, Below.refl _ _⟩
 case round =>
  obtain ⟨k, ao, cap, hk, rfl, rfl, HO, hB⟩ := hrel
  by_cases hlt : k < l1.length
  · obtain ⟨b, off, cp, hv, _⟩ := R1.out.some_ (by omega)
    injection hv with hv _ hcv
    subst hv hcv
    have hWj := HL1.out k hlt
    obtain ⟨b2, off2, cc, d1, d2⟩ := R1.out.elem hB hlt (k := t) hWj
    have k0 : (0 : Int) <= (k : Int) := by omega
    have k1 : (k : Int) < (l1.length : Int) := by omega
    have kl : (t : Int) < ((l1.getD k []).length : Int) := by omega
    have hT := HT1.out k hlt
    have hsz := hB.size
    clear HT1 HT2 HL1 HL2 HLn HLm HEnd HEl R1 R2
    generalize co (l1.getD k []) t = x at *
    generalize (l1.getD k []).length = m at *
    go_wp2_with (at_builtin; refine wpList_append_own _ rfl _ _ 36 rfl w.heap.size 64 i0 (.int .u64 0) 1 8 Tryz.underlying36 hi0 hz0 hz1 hz2 rfl (by decide) _ k (vals (col (l1.take k) t)) rfl (own_below HO.out (alloc_below wr _)) ⟨wr.heap.size, 0, none⟩ 1 1 [.int .u64 x] rfl rfl (cell_one_new _ _ _) (by simp [Value.oneCell']) (by unfold maxLen; omega) (by omega) (by simp; omega) ?_; intro v' w3 hown3 hg3 hnil3; clear hnil3; obtain ⟨a3, k3, rfl⟩ := own_form hown3)
    have HO3 : Hid (w3.ownsRow w.heap.size 64 1 (.slice a3 (k + 1) k3) (k + 1) (vals (col (l1.take (k + 1)) t))) := by
     show World.ownsRow _ _ _ _ _ _ _
     rw [<- hT, vals_snocH]
     exact hown3
    have hB3 : Below w.heap.size w w3 := (Below.next hB (alloc_below wr _)).grown hg3 (by simp; omega) (fun j e => own_base HO.out j e)
    clear hown3 hg3 hT
    go_roundw
    case rel => exact ⟨k + 1, a3, k3, by omega, by go_num, rfl, HO3, hB3⟩
    case measure => simp [intOf]; omega
  · obtain rfl : k = l1.length := by omega
    have HO2 : Hid (wr.ownsRow w.heap.size 64 1 (.slice ao l1.length cap) (l1.length + 0) (vals (col l1 t ++ col (l2.take 0) t))) := by
     have := HO.out
     rw [List.take_length] at this
     rw [List.take_zero, show col [] t = [] from rfl, List.append_nil]
     exact this
    clear HO HT1 HL1 HLn R1
    generalize col l1 t = base at *
    generalize hnn : l1.length = m1 at *
    clear hnn
    go_wp2_with fail
    go_loopw [7, 9] (fun vl vi wq => ∃ (k : Nat) (ao : Option Addr) (cap : Nat), k <= l2.length ∧ vi = .int .i64 k ∧ vl = .slice ao (m1 + k) cap ∧ Hid (wq.ownsRow w.heap.size 64 1 (.slice ao (m1 + k) cap) (m1 + k) (vals (base ++ col (l2.take k) t))) ∧ Below w.heap.size w wq) (fun _ vi _ => l2.length - (intOf vi).toNat)
    case atStart => exact ⟨0, ao, cap, Nat.zero_le _, rfl, rfl, HO2, hB⟩
    case round =>
     clear hB HO2
     obtain ⟨k, ao, cap, hk, rfl, rfl, HO, hB⟩ := hrel
     by_cases hlt : k < l2.length
     · obtain ⟨b, off, cp, hv, _⟩ := R2.out.some_ (by omega)
       injection hv with hv _ hcv
       subst hv hcv
       have hWj := HL2.out k hlt
       obtain ⟨b2, off2, cc, d1, d2⟩ := R2.out.elem hB hlt (k := t) hWj
       have k0 : (0 : Int) <= (k : Int) := by omega
       have k1 : (k : Int) < (l2.length : Int) := by omega
       have kl : (t : Int) < ((l2.getD k []).length : Int) := by omega
       have hT := HT2.out k hlt
       have hsz := hB.size
       clear HT2 HL2 HLm HEnd HEl R2
       generalize co (l2.getD k []) t = x at *
       generalize (l2.getD k []).length = m at *
       go_wp2_with (at_builtin; refine wpList_append_own _ rfl _ _ 36 rfl w.heap.size 64 i0 (.int .u64 0) 1 8 Tryz.underlying36 hi0 hz0 hz1 hz2 rfl (by decide) _ (m1 + k) (vals (base ++ col (l2.take k) t)) rfl (own_below HO.out (alloc_below wr _)) ⟨wr.heap.size, 0, none⟩ 1 1 [.int .u64 x] rfl rfl (cell_one_new _ _ _) (by simp [Value.oneCell']) (by unfold maxLen; omega) (by omega) (by simp; omega) ?_; intro v' w3 hown3 hg3 hnil3; clear hnil3; obtain ⟨a3, k3, rfl⟩ := own_form hown3)
       have HO3 : Hid (w3.ownsRow w.heap.size 64 1 (.slice a3 (m1 + (k + 1)) k3) (m1 + (k + 1)) (vals (base ++ col (l2.take (k + 1)) t))) := by
        show World.ownsRow _ _ _ _ _ _ _
        rw [<- hT, vals_snocH, <- Nat.add_assoc]
        exact hown3
       have hB3 : Below w.heap.size w w3 := (Below.next hB (alloc_below wr _)).grown hg3 (by simp; omega) (fun j e => own_base HO.out j e)
       clear hown3 hg3 hT
       go_roundw
       case rel => exact ⟨k + 1, a3, k3, by omega, by go_num, by rw [Nat.add_assoc], HO3, hB3⟩
       case measure => simp [intOf]; omega
     · obtain rfl : k = l2.length := by omega
       have HO2 := HO
       rw [HEnd.out] at HO2
       rw [<- HEl.out] at HO2
       clear HO HT2 HL2 HLm HEnd R2
       go_wp2
       go_ret
       exact ⟨_, rfl, by rw [HEl.out] at *; exact HO2.out, hB⟩
theorem map_take_snoc {α : Type} (g : List Int -> α) (l : List (List Int)) {k : Nat} (hk : k < l.length) : (l.take k).map g ++ [g (l.getD k [])] = (l.take (k + 1)).map g := by
 rw [List.take_succ_eq_append_getElem hk, List.map_append, List.getD_eq_getElem?_getD, List.getElem?_eq_getElem hk]; rfl
theorem dAt (f q x : Int) (wd : Bool) (v : Value) (l : List (List Int)) (w : World) (hf : Fi f q wd) (h : Rws w v l) (he : ∀ b ∈ l, Els q b ∧ b.length <= 4096) (hx : El q x) (hn : l.length <= 1000) :
 Calls Tryz.prog 84 #[.int .u8 f, v, .int .u64 x] w fun e w' => ∃ v', e = .returned v' ∧ w'.ownsRow w.heap.size 64 1 v' (l.map (vl q x)).length (vals (l.map (vl q x))) ∧ Below w.heap.size w w' := by
 obtain ⟨i0, hi0, hz0, hz1, hz2⟩ := info_parts w64_info
 have HE : Hid (∀ k, k < l.length -> ∀ W u, Rw W u (l.getD k []) -> Calls Tryz.prog 35 #[.int .u8 f, u, .int .u64 x] W fun e w' => e = .returned (.tuple #[.int .u64 (vl q x (l.getD k [])), .int .i64 0]) ∧ Below W.heap.size W w') := fun k hk W u hR => by
  have := dEval_any f x u _ W (elWord hx hf.top) hR
  obtain ⟨e1, e2⟩ := he _ (getD_memA [] hk)
  have e0 : er f (l.getD k []) [x] = 0 := er_yes hf (allIn_of e1) (allIn_of (fun y hy => by rw [List.mem_singleton.1 hy]; exact hx)) e2 (by simp)
  unfold valE at this
  rw [e0, if_pos rfl, pOf_eq hf] at this
  exact this
 have HT := hide (fun k hk => map_take_snoc (vl q x) l (k := k) hk)
 have HEl : Hid ((l.map (vl q x)).length = l.length) := List.length_map ..
 obtain ⟨ao, cap, rfl, hlen, hcap, hc⟩ := h
 clear he hx hf
 go_enter Tryz.func84, Tryz.ntmps84
 go_wp2_with fail
 go_loopw [7, 8] (fun vs vi wr => ∃ (k : Nat) (ao : Option Addr) (cap : Nat), k <= l.length ∧ vi = .int .i64 k ∧ vs = .slice ao k cap ∧ Hid (wr.ownsRow w.heap.size 64 1 (.slice ao k cap) k (vals ((l.take k).map (vl q x)))) ∧ Below w.heap.size w wr) (fun _ vi _ => l.length - (intOf vi).toNat)
 case atStart => exact ⟨0, none, 0, Nat.zero_le _, rfl, rfl, World.ownsRow_nil _ _ _ _, Below.refl _ _⟩
 case round =>
  obtain ⟨k, ao2, cap2, hk, rfl, rfl, HO, hB⟩ := hrel
  by_cases hlt : k < l.length
  · obtain ⟨b, off, rfl, hbl, hcell⟩ := hc (by intro h; rw [h] at hlt; simp at hlt)
    obtain ⟨u, hu, hR⟩ := hcell k hlt
    have hck := (hB.cell (p := ⟨b, off + k, none⟩) hbl).trans hu
    have hev := hide (HE.out k hlt wr u (hR.below hB))
    obtain ⟨au, cu, rfl, _⟩ := hR.spell
    have hT := HT.out k hlt
    have k0 : (0 : Int) <= (k : Int) := by omega
    have k1 : (k : Int) < (l.length : Int) := by omega
    clear hcell hc hR hu HE HT HEl
    generalize vl q x (l.getD k []) = y at *
    generalize (l.getD k []).length = m at *
    go_wp2_with (first
     | (go_at_call 35; refine hev.out.mono ?_; rintro e w2 ⟨rfl, hb2⟩; have hB2 := Below.next hB hb2; have HO2 := hide (own_below HO.out hb2); have hsz := hB2.size)
     | (at_builtin; refine wpList_append_own _ rfl _ _ 36 rfl w.heap.size 64 i0 (.int .u64 0) 1 8 Tryz.underlying36 hi0 hz0 hz1 hz2 rfl (by decide) _ k (vals ((l.take k).map (vl q x))) rfl (own_below HO2.out (alloc_below w2 _)) ⟨w2.heap.size, 0, none⟩ 1 1 [.int .u64 y] rfl rfl (cell_one_new _ _ _) (by simp [Value.oneCell']) (by unfold maxLen; omega) (by omega) (by simp; omega) ?_; intro v' w3 hown3 hg3 hnil3; clear hnil3; obtain ⟨a3, k3, rfl⟩ := own_form hown3))
    have HO3 : Hid (w3.ownsRow w.heap.size 64 1 (.slice a3 (k + 1) k3) (k + 1) (vals ((l.take (k + 1)).map (vl q x)))) := by
     show World.ownsRow _ _ _ _ _ _ _
     rw [<- hT, vals_snocH]
     exact hown3
    have hB3 : Below w.heap.size w w3 := (Below.next hB2 (alloc_below w2 _)).grown hg3 (by simp; omega) (fun j e => own_base HO2.out j e)
    clear hown3 hg3 hT
    go_roundw
    case rel => exact ⟨k + 1, a3, k3, by omega, by go_num, rfl, HO3, hB3⟩
    case measure => simp [intOf]; omega
  · obtain rfl : k = l.length := by omega
    have HO2 := HO
    rw [List.take_length] at HO2
    clear HO HE HT hc
    go_wp2
    go_ret
    exact ⟨_, rfl, by rw [HEl.out]; exact HO2.out, hB⟩
theorem range_snoc (F : Nat -> List Int) (k : Nat) : (List.range k).map F ++ [F k] = (List.range (k + 1)).map F := by rw [List.range_succ, List.map_append]; rfl
theorem lss_here14 {w : World} {lo hi : Nat} {v : Value} {us : List Value} {xss : List (List Int)} (h : Lss w lo hi v us xss) : Lss w lo w.heap.size v us xss :=
 ⟨h.row, h.each, h.from_, fun i g hg => by
  by_cases hi' : i < xss.length
  · exact own_top (h.each i hi') g hg
  · have : us.getD i nov = nov := by
     rw [List.getD_eq_getElem?_getD, List.getElem?_eq_none (by have := h.len; omega)]; rfl
    rw [this] at hg; simp [nov, Value.ownBlock] at hg, h.up⟩
theorem dPolys (p : Pn) (vd vp : Value) (dl pl : List (List Int)) (w : World) (hp : Ok8p p) (h1 : Rws w vd dl) (h2 : Rws w vp pl) : GivesL 83 #[plv p, vd, vp] w (polL p dl pl) (bkE p dl pl []) := by
 obtain ⟨i0, hi0, hz0, hz1, hz2⟩ := info_parts sl_info
 obtain ⟨pb, hA⟩ := pb_box (w := w) p
 have HK := hide (fun W (hb : Below w.heap.size w W) => dBad14 p vd vp dl pl W hp (h1.below hb) (h2.below hb))
 have HS := hide (fun W' (hb : Below (w.alloc (.cells #[.int .u8 p.f, .int .i64 p.n, .int .i64 p.k, .int .i64 p.t, .int .i64 p.s, .int .i64 p.e, .int .i64 p.d, .int .i64 p.w] 24)).heap.size _ W') => (pb.below hb).cells)
 obtain ⟨c0, c1, c2, c3, c4, c5, c6, c7⟩ := pb.cells
 by_cases hz : bkE p dl pl [] = 0
 · obtain ⟨q, wd, hm, hf, hbe, hbw, hdl, hpl, hbl, ie, inn, i64', oe, on, o64, d0, _⟩ := bk_facts hz h1.wordsH h2.wordsH
   obtain ⟨_, _, _, _, _, _, w0, w1⟩ := may_facts hm
   have hlen : dl.length + pl.length <= 64 := by rw [List.length_append] at hbl; omega
   have HL : Hid (polL p dl pl = (List.range p.w.toNat).map (fun t => thrL p.f (innL p) (col (dl ++ pl) t))) := by
    show _ = _
    unfold polL pys
    rw [if_pos hz, pOf_eq hf]
    refine List.map_congr_left (fun t _ => ?_)
    rw [thr_zeroL hf ie inn (col_els hf.pos hbe t) (by rw [col_len]; exact hbl) (by omega)]
    rfl
   rw [HL.out, hz]
   rw [hz] at HK
   have HI := hide (fun W => dInner p W hm)
   have HR := hide (fun W v base n (hO : World.ownsRow W base 64 1 v n (vals (innL p))) => rw_of_own hO (by omega) (els_words ie hf.top))
   have HC := hide (fun W t (hb : Below w.heap.size w W) (ht : t < p.w.toNat) => dColumn vd vp dl pl t W (h1.below hb) (h2.below hb) (fun b hb' => by rw [hbw b hb']; exact ht) (by omega))
   have HR2 := hide (fun W v base n t (hO : World.ownsRow W base 64 1 v n (vals (col (dl ++ pl) t))) => rw_of_own hO (by rw [col_len]; omega) (els_words (col_els hf.pos hbe t) hf.top))
   have HT := hide (fun W v1 v2 t x1 x2 => dThrough p.f v1 v2 (innL p) (col (dl ++ pl) t) W x1 x2)
   unfold Gives at HT
   obtain ⟨F, HF⟩ : ∃ F : Nat -> List Int, Hid (F = fun t => thrL p.f (innL p) (col (dl ++ pl) t)) := ⟨_, rfl⟩
   have HFt : Hid (∀ t, thrL p.f (innL p) (col (dl ++ pl) t) = F t) := fun t => by rw [HF.out]
   have HN := hide (fun k => range_snoc F k)
   rw [<- HF.out]
   obtain ⟨n, Hn⟩ : ∃ n : Nat, Hid (p.w.toNat = n) := ⟨_, rfl⟩
   have hpw : p.w = (n : Int) := by have := Hn.out; omega
   have hn64 : n <= 64 := by omega
   rw [Hn.out] at HC ⊢
   obtain ⟨ad, cd, rfl, _, _, _⟩ := h1
   obtain ⟨ap, cp, rfl, _, _, _⟩ := h2
   have HPw := hide hpw
   clear hz hm hf hbe hbw hbl ie inn oe on pb hp HL hdl hpl HF w0 w1 hpw
   rw [plan_eq] at *
   show Calls _ _ _ _ _
   go_enter Tryz.func83, Tryz.ntmps83
   go_upto_region 1 with fail
   generalize w.alloc (.cells #[.int .u8 p.f, .int .i64 p.n, .int .i64 p.k, .int .i64 p.t, .int .i64 p.s, .int .i64 p.e, .int .i64 p.d, .int .i64 p.w] 24) = W0 at *
   generalize dl.length = nd at *
   generalize pl.length = np at *
   go_wp2_with (go_at_call 18; refine (HK.out _ hA).mono ?_; rintro e w1 ⟨rfl, hb1⟩)
   have hC1 := hb1
   have hB1 := Below.next hA hC1
   have hB1s := hB1.size
   clear c0 c1 c2 c3 c4 c5 c6 c7 HK hb1
   go_loopw [9, 10] (fun vo vi wr => ∃ (k : Nat) (us : List Value), k <= n ∧ vi = .int .i64 k ∧ Hid (Lss wr w1.heap.size wr.heap.size vo us ((List.range k).map F)) ∧ Below w1.heap.size w1 wr) (fun _ vi _ => n - (intOf vi).toNat)
   case atStart => exact ⟨0, [], Nat.zero_le _, rfl, Lss.nil _ _ _, Below.refl _ _⟩
   case round =>
    obtain ⟨k, us, hk, rfl, HL, hB⟩ := hrel
    obtain ⟨c0, c1, c2, c3, c4, c5, c6, c7⟩ := HS.out _ (Below.next hC1 hB)
    by_cases hlt : k < n
    · have hkw : (k : Int) < p.w := by rw [HPw.out]; omega
      have Hml : Hid (((List.range k).map F).length = k) := by show _ = _; simp
      obtain ⟨ao, co', hv⟩ := own_form HL.out.row
      rw [Hml.out] at hv
      subst hv
      have hdr : Below wr.heap.size wr wr.drew := (Below.refl _ wr).drew
      have hCr := Below.next hC1 hB
      have hS0 := HS.out _ (Below.next hCr hdr)
      have HS2 := hide (fun V (hb : Below wr.heap.size wr V) => HS.out V (Below.next hCr hb))
      have hCk := hide (fun W hb => HC.out W k hb hlt)
      have hT := hide (fun W v1 v2 x1 x2 => HT.out W v1 v2 k x1 x2)
      have hR2 := hide (fun W v base m hO => HR2.out W v base m k hO)
      rw [HFt.out k] at hT
      have hN := HN.out k
      generalize col (dl ++ pl) k = ck at *
      generalize F k = fk at *
      generalize innL p = xs at *
      generalize bad p.f xs ck ck.length = e0 at *
      go_upto_region 8 with fail
      clear c0 c1 c2 c3 c4 c5 c6 c7
      refine wp_region_held_drew (S := (fun V => V.cell? ⟨w.heap.size, 0, none⟩ = some (.int .u8 p.f) ∧ V.cell? ⟨w.heap.size, 1, none⟩ = some (.int .i64 p.n) ∧ V.cell? ⟨w.heap.size, 2, none⟩ = some (.int .i64 p.k) ∧ V.cell? ⟨w.heap.size, 3, none⟩ = some (.int .i64 p.t) ∧ V.cell? ⟨w.heap.size, 4, none⟩ = some (.int .i64 p.s) ∧ V.cell? ⟨w.heap.size, 5, none⟩ = some (.int .i64 p.e) ∧ V.cell? ⟨w.heap.size, 6, none⟩ = some (.int .i64 p.d) ∧ V.cell? ⟨w.heap.size, 7, none⟩ = some (.int .i64 p.w))) (by kernel_rfl) (by ((try dsimp only) <;> (first | with_reducible exact hS3 | with_reducible exact hS2 | with_reducible exact hS1 | with_reducible exact hS0))) (fun hHeld => ?_)
      refine tkY 0 ?_
      refine tkY 1 ?_
      refine tkY 2 ?_
      refine tkY 4 ?_
      refine tkY 5 ?_
      refine tkY 6 ?_
      refine rd1 3 (fun K hK => ?_)
      (try simp only [ly0, ly1, ly2, ly3, ly4, ly5, ly6, ly7])
      go_simp
      (go_at_call 110; refine (HI.out _).mono ?_; rintro e w2 ⟨v2, rfl, o2, hb2⟩; have hD2 := Below.next hdr hb2; have hS1 := HS2.out _ hD2; have r2 := HR.out _ _ _ _ o2; obtain ⟨a2, k2, rfl⟩ := own_form o2)
      first | refine hK.out _ _ ?k7 (fun hHeld => ?_) | (go_wp2_with fail; refine hK.out _ _ ?k7 (fun hHeld => ?_))
      case k7 => ((try dsimp only) <;> (first | with_reducible exact hS3 | with_reducible exact hS2 | with_reducible exact hS1 | with_reducible exact hS0))
      clear hK K
      (try simp only [ly0, ly1, ly2, ly3, ly4, ly5, ly6, ly7])
      refine rd1 7 (fun K hK => ?_)
      (try simp only [ly0, ly1, ly2, ly3, ly4, ly5, ly6, ly7])
      go_simp
      (go_at_call 111; refine (hCk.out _ (Below.next (Below.next hB1 hB) hD2)).mono ?_; rintro e w3 ⟨v3, rfl, o3, hb3⟩; have hD3 := Below.next hD2 hb3; have hS2 := HS2.out _ hD3; have r2b := r2.below hb3; have r3 := hR2.out _ _ _ _ o3; obtain ⟨a3, k3, rfl⟩ := own_form o3)
      first | refine hK.out _ _ ?k8 (fun hHeld => ?_) | (go_wp2_with fail; refine hK.out _ _ ?k8 (fun hHeld => ?_))
      case k8 => ((try dsimp only) <;> (first | with_reducible exact hS3 | with_reducible exact hS2 | with_reducible exact hS1 | with_reducible exact hS0))
      clear hK K
      (try simp only [ly0, ly1, ly2, ly3, ly4, ly5, ly6, ly7])
      refine rd1 8 (fun K hK => ?_)
      (try simp only [ly0, ly1, ly2, ly3, ly4, ly5, ly6, ly7])
      go_simp
      (go_at_call 109; refine (hT.out _ _ _ r2b r3).mono ?_; rintro e w4 ⟨v4, rfl, o4, hb4⟩; have hD4 := Below.next hD3 hb4; have hS3 := HS2.out _ hD4; obtain ⟨a4, k4, rfl⟩ := own_form o4)
      first | refine hK.out _ _ ?k9 (fun hHeld => ?_) | (go_wp2_with fail; refine hK.out _ _ ?k9 (fun hHeld => ?_))
      case k9 => ((try dsimp only) <;> (first | with_reducible exact hS3 | with_reducible exact hS2 | with_reducible exact hS1 | with_reducible exact hS0))
      clear hK K
      (try simp only [ly0, ly1, ly2, ly3, ly4, ly5, ly6, ly7])
      refine tkY 9 ?_
      refine tkY 10 ?_
      refine tkY 11 ?_
      refine tkY 12 ?_
      refine tkY 13 ?_
      refine wpAnyH_done (by kernel_rfl) ?_ _
      have HL4 := hide (HL.out.below hD4)
      have hsz4 := hD4.size
      have hsz3 := hD3.size
      have hbs := hB.size
      clear hS0 hS1 hS2 hS3 r2 r2b r3 o2 o3 hT hCk hR2
      have HRow : Hid (∀ ob, World.ownsRow (w4.alloc ob) w1.heap.size 36 1 (.slice ao k co') k us) := fun ob => by
       have := HL4.out.row.alloc ob
       rw [Hml.out] at this
       exact this
      go_wp2_with (at_builtin; refine wpList_append_lies _ rfl _ _ _ rfl w1.heap.size 36 i0 _ 1 24 Tryz.underlying26 hi0 hz0 hz1 hz2 rfl (by omega) (.slice ao k co') k us rfl (HRow.out _) ⟨w4.heap.size, 0, none⟩ 1 1 [.slice a4 fk.length k4] rfl rfl (World.news_of_block (cs := #[.slice a4 fk.length k4]) (t := 36) (fr := (0, 0)) (heap_alloc_new w4 _)) (by simp [Value.oneCell']) (by omega) (by unfold maxLen; omega) (by omega) (by simp; omega) (w4.heap.size + 1) (by simp) ?_; intro gg cap2 w5 hown5 hgrow hat hltg)
      have R := hide (HL4.out.push (w := w1) (H := w3.heap.size) hsz3 (Nat.le_trans hbs hsz3) (Nat.le_refl _) (Below.next hB hD4) o4 (by rw [Hml.out]; exact hown5) hgrow)
      clear hown5 hgrow hat hltg HL HL4 o4 HRow
      rw [hN] at R
      clear hN
      go_roundw
      case rel => exact ⟨k + 1, _, by omega, by go_num, lss_here14 R.out.1, R.out.2⟩
      case measure => simp [intOf]; omega
    · obtain rfl : k = n := by omega
      have hkw : ¬ (k : Int) < p.w := by rw [HPw.out]; omega
      clear HT HC HR HR2 HI HN HFt
      go_wp2
      go_ret2
      first | exact ⟨_, rfl, ⟨us, HL.out.low hB1s⟩, Below.next hB1 hB⟩ | exact ⟨_, us, rfl, HL.out.low hB1s, Below.next hB1 hB⟩
 · have ht : (bkE p dl pl [] != 0) = true := bne_iff_ne.2 hz
   have HL : Hid (polL p dl pl = []) := by show _ = _; unfold polL; rw [if_neg hz]
   rw [HL.out]
   obtain ⟨ad, cd, rfl, _, _, _⟩ := h1
   obtain ⟨ap, cp, rfl, _, _, _⟩ := h2
   clear hz HL pb hp
   generalize bkE p dl pl [] = e0 at *
   generalize dl.length = nd at *
   generalize pl.length = np at *
   rw [plan_eq] at *
   show Calls _ _ _ _ _
   go_enter Tryz.func83, Tryz.ntmps83
   go_wp2_with (go_at_call 18; refine (HK.out _ hA).mono ?_; rintro e w1 ⟨rfl, hb1⟩)
   go_ret2
   exact ⟨_, [], rfl, Lss.nil _ _ _, Below.next hA hb1⟩
theorem pys_facts {q : Int} {wd : Bool} (hm : Md q wd) {xs : List Int} (hx : Els q xs) (hn : xs.Nodup) {bl : List (List Int)} (hb : ∀ b ∈ bl, Els q b) (w : Nat) : ∀ b ∈ pys q xs w bl, Els q b ∧ b.length <= xs.length := fun b h => by
 unfold pys at h
 obtain ⟨t, _, rfl⟩ := List.mem_map.1 h
 have := py_thr hm hx hn hb t
 exact ⟨this.1.1, this.2.1⟩
theorem pys_len (q : Int) (xs : List Int) (w : Nat) (bl : List (List Int)) : (pys q xs w bl).length = w := by simp [pys]
theorem dAll (p : Pn) (vd vp : Value) (dl pl : List (List Int)) (w : World) (hp : Ok8p p) (h1 : Rws w vd dl) (h2 : Rws w vp pl) : GivesL 51 #[plv p, vd, vp] w (allL p dl pl) (bkE p dl pl []) := by
 obtain ⟨i0, hi0, hz0, hz1, hz2⟩ := info_parts sl_info
 obtain ⟨pb, hA⟩ := pb_box (w := w) p
 have HP := hide (fun W (hb : Below w.heap.size w W) => dPolys p vd vp dl pl W hp (h1.below hb) (h2.below hb))
 unfold GivesL at HP
 have HS := hide (fun W' (hb : Below (w.alloc (.cells #[.int .u8 p.f, .int .i64 p.n, .int .i64 p.k, .int .i64 p.t, .int .i64 p.s, .int .i64 p.e, .int .i64 p.d, .int .i64 p.w] 24)).heap.size _ W') => (pb.below hb).cells)
 obtain ⟨c0, c1, c2, c3, c4, c5, c6, c7⟩ := pb.cells
 by_cases hz : bkE p dl pl [] = 0
 · obtain ⟨q, wd, hm, hf, hbe, hbw, hdl, hpl, hbl, ie, inn, i64', oe, on, o64, d0, _⟩ := bk_facts hz h1.wordsH h2.wordsH
   obtain ⟨_, _, _, _, _, _, w0, w1⟩ := may_facts hm
   have hpf := pys_facts hf.md ie inn hbe p.w.toNat
   have HL : Hid (allL p dl pl = (outL p).map (fun z => (pys q (innL p) p.w.toNat (dl ++ pl)).map (vl q z))) := by
    show _ = _
    unfold allL
    rw [if_pos hz, pOf_eq hf]
    exact List.map_congr_left (fun z _ => (shr_pys _ _ _ _ _).symm)
   have HPl : Hid (polL p dl pl = pys q (innL p) p.w.toNat (dl ++ pl)) := by
    show _ = _
    unfold polL
    rw [if_pos hz, pOf_eq hf]
   rw [HL.out, hz]
   rw [hz, HPl.out] at HP
   have HO := hide (fun W => dOuter p W hm)
   have HLr : Hid (∀ W lo hi v us, Lss W lo hi v us (pys q (innL p) p.w.toNat (dl ++ pl)) -> Rws W v (pys q (innL p) p.w.toNat (dl ++ pl))) := fun W lo hi v us h => h.rws (getD_wd (fun b hb => wd_els (hpf b hb).1 hf.top (by have := (hpf b hb).2; omega))) (by rw [pys_len]; omega)
   have HT := hide (fun k (hk : k < (outL p).length) W v hR => dAt p.f q ((outL p).getD k 0) wd v (pys q (innL p) p.w.toNat (dl ++ pl)) W hf hR (fun b hb => ⟨(hpf b hb).1, by have := (hpf b hb).2; omega⟩) (oe.co hf.pos k) (by rw [pys_len]; omega))
   have HN : Hid (∀ k, k < (outL p).length -> ((outL p).take k).map (fun z => (pys q (innL p) p.w.toNat (dl ++ pl)).map (vl q z)) ++ [(pys q (innL p) p.w.toNat (dl ++ pl)).map (vl q ((outL p).getD k 0))] = ((outL p).take (k + 1)).map (fun z => (pys q (innL p) p.w.toNat (dl ++ pl)).map (vl q z))) := fun k hk => take_map_snoc _ (outL p) hk
   have Hpn := hide (pys_len q (innL p) p.w.toNat (dl ++ pl))
   obtain ⟨ad, cd, rfl, _, _, _⟩ := h1
   obtain ⟨ap, cp, rfl, _, _, _⟩ := h2
   clear hz hm hf hbe hbw hbl ie inn oe on pb hp HL hdl hpl hpf HPl w0 w1
   generalize pys q (innL p) p.w.toNat (dl ++ pl) = ps at *
   generalize outL p = os at *
   rw [plan_eq] at *
   generalize dl.length = nd at *
   generalize pl.length = np at *
   show Calls _ _ _ _ _
   go_enter Tryz.func51, Tryz.ntmps51
   go_upto_region 1 with fail
   generalize w.alloc (.cells #[.int .u8 p.f, .int .i64 p.n, .int .i64 p.k, .int .i64 p.t, .int .i64 p.s, .int .i64 p.e, .int .i64 p.d, .int .i64 p.w] 24) = W0 at *
   go_wp2_with (first
    | (go_at_call 83; refine (HP.out _ hA).mono ?_; rintro e w1 ⟨v1, us1, rfl, hL1, hb1⟩; have hC1 := hb1; have hB1 := Below.next hA hC1; have rl1 := HLr.out _ _ _ _ _ hL1; obtain ⟨a1, k1, rfl⟩ := own_form hL1.row; clear hL1; clear c0 c1 c2 c3 c4 c5 c6 c7; obtain ⟨c0, c1, c2, c3, c4, c5, c6, c7⟩ := HS.out _ hC1)
    | (go_at_call 32; refine (HO.out _).mono ?_; rintro e w2 ⟨v2, rfl, o2, hb2⟩; have hC2 := Below.next hC1 hb2; have hB2 := Below.next hA hC2; have rl2 := rl1.below hb2; obtain ⟨a2, k2, rfl⟩ := own_form o2; have HO2 := hide o2; clear o2))
   have hB2s := hB2.size
   have HR2 := hide rl2
   clear c0 c1 c2 c3 c4 c5 c6 c7 HP rl1 rl2 HLr HO
   go_loopw [10, 12] (fun vo vi wr => ∃ (k : Nat) (us : List Value), k <= os.length ∧ vi = .int .i64 k ∧ Hid (Lss wr w2.heap.size wr.heap.size vo us ((os.take k).map (fun z => ps.map (vl q z)))) ∧ Below w2.heap.size w2 wr) (fun _ vi _ => os.length - (intOf vi).toNat)
   case atStart => exact ⟨0, [], Nat.zero_le _, rfl, Lss.nil _ _ _, Below.refl _ _⟩
   case round =>
    obtain ⟨k, us, hk, rfl, HL, hB⟩ := hrel
    by_cases hlt : k < os.length
    · have Hml : Hid (((os.take k).map (fun z => ps.map (vl q z))).length = k) := by show _ = _; rw [List.length_map, List.length_take]; omega
      obtain ⟨ao, co', hv⟩ := own_form HL.out.row
      rw [Hml.out] at hv
      subst hv
      obtain ⟨g2, cg, hvg, _, _⟩ := HO2.out.form (by omega)
      injection hvg with hvg _ hcg
      subst hvg hcg
      have HO2c : Hid (∀ V, Below wr.heap.size wr V -> V.cell? ⟨g2, k, none⟩ = some (.int .u64 (os.getD k 0))) := fun V hb => own_cell (own_below (own_below HO2.out hB) hb) rfl hlt
      have HO2z : Hid (∀ V, Below w2.heap.size w2 V -> V.cell? ⟨g2, k, none⟩ = some (.int .u64 (os.getD k 0))) := fun V hb => own_cell (own_below HO2.out hb) rfl hlt
      have hdr : Below wr.heap.size wr wr.drew := (Below.refl _ wr).drew
      have hCr := Below.next hC2 hB
      have HS2 : Hid (∀ V, Below wr.heap.size wr V -> V.cell? ⟨w.heap.size, 0, none⟩ = some (.int .u8 p.f) ∧ V.cell? ⟨g2, k, none⟩ = some (.int .u64 (os.getD k 0))) := fun V hb => ⟨(HS.out V (Below.next hCr hb)).1, HO2c.out V hb⟩
      have hS0 := HS2.out _ hdr
      have hT := hide (fun W hb => HT.out k hlt W _ (HR2.out.below hb))
      have hN := HN.out k hlt
      have k0 : (0 : Int) <= (k : Int) := by omega
      have kn : (k : Int) < (os.length : Int) := by omega
      have hbs := hB.size
      have hW2 : w2.heap.size <= wr.heap.size := hbs
      generalize os.getD k 0 = z at *
      generalize ps.map (vl q z) = fk at *
      clear HT HN HO2c
      go_upto_region 9 with fail
      refine wp_region_held_drew (S := (fun V => V.cell? ⟨w.heap.size, 0, none⟩ = some (.int .u8 p.f) ∧ V.cell? ⟨g2, k, none⟩ = some (.int .u64 z))) (by kernel_rfl) (by ((try dsimp only) <;> (first | with_reducible exact hS3 | with_reducible exact hS2 _ | with_reducible exact hS1 | with_reducible exact hS0))) (fun hHeld => ?_)
      refine tkY 0 ?_
      refine tkY 1 ?_
      refine tkY 2 ?_
      refine tkY 3 ?_
      refine tkY 4 ?_
      refine tkY 5 ?_
      refine tkY 6 ?_
      refine tkY 7 ?_
      refine rd1 8 (fun K hK => ?_)
      (try simp only [ly0, ly1, ly2, ly3, ly4, ly5, ly6, ly7])
      go_simp
      (first | (go_at_call 84; refine (hT.out _ (Below.next hB hdr)).mono ?_; rintro e w4 ⟨v4, rfl, o4, hb4⟩; have hD4 := Below.next hdr hb4; have hS1 := HS2.out _ hD4; have hS2 := fun ob => HS2.out (w4.alloc ob) (Below.next hD4 (alloc_below w4 ob)); have HL4 := hide (HL.out.below hD4); have hsz4 := hD4.size; obtain ⟨a4, k4, rfl⟩ := own_form o4; have HRow : Hid (∀ ob, World.ownsRow (w4.alloc ob) w2.heap.size 36 1 (.slice ao k co') k us) := fun ob => (by have := HL4.out.row.alloc ob; rw [Hml.out] at this; exact this)) | (refine step_append_lies _ (by rfl) _ _ _ (by rfl) w2.heap.size 36 i0 _ 1 24 Tryz.underlying26 hi0 hz0 hz1 hz2 rfl (by omega) (.slice ao k co') k us (by rfl) (HRow.out _) ⟨w4.heap.size, 0, none⟩ 1 1 [.slice a4 fk.length k4] (by rfl) (by rfl) (World.news_of_block (cs := #[.slice a4 fk.length k4]) (t := 36) (fr := (0, 0)) (heap_alloc_new w4 _)) (by simp [Value.oneCell']) (by omega) (by unfold maxLen; omega) (by omega) (by simp; omega) (w4.heap.size + 1) (by simp) ?_; intro gg cap2 w5 hown5 hgrow hat hltg; have R := hide (HL4.out.push (w := w2) (H := wr.heap.size) (Nat.le_refl _) hbs (Nat.le_refl _) (Below.next hB hD4) o4 (by rw [Hml.out]; exact hown5) hgrow); have hS3 := And.intro (HS.out _ (Below.next hC2 R.out.2)).1 (HO2z.out _ R.out.2)))
      first | refine hK.out _ _ ?k10 (fun hHeld => ?_) | (go_wp2_with fail; refine hK.out _ _ ?k10 (fun hHeld => ?_))
      case k10 => ((try dsimp only) <;> (first | with_reducible exact hS3 | with_reducible exact hS2 _ | with_reducible exact hS1 | with_reducible exact hS0))
      clear hK K
      (try simp only [ly0, ly1, ly2, ly3, ly4, ly5, ly6, ly7])
      refine rd1 9 (fun K hK => ?_)
      (try simp only [ly0, ly1, ly2, ly3, ly4, ly5, ly6, ly7])
      go_simp
      refine hK.out _ _ (by ((try dsimp only) <;> (first | with_reducible exact hS3 | with_reducible exact hS2 _ | with_reducible exact hS1 | with_reducible exact hS0))) (fun hHeld => ?_)
      clear hK K
      (try simp only [ly0, ly1, ly2, ly3, ly4, ly5, ly6, ly7])
      refine rd1 10 (fun K hK => ?_)
      (refine step_append_lies _ (by rfl) _ _ _ (by rfl) w2.heap.size 36 i0 _ 1 24 Tryz.underlying26 hi0 hz0 hz1 hz2 rfl (by omega) (.slice ao k co') k us (by rfl) (HRow.out _) ⟨w4.heap.size, 0, none⟩ 1 1 [.slice a4 fk.length k4] (by rfl) (by rfl) (World.news_of_block (cs := #[.slice a4 fk.length k4]) (t := 36) (fr := (0, 0)) (heap_alloc_new w4 _)) (by simp [Value.oneCell']) (by omega) (by unfold maxLen; omega) (by omega) (by simp; omega) (w4.heap.size + 1) (by simp) ?_; intro gg cap2 w5 hown5 hgrow hat hltg; have R := hide (HL4.out.push (w := w2) (H := wr.heap.size) (Nat.le_refl _) hbs (Nat.le_refl _) (Below.next hB hD4) o4 (by rw [Hml.out]; exact hown5) hgrow); have hS3 := And.intro (HS.out _ (Below.next hC2 R.out.2)).1 (HO2z.out _ R.out.2))
      refine hK.out _ _ (by ((try dsimp only) <;> (first | with_reducible exact hS3 | with_reducible exact hS2 _ | with_reducible exact hS1 | with_reducible exact hS0))) (fun hHeld => ?_)
      clear hK K
      (try simp only [ly0, ly1, ly2, ly3, ly4, ly5, ly6, ly7])
      refine tkY 11 ?_
      refine wpAnyH_done (by kernel_rfl) ?_ _
      clear hown5 hgrow hat hltg HL HL4 o4 HRow
      rw [hN] at R
      clear hN hS0 hS1 hS2 hS3
      go_wp2
      go_roundw
      case rel => exact ⟨k + 1, _, by omega, by go_num, lss_here14 R.out.1, R.out.2⟩
      case measure => simp [intOf]; omega
    · obtain rfl : k = os.length := by omega
      rw [List.take_length] at HL
      clear HT HN
      go_wp2
      go_ret2
      first | exact ⟨_, rfl, ⟨us, HL.out.low hB2s⟩, Below.next hB2 hB⟩ | exact ⟨_, us, rfl, HL.out.low hB2s, Below.next hB2 hB⟩
 · have ht : (bkE p dl pl [] != 0) = true := bne_iff_ne.2 hz
   have HL : Hid (allL p dl pl = []) := by show _ = _; unfold allL; rw [if_neg hz]
   have HL2 : Hid (polL p dl pl = []) := by show _ = _; unfold polL; rw [if_neg hz]
   rw [HL.out]
   rw [HL2.out] at HP
   obtain ⟨ad, cd, rfl, _, _, _⟩ := h1
   obtain ⟨ap, cp, rfl, _, _, _⟩ := h2
   clear hz HL pb hp HL2
   generalize bkE p dl pl [] = e0 at *
   generalize dl.length = nd at *
   generalize pl.length = np at *
   rw [plan_eq] at *
   show Calls _ _ _ _ _
   go_enter Tryz.func51, Tryz.ntmps51
   go_wp2_with (go_at_call 83; refine (HP.out _ hA).mono ?_; rintro e w1 ⟨v1, us1, rfl, hL1, hb1⟩; obtain ⟨a1, k1, rfl⟩ := own_form hL1.row)
   go_ret2
   exact ⟨_, [], rfl, Lss.nil _ _ _, Below.next hA hb1⟩
end Go.Proofs.YtjhididlcdepdaaGreat
namespace Go.Proofs.YtjhididlcdepdaaGreat
open Go.RowKit Fld Pln
end Go.Proofs.YtjhididlcdepdaaGreat
namespace Go.Proofs.YtjhididlcdepdaaGreat
open Go.RowKit Fld Pln Shr
theorem Rows_h (v1 v2 : Value) (xss : List (List Int)) (w : World) (h1 : Rws w v1 xss) (h2 : Rws w v2 xss) : Calls Tryz.prog 23 #[v1, v2] w fun e w' => e = .returned (.bool true) ∧ Below w.heap.size w w' :=
 (Rows_quiet v1 v2 xss w h1 h2).mono fun e w' ⟨he, m, hw⟩ => ⟨he, by rw [hw]; exact drewN_below w m⟩
theorem size_alloc {W : World} {n : Nat} (h : W.heap.size = n) (o : Obj) : (W.alloc o).heap.size = n + 1 := by subst h; simp
theorem shr_wd {q : Int} {wd : Bool} {f : Int} (hf : Fi f q wd) (xs : List Int) {n : Nat} (hn : n <= 1000) (bl : List (List Int)) (x : Int) : Wd (shr q xs n bl x) := wd_els (shr_els hf.pos _ _ _ _) hf.top (by rw [shr_len]; omega)
theorem ans_wd {p : Pn} {dl pl : List (List Int)} (w1 : ∀ b ∈ dl, Wd b) (w2 : ∀ b ∈ pl, Wd b) : ((∀ b ∈ polL p dl pl, Wd b) ∧ (polL p dl pl).length <= 1000) ∧ ((∀ b ∈ allL p dl pl, Wd b) ∧ (allL p dl pl).length <= 1000) ∧ ∀ i, Wd (shaL p dl pl i) := by
 refine ⟨?_, ?_, fun i => ?_⟩
 · unfold polL
   by_cases hz : bkE p dl pl [] = 0
   · obtain ⟨q, wd, hm, hf, hbe, hbw, hdl, hpl, hbl, ie, inn, i64', oe, on, o64, d0, _⟩ := bk_facts hz w1 w2
     obtain ⟨_, _, _, _, _, _, w0, w1'⟩ := may_facts hm
     rw [if_pos hz, pOf_eq hf]
     refine ⟨fun b hb => ?_, by rw [pys_len]; omega⟩
     obtain ⟨e1, e2⟩ := pys_facts hf.md ie inn hbe p.w.toNat b hb
     exact wd_els e1 hf.top (by omega)
   · rw [if_neg hz]; exact ⟨fun b hb => (by cases hb), by simp⟩
 · unfold allL
   by_cases hz : bkE p dl pl [] = 0
   · obtain ⟨q, wd, hm, hf, hbe, hbw, hdl, hpl, hbl, ie, inn, i64', oe, on, o64, d0, _⟩ := bk_facts hz w1 w2
     obtain ⟨_, _, _, _, _, _, w0, w1'⟩ := may_facts hm
     rw [if_pos hz, pOf_eq hf]
     refine ⟨fun b hb => ?_, by rw [List.length_map]; omega⟩
     obtain ⟨x, _, rfl⟩ := List.mem_map.1 hb
     exact shr_wd hf _ (by omega) _ _
   · rw [if_neg hz]; exact ⟨fun b hb => (by cases hb), by simp⟩
 · unfold shaL
   by_cases hz : bkE p dl pl [i] = 0
   · obtain ⟨q, wd, hm, hf, _⟩ := bk_facts hz w1 w2
     obtain ⟨_, _, _, _, _, _, w0, w1'⟩ := may_facts hm
     rw [if_pos hz, pOf_eq hf]
     exact shr_wd hf _ (by omega) _ _
   · rw [if_neg hz]; exact wd_nil
end Go.Proofs.YtjhididlcdepdaaGreat
namespace Go.Proofs.YtjhididlcdepdaaGreat
open Go.RowKit Pln
end Go.Proofs.YtjhididlcdepdaaGreat
