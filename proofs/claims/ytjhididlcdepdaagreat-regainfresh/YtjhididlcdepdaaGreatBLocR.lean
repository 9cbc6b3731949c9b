import Derived.Test.YtjhididlcdepdaaGreatBLocT
import Derived.Lib.OwnBridge
import Derived.Test.YtjhididlcdepdaaGreatBLocShf
set_option linter.unusedVariables false
set_option linter.unusedSimpArgs false
set_option maxRecDepth 100000
set_option maxHeartbeats 4000000
namespace Go.Proofs.YtjhididlcdepdaaGreat
open Go.RowKit Fld
def outB (n : Nat) (i : Int) : Bool := decide (i < 0 ∨ (n : Int) <= i)
def nmE (n : Nat) (at' : List Int) : Int := if at'.any (outB n) = true then 2 else if at'.Nodup then 0 else 6
theorem comp_same {zs : List Int} (h : zs.Nodup) : Lib.compact zs = zs := by
 refine Lib.compact_all zs (fun j hj => ?_)
 by_cases h0 : j = 0
 · subst h0; simp [Lib.keeps]
 · refine Lib.keeps_pos (fun e => ?_)
   rw [getElem!_pos _ _ (by simpa using hj), getElem!_pos _ _ (by simp; omega)] at e
   simp only [List.getElem_toArray] at e
   have := (List.getElem_inj h).1 e
   omega
theorem comp_less {zs : List Int} {j : Nat} (hj : j + 1 < zs.length) (he : zs[j + 1]! = zs[j]!) : (Lib.compact zs).length < zs.length := by
 unfold Lib.compact Lib.compactUpTo
 rw [List.length_map]
 have hk : Lib.keeps zs.toArray (j + 1) = false := Lib.keeps_neg (by omega) (by simpa using he)
 have h1 : ((List.range zs.length).filter (Lib.keeps zs.toArray)).length ≠ (List.range zs.length).length := fun c => by
  have := (List.length_filter_eq_length_iff.1 c) (j + 1) (List.mem_range.2 hj)
  rw [hk] at this; cases this
 have h2 := List.length_filter_le (Lib.keeps zs.toArray) (List.range zs.length)
 rw [List.length_range] at h1 h2
 omega
theorem sorted_twice : ∀ {zs : List Int}, zs.Pairwise (· <= ·) -> ¬ zs.Nodup -> ∃ j, j + 1 < zs.length ∧ zs[j + 1]! = zs[j]!
 | [], _, h => absurd List.nodup_nil h
 | [x], _, h => absurd (by simp) h
 | x :: y :: l, hs, h => by
  by_cases e : x = y
  · exact ⟨0, by simp, by simp [e]⟩
  · have hs2 := List.pairwise_cons.1 hs
    have hs3 := List.pairwise_cons.1 hs2.2
    have hn : ¬ (y :: l).Nodup := fun c => h (List.nodup_cons.2 ⟨fun hm => by
     rcases List.mem_cons.1 hm with hm | hm
     · exact e hm
     · have h1 := hs2.1 y (by simp)
       have h2 := hs3.1 x hm
       omega, c⟩)
    obtain ⟨j, h1, h2⟩ := sorted_twice hs2.2 hn
    refine ⟨j + 1, by simp at h1 ⊢; omega, ?_⟩
    simpa using h2
theorem comp_sorted (zs : List Int) : (Lib.compact (zs.mergeSort fun x y => decide (x <= y))).length < zs.length ↔ ¬ zs.Nodup := by
 have hp := List.mergeSort_perm zs (fun x y => decide (x <= y))
 have hs : (zs.mergeSort fun x y => decide (x <= y)).Pairwise (· <= ·) := by
  have := List.pairwise_mergeSort (le := fun (x y : Int) => decide (x <= y)) (fun a b c h1 h2 => by simp at *; omega) (fun a b => by simp; omega) zs
  exact this.imp (fun h => by simpa using h)
 have hl := hp.length_eq
 constructor
 · intro h c
   rw [comp_same (hp.nodup_iff.2 c), hl] at h
   omega
 · intro h
   obtain ⟨j, h1, h2⟩ := sorted_twice hs (fun c => h (hp.nodup_iff.1 c))
   have := comp_less h1 h2
   omega
theorem nmE_out {n : Nat} {at' : List Int} (h : at'.any (outB n) = true) : nmE n at' = 2 := by unfold nmE; rw [if_pos h]
theorem nmE_in {n : Nat} {at' : List Int} (h : at'.any (outB n) = false) : nmE n at' = if at'.Nodup then 0 else 6 := by unfold nmE; rw [h, if_neg (by decide)]
theorem in_ints {n : Nat} {at' : List Int} (h : at'.any (outB n) = false) : ∃ ats : List Nat, at' = ints ats ∧ ∀ i ∈ ats, i < n := by
 refine ⟨at'.map Int.toNat, ?_, fun i hi => ?_⟩
 · unfold ints
   rw [List.map_map]
   have : ∀ x ∈ at', ((fun (i : Nat) => (i : Int)) ∘ Int.toNat) x = x := fun x hx => by
    have := List.any_eq_false.1 h x hx
    unfold outB at this
    simp at this
    show ((x.toNat : Nat) : Int) = x
    omega
   rw [List.map_congr_left this, List.map_id']
 · obtain ⟨x, hx, rfl⟩ := List.mem_map.1 hi
   have := List.any_eq_false.1 h x hx
   unfold outB at this
   simp at this
   omega
theorem ints_nodup {ats : List Nat} : (ints ats).Nodup ↔ ats.Nodup := by
 unfold ints List.Nodup
 rw [List.pairwise_map]
 constructor
 · exact fun h => h.imp (fun h c => h (by rw [c]))
 · exact fun h => h.imp (fun h c => h (by omega))
theorem few_nums : ∀ (n : Nat) {ats : List Nat}, ats.Nodup -> (∀ i ∈ ats, i < n) -> ats.length <= n
 | 0, ats, hn, h => by
  cases ats with
  | nil => exact Nat.le_refl _
  | cons a l => exact absurd (h a (by simp)) (by omega)
 | n + 1, ats, hn, h => by
  have h1 := few_nums n (hn.erase n) (fun i hi => by
   have h2 := hn.mem_erase_iff.1 hi
   have h3 := h i h2.2
   have := h2.1
   omega)
  rw [List.length_erase] at h1
  split at h1 <;> omega
theorem ints_len (ats : List Nat) : (ints ats).length = ats.length := by simp [ints]
theorem ints_val (ats : List Nat) : (ints ats).map (Value.int .i64) = nms ats := by simp [ints, nms]
end Go.Proofs.YtjhididlcdepdaaGreat
namespace Go.Proofs.YtjhididlcdepdaaGreat
open Go.RowKit Go.Shelf Fld
theorem gOut (i : Int) (n bn : Nat) (w : World) (hi : -9223372036854775808 <= i ∧ i <= 9223372036854775807) (hn : n <= 140737488500000) (hc : w.cell? ⟨bn, 0, none⟩ = some (.int .i64 (n : Int))) :
 Calls Tryz.prog 152 #[.int .i64 i, .pointer (some ⟨bn, 0, none⟩)] w fun e w' => e = .returned (.bool (outB n i)) ∧ w' = w := by
 obtain ⟨b, Hb⟩ : ∃ b, Hid (outB n i = b) := ⟨_, rfl⟩
 rw [Hb.out]
 have Hb2 := Hb.out
 unfold outB at Hb2
 by_cases h1 : i < 0
 · obtain rfl : b = true := by rw [<- Hb2]; exact decide_eq_true (.inl h1)
   clear Hb2
   go_enter Tryz.func152, Tryz.ntmps152
   go_wp2
   go_ret
   exact ⟨rfl, rfl⟩
 · by_cases h2 : (n : Int) <= i
   · obtain rfl : b = true := by rw [<- Hb2]; exact decide_eq_true (.inr h2)
     clear Hb2
     go_enter Tryz.func152, Tryz.ntmps152
     go_wp2
     go_ret
     exact ⟨rfl, rfl⟩
   · obtain rfl : b = false := by rw [<- Hb2]; exact decide_eq_false (by omega)
     clear Hb2
     go_enter Tryz.func152, Tryz.ntmps152
     go_wp2
     go_ret
     exact ⟨rfl, rfl⟩
theorem lm_ints {w : World} {ao : Option Addr} {n c : Nat} {at' : List Int} (h : Lm iw 1 w (.slice ao n c) at') (h0 : 0 < at'.length) : ∃ b off, ao = some ⟨b, off, none⟩ ∧ b < w.heap.size ∧ ∀ i, i < at'.length -> w.cell? ⟨b, off + i, none⟩ = some (.int .i64 (co at' i)) := by
 obtain ⟨b, off, cap, e, _, hb⟩ := h.form h0
 injection e with e1 _ _
 subst e1
 refine ⟨b, off, rfl, hb, fun i hi => ?_⟩
 have := (h.at_ (i := i) (j := 0) (List.getElem?_eq_getElem hi) rfl).2
 rw [Nat.mul_one, Nat.add_zero] at this
 rw [this, co_at hi]
theorem gIndexF (ao : Option Addr) (c : Nat) (at' : List Int) (n bn : Nat) (w : World) (h : Lm iw 1 w (.slice ao at'.length c) at') (hi : Iw at') (hn : n <= 140737488500000) (hc : w.cell? ⟨bn, 0, none⟩ = some (.int .i64 (n : Int))) :
 Calls Tryz.prog 180 #[.slice ao at'.length c, .func (.func 152) #[] #[.pointer (some ⟨bn, 0, none⟩)]] w fun e w' => ∃ k : Int, e = .returned (.int .i64 k) ∧ decide (0 <= k) = at'.any (outB n) ∧ (-1 <= k ∧ k <= 140737488500000) ∧ w' = w := by
 have HL := hide (fun h0 => lm_ints h h0)
 have hl := h.len
 have HO := hide (fun i (hi : -9223372036854775808 <= i ∧ i <= 9223372036854775807) => gOut i n bn w hi hn hc)
 have HI := hide hi
 obtain ⟨N, HN⟩ : ∃ N, Hid (at'.length = N) := ⟨_, rfl⟩
 rw [HN.out] at hl ⊢
 clear h hi hc
 go_enter Tryz.func180, Tryz.ntmps180
 go_wp2_with fail
 go_loop [8] (fun v8 => ∃ k : Nat, k <= N ∧ v8 = .int .i64 k ∧ Hid (∀ j, j < k -> outB n (co at' j) = false)) (fun v8 => N - (intOf v8).toNat)
 case atStart => exact ⟨0, Nat.zero_le _, rfl, fun j h => by omega⟩
 case round =>
  obtain ⟨k, hk, rfl, HZ⟩ := hrel
  by_cases hkn : k < N
  · obtain ⟨b, off, rfl, hb, hcc⟩ := HL.out (by rw [HN.out]; omega)
    have c1 := hcc k (by rw [HN.out]; exact hkn)
    have hw : -9223372036854775808 <= co at' k ∧ co at' k <= 9223372036854775807 := by
     rw [co_at (by rw [HN.out]; exact hkn)]
     exact HI.out _ (List.getElem_mem _)
    have HOk := hide (HO.out _ hw)
    have k0 : (0 : Int) <= (k : Int) := Int.natCast_nonneg _
    have k1 : (k : Int) < (N : Int) := by omega
    clear hcc HO
    cases hq : outB n (co at' k) with
    | true =>
     rw [hq] at HOk
     have HA : Hid (at'.any (outB n) = true) := List.any_eq_true.2 ⟨_, List.getElem_mem (by rw [HN.out]; exact hkn), by rw [<- co_at (by rw [HN.out]; exact hkn)]; exact hq⟩
     clear hq HZ
     generalize co at' k = x at *
     go_wp2_with (go_at_call 152; refine HOk.out.mono ?_; rintro e w1 ⟨rfl, hw1⟩; rw [hw1]; clear hw1)
     go_ret
     exact ⟨_, rfl, by rw [HA.out]; exact decide_eq_true k0, by omega, rfl⟩
    | false =>
     rw [hq] at HOk
     have HZ2 : Hid (∀ j, j < k + 1 -> outB n (co at' j) = false) := fun j hj => by
      rcases Nat.lt_or_eq_of_le (Nat.le_of_lt_succ hj) with c | c
      · exact HZ.out j c
      · rw [c]; exact hq
     clear hq HZ
     generalize co at' k = x at *
     go_wp2_with (go_at_call 152; refine HOk.out.mono ?_; rintro e w1 ⟨rfl, hw1⟩; rw [hw1]; clear hw1)
     go_round
     case rel => exact ⟨k + 1, by omega, by go_num, HZ2⟩
     case measure => simp [intOf]; omega
  · obtain rfl : N = k := by omega
    have HA : Hid (at'.any (outB n) = false) := List.any_eq_false.2 (fun x hx => by
     obtain ⟨j, hj, rfl⟩ := List.mem_iff_getElem.1 hx
     have := HZ.out j (by rw [<- HN.out]; exact hj)
     rw [co_at hj] at this
     rw [this]; decide)
    clear HZ HO
    go_wp2_with fail
    go_ret
    exact ⟨_, rfl, by rw [HA.out]; rfl, by omega, rfl⟩
theorem gContains (ao : Option Addr) (c : Nat) (at' : List Int) (n bn : Nat) (w : World) (h : Lm iw 1 w (.slice ao at'.length c) at') (hi : Iw at') (hn : n <= 140737488500000) (hc : w.cell? ⟨bn, 0, none⟩ = some (.int .i64 (n : Int))) :
 Calls Tryz.prog 151 #[.slice ao at'.length c, .func (.func 152) #[] #[.pointer (some ⟨bn, 0, none⟩)]] w fun e w' => e = .returned (.bool (at'.any (outB n))) ∧ w' = w := by
 have HI := hide (gIndexF ao c at' n bn w h hi hn hc)
 clear h hi hc
 generalize at'.any (outB n) = B at *
 generalize at'.length = N at *
 go_enter Tryz.func151, Tryz.ntmps151
 go_wp2_with (go_at_call 180; refine HI.out.mono ?_; rintro e w1 ⟨k, rfl, hB, hk, hw1⟩; rw [hw1]; clear hw1)
 go_ret
 exact ⟨rfl, rfl⟩
theorem grow_below (w : World) (os : Array Obj) : Below w.heap.size w (Sort.grow w os) := ⟨rfl, rfl, rfl, by simp [Sort.grow], fun j hj => Array.getElem?_append_left hj⟩
theorem gSorted (bx : Nat) (a : Option Addr) (c : Nat) (ats : List Nat) (N : Nat) (w : World) (hN : ats.length = N) (hN2 : N * 8 <= 140737488351232) (HL : Nat17 (fun j => j < w.heap.size) w a ats) (hbx : w.cell? ⟨bx, 0, none⟩ = some (.slice a N c)) :
 Calls Tryz.prog 153 #[.func (.func 183) #[] #[.pointer (some ⟨bx, 0, none⟩)]] w fun e w' => ∃ v', e = .returned v' ∧ w'.ownsRow w.heap.size 3 1 v' N (((ints ats).mergeSort fun x y => decide (x <= y)).map (Value.int .i64)) ∧ Below w.heap.size w w' := by
 have HA := hide (gCollect bx a c ats N w hN hN2 HL hbx)
 have HN := hide hN
 clear HL hbx hN
 go_enter Tryz.func153, Tryz.ntmps153
 go_wp2_with fail
 refine HA.out.mono ?_
 rintro e w1 ⟨v', rfl, hO, hb⟩
 obtain ⟨a1, c1, rfl⟩ := own_form hO
 by_cases h0 : N = 0
 · subst h0
   have hats : ats = [] := List.length_eq_zero_iff.1 HN.out
   subst hats
   have HO : Hid (w1.ownsRow w.heap.size 3 1 (.slice a1 0 c1) 0 (((ints []).mergeSort fun x y => decide (x <= y)).map (Value.int .i64))) := by
    have e : ((ints []).mergeSort fun x y => decide (x <= y)).map (Value.int .i64) = nms [] := by simp [ints, nms]
    rw [e]; exact hO
   clear hO HA HN
   go_wp2_with (go_at_call 182; refine (Tryz.slices_Sort_int_none _ _ _).mono ?_; rintro e w2 ⟨rfl, hw2⟩; rw [hw2]; clear hw2)
   go_ret
   exact ⟨_, rfl, HO.out, hb⟩
 · have hne : Value.slice a1 N c1 ≠ .slice none 0 0 := fun e => by injection e with _ e2 _; exact h0 e2
   have hO2 : w1.ownsRow w.heap.size 3 1 (.slice a1 N c1) N ((ints ats).map (Value.int .i64)) := by rw [ints_val]; exact hO
   obtain ⟨g, cap, e, hg, hgl, hcap, _, hzl, hH⟩ := Lib.holds_of_ownsRow hO2 hne
   injection e with e1 _ e3
   subst e1
   subst e3
   have HS := hide (Tryz.slices_Sort_int g 0 c1 (ints ats) w1 hH hgl (by rw [ints_len, HN.out]; omega))
   rw [ints_len, HN.out] at HS
   have HO := hide hO2
   clear hO hO2 hH HA hzl hne
   go_wp2_with fail
   refine HS.out.mono ?_
   rintro e w2 ⟨rfl, q, os, hw2⟩
   have hml : ((ints ats).mergeSort fun x y => decide (x <= y)).length = N := by rw [List.length_mergeSort, ints_len, HN.out]
   have ho3 := Lib.ownsRow_putRow (q := q) (k := N) (ys := (ints ats).mergeSort fun x y => decide (x <= y)) HO.out hml (Nat.le_refl _)
   rw [List.take_of_length_le (Nat.le_of_eq hml)] at ho3
   have hb3 := Lib.below_putRow (enc := Value.int .i64) (q := q) (d := ((ints ats).mergeSort fun x y => decide (x <= y)).toArray) hb hg
   have hgr := grow_below (Sort.putRow (Value.int .i64) (Sort.ahead w1 q) g 0 ((ints ats).mergeSort fun x y => decide (x <= y)).toArray) os
   have ho4 := own_below ho3 hgr
   have hb4 := Below.next hb3 hgr
   rw [<- hw2] at ho4 hb4
   have HO4 := hide ho4
   clear ho3 hb3 hgr ho4 hw2 HO HS
   go_wp2_with fail
   go_ret
   exact ⟨_, rfl, HO4.out, hb4⟩
end Go.Proofs.YtjhididlcdepdaaGreat
