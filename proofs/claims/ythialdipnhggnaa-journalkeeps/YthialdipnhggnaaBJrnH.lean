import Derived.Test.YthialdipnhggnaaBJrnG
set_option linter.unusedVariables false
set_option linter.unusedSimpArgs false
set_option maxRecDepth 100000
set_option maxHeartbeats 4000000
namespace Go.Proofs.Ythialdipnhggnaa
open Go.RowKit Fld
theorem Grow_B0 (w : World) : Calls Try.prog 57 #[.slice none 0 0, .int .i64 0] w fun e w' => e = .returned (.slice none 0 0) ∧ w' = w := by
 go_enter Try.func57, Try.ntmps57
 go_wp2
 go_ret
 exact ⟨rfl, rfl⟩
theorem Grow_Bz (k : Nat) (w : World) (hk : k <= 281000000000000) : Calls Try.prog 57 #[.slice none 0 0, .int .i64 (k : Int)] w fun e w' => ∃ a cap, e = .returned (.slice a 0 cap) ∧ w'.ownsRow w.heap.size 5 1 (.slice a 0 cap) 0 (valb []) ∧ Below w.heap.size w w' := by
 rcases Nat.eq_zero_or_pos k with h0 | h0
 · subst h0
   exact (Grow_B0 w).mono fun e w' ⟨h1, h2⟩ => ⟨none, 0, h1, by rw [h2]; exact World.ownsRow_nil _ _ _ _, by rw [h2]; exact Below.refl _ _⟩
 · exact (Grow_B k w h0 hk).mono fun e w' ⟨cap, h1, h2, h3⟩ => ⟨_, cap, h1, h2, h3⟩
theorem gConcat (a : Option Addr) (c n : Nat) (bs : List (List Int)) (w : World) (h : Bz w (.slice a n c) bs) (hn : bs.length = n) (h32 : ∀ k, k < n -> (bs.getD k []).length = 32) :
 Calls Try.prog 45 #[.slice a n c] w fun e w' => ∃ v', e = .returned v' ∧ w'.ownsRow w.heap.size 5 1 v' (32 * n) (valb bs.flatten) ∧ Below w.heap.size w w' := by
 have hl := h.len
 rw [hn] at hl
 have HG := hide (fun W => Grow_Bz (32 * n) W (by omega))
 have HZ := hide h
 have HN := hide hn
 have H32 := hide h32
 have HT := hide (fun k (hk : k < n) => take_flat bs (by rw [hn]; exact hk))
 clear h hn h32
 go_enter Try.func45, Try.ntmps45
 go_wp2_with fail
 go_loop [3, 11] (fun v3 v11 => ∃ k : Nat, k <= n ∧ v3 = .int .i64 ((32 * k : Nat) : Int) ∧ v11 = .int .i64 (k : Int)) (fun _ v11 => n - (intOf v11).toNat)
 case atStart => exact ⟨0, Nat.zero_le _, rfl, rfl⟩
 case round =>
  obtain ⟨k, hk, rfl, rfl⟩ := hrel
  by_cases hkn : k < n
  · obtain ⟨b, off, u, rfl, hb, c1, hr⟩ := HZ.out.at_ (k := k) (by rw [HN.out]; exact hkn)
    have h3 := H32.out k hkn
    obtain ⟨a3, c3, rfl, _⟩ := hr.spell
    rw [h3] at c1
    have k0 : (0 : Int) <= (k : Int) := Int.natCast_nonneg _
    have k1 : (k : Int) < (n : Int) := by omega
    have HE : Hid (((32 * k : Nat) : Int) + 32 = ((32 * (k + 1) : Nat) : Int)) := by show _ = _; omega
    have q0 : ¬ (((32 * k : Nat) : Int) + 32 < 0) := by omega
    have qb : ((32 * k : Nat) : Int) + 32 <= 187649984468288 := by omega
    have qa : (0 : Int) <= ((32 * k : Nat) : Int) := by omega
    clear h3 hr HG HT
    generalize ((32 * k : Nat) : Int) = s at *
    go_wp2_with fail
    go_round
    case rel => exact ⟨k + 1, by omega, by rw [HE.out], by go_num⟩
    case measure => simp [intOf]; omega
  · obtain rfl : n = k := by omega
    obtain ⟨S, HS⟩ : ∃ S, Hid (((32 * n : Nat) : Int) = S) := ⟨_, rfl⟩
    rw [HS.out] at HG ⊢
    go_wp2_with (go_at_call 57; refine (HG.out _).mono ?_; rintro e w1 ⟨a1, cp, rfl, hO, hB⟩)
    have HO := hide hO
    have HB := hide hB
    clear hO hB
    go_loopw [6, 27] (fun v6 v27 wr => ∃ (k : Nat) (a6 : Option Addr) (c6 : Nat), k <= n ∧ v6 = .slice a6 (32 * k) c6 ∧ v27 = .int .i64 (k : Int) ∧ Hid (wr.ownsRow w.heap.size 5 1 (.slice a6 (32 * k) c6) (32 * k) (valb (bs.take k).flatten)) ∧ Below w.heap.size w wr) (fun _ v27 _ => n - (intOf v27).toNat)
    case atStart => exact ⟨0, a1, cp, Nat.zero_le _, rfl, rfl, by simpa using HO, HB.out⟩
    case round =>
     obtain ⟨k, a6, c6, hk, rfl, rfl, HR, hBw⟩ := hrel
     by_cases hkn : k < n
     · obtain ⟨b, off, u, rfl, hb, c1, hr⟩ := HZ.out.at_ (k := k) (by rw [HN.out]; exact hkn)
       have h3 := H32.out k hkn
       have c2 := (hBw.cell (p := ⟨b, off + k, none⟩) hb).trans c1
       have hrw := hr.below hBw
       obtain ⟨a3, c3, rfl, _⟩ := hr.spell
       rw [h3] at c2 hrw
       obtain ⟨v8, w8, hr8, ho8, hg8⟩ := app_big (m := 32) (c := c3) (a := a3) HR.out hrw (by omega) (by have := hBw.size; omega)
       have e32 : 32 * k + 32 = 32 * (k + 1) := by omega
       rw [<- HT.out k hkn, e32] at ho8
       obtain ⟨a8, c8, hv8⟩ := own_form ho8
       subst hv8
       have HO8 := hide ho8
       have HB8 := hide (hBw.grown hg8 (by have := hBw.size; omega) (own_base HR.out))
       have k0 : (0 : Int) <= (k : Int) := Int.natCast_nonneg _
       have k1 : (k : Int) < (n : Int) := by omega
       clear h3 hr hrw c1 ho8 hg8 HG HT hBw HR e32
       generalize 32 * k = m at *
       go_wp2_with (at_builtin; refine app_runO rfl _ _ _ rfl _ _ _ rfl rfl hr8 ?_)
       go_roundw
       case rel => exact ⟨k + 1, a8, c8, by omega, rfl, by go_num, HO8, HB8.out⟩
       case measure => simp [intOf]; omega
     · obtain rfl : k = n := by omega
       have hr := HR.out
       rw [show bs.take k = bs by rw [<- HN.out, List.take_length]] at hr
       have HR2 := hide hr
       clear hr HR
       obtain ⟨m, HM⟩ : ∃ m, Hid (32 * k = m) := ⟨_, rfl⟩
       rw [HM.out] at HR2 ⊢
       go_wp2_with fail
       go_ret
       have hm := HM.out
       subst hm
       exact ⟨_, rfl, HR2.out, hBw⟩
theorem headZ {n c k : Nat} {a : Option Addr} (hk : k <= c) (W : World) : (Instr.slice 22 (.slice a n c) none (some (.int .i64 (k : Int))) (some (.int .i64 (k : Int)))).run Try.prog W = .ok (.slice a k k) W := by
 obtain ⟨i0, hi0, hz0, hz1, hz2⟩ := info_parts bsl_info
 have h2 : (k : Int) <= (c : Int) := by omega
 by_cases h0 : k = 0
 · subst h0
   simp [Instr.slice, Instr.sliceBounds, Instr.sliceBound, asIntOf, run_underlying Try.underlying22, sizeOf, typeInfo, hi0, hz1]
 · simp [Instr.slice, Instr.sliceBounds, Instr.sliceBound, asIntOf, run_underlying Try.underlying22, sizeOf, typeInfo, hi0, hz1, h2, h0, hk, Addr.add]
theorem Bz.head {w : World} {a : Option Addr} {n c : Nat} {bs : List (List Int)} (h : Bz w (.slice a n c) bs) {k : Nat} (hk : k <= bs.length) : Bz w (.slice a k k) (bs.take k) := by
 obtain ⟨ao, cap, h1, h2, h3, h4⟩ := h
 injection h1 with h1 _ _
 subst h1
 have hl : (bs.take k).length = k := by rw [List.length_take]; omega
 refine ⟨a, k, by rw [hl], by omega, by omega, fun hne => ?_⟩
 obtain ⟨b, off, h5, h6, h7⟩ := h4 (by intro e; rw [e] at hne; simp at hne)
 refine ⟨b, off, h5, h6, fun i hi => ?_⟩
 obtain ⟨u, h8, h9⟩ := h7 i (by omega)
 refine ⟨u, h8, ?_⟩
 rw [List.getD_eq_getElem?_getD, List.getElem?_take_of_lt (by omega), <- List.getD_eq_getElem?_getD]; exact h9
theorem gJoined (v : Value) (bs : List (List Int)) (w : World) (h : Bz w v bs) :
 Calls Try.prog 28 #[v] w fun e w' => ∃ v', e = .returned v' ∧ w'.ownsRow w.heap.size 5 1 v' (32 * j32 bs) (valb (jn32 bs)) ∧ Below w.heap.size w w' := by
 have HI := hide (gIndexJ v bs w h)
 have hJ := j32_le bs
 obtain ⟨a, c, rfl, hc⟩ := h.spell
 have HC : Hid (Calls Try.prog 45 #[.slice a (j32 bs) (if j32 bs < bs.length then j32 bs else c)] w fun e w' => ∃ v', e = .returned v' ∧ w'.ownsRow w.heap.size 5 1 v' (32 * j32 bs) (valb (jn32 bs)) ∧ Below w.heap.size w w') := by
  by_cases hlt : j32 bs < bs.length
  · rw [if_pos hlt]
    refine gConcat a (j32 bs) (j32 bs) (bs.take (j32 bs)) w (h.head hJ) (by rw [List.length_take]; omega) (fun k hk => ?_)
    rw [List.getD_eq_getElem?_getD, List.getElem?_take_of_lt hk, <- List.getD_eq_getElem?_getD]; exact j32_lt hk
  · rw [if_neg hlt]
    have e : j32 bs = bs.length := by omega
    have e2 : jn32 bs = bs.flatten := by unfold jn32; rw [e, List.take_length]
    rw [e2, e]
    exact gConcat a c bs.length bs w h rfl (fun k hk => j32_lt (by omega))
 clear h
 have hb := hide hJ
 by_cases hlt : j32 bs < bs.length
 · rw [if_pos hlt] at HI HC
   have hs := fun W => headZ (n := bs.length) (a := a) (Nat.le_trans hJ hc) W
   clear hlt hJ hc
   generalize j32 bs = J at *
   generalize bs.length = n at *
   generalize jn32 bs = zs at *
   have j0 : (0 : Int) <= (J : Int) := Int.natCast_nonneg _
   go_enter Try.func28, Try.ntmps28
   go_wp2_with (first
    | (go_at_call 44; refine HI.out.mono ?_; rintro e w1 ⟨rfl, hw1⟩; rw [hw1]; clear hw1)
    | (go_at_call 45; refine HC.out.mono ?_; rintro e w2 ⟨v2, rfl, ho2, hb2⟩; obtain ⟨a2, c2, hv2⟩ := own_form ho2; subst hv2))
   go_ret
   exact ⟨_, rfl, ho2, hb2⟩
 · rw [if_neg hlt] at HI HC
   have e : bs.length = j32 bs := by omega
   rw [e]
   rw [e] at HI
   clear hlt hJ hc e
   generalize j32 bs = J at *
   generalize jn32 bs = zs at *
   go_enter Try.func28, Try.ntmps28
   go_wp2_with (first
    | (go_at_call 44; refine HI.out.mono ?_; rintro e w1 ⟨rfl, hw1⟩; rw [hw1]; clear hw1)
    | (go_at_call 45; refine HC.out.mono ?_; rintro e w2 ⟨v2, rfl, ho2, hb2⟩; obtain ⟨a2, c2, hv2⟩ := own_form ho2; subst hv2))
   go_ret
   exact ⟨_, rfl, ho2, hb2⟩
end Go.Proofs.Ythialdipnhggnaa
