/-
  Layer 7: a list of one element again and again; the differences of an element to others.
-/
import Derived.Test.YtifilgmjpflekaaBIntD
import Derived.Test.YtifilgmjpflekaaBAppZ
import Derived.Test.YtifilgmjpflekaaBTreM
import Derived.Laws.CopyOwn
namespace Go.Proofs.Ytifilgmjpflekaa
open Go.RowKit Fld
set_option linter.unusedVariables false

set_option maxHeartbeats 200000 in
theorem bitsMul (n : Nat) (w : World) (hn : n ≤ 17592186043904) :
    Calls Try.prog 85 #[.int .u64 1, .int .u64 n] w fun e w' => e = .returned (.tuple #[.int .u64 0, .int .u64 n]) ∧ w' = w := by
  have HM := hide (mul64_any 1 (n : Int) w (by decide) (by decide) (by omega) (by omega))
  have e1 : high64 (1 * (n : Int)) = 0 := by unfold high64; omega
  have e2 : low64 (1 * (n : Int)) = n := by unfold low64; omega
  rw [e1, e2] at HM
  clear e1 e2
  go_enter Try.func85, Try.ntmps85
  go_wp2_with (go_at_call 88; refine HM.out.mono ?_; rintro e w1 ⟨rfl, rfl⟩)
  go_ret2
  exact ⟨rfl, rfl⟩

theorem splice_rep (n m c : Nat) (x : Int) (h : m + c ≤ n) : splice (vals (over n (List.replicate m x))) m (vals (List.replicate c x)) = vals (over n (List.replicate (m + c) x)) := by
  unfold splice over vals
  simp only [List.map_append, List.map_replicate, List.length_replicate]
  rw [List.take_append_of_le_length (by simp), List.take_of_length_le (by simp), List.drop_append, List.drop_eq_nil_of_le (by simp), List.nil_append, List.length_replicate, List.drop_replicate, ← List.append_assoc, List.replicate_append_replicate]
  congr 2
  omega
theorem min_parts {m n : Nat} (h1 : 1 ≤ m) (h : m < n) : 1 ≤ Nat.min m (n - m) ∧ m + Nat.min m (n - m) ≤ n := by
  rcases Nat.le_total m (n - m) with h2 | h2
  · rw [show Nat.min m (n - m) = m from Nat.min_eq_left h2]; omega
  · rw [show Nat.min m (n - m) = n - m from Nat.min_eq_right h2]; omega
theorem over_full (n : Nat) (x : Int) : over n (List.replicate n x) = List.replicate n x := by simp [over]
theorem over_zero (n : Nat) : over n ([] : List Int) = List.replicate n 0 := by simp [over]

set_option maxRecDepth 100000 in
set_option maxHeartbeats 400000 in
theorem slRepeat (x : Int) (n b : Nat) (w : World) (hn : n ≤ 4096) (hc : w.cell? ⟨b, 0, none⟩ = some (.int .u64 x)) (hb : b < w.heap.size) :
    Calls Try.prog 70 #[.slice (some ⟨b, 0, none⟩) 1 1, .int .i64 n] w fun e w' => ∃ v', e = .returned v' ∧ w'.ownsRow w.heap.size 25 1 v' n (vals (List.replicate n x)) ∧ Below w.heap.size w w' := by
  obtain ⟨i0, hi0, hz0, hz1, hz2⟩ := info_parts u64_info
  have HM := hide (bitsMul n w (by omega))
  have HW : Hid (∀ W, Below w.heap.size w W → ∃ ad, some (⟨b, 0, none⟩ : Addr) = some ad ∧ ∀ j v, (vals [x])[j]? = some v → W.cell? (ad.add j) = some v) := fun W hb' => ⟨_, rfl, fun j v hj => by
    have : j = 0 := by
      apply Classical.byContradiction; intro h; rw [List.getElem?_eq_none (by simp [vals]; omega)] at hj; cases hj
    subst this
    rw [add_at, hb'.cell (p := ⟨b, 0 + 0, none⟩) hb, hc]; exact hj⟩
  have H1 := hide (vals_one [x])
  have hs : (w.heap.size : Nat) ≤ w.heap.size := Nat.le_refl _
  by_cases h0 : n = 0
  · subst h0
    go_enter Try.func70, Try.ntmps70
    go_wp2_with (first
      | (go_at_call 85; refine HM.out.mono ?_; rintro e w1 ⟨rfl, hw1⟩; subst hw1)
      | (at_make; refine wpList_make_full _ rfl _ _ 26 rfl w1.heap.size 25 i0 (.int .u64 0) 1 Try.underlying26 hi0 hz0 hz1 .i64 .i64 _ _ 0 rfl rfl (by omega) (by omega) (by rw [hz2]; omega) (by unfold maxLen; omega) (Nat.le_refl _) ?_; intro w2 hown hgrow; have hO := hide (own_made hown); have hB := below_grown_none hgrow; clear hown hgrow)
      | (refine wpList_copy_splice rfl _ _ _ _ rfl 25 Try.underlying26 u64_size _ _ _ _ _ _ rfl rfl w1.heap.size 0 (vals (List.replicate 0 0)) 25 (own_block hO.out) [] (by rfl) (fun hp => absurd hp (by decide)) (by simp) (by intro v hv; cases hv) w1.heap.size w1 hB (Nat.le_refl _) ?_; intro w3 HG hB3))
    refine wp_loop_rounds 1 ?_
    rw [rounds_succ]
    go_wp2
    go_ret
    exact ⟨_, rfl, own_of_block (ys := []) (Nat.le_refl _) (by have := HG.out; simpa [splice, vals] using this) rfl (by omega), hB3⟩
  · have HL : Hid ((vals [x]).length = Nat.min 1 n) := by show 1 = Nat.min 1 n; exact (Nat.min_eq_left (by omega)).symm
    have HS := hide (splice_rep n 0 1 x (by omega))
    rw [List.replicate_zero, over_zero, Nat.zero_add, List.replicate_one] at HS
    obtain ⟨cs, HCS⟩ : ∃ cs, Hid (vals [x] = cs) := ⟨_, rfl⟩
    rw [HCS.out] at HL HS HW H1
    have HL2 : Hid (cs.length = 1) := by show _ = _; rw [← HCS.out]; rfl
    have HV : Hid (0 + cs.length ≤ (vals (List.replicate n 0)).length) := by
      show _ ≤ _
      rw [vals_length, List.length_replicate, HL2.out]; omega
    go_enter Try.func70, Try.ntmps70
    go_wp2_with (first
      | (go_at_call 85; refine HM.out.mono ?_; rintro e w1 ⟨rfl, hw1⟩; subst hw1)
      | (at_make; refine wpList_make_full _ rfl _ _ 26 rfl w1.heap.size 25 i0 (.int .u64 0) 1 Try.underlying26 hi0 hz0 hz1 .i64 .i64 _ _ n rfl rfl (by omega) (by omega) (by rw [hz2]; omega) (by unfold maxLen; omega) (Nat.le_refl _) ?_; intro w2 hown hgrow; have hO := hide (own_made hown); have hB := below_grown_none hgrow; clear hown hgrow)
      | (refine wpList_copy_splice rfl _ _ _ _ rfl 25 Try.underlying26 u64_size _ _ _ _ _ _ rfl rfl w1.heap.size 0 (vals (List.replicate n 0)) 25 (own_block hO.out) cs HL.out (fun hp => ⟨rfl, HW.out w2 hB⟩) HV.out H1.out w1.heap.size w1 hB (Nat.le_refl _) ?_; intro w3 HG hB3))
    rw [HS.out] at HG
    have hcl : (cs.length : Int) = 1 := by rw [HL2.out]; rfl
    rw [hcl]
    clear HW H1 hcl hO hB HM HV HL
    go_loopw [8] (fun vm wr => ∃ m : Nat, 1 ≤ m ∧ m ≤ n ∧ vm = .int .i64 m ∧ Hid (wr.heap[w1.heap.size]? = some (.cells (vals (over n (List.replicate m x))).toArray 25 (0, 0))) ∧ Below w1.heap.size w1 wr) (fun vm _ => n - (intOf vm).toNat)
    case atStart => exact ⟨1, by omega, by omega, rfl, by rw [List.replicate_one]; exact HG.out, hB3⟩
    case round =>
      clear HG hB3
      obtain ⟨m, hm1, hm, rfl, HG, hB⟩ := hrel
      by_cases hlt : m < n
      · obtain ⟨c, hc1, hc2, hcm⟩ : ∃ c : Nat, 1 ≤ c ∧ m + c ≤ n ∧ c = Nat.min m (n - m) := ⟨_, (min_parts hm1 hlt).1, (min_parts hm1 hlt).2, rfl⟩
        have HS2 := hide (splice_rep n m c x hc2)
        have HR : Hid (∃ ad, some (⟨w1.heap.size, 0, none⟩ : Addr) = some ad ∧ ∀ j v, (vals (List.replicate c x))[j]? = some v → (wr.drew).cell? (ad.add j) = some v) := ⟨_, rfl, fun j v hj => by
          have hjl : j < c := by
            apply Nat.lt_of_not_le; intro h; rw [List.getElem?_eq_none (by simp [vals]; omega)] at hj; cases hj
          have hcm2 : c ≤ m := by rw [hcm]; exact Nat.min_le_left _ _
          rw [add_at]
          have : wr.heap[w1.heap.size]? = _ := HG.out
          simp only [World.cell?, World.drew, this, Nat.zero_add]
          rw [← hj]
          simp [vals, over, List.getElem?_append, hjl, show j < m by omega]⟩
        have HL3 : Hid ((vals (List.replicate c x)).length = Nat.min m (n - m)) := by show _ = _; rw [vals_length, List.length_replicate]; exact hcm
        have HF : Hid (m + (vals (List.replicate c x)).length ≤ (vals (over n (List.replicate m x))).length) := by
          show _ ≤ _
          rw [vals_length, List.length_replicate, vals_length, over_len (by simp; omega)]; omega
        have H1 := hide (vals_one (List.replicate c x))
        have HN : Hid ((vals (List.replicate c x)).length = c) := by show _ = _; rw [vals_length, List.length_replicate]
        obtain ⟨cs, HCS⟩ : ∃ cs, Hid (vals (List.replicate c x) = cs) := ⟨_, rfl⟩
        rw [HCS.out] at HS2 HR HL3 HF H1 HN
        have f1 : (m : Int) ≤ (n : Int) := by omega
        have f2 : ¬ n = m := by omega
        have f3 : ¬ m = n := by omega
        clear hcm
        go_wp2_with fail
        have hBd : Below w1.heap.size w1 wr.drew := hB.drew
        go_region_law (refine step_copy_splice rfl (.tmp 41) (.tmp 44) 26 26 rfl 25 Try.underlying26 u64_size (some ⟨w1.heap.size, m, none⟩) (some ⟨w1.heap.size, 0, none⟩) (n - m) (n - m) m n (by simp [Act.eval, Act.put]) (by simp [Act.eval, Act.put]) w1.heap.size m _ 25 HG.out cs HL3.out (fun hp => ⟨rfl, HR.out⟩) HF.out H1.out w1.heap.size w1 hBd (Nat.le_refl _) ?_; intro w4 HG4 hb4)
        rw [HS2.out] at HG4
        have hcl : (cs.length : Int) = c := by rw [HN.out]
        have hwr : IntKind.i64.wrap ((m : Int) + (c : Int)) = ((m + c : Nat) : Int) := by rw [IntKind.wrap_i64]; omega
        rw [hcl]
        simp [Act.put, hwr, -Int.natCast_add]
        clear hcl hwr
        go_wp2
        go_roundw
        case rel => exact ⟨m + c, by omega, by omega, rfl, HG4.out, hb4⟩
        case measure => simp [intOf]; omega
      · obtain rfl : m = n := by omega
        rw [over_full] at HG
        go_wp2
        go_ret
        exact ⟨_, rfl, own_of_block (Nat.le_refl _) HG.out (by simp) (by omega), hB⟩

theorem vals_pad (n : Nat) (A : List Int) : vals A ++ List.replicate (n - A.length) (.int .u64 0) = vals (over n A) := by simp [vals, over]
theorem pad_nothing (w : World) (u : Value) (n base : Nat) (xs : List Value) (hO : w.ownsRow base 25 1 u n xs) :
    (Builtin.append_ #[26, 3] 26 #[u, .int .i64 0]).run Try.prog w = .ok u w := by
  obtain ⟨i0, hi0, hz0, hz1, hz2⟩ := info_parts u64_info
  have hw : IntKind.i64.wrap 0 = 0 := by decide
  rcases hO.2 with ⟨rfl, rfl⟩ | ⟨g, cap, cur, rfl, _, _, hnc, _⟩
  · simp [Builtin.append_, run_underlying Try.underlying26, run_underlying Try.underlying3, sizeOf, typeInfo, zeroValue, hi0, hz0, asInt, asIntOf, hw]
  · simp [Builtin.append_, run_underlying Try.underlying26, run_underlying Try.underlying3, sizeOf, typeInfo, zeroValue, hi0, hz0, asInt, asIntOf, hw, hnc, storeCells, Builtin.zeroCells]
/-- A list of the call's own, with noughts up to a length. -/
theorem pad_zeros (w : World) (base : Nat) (u : Value) (A : List Int) (n : Nat) (hO : w.ownsRow base 25 1 u A.length (vals A)) (hl : A.length ≤ n) (hn : n ≤ 4096) (hb : base ≤ w.heap.size) :
    ∃ v' w', (Builtin.append_ #[26, 3] 26 #[u, .int .i64 ((n : Int) - (A.length : Int))]).run Try.prog w = .ok v' w' ∧ w'.ownsRow base 25 1 v' n (vals (over n A)) ∧ Below base w w' := by
  obtain ⟨i0, hi0, hz0, hz1, hz2⟩ := info_parts u64_info
  by_cases hk : A.length = n
  · rw [hk, Int.sub_self]
    refine ⟨u, w, pad_nothing w u _ base _ hO, ?_, Below.refl _ _⟩
    rw [← hk, over_self]; exact hO
  · have e : (n : Int) - (A.length : Int) = ((n - A.length : Nat) : Int) := by omega
    have e2 : A.length + (n - A.length) = n := by omega
    rw [e]
    rcases hO.2 with ⟨rfl, h0⟩ | ⟨g, cap, cur, h, hbg, _⟩
    · have hA : A = [] := List.length_eq_zero_iff.1 h0
      subst hA
      have hr := Lib.run_append_nil_zeros (P := Try.prog) w 26 3 26 25 i0 (.int .u64 0) .i64 .i64 Try.underlying26 Try.underlying3 hi0 hz0 n (by simp at hk; omega) (by omega) (by omega) (by rw [hz2]; omega)
      have hge := grownCap_ge w n 0 25
      have hcm : grownCap w n 0 25 ≤ maxLen := grownCap_le_maxLen w n 0 25 (by unfold maxLen; omega)
      refine ⟨_, _, by simpa using hr, ⟨by rw [vals_length, over_len (by simp)]; omega, .inr ⟨w.heap.size, _, _, rfl, hb, heap_alloc_new w.drew _, hge, hcm, ?_, ?_⟩⟩, ?_⟩
      · simp only [Array.size_append, size_zeroCells]
        simp [Value.cells]; omega
      · rw [Array.toList_append, List.take_append_of_le_length (by simp [zeros_list, Value.cells]), List.take_of_length_le (by simp [zeros_list, Value.cells]), over_zero]
        simp [zeros_list, Value.cells, vals]
      · exact (Below.refl base w).drew.alloc (by simpa using hb) _
    · subst h
      obtain ⟨g', cap', w', hr, ho, hg⟩ := run_zeros_own (P := Try.prog) w base 26 3 26 25 i0 (.int .u64 0) 8 .i64 .i64 Try.underlying26 Try.underlying3 hi0 hz0 hz1 hz2 (.int .u64 0) rfl rfl g A.length cap (vals A) hO (n - A.length) (by omega) (by unfold maxLen; omega) (by omega) hb
      rw [e2] at hr ho
      rw [vals_pad] at ho
      exact ⟨_, w', hr, ho, (Below.refl base w).grown hg hb (fun k hk => by cases hk; exact hbg)⟩

theorem sm_rep {p x : Int} (hp : 0 < p) (xs : List Int) : sm p (sub p 0 1) (List.replicate xs.length x) xs = xs.map (fun z => sub p x z) := by
  apply ext_co
  · rw [sm_len]; simp
  · intro i hi
    rw [sm_len, List.length_replicate, Nat.max_self] at hi
    unfold sm
    rw [co_mk, if_pos (by simp; exact hi), co_at (show i < (xs.map (fun z => sub p x z)).length by simpa using hi), co_at (show i < (List.replicate xs.length x).length by simpa using hi), co_at hi]
    simp only [List.getElem_replicate, List.getElem_map]
    show (x + (0 - 1) % p * xs[i]) % p = (x - xs[i]) % p
    rw [Int.add_emod, Int.mul_emod, Int.emod_emod_of_dvd _ (Int.dvd_refl p), ← Int.mul_emod, ← Int.add_emod]
    congr 1; omega
theorem over_tr (L : List Int) : over L.length (tr L) = L := by
  apply ext_co
  · exact over_len (tr_len L)
  · intro i _; rw [co_over, co_tr]

set_option maxRecDepth 100000 in
set_option maxHeartbeats 400000 in
theorem ipDiffs (f p x : Int) (wd : Bool) (v : Value) (xs : List Int) (w : World) (h : Fi f p wd) (hx : El p x) (h1 : Rw w v xs) (he : Els p xs) (hl : xs.length ≤ 512) :
    Calls Try.prog 58 #[.int .u8 f, .int .u64 x, v] w fun e w' => ∃ v', e = .returned v' ∧ w'.ownsRow w.heap.size 25 1 v' xs.length (vals (xs.map (fun z => sub p x z))) ∧ Below w.heap.size w w' := by
  have hp := h.pos
  have al := fun T => alloc_below w (.cells #[.int .u64 x] T)
  have HRp := hide (fun T => slRepeat x xs.length w.heap.size (w.alloc (.cells #[.int .u64 x] T)) (by omega) (by simp [go_sem]) (by simp))
  have her : er f (List.replicate xs.length x) xs = 0 := er_yes h (allIn_of (fun y hy => by rw [List.eq_of_mem_replicate hy]; exact hx)) (allIn_of he) (by simp; omega) (by omega)
  have HL : Hid (subL f (List.replicate xs.length x) xs = tr (xs.map (fun z => sub p x z))) := by show _ = _; unfold subL; rw [if_pos her, pOf_eq h, sm_rep hp]
  have HS := hide (fun W u (hb : Below w.heap.size w W) (hr : Rw W u (List.replicate xs.length x)) => pSub_any f u v (List.replicate xs.length x) xs W hr (h1.below hb))
  unfold Gives at HS
  rw [her, HL.out] at HS
  have HRw := hide (fun W u base (hO : World.ownsRow W base 25 1 u xs.length (vals (List.replicate xs.length x))) => rw_of_own hO (by simp; omega) (fun y hy => by rw [List.eq_of_mem_replicate hy]; exact elWord hx h.top))
  have HP := hide (fun W base u hO hb => pad_zeros W base u (tr (xs.map (fun z => sub p x z))) xs.length hO (by have := tr_len (xs.map (fun z => sub p x z)); simpa using this) (by omega) hb)
  have e1 : (xs.map (fun z => sub p x z)).length = xs.length := by simp
  have HE := hide (over_tr (xs.map (fun z => sub p x z)))
  rw [e1] at HE
  rw [HE.out] at HP
  have hk : (tr (xs.map (fun z => sub p x z))).length ≤ xs.length := by have := tr_len (xs.map (fun z => sub p x z)); simpa using this
  obtain ⟨a1, c1, rfl, _⟩ := h1.spell
  clear h1 her HL h hx he e1 HE
  have hAL := hide al
  clear al
  generalize xs.map (fun z => sub p x z) = D at *
  generalize tr D = A at *
  generalize List.replicate xs.length x = rp at *
  generalize xs.length = n at *
  go_enter Try.func58, Try.ntmps58
  go_wp2_with (first
    | (go_at_call 70; refine (HRp.out _).mono ?_; rintro e w1 ⟨v1, rfl, hO1, hb1⟩; have hB1 := Below.next (hAL.out _) hb1; have hr1 := HRw.out _ _ _ hO1; obtain ⟨b1, k1, rfl⟩ := own_form hO1; clear hO1)
    | (go_at_call 69; refine (HS.out _ _ hB1 hr1).mono ?_; rintro e w2 ⟨v2, rfl, hO2, hb2⟩; have hB2 := Below.next hB1 hb2; obtain ⟨v3, w3, hr3, hO3, hb3⟩ := HP.out _ w.heap.size _ (own_mono hO2 hB1.size) hB2.size; obtain ⟨b2, k2, rfl⟩ := own_form hO2; have HO3 := hide hO3; clear hO3 hO2 hr1)
    | (at_builtin; refine Lib.wpList_append_run _ rfl _ _ _ _ rfl _ _ rfl rfl _ _ hr3 ?_))
  go_ret
  exact ⟨_, rfl, HO3.out, hB2.trans hb3⟩

end Go.Proofs.Ytifilgmjpflekaa
