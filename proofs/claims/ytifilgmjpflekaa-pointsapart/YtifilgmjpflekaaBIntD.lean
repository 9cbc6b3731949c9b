/-
  Layer 7: checkValues, times, the program's; the document's Bad.
-/
import Derived.Test.YtifilgmjpflekaaBIntC
import Derived.Test.YtifilgmjpflekaaBIntB
import Derived.BigQuiet
namespace Go.Proofs.Ytifilgmjpflekaa
open Go.RowKit Fld
set_option linter.unusedVariables false

theorem bad_arg {f : Int} {xs ys : List Int} {n : Nat} (h : inF f xs = false ∨ inF f ys = false) : bad f xs ys n = 2 := by
  unfold bad
  rcases h with h | h <;> rw [h] <;> simp
theorem bad_shape {f : Int} {xs ys : List Int} {n : Nat} (h1 : inF f xs = true) (h2 : inF f ys = true) (h : xs.length ≠ n) : bad f xs ys n = 3 := by
  unfold bad; rw [h1, h2, if_pos (by rfl), if_neg h]
theorem bad_long {f : Int} {xs ys : List Int} {n : Nat} (h1 : inF f xs = true) (h2 : inF f ys = true) (h : xs.length = n) (hl : 512 < xs.length) : bad f xs ys n = 4 := by
  unfold bad; rw [h1, h2, if_pos (by rfl), if_pos h, if_pos hl]
theorem bad_end {f : Int} {xs ys : List Int} {n : Nat} (h1 : inF f xs = true) (h2 : inF f ys = true) (h : xs.length = n) (hl : ¬ 512 < xs.length) : bad f xs ys n = if xs.Nodup then 0 else 6 := by
  unfold bad; rw [h1, h2, if_pos (by rfl), if_pos h, if_neg hl]
theorem chl_one (f : Int) (xs : List Int) : chl f [xs] xs = bad f xs [] xs.length := by
  cases h : inF f xs with
  | false => rw [bad_arg (.inl h)]; exact chl_arg (by simp [h])
  | true =>
    by_cases hl : 512 < xs.length
    · rw [bad_long h (inF_nil h) rfl hl]; exact chl_long (k := 0) (by simp [h]) (by simp) hl
    · rw [bad_end h (inF_nil h) rfl hl]; exact chl_end (by simp [h]) (fun i hi => by
        obtain rfl : i = 0 := by simp at hi; omega
        show xs.length ≤ 512; omega)
theorem chl_two (f x : Int) (xs : List Int) : chl f [xs, [x]] xs = bad f xs [x] xs.length := by
  cases h : inF f xs with
  | false => rw [bad_arg (.inl h)]; exact chl_arg (by simp [h])
  | true =>
    cases h2 : inF f [x] with
    | false => rw [bad_arg (.inr h2)]; exact chl_arg (by simp [h2])
    | true =>
      by_cases hl : 512 < xs.length
      · rw [bad_long h h2 rfl hl]; exact chl_long (k := 0) (by simp [h, h2]) (by simp) hl
      · rw [bad_end h h2 rfl hl]; exact chl_end (by simp [h, h2]) (fun i hi => by
          obtain rfl | rfl : i = 0 ∨ i = 1 := by simp at hi; omega
          · show xs.length ≤ 512; omega
          · show [x].length ≤ 512; simp)
/-- Places with other elements, as many as may be. -/
def bac (f : Int) (xs zs : List Int) : Int := if bad f xs zs xs.length ≠ 2 ∧ bad f xs zs xs.length ≠ 3 ∧ 512 < zs.length then 4 else bad f xs zs xs.length
theorem chl_zs (f : Int) (xs zs : List Int) : chl f [xs, zs] xs = bac f xs zs := by
  unfold bac
  cases h : inF f xs with
  | false => rw [bad_arg (.inl h), if_neg (by simp)]; exact chl_arg (by simp [h])
  | true =>
    cases h2 : inF f zs with
    | false => rw [bad_arg (.inr h2), if_neg (by simp)]; exact chl_arg (by simp [h2])
    | true =>
      by_cases hz : 512 < zs.length
      · have e : chl f [xs, zs] xs = 4 := chl_long (k := 1) (by simp [h, h2]) (by simp) hz
        rw [e]
        by_cases hl : 512 < xs.length
        · rw [bad_long h h2 rfl hl]; simp [hz]
        · rw [bad_end h h2 rfl hl]; split <;> simp [hz]
      · rw [if_neg (by simp [hz])]
        by_cases hl : 512 < xs.length
        · rw [bad_long h h2 rfl hl]; exact chl_long (k := 0) (by simp [h, h2]) (by simp) hl
        · rw [bad_end h h2 rfl hl]; exact chl_end (by simp [h, h2]) (fun i hi => by
            obtain rfl | rfl : i = 0 ∨ i = 1 := by simp at hi; omega
            · show xs.length ≤ 512; omega
            · show zs.length ≤ 512; omega)
theorem bad_zero {f : Int} {xs ys : List Int} {n : Nat} (h : bad f xs ys n = 0) : ∃ p wd, Fi f p wd ∧ allIn p xs = true ∧ allIn p ys = true ∧ xs.length = n ∧ xs.length ≤ 512 ∧ xs.Nodup := by
  cases h1 : inF f xs with
  | false => rw [bad_arg (.inl h1)] at h; cases h
  | true =>
    cases h2 : inF f ys with
    | false => rw [bad_arg (.inr h2)] at h; cases h
    | true =>
      obtain ⟨p, wd, hf, hi⟩ := inF_fi h1
      rw [inF_yes hf] at h2
      have h2' : inF f ys = true := by rw [inF_yes hf]; exact h2
      by_cases hn : xs.length = n
      · by_cases hl : 512 < xs.length
        · rw [bad_long h1 h2' hn hl] at h; cases h
        · rw [bad_end h1 h2' hn hl] at h
          by_cases hd : xs.Nodup
          · exact ⟨p, wd, hf, hi, h2, hn, by omega, hd⟩
          · rw [if_neg hd] at h; cases h
      · rw [bad_shape h1 h2' hn] at h; cases h
theorem bad_same {f : Int} {xs ys : List Int} (h1 : inF f xs = true) (h2 : inF f ys = true) (h : xs.length = ys.length) : chl f [xs] xs = bad f xs ys ys.length := by
  rw [chl_one]
  by_cases hl : 512 < xs.length
  · rw [bad_long h1 h2 h hl, bad_long h1 (inF_nil h1) rfl hl]
  · rw [bad_end h1 h2 h hl, bad_end h1 (inF_nil h1) rfl hl]

set_option maxHeartbeats 200000 in
theorem ipValues (f : Int) (v1 v2 : Value) (xs ys : List Int) (w : World) (h1 : Rw w v1 xs) (h2 : Rw w v2 ys) :
    Calls Try.prog 52 #[.int .u8 f, v1, v2] w fun e w' => e = .returned (.int .i64 (bad f xs ys ys.length)) ∧ Below w.heap.size w w' := by
  have HE := hide (fun T => ipElements f _ [xs, ys] _ (rws_two w v1 v2 xs ys h1 h2 T))
  have HP := hide (fun W (hb : Below w.heap.size w W) => ipPlaces f v1 _ xs [] W (h1.below hb) (.inl ⟨rfl, rfl⟩))
  have HL := hide (fun T => alloc_below w (.cells #[v1, v2] T))
  have l1 := h1.len
  have l2 := h2.len
  obtain ⟨a1, c1, rfl, _⟩ := h1.spell
  obtain ⟨a2, c2, rfl, _⟩ := h2.spell
  clear h1 h2
  have ha : [xs, ys].all (inF f) = (inF f xs && inF f ys) := by simp
  rw [ha] at HE
  cases hi : (inF f xs && inF f ys) with
  | false =>
    have HB : Hid (bad f xs ys ys.length = 2) := bad_arg (by
      cases e : inF f xs with
      | false => exact .inl rfl
      | true => rw [e] at hi; exact .inr hi)
    rw [hi] at HE
    clear hi ha HP
    generalize xs.length = n1 at *
    generalize ys.length = n2 at *
    go_enter Try.func52, Try.ntmps52
    go_wp2_with (go_at_call 51; refine (HE.out _).mono ?_; rintro e w1 ⟨rfl, hb1⟩; have hB1 := Below.next (HL.out _) hb1)
    go_ret
    exact ⟨ret_i64 HB.out.symm, hB1⟩
  | true =>
    have hi2 := Bool.and_eq_true_iff.1 hi
    rw [hi] at HE
    by_cases hn : xs.length = ys.length
    · have HB := hide (bad_same hi2.1 hi2.2 hn)
      rw [HB.out] at HP
      clear hi hi2 ha HB
      rw [← hn] at HE HP HL ⊢
      clear hn
      generalize xs.length = n1 at *
      go_enter Try.func52, Try.ntmps52
      go_wp2_with (first
        | (go_at_call 51; refine (HE.out _).mono ?_; rintro e w1 ⟨rfl, hb1⟩; have hB1 := Below.next (HL.out _) hb1)
        | (go_at_call 44; refine (HP.out _ hB1).mono ?_; rintro e w2 ⟨rfl, hb2⟩))
      go_ret
      exact ⟨rfl, Below.next hB1 hb2⟩
    · have HB := hide (bad_shape hi2.1 hi2.2 hn)
      have hne : ((xs.length : Int) == (ys.length : Int)) = false := beq_eq_false_iff_ne.2 (by omega)
      have hne2 : ((xs.length : Int) != (ys.length : Int)) = true := bne_iff_ne.2 (by omega)
      clear hi hi2 ha HP
      generalize xs.length = n1 at *
      generalize ys.length = n2 at *
      go_enter Try.func52, Try.ntmps52
      go_wp2_with (go_at_call 51; refine (HE.out _).mono ?_; rintro e w1 ⟨rfl, hb1⟩; have hB1 := Below.next (HL.out _) hb1)
      go_ret
      exact ⟨ret_i64 HB.out.symm, hB1⟩

set_option maxHeartbeats 200000 in
theorem ipTimes (f p a b : Int) (wd : Bool) (w : World) (h : Fi f p wd) (ha : El p a) (hb : El p b) :
    Calls Try.prog 59 #[.int .u8 f, .int .u64 a, .int .u64 b] w fun e w' => e = .returned (.int .u64 (mul p a b)) ∧ Below w.heap.size w w' := by
  have HE := hide (fun T => eval_two w T h ha hb)
  have HM : Hid (b * a % p = mul p a b) := by show _ = _; unfold mul; rw [Int.mul_comm]
  rw [HM.out] at HE
  clear h ha hb
  generalize mul p a b = m at *
  go_enter Try.func59, Try.ntmps59
  go_wp2_with (go_at_call 53; refine (HE.out _).mono ?_; rintro e w1 ⟨rfl, hb1⟩)
  go_ret
  exact ⟨rfl, hb1⟩

theorem nodup_cut {xs : List Int} {i : Nat} (hi : i < xs.length) (h : (xs.take i).Nodup) (hk : ∀ k, k < i → xs.getD i 0 ≠ xs.getD k 0) : (xs.take (i + 1)).Nodup := by
  rw [List.take_succ_eq_append_getElem hi, nodup_snoc]
  refine ⟨h, fun hm => ?_⟩
  obtain ⟨k, hk2, e⟩ := List.mem_iff_getElem.1 hm
  have hk3 : k < i := by rw [List.length_take] at hk2; omega
  refine hk k hk3 ?_
  rw [List.getD_eq_getElem?_getD, List.getElem?_eq_getElem hi, List.getD_eq_getElem?_getD, List.getElem?_eq_getElem (by omega)]
  rw [List.getElem_take] at e
  exact e.symm
theorem not_nodup {xs : List Int} {i k : Nat} (hi : i < xs.length) (hk : k < i) (h : xs.getD i 0 = xs.getD k 0) : ¬ xs.Nodup := by
  intro hn
  rw [List.getD_eq_getElem?_getD, List.getElem?_eq_getElem hi, List.getD_eq_getElem?_getD, List.getElem?_eq_getElem (show k < xs.length by omega)] at h
  have := nodup_inj hn hi (show k < xs.length by omega) h
  omega

set_option maxRecDepth 100000 in
set_option maxHeartbeats 400000 in
theorem dBad (f : Int) (v1 v2 : Value) (xs ys : List Int) (n : Nat) (w : World) (h1 : Rw w v1 xs) (h2 : Rw w v2 ys) (hn : n ≤ 17592186043904) :
    Calls Try.prog 46 #[.int .u8 f, v1, v2, .int .i64 n] w fun e w' => e = .returned (.int .i64 (bad f xs ys n)) ∧ Below w.heap.size w w' := by
  have i1 := hide (fun W (hb : Below w.heap.size w W) => rIn_any f v1 xs W (h1.1.below hb))
  have i2 := hide (fun W (hb : Below w.heap.size w W) => rIn_any f v2 ys W (h2.1.below hb))
  have l1 := h1.len
  obtain ⟨a2, c2, rfl, _⟩ := h2.spell
  obtain ⟨⟨ao, cap, rfl, _, _, hc⟩, _⟩ := h1
  clear h2
  generalize ys.length = n2 at *
  cases e1 : inF f xs with
  | false =>
    have HB := hide (bad_arg (ys := ys) (n := n) (.inl e1))
    rw [e1] at i1
    clear e1 i2 hc
    generalize xs.length = n1 at *
    go_enter Try.func46, Try.ntmps46
    go_wp2_with (go_at_call 20; refine (i1.out _ (Below.refl _ _)).mono ?_; rintro e w1 ⟨rfl, rfl⟩)
    go_ret
    exact ⟨ret_i64 HB.out.symm, Below.refl _ _⟩
  | true =>
    rw [e1] at i1
    cases e2 : inF f ys with
    | false =>
      have HB := hide (bad_arg (xs := xs) (n := n) (.inr e2))
      rw [e2] at i2
      clear e1 e2 hc
      generalize xs.length = n1 at *
      go_enter Try.func46, Try.ntmps46
      go_wp2_with fail
      refine (i1.out _ (Below.refl _ _)).mono ?_; rintro e w1 ⟨rfl, rfl⟩
      go_wp2_with fail
      refine (i2.out _ (Below.refl _ _)).mono ?_; rintro e w1 ⟨rfl, rfl⟩
      go_wp2
      go_ret
      exact ⟨ret_i64 HB.out.symm, Below.refl _ _⟩
    | true =>
      rw [e2] at i2
      by_cases hs : xs.length = n
      · by_cases hl : 512 < xs.length
        · have HB := hide (bad_long e1 e2 hs hl)
          subst hs
          clear e1 e2 hc
          generalize bad f xs ys xs.length = bb at *
          generalize xs.length = n1 at *
          go_enter Try.func46, Try.ntmps46
          go_wp2_with fail
          refine (i1.out _ (Below.refl _ _)).mono ?_; rintro e w1 ⟨rfl, rfl⟩
          go_wp2_with fail
          refine (i2.out _ (Below.refl _ _)).mono ?_; rintro e w1 ⟨rfl, rfl⟩
          go_wp2
          go_ret
          exact ⟨ret_i64 HB.out.symm, Below.refl _ _⟩
        · have HB := hide (bad_end e1 e2 hs hl)
          subst hs
          clear e1 e2
          generalize bad f xs ys xs.length = bb at *
          obtain ⟨N, HN⟩ : ∃ N, Hid (xs.length = N) := ⟨_, rfl⟩
          have HC : Hid (∀ W, Below w.heap.size w W → ∀ i, i < N → ∃ b off, ao = some ⟨b, off, none⟩ ∧ ∀ k, k ≤ i → W.cell? ⟨b, off + k, none⟩ = some (.int .u64 (xs.getD k 0))) := fun W hb i hi => by
            have hi2 : i < xs.length := by rw [HN.out]; exact hi
            obtain ⟨b, off, e, h3, h4⟩ := hc (by intro e; rw [e] at hi2; simp at hi2)
            exact ⟨b, off, e, fun k hk => (hb.cell (p := ⟨b, off + k, none⟩) h3).trans (h4 k (by omega))⟩
          rw [HN.out] at i1 l1 hl ⊢
          clear hc
          go_enter Try.func46, Try.ntmps46
          go_wp2_with fail
          refine (i1.out _ (Below.refl _ _)).mono ?_; rintro e w1 ⟨rfl, rfl⟩
          go_wp2_with fail
          refine (i2.out _ (Below.refl _ _)).mono ?_; rintro e w1 ⟨rfl, rfl⟩
          clear i1 i2
          go_wp2
          go_loopw [9] (fun vi wr => ∃ i : Nat, i ≤ N ∧ vi = .int .i64 i ∧ Hid ((xs.take i).Nodup) ∧ Below w1.heap.size w1 wr) (fun vi _ => N - (intOf vi).toNat)
          case atStart => exact ⟨0, Nat.zero_le _, rfl, by show (List.take 0 xs).Nodup; simp, Below.refl _ _⟩
          case round =>
            obtain ⟨i, hi, rfl, HD, hB⟩ := hrel
            by_cases hlt : i < N
            · go_wp2
              go_loopw [10] (fun vk wr => ∃ k : Nat, k ≤ i ∧ vk = .int .i64 k ∧ Hid (∀ j, j < k → xs.getD i 0 ≠ xs.getD j 0) ∧ Below w1.heap.size w1 wr) (fun vk _ => i - (intOf vk).toNat)
              case atStart => exact ⟨0, Nat.zero_le _, rfl, fun j hj => by omega, hB⟩
              case round =>
                clear hB
                obtain ⟨k, hk, rfl, HK, hB⟩ := hrel
                by_cases hki : k < i
                · obtain ⟨b, off, rfl, hcell⟩ := HC.out wr hB i hlt
                  have c1 := hcell i (Nat.le_refl _)
                  have c2 := hcell k (by omega)
                  clear hcell
                  by_cases heq : xs.getD i 0 = xs.getD k 0
                  · have HE := hide (not_nodup (show i < xs.length by rw [HN.out]; exact hlt) hki heq)
                    have HB2 : Hid (bb = 6) := by show _ = _; rw [HB.out, if_neg HE.out]
                    rw [heq] at c1
                    clear heq HB HE HK HD
                    generalize xs.getD k 0 = x at *
                    go_wp2_with fail
                    go_quiet (fail)
                    go_wp2
                    go_ret
                    exact ⟨ret_i64 HB2.out.symm, below_drewN hB nq⟩
                  · have HK2 : Hid (∀ j, j < k + 1 → xs.getD i 0 ≠ xs.getD j 0) := fun j hj => by
                      by_cases h : j = k
                      · rw [h]; exact heq
                      · exact HK.out j (by omega)
                    have hne : (xs.getD i 0 == xs.getD k 0) = false := beq_eq_false_iff_ne.2 heq
                    clear heq HK HD
                    generalize xs.getD k 0 = x at *
                    generalize xs.getD i 0 = y at *
                    go_wp2_with fail
                    go_quiet (fail)
                    go_wp2
                    go_roundw
                    case rel => exact ⟨k + 1, by omega, by go_num, HK2, below_drewN hB nq⟩
                    case measure => simp [intOf]; omega
                · obtain rfl : k = i := by omega
                  have HD2 : Hid ((xs.take (k + 1)).Nodup) := nodup_cut (by rw [HN.out]; exact hlt) HD.out HK.out
                  clear HK HD
                  go_wp2
                  go_roundw
                  case rel => exact ⟨k + 1, by omega, by go_num, HD2, hB⟩
                  case measure => simp [intOf]; omega
            · obtain rfl : i = N := by omega
              have HB2 : Hid (bb = 0) := by
                show _ = _
                rw [HB.out, if_pos]
                have := HD.out
                rw [← HN.out, List.take_length] at this
                exact this
              clear HD
              go_wp2
              go_ret
              exact ⟨ret_i64 HB2.out.symm, hB⟩
      · have HB := hide (bad_shape e1 e2 hs)
        have hne2 : ((xs.length : Int) != (n : Int)) = true := bne_iff_ne.2 (by omega)
        clear e1 e2 hc
        generalize xs.length = n1 at *
        go_enter Try.func46, Try.ntmps46
        go_wp2_with fail
        refine (i1.out _ (Below.refl _ _)).mono ?_; rintro e w1 ⟨rfl, rfl⟩
        go_wp2_with fail
        refine (i2.out _ (Below.refl _ _)).mono ?_; rintro e w1 ⟨rfl, rfl⟩
        go_wp2
        go_ret
        exact ⟨ret_i64 HB.out.symm, Below.refl _ _⟩

end Go.Proofs.Ytifilgmjpflekaa
