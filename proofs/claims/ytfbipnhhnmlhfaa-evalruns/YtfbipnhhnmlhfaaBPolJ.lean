/-
  Polynomials: the document's own Add, Sub and Eval.
-/
import Derived.Test.YtfbipnhhnmlhfaaBPolI
import Derived.Deep.QuietTactic
import Derived.BigQuiet
import Derived.Deep.AppendLies
namespace Go.Proofs.Ytfbipnhhnmlhfaa
open Go.RowKit Fld
set_option linter.unusedVariables false

set_option maxHeartbeats 100000 in
theorem rat_any (v : Value) (xs : List Int) (k : Nat) (w : World) (hr : Row w v xs) (hk : k ≤ 17592186043904) :
    Calls Try.prog 59 #[v, .int .i64 k] w fun e w' => e = .returned (.int .u64 (co xs k)) ∧ w' = w := by
  obtain ⟨ao, cap, rfl, hlen, hw, hc⟩ := hr
  have k0 : (0 : Int) ≤ (k : Int) := Int.natCast_nonneg _
  by_cases hlt : k < xs.length
  · obtain ⟨b, off, rfl, hbl, hcell⟩ := hc (by intro h; rw [h] at hlt; simp at hlt)
    have hck := hcell k hlt
    have hco : xs.getD k 0 = co xs k := rfl
    rw [hco] at hck
    clear hco hcell hc
    generalize co xs k = x at *
    go_enter Try.func59, Try.ntmps59
    go_wp2
    go_ret
    exact ⟨rfl, rfl⟩
  · have HE := hide (co_out xs k (by omega))
    clear hc
    go_enter Try.func59, Try.ntmps59
    go_wp2
    go_ret
    exact ⟨ret_u64 HE.out.symm, rfl⟩

theorem app_step {w wr w1 : World} {v v1 : Value} {k : Nat} {F : Nat → Int} {y : Int} {T : TypeId} (hB : Below w.heap.size w wr) (hown : wr.ownsRow w.heap.size T 1 v k (vals (mk k F)))
    (h1 : w1.ownsRow w.heap.size T 1 v1 (k + 1) (vals (mk k F) ++ [.int .u64 y])) (hg : (wr.alloc (.cells #[.int .u64 y] T)).grownBy w1 v.ownBlock) (hy : F k = y) :
    w1.ownsRow w.heap.size T 1 v1 (k + 1) (vals (mk (k + 1) F)) ∧ Below w.heap.size w w1 := push_step hB hown h1 hg (by rw [← hy]; exact mk_snoc k F)

set_option maxRecDepth 100000 in
set_option maxHeartbeats 400000 in
theorem dAdd_any (f : Int) (v1 v2 : Value) (xs ys : List Int) (w : World) (h1 : Rw w v1 xs) (h2 : Rw w v2 ys) : Gives 44 #[.int .u8 f, v1, v2] w (addL f xs ys) (er f xs ys) := by
  have hk := hide (fun W (hb : Below w.heap.size w W) => rBad_any f _ _ xs ys W (h1.below hb) (h2.below hb))
  obtain ⟨a1, c1, rfl, _⟩ := h1.spell
  obtain ⟨a2, c2, rfl, _⟩ := h2.spell
  unfold addL
  by_cases he : er f xs ys = 0
  · obtain ⟨p, wd, h, i1, i2, m1, m2⟩ := er_zero he
    obtain ⟨i0, hi0, hz0, hz1, hz2⟩ := info_parts u64_info
    rw [if_pos he, he, pOf_eq h]
    rw [he] at hk
    have hP := hide (fun W => rP_yes f p wd W h)
    have A1 := hide (fun W k (hb : Below w.heap.size w W) (hk : k ≤ 17592186043904) => rat_any _ xs k W (h1.1.below hb) hk)
    have A2 := hide (fun W k (hb : Below w.heap.size w W) (hk : k ≤ 17592186043904) => rat_any _ ys k W (h2.1.below hb) hk)
    have HS := hide (fun W k => rSum_any p (co xs k) (co ys k) W h.top ((els_of i1 h1.words).co h.pos k) ((els_of i2 h2.words).co h.pos k))
    have HE : Hid (tr (mk (max xs.length ys.length) (fun i => add p (co xs i) (co ys i))) = tr (sm p 1 xs ys)) := (is_mk h.pos (F := fun i => co xs i + co ys i) (fun i hi => by
      show (co xs i + co ys i) % p = 0
      rw [co_out xs i (by omega), co_out ys i (by omega)]; exact Int.zero_emod p)).only h.pos (is_add h.pos xs ys)
    have HR := hide (fun W v n base N (hN : N ≤ 17592186043904) (hO : World.ownsRow W base 49 1 v n (vals (mk N (fun i => add p (co xs i) (co ys i))))) => rw_of_own hO (by rw [mk_len]; exact hN) (els_words (els_mk_mod h.pos N (fun i => co xs i + co ys i)) h.top))
    rw [← HE.out]
    have hcase : (xs.length < ys.length ∧ max xs.length ys.length = ys.length) ∨ (¬ xs.length < ys.length ∧ max xs.length ys.length = xs.length) := by omega
    clear h1 h2 h i1 i2 he HE
    obtain ⟨F, HF⟩ : ∃ F : Nat → Int, Hid ((fun i => add p (co xs i) (co ys i)) = F) := ⟨_, rfl⟩
    have HFk : Hid (∀ k, add p (co xs k) (co ys k) = F k) := fun k => congrFun HF.out k
    rw [HF.out] at HR ⊢
    show Calls _ _ _ _ _
    rcases hcase with ⟨hlt, hN⟩ | ⟨hlt, hN⟩
    all_goals
      rw [hN]
      clear hN
      go_enter Try.func44, Try.ntmps44
      go_wp2_with (go_at_call 49; refine (hk.out _ (Below.refl _ _)).mono ?_; rintro e w1 ⟨rfl, hw⟩; rw [hw]; clear hw)
    · go_loopw [9, 10] (fun vo vi wr => ∃ k : Nat, k ≤ ys.length ∧ vi = .int .i64 k ∧ wr.ownsRow w.heap.size 49 1 vo k (vals (mk k F)) ∧ Below w.heap.size w wr) (fun _ vi _ => ys.length - (intOf vi).toNat)
      case atStart => exact ⟨0, Nat.zero_le _, rfl, World.ownsRow_nil _ _ _ _, Below.refl _ _⟩
      case round =>
        obtain ⟨k, hkl, rfl, hown, hB⟩ := hrel
        by_cases hlk : k < ys.length
        · have hbs := hB.size
          have a1' := hide (A1.out wr k hB (by omega))
          have a2' := hide (A2.out wr k hB (by omega))
          have s' := hide (fun W => HS.out W k)
          obtain ⟨y, HY⟩ : ∃ y, Hid (F k = y) := ⟨_, rfl⟩
          rw [HFk.out k, HY.out] at s'
          generalize co xs k = x1 at *
          generalize co ys k = x2 at *
          have hown2 := hown
          generalize hq : mk k F = q at hown2
          have HQ := hide hq
          clear hq
          go_wp2_with fail
          refine (hP.out _).mono ?_; rintro e w1 ⟨rfl, hw⟩; rw [hw]; clear hw
          go_wp2_with fail
          refine a1'.out.mono ?_; rintro e w1 ⟨rfl, hw⟩; rw [hw]; clear hw
          go_wp2_with fail
          refine a2'.out.mono ?_; rintro e w1 ⟨rfl, hw⟩; rw [hw]; clear hw
          go_wp2_with (first
            | (go_at_call 33; refine (s'.out _).mono ?_; rintro e w1 ⟨rfl, hw⟩; rw [hw]; clear hw)
            | (at_builtin; refine wpList_append_lies _ rfl _ _ _ rfl w.heap.size 49 i0 _ 1 8 Try.underlying26 hi0 hz0 hz1 hz2 rfl (by omega) u9 k _ rfl (hown2.alloc _) ⟨wr.heap.size, 0, none⟩ 1 1 [.int .u64 y] rfl rfl (World.news_of_block (cs := #[.int .u64 y]) (t := 49) (fr := (0, 0)) (heap_alloc_new wr _)) (by simp [Value.oneCell']) (by omega) (by unfold maxLen; omega) (by omega) (by simp; omega) (wr.heap.size + 1) (by simp) ?_; intro gg cap2 w3 hown3 hgrow hat hltg))
          rw [← HQ.out] at hown3
          have R := hide (app_step hB hown hown3 hgrow HY.out)
          clear hown3 hgrow hat hltg hown hown2
          go_roundw
          case rel => exact ⟨k + 1, by omega, by go_num, R.out.1, R.out.2⟩
          case measure => simp [intOf]; omega
        · obtain rfl : k = ys.length := by omega
          have ht := hide (rTrim_any _ _ _ (HR.out wr u9 _ _ _ (by omega) hown))
          go_wp2_with (go_at_call 22; refine ht.out.mono ?_; rintro e w1 ⟨v', rfl, hO, hb⟩)
          go_ret2
          exact ⟨_, rfl, own_mono hO hB.size, Below.next hB hb⟩
    · go_loopw [9, 10] (fun vo vi wr => ∃ k : Nat, k ≤ xs.length ∧ vi = .int .i64 k ∧ wr.ownsRow w.heap.size 49 1 vo k (vals (mk k F)) ∧ Below w.heap.size w wr) (fun _ vi _ => xs.length - (intOf vi).toNat)
      case atStart => exact ⟨0, Nat.zero_le _, rfl, World.ownsRow_nil _ _ _ _, Below.refl _ _⟩
      case round =>
        obtain ⟨k, hkl, rfl, hown, hB⟩ := hrel
        by_cases hlk : k < xs.length
        · have hbs := hB.size
          have a1' := hide (A1.out wr k hB (by omega))
          have a2' := hide (A2.out wr k hB (by omega))
          have s' := hide (fun W => HS.out W k)
          obtain ⟨y, HY⟩ : ∃ y, Hid (F k = y) := ⟨_, rfl⟩
          rw [HFk.out k, HY.out] at s'
          generalize co xs k = x1 at *
          generalize co ys k = x2 at *
          have hown2 := hown
          generalize hq : mk k F = q at hown2
          have HQ := hide hq
          clear hq
          go_wp2_with fail
          refine (hP.out _).mono ?_; rintro e w1 ⟨rfl, hw⟩; rw [hw]; clear hw
          go_wp2_with fail
          refine a1'.out.mono ?_; rintro e w1 ⟨rfl, hw⟩; rw [hw]; clear hw
          go_wp2_with fail
          refine a2'.out.mono ?_; rintro e w1 ⟨rfl, hw⟩; rw [hw]; clear hw
          go_wp2_with (first
            | (go_at_call 33; refine (s'.out _).mono ?_; rintro e w1 ⟨rfl, hw⟩; rw [hw]; clear hw)
            | (at_builtin; refine wpList_append_lies _ rfl _ _ _ rfl w.heap.size 49 i0 _ 1 8 Try.underlying26 hi0 hz0 hz1 hz2 rfl (by omega) u9 k _ rfl (hown2.alloc _) ⟨wr.heap.size, 0, none⟩ 1 1 [.int .u64 y] rfl rfl (World.news_of_block (cs := #[.int .u64 y]) (t := 49) (fr := (0, 0)) (heap_alloc_new wr _)) (by simp [Value.oneCell']) (by omega) (by unfold maxLen; omega) (by omega) (by simp; omega) (wr.heap.size + 1) (by simp) ?_; intro gg cap2 w3 hown3 hgrow hat hltg))
          rw [← HQ.out] at hown3
          have R := hide (app_step hB hown hown3 hgrow HY.out)
          clear hown3 hgrow hat hltg hown hown2
          go_roundw
          case rel => exact ⟨k + 1, by omega, by go_num, R.out.1, R.out.2⟩
          case measure => simp [intOf]; omega
        · obtain rfl : k = xs.length := by omega
          have ht := hide (rTrim_any _ _ _ (HR.out wr u9 _ _ _ (by omega) hown))
          go_wp2_with (go_at_call 22; refine ht.out.mono ?_; rintro e w1 ⟨v', rfl, hO, hb⟩)
          go_ret2
          exact ⟨_, rfl, own_mono hO hB.size, Below.next hB hb⟩
  · have ht : (er f xs ys != 0) = true := bne_iff_ne.2 he
    rw [if_neg he]
    clear h1 h2 he
    generalize er f xs ys = e0 at *
    apply Gives.none
    go_enter Try.func44, Try.ntmps44
    go_wp2_with (go_at_call 49; refine (hk.out _ (Below.refl _ _)).mono ?_; rintro e w1 ⟨rfl, hw⟩; rw [hw]; clear hw)
    go_ret2
    exact ⟨rfl, Below.refl _ _⟩

set_option maxRecDepth 100000 in
set_option maxHeartbeats 400000 in
theorem dSub_any (f : Int) (v1 v2 : Value) (xs ys : List Int) (w : World) (h1 : Rw w v1 xs) (h2 : Rw w v2 ys) : Gives 45 #[.int .u8 f, v1, v2] w (subL f xs ys) (er f xs ys) := by
  have hk := hide (fun W (hb : Below w.heap.size w W) => rBad_any f _ _ xs ys W (h1.below hb) (h2.below hb))
  obtain ⟨a1, c1, rfl, _⟩ := h1.spell
  obtain ⟨a2, c2, rfl, _⟩ := h2.spell
  unfold subL
  by_cases he : er f xs ys = 0
  · obtain ⟨p, wd, h, i1, i2, m1, m2⟩ := er_zero he
    obtain ⟨i0, hi0, hz0, hz1, hz2⟩ := info_parts u64_info
    rw [if_pos he, he, pOf_eq h]
    rw [he] at hk
    have hP := hide (fun W => rP_yes f p wd W h)
    have A1 := hide (fun W k (hb : Below w.heap.size w W) (hk : k ≤ 17592186043904) => rat_any _ xs k W (h1.1.below hb) hk)
    have A2 := hide (fun W k (hb : Below w.heap.size w W) (hk : k ≤ 17592186043904) => rat_any _ ys k W (h2.1.below hb) hk)
    have HS := hide (fun W k => rLess_any p (co xs k) (co ys k) W h.top ((els_of i1 h1.words).co h.pos k) ((els_of i2 h2.words).co h.pos k))
    have HE : Hid (tr (mk (max xs.length ys.length) (fun i => sub p (co xs i) (co ys i))) = tr (sm p (sub p 0 1) xs ys)) := (is_mk h.pos (F := fun i => co xs i - co ys i) (fun i hi => by
      show (co xs i - co ys i) % p = 0
      rw [co_out xs i (by omega), co_out ys i (by omega)]; exact Int.zero_emod p)).only h.pos (is_sub h.pos xs ys)
    have HR := hide (fun W v n base N (hN : N ≤ 17592186043904) (hO : World.ownsRow W base 49 1 v n (vals (mk N (fun i => sub p (co xs i) (co ys i))))) => rw_of_own hO (by rw [mk_len]; exact hN) (els_words (els_mk_mod h.pos N (fun i => co xs i - co ys i)) h.top))
    rw [← HE.out]
    have hcase : (xs.length < ys.length ∧ max xs.length ys.length = ys.length) ∨ (¬ xs.length < ys.length ∧ max xs.length ys.length = xs.length) := by omega
    clear h1 h2 h i1 i2 he HE
    obtain ⟨F, HF⟩ : ∃ F : Nat → Int, Hid ((fun i => sub p (co xs i) (co ys i)) = F) := ⟨_, rfl⟩
    have HFk : Hid (∀ k, sub p (co xs k) (co ys k) = F k) := fun k => congrFun HF.out k
    rw [HF.out] at HR ⊢
    show Calls _ _ _ _ _
    rcases hcase with ⟨hlt, hN⟩ | ⟨hlt, hN⟩
    all_goals
      rw [hN]
      clear hN
      go_enter Try.func45, Try.ntmps45
      go_wp2_with (go_at_call 49; refine (hk.out _ (Below.refl _ _)).mono ?_; rintro e w1 ⟨rfl, hw⟩; rw [hw]; clear hw)
    · go_loopw [9, 10] (fun vo vi wr => ∃ k : Nat, k ≤ ys.length ∧ vi = .int .i64 k ∧ wr.ownsRow w.heap.size 49 1 vo k (vals (mk k F)) ∧ Below w.heap.size w wr) (fun _ vi _ => ys.length - (intOf vi).toNat)
      case atStart => exact ⟨0, Nat.zero_le _, rfl, World.ownsRow_nil _ _ _ _, Below.refl _ _⟩
      case round =>
        obtain ⟨k, hkl, rfl, hown, hB⟩ := hrel
        by_cases hlk : k < ys.length
        · have hbs := hB.size
          have a1' := hide (A1.out wr k hB (by omega))
          have a2' := hide (A2.out wr k hB (by omega))
          have s' := hide (fun W => HS.out W k)
          obtain ⟨y, HY⟩ : ∃ y, Hid (F k = y) := ⟨_, rfl⟩
          rw [HFk.out k, HY.out] at s'
          generalize co xs k = x1 at *
          generalize co ys k = x2 at *
          have hown2 := hown
          generalize hq : mk k F = q at hown2
          have HQ := hide hq
          clear hq
          go_wp2_with fail
          refine (hP.out _).mono ?_; rintro e w1 ⟨rfl, hw⟩; rw [hw]; clear hw
          go_wp2_with fail
          refine a1'.out.mono ?_; rintro e w1 ⟨rfl, hw⟩; rw [hw]; clear hw
          go_wp2_with fail
          refine a2'.out.mono ?_; rintro e w1 ⟨rfl, hw⟩; rw [hw]; clear hw
          go_wp2_with (first
            | (go_at_call 34; refine (s'.out _).mono ?_; rintro e w1 ⟨rfl, hw⟩; rw [hw]; clear hw)
            | (at_builtin; refine wpList_append_lies _ rfl _ _ _ rfl w.heap.size 49 i0 _ 1 8 Try.underlying26 hi0 hz0 hz1 hz2 rfl (by omega) u9 k _ rfl (hown2.alloc _) ⟨wr.heap.size, 0, none⟩ 1 1 [.int .u64 y] rfl rfl (World.news_of_block (cs := #[.int .u64 y]) (t := 49) (fr := (0, 0)) (heap_alloc_new wr _)) (by simp [Value.oneCell']) (by omega) (by unfold maxLen; omega) (by omega) (by simp; omega) (wr.heap.size + 1) (by simp) ?_; intro gg cap2 w3 hown3 hgrow hat hltg))
          rw [← HQ.out] at hown3
          have R := hide (app_step hB hown hown3 hgrow HY.out)
          clear hown3 hgrow hat hltg hown hown2
          go_roundw
          case rel => exact ⟨k + 1, by omega, by go_num, R.out.1, R.out.2⟩
          case measure => simp [intOf]; omega
        · obtain rfl : k = ys.length := by omega
          have ht := hide (rTrim_any _ _ _ (HR.out wr u9 _ _ _ (by omega) hown))
          go_wp2_with (go_at_call 22; refine ht.out.mono ?_; rintro e w1 ⟨v', rfl, hO, hb⟩)
          go_ret2
          exact ⟨_, rfl, own_mono hO hB.size, Below.next hB hb⟩
    · go_loopw [9, 10] (fun vo vi wr => ∃ k : Nat, k ≤ xs.length ∧ vi = .int .i64 k ∧ wr.ownsRow w.heap.size 49 1 vo k (vals (mk k F)) ∧ Below w.heap.size w wr) (fun _ vi _ => xs.length - (intOf vi).toNat)
      case atStart => exact ⟨0, Nat.zero_le _, rfl, World.ownsRow_nil _ _ _ _, Below.refl _ _⟩
      case round =>
        obtain ⟨k, hkl, rfl, hown, hB⟩ := hrel
        by_cases hlk : k < xs.length
        · have hbs := hB.size
          have a1' := hide (A1.out wr k hB (by omega))
          have a2' := hide (A2.out wr k hB (by omega))
          have s' := hide (fun W => HS.out W k)
          obtain ⟨y, HY⟩ : ∃ y, Hid (F k = y) := ⟨_, rfl⟩
          rw [HFk.out k, HY.out] at s'
          generalize co xs k = x1 at *
          generalize co ys k = x2 at *
          have hown2 := hown
          generalize hq : mk k F = q at hown2
          have HQ := hide hq
          clear hq
          go_wp2_with fail
          refine (hP.out _).mono ?_; rintro e w1 ⟨rfl, hw⟩; rw [hw]; clear hw
          go_wp2_with fail
          refine a1'.out.mono ?_; rintro e w1 ⟨rfl, hw⟩; rw [hw]; clear hw
          go_wp2_with fail
          refine a2'.out.mono ?_; rintro e w1 ⟨rfl, hw⟩; rw [hw]; clear hw
          go_wp2_with (first
            | (go_at_call 34; refine (s'.out _).mono ?_; rintro e w1 ⟨rfl, hw⟩; rw [hw]; clear hw)
            | (at_builtin; refine wpList_append_lies _ rfl _ _ _ rfl w.heap.size 49 i0 _ 1 8 Try.underlying26 hi0 hz0 hz1 hz2 rfl (by omega) u9 k _ rfl (hown2.alloc _) ⟨wr.heap.size, 0, none⟩ 1 1 [.int .u64 y] rfl rfl (World.news_of_block (cs := #[.int .u64 y]) (t := 49) (fr := (0, 0)) (heap_alloc_new wr _)) (by simp [Value.oneCell']) (by omega) (by unfold maxLen; omega) (by omega) (by simp; omega) (wr.heap.size + 1) (by simp) ?_; intro gg cap2 w3 hown3 hgrow hat hltg))
          rw [← HQ.out] at hown3
          have R := hide (app_step hB hown hown3 hgrow HY.out)
          clear hown3 hgrow hat hltg hown hown2
          go_roundw
          case rel => exact ⟨k + 1, by omega, by go_num, R.out.1, R.out.2⟩
          case measure => simp [intOf]; omega
        · obtain rfl : k = xs.length := by omega
          have ht := hide (rTrim_any _ _ _ (HR.out wr u9 _ _ _ (by omega) hown))
          go_wp2_with (go_at_call 22; refine ht.out.mono ?_; rintro e w1 ⟨v', rfl, hO, hb⟩)
          go_ret2
          exact ⟨_, rfl, own_mono hO hB.size, Below.next hB hb⟩
  · have ht : (er f xs ys != 0) = true := bne_iff_ne.2 he
    rw [if_neg he]
    clear h1 h2 he
    generalize er f xs ys = e0 at *
    apply Gives.none
    go_enter Try.func45, Try.ntmps45
    go_wp2_with (go_at_call 49; refine (hk.out _ (Below.refl _ _)).mono ?_; rintro e w1 ⟨rfl, hw⟩; rw [hw]; clear hw)
    go_ret2
    exact ⟨rfl, Below.refl _ _⟩

set_option maxRecDepth 100000 in
set_option maxHeartbeats 400000 in
theorem dEval_any (f t : Int) (v : Value) (xs : List Int) (w : World) (hc : 0 ≤ t ∧ t ≤ 18446744073709551615) (h1 : Rw w v xs) :
    Calls Try.prog 24 #[.int .u8 f, v, .int .u64 t] w fun e w' => e = .returned (.tuple #[.int .u64 (valE f t xs), .int .i64 (er f xs [t])]) ∧ Below w.heap.size w w' := by
  obtain ⟨a1, c1, rfl, _⟩ := h1.spell
  have hk := hide (fun T => rBad_any f _ _ xs [t] _ (h1.below (alloc_below _ _)) (rw1 w t hc T))
  unfold valE
  by_cases he : er f xs [t] = 0
  · obtain ⟨p, wd, h, i1, i2, m1, m2⟩ := er_zero he
    rw [if_pos he, he, pOf_eq h]
    rw [he] at hk
    have hte : El p t := els_of i2 (by simp [hc]) t (List.mem_singleton.2 rfl)
    have hp0 := h.pos
    have hp1 := h.top
    have hp2 : 1 < p := by have := h.md.bounds; omega
    have hP := hide (fun W => rP_yes f p wd W h)
    have HX := hide (els_of i1 h1.words)
    have H0 := hide (px_zero hp2 t)
    have H1 := hide (lw_zero p t xs)
    have t0 := hte.1
    have t1 := hc.2
    have HL : Hid (lw p t xs xs.length = vl p t xs) := rfl
    rw [← HL.out]
    obtain ⟨⟨a, c, hv, _, _, hcell⟩, _⟩ := h1
    cases hv
    clear h i1 i2 he HL
    go_enter Try.func24, Try.ntmps24
    go_wp2_with (go_at_call 49; refine (hk.out _).mono ?_; rintro e w1 ⟨rfl, hw⟩; rw [hw]; clear hw)
    go_loopw [9, 10, 11] (fun vs vp vi wr => ∃ k : Nat, k ≤ xs.length ∧ vi = .int .i64 k ∧ vs = .int .u64 (lw p t xs k) ∧ vp = .int .u64 (px p t k) ∧ Below w.heap.size w wr) (fun _ _ vi _ => xs.length - (intOf vi).toNat)
    case atStart => exact ⟨0, Nat.zero_le _, rfl, by rw [H1.out], by rw [H0.out], alloc_below _ _⟩
    case round =>
      obtain ⟨k, hkl, rfl, rfl, rfl, hB⟩ := hrel
      by_cases hlt : k < xs.length
      · obtain ⟨b, o, rfl, hbl, hcl⟩ := hcell (by intro h; rw [h] at hlt; simp at hlt)
        have d1 := (hB.cell (p := ⟨b, o + k, none⟩) hbl).trans (hcl k hlt)
        have HS := hide (lw_step p t xs k)
        have HQ := hide (px_step p t k)
        have e1 := lw_el hp0 t xs k
        have e2 := px_el hp0 t k
        have e3 := HX.out.co hp0 k
        have sm' := mul_el (a := co xs k) (b := px p t k) hp0
        have hco : xs.getD k 0 = co xs k := rfl
        rw [hco] at d1
        have k0 : (0 : Int) ≤ (k : Int) := Int.natCast_nonneg _
        have k1 : (k : Int) < (xs.length : Int) := by omega
        clear hco hcl hcell HX
        generalize co xs k = x at *
        generalize hs : lw p t xs k = s at *
        generalize hq : px p t k = q at *
        have sa := hide (fun W => rSum_any p s (mul p x q) W hp1 e1 sm')
        have sx := hide (fun W => rTimes_any p x q W hp1 e3 e2.1 (elWord e2 hp1).2)
        have st := hide (fun W => rTimes_any p q t W hp1 e2 t0 t1)
        rw [HS.out] at sa
        rw [HQ.out] at st
        clear e1 e2 e3 sm' hs hq HS HQ
        obtain ⟨s2, HS2⟩ : ∃ s2, Hid (lw p t xs (k + 1) = s2) := ⟨_, rfl⟩
        obtain ⟨q2, HQ2⟩ : ∃ q2, Hid (px p t (k + 1) = q2) := ⟨_, rfl⟩
        rw [HS2.out] at sa
        rw [HQ2.out] at st
        generalize mul p x q = z at *
        go_wp2_with fail
        go_quiet ((first
          | (go_at_call 23; exact Calls.quiet_of_same (hP.out _))
          | (go_at_call 35; exact Calls.quiet_of_same (sx.out _))
          | (go_at_call 33; exact Calls.quiet_of_same (sa.out _))))
        have hW2 := below_drewN hB nq
        clear hB d1
        go_wp2_with (first
          | (go_at_call 23; refine (hP.out _).mono ?_; rintro e w1 ⟨rfl, hw⟩; rw [hw]; clear hw)
          | (go_at_call 35; refine (st.out _).mono ?_; rintro e w1 ⟨rfl, hw⟩; rw [hw]; clear hw))
        go_roundw
        case rel => exact ⟨k + 1, by omega, by go_num, by rw [HS2.out], by rw [HQ2.out], hW2⟩
        case measure => simp [intOf]; omega
      · obtain rfl : k = xs.length := by omega
        clear hcell
        go_wp2
        go_ret2
        exact ⟨rfl, hB⟩
  · have ht : (er f xs [t] != 0) = true := bne_iff_ne.2 he
    rw [if_neg he]
    clear h1 he
    generalize er f xs [t] = e0 at *
    go_enter Try.func24, Try.ntmps24
    go_wp2_with (go_at_call 49; refine (hk.out _).mono ?_; rintro e w1 ⟨rfl, hw⟩; rw [hw]; clear hw)
    go_ret2
    exact ⟨rfl, alloc_below _ _⟩

end Go.Proofs.Ytfbipnhhnmlhfaa
