/-
  Layer 6: the tree, grown.
-/
import Derived.Test.YtifilgmjpflekaaBTreI
namespace Go.Proofs.Ytifilgmjpflekaa
open Go.RowKit Fld
set_option linter.unusedVariables false

theorem sl2_info : (Try.prog.info? 39).map (fun i => (i.zero, i.size, i.bytes)) = some (some (.slice none 0 0), 1, 24) := by kernel_rfl
theorem ne_kind2 : 39 ≠ 26 := by decide
theorem ne_kind3 : 39 ≠ 25 := by decide

/-- Levels that a call made: level i in blocks from cut i on, below cut (i + 1). -/
structure Lvs (w : World) (lo : Nat) (cut : Nat → Nat) (v : Value) (vs : List Value) (uss : Nat → List Value) (A : Nat → List (List Int)) (N : Nat) : Prop where
  row : w.ownsRow lo 39 1 v N vs
  each : ∀ i, i < N → Lss w (cut i) (cut (i + 1)) (vs.getD i nov) (uss i) (A i)
  mono : ∀ i, i < N → cut i ≤ cut (i + 1)
  from_ : lo ≤ cut 0
theorem Lss.kept {w w' : World} {lo hi : Nat} {v : Value} {us : List Value} {xss : List (List Int)} {r : Option Nat} (h : Lss w lo hi v us xss) (hg : w.grownBy w' r) (h1 : ∀ g, v.ownBlock = some g → r ≠ some g) (h2 : ∀ i g, i < xss.length → (us.getD i nov).ownBlock = some g → r ≠ some g) : Lss w' lo hi v us xss :=
  ⟨own_kept h.row hg h1, fun i hi => own_kept (h.each i hi) hg (fun g hgb => h2 i g hi hgb), h.from_, h.top, h.up⟩
/-- A row of levels is written. -/
theorem Lss.past {w w' : World} {lo hi b n : Nat} {v u : Value} {us vs : List Value} {xss : List (List Int)} (h : Lss w lo hi v us xss) (hu : w.ownsRow b 39 1 u n vs) (hg : w.grownBy w' u.ownBlock) : Lss w' lo hi v us xss :=
  h.kept hg (fun g hgb hc => own_kind hu h.row ne_kind2 g hc hgb) (fun i g hi hgb hc => own_kind hu (h.each i hi) ne_kind3 g hc hgb)
theorem Lvs.below {w w' : World} {lo N : Nat} {cut : Nat → Nat} {v : Value} {vs : List Value} {uss : Nat → List Value} {A : Nat → List (List Int)} (h : Lvs w lo cut v vs uss A N) (hb : Below w.heap.size w w') : Lvs w' lo cut v vs uss A N :=
  ⟨own_below h.row hb, fun i hi => (h.each i hi).below hb, h.mono, h.from_⟩
theorem Lvs.nil (w : World) (lo c : Nat) (A : Nat → List (List Int)) (hc : lo ≤ c) : Lvs w lo (fun _ => c) nov [] (fun _ => []) A 0 :=
  ⟨World.ownsRow_nil _ _ _ _, fun i hi => by omega, fun i hi => by omega, hc⟩
theorem Lvs.lo {w : World} {lo lo' N : Nat} {cut : Nat → Nat} {v : Value} {vs : List Value} {uss : Nat → List Value} {A : Nat → List (List Int)} (h : Lvs w lo cut v vs uss A N) (hl : lo' ≤ lo) : Lvs w lo' cut v vs uss A N :=
  ⟨own_mono h.row hl, h.each, h.mono, Nat.le_trans hl h.from_⟩
theorem Lvs.cuts {w : World} {lo N : Nat} {cut : Nat → Nat} {v : Value} {vs : List Value} {uss : Nat → List Value} {A : Nat → List (List Int)} (h : Lvs w lo cut v vs uss A N) : ∀ i, i ≤ N → ∀ j, j ≤ i → cut j ≤ cut i := by
  intro i
  induction i with
  | zero => intro _ j hj; have : j = 0 := by omega
            rw [this]; exact Nat.le_refl _
  | succ i ih =>
    intro hi j hj
    by_cases e : j = i + 1
    · rw [e]; exact Nat.le_refl _
    · exact Nat.le_trans (ih (by omega) j (by omega)) (h.mono i (by omega))
theorem Lvs.push {w w1 w3 : World} {lo hi H N : Nat} {cut : Nat → Nat} {v v3 lv : Value} {vs us : List Value} {uss : Nat → List Value} {A : Nat → List (List Int)} {T : TypeId} (h : Lvs w1 lo cut v vs uss A N) (hL : Lss w1 (cut N) hi lv us (A N)) (hH : hi ≤ H) (hc : cut N ≤ H) (hlo2 : w.heap.size ≤ lo) (hB : Below w.heap.size w w1)
    (h3 : w3.ownsRow lo 39 1 v3 (N + 1) (vs ++ [lv])) (hg : (w1.alloc (.cells #[lv] T)).grownBy w3 v.ownBlock) :
    Lvs w3 lo (fun i => if i ≤ N then cut i else H) v3 (vs ++ [lv]) (fun i => if i < N then uss i else us) A (N + 1) ∧ Lss w3 (cut N) hi lv us (A N) ∧ Below w.heap.size w w3 := by
  have hal := alloc_below w1 (.cells #[lv] T)
  have hvl : vs.length = N := by have := h.row.1; omega
  have keep : ∀ {lo hi : Nat} {t : Value} {us : List Value} {xss : List (List Int)}, Lss w1 lo hi t us xss → Lss w3 lo hi t us xss := fun hL => (hL.below hal).past (own_below h.row hal) hg
  refine ⟨⟨h3, fun i hi' => ?_, fun i hi' => ?_, ?_⟩, keep hL, ?_⟩
  · rw [getD_snoc, hvl]
    by_cases hi2 : i < N
    · rw [if_pos hi2, if_pos hi2, if_pos (by omega), if_pos (by omega)]; exact keep (h.each i hi2)
    · have : i = N := by omega
      subst this
      rw [if_neg hi2, if_neg hi2, if_pos rfl, if_pos (Nat.le_refl _), if_neg (by omega)]; exact (keep hL).more hH
  · by_cases hi2 : i < N
    · rw [if_pos (by omega), if_pos (by omega)]; exact h.mono i hi2
    · have : i = N := by omega
      subst this
      rw [if_pos (Nat.le_refl _), if_neg (by omega)]; exact hc
  · rw [if_pos (Nat.zero_le _)]; exact h.from_
  · refine (hB.alloc hB.size _).grown hg ?_ ?_
    · simp; have := hB.size; omega
    · intro k hk
      have := own_base h.row k hk
      omega

def lenV : Value → Nat
  | .slice _ m _ => m
  | _ => 0
/-- How many levels there are. -/
def Tall (n N : Nat) : Prop := (n = 0 ∧ N = 0) ∨ (0 < n ∧ ∃ L, N = L + 1 ∧ cn n (2 ^ L) = 1 ∧ ∀ i, i < L → 1 < cn n (2 ^ i))
def tre (p : Int) (xs : List Int) : Nat → List (List Int) := fun i => lvl p xs (2 ^ i)
theorem cn_pos {n s : Nat} (hn : 0 < n) (hs : 0 < s) : 0 < cn n s := (cn_lt hs).2 (by omega)
theorem cn_half {n s : Nat} (hs : 0 < s) (h : 1 < cn n s) : cn n (2 * s) < cn n s := by
  have h1 : ¬ cn n s - 1 < cn n (2 * s) := by rw [cn_two hs]; omega
  omega

set_option maxRecDepth 100000 in
set_option maxHeartbeats 400000 in
theorem grown_any (f p : Int) (wd : Bool) (v : Value) (xs : List Int) (w : World) (h : Fi f p wd) (h1 : Rw w v xs) (hx : Els p xs) (hl : xs.length ≤ 2048) :
    Calls Try.prog 76 #[.int .u8 f, v] w fun e w' => ∃ v' cut vs uss N, e = .returned v' ∧ Lvs w' w.heap.size cut v' vs uss (tre p xs) N ∧ Tall xs.length N ∧ cut N ≤ w'.heap.size ∧ Below w.heap.size w w' := by
  obtain ⟨i0, hi0, hz0, hz1, hz2⟩ := info_parts sl2_info
  have hmf : ∀ (fn : Fn) (first cap : Array Value) (w : World), (Instr.makeFunc fn first cap).run Try.prog w = .ok (.func fn first cap) w := fun _ _ _ _ => rfl
  have HF := hide (fun W (hb : Below w.heap.size w W) => factors_any f p wd v xs W h (h1.below hb) hx hl)
  have HP : Hid (∀ j W u us lo hi, Lss W lo hi u us (tre p xs j) → W.cell? ⟨w.heap.size, 0, none⟩ = some (.int .u8 f) → w.heap.size < W.heap.size → Calls Try.prog 96 #[u, .func (.func 93) #[] #[.pointer (some ⟨w.heap.size, 0, none⟩)]] W fun e w' => ∃ v' us, e = .returned v' ∧ Lss w' W.heap.size w'.heap.size v' us (tre p xs (j + 1)) ∧ Below W.heap.size W w') := fun j W u us lo hi hL hc hb => by
    have hcn : cn xs.length (2 ^ j) ≤ 2048 := by
      apply Nat.le_of_not_lt; intro hcon
      have := (cn_lt (Nat.pow_pos (by decide))).1 hcon
      have := Nat.le_mul_of_pos_right 2048 (Nat.pow_pos (n := j) (show 0 < 2 by decide))
      omega
    have := paired_any f p wd u xs (2 ^ j) w.heap.size W h (Nat.pow_pos (by decide)) hl (hL.rws (lvl_wd h.md h.top xs _ hl) (by rw [show (tre p xs j).length = _ from lvl_len p xs (2 ^ j)]; omega)) hc hb
    rw [show 2 * 2 ^ j = 2 ^ (j + 1) by rw [Nat.pow_succ, Nat.mul_comm]] at this
    exact this
  have HLn : Hid (∀ j, (tre p xs j).length = cn xs.length (2 ^ j)) := fun j => lvl_len p xs (2 ^ j)
  obtain ⟨a1, c1, rfl, _⟩ := h1.spell
  clear h1 h hx
  go_enter Try.func76, Try.ntmps76
  go_wp2_with (go_at_call 95; refine (HF.out _ (alloc_below _ _)).mono ?_; rintro e w1 ⟨v7, us, rfl, hL, hb1⟩)
  obtain ⟨w0, HW0⟩ : ∃ w0, Hid (w.alloc (.cells #[.int .u8 f] 22) = w0) := ⟨_, rfl⟩
  have hs0 : w0.heap.size = w.heap.size + 1 := by rw [← HW0.out]; simp
  have hb0 : Below w.heap.size w w0 := by rw [← HW0.out]; exact alloc_below _ _
  have hcell0 : w0.cell? ⟨w.heap.size, 0, none⟩ = some (.int .u8 f) := by rw [← HW0.out]; simp [go_sem]
  have HC0 : Hid (∀ W, Below w0.heap.size w0 W → W.cell? ⟨w.heap.size, 0, none⟩ = some (.int .u8 f)) := fun W hb => (hb.cell (p := ⟨w.heap.size, 0, none⟩) (by rw [hs0]; exact Nat.lt_succ_self _)).trans hcell0
  rw [HW0.out] at hL hb1
  clear HW0 hcell0 HF
  have hL1 : Hid (Lss w1 w0.heap.size w1.heap.size v7 us (tre p xs 0)) := hL
  clear hL
  go_loopw [6, 7] (fun vv vl wr => ∃ (j : Nat) (cut : Nat → Nat) (vs : List Value) (uss : Nat → List Value) (us : List Value), Hid (Lvs wr w0.heap.size cut vv vs uss (tre p xs) j) ∧ Hid (Lss wr (cut j) wr.heap.size vl us (tre p xs j)) ∧ cut j ≤ wr.heap.size ∧ Below w0.heap.size w0 wr ∧ Hid (∀ i, i < j → 1 < cn xs.length (2 ^ i)) ∧ j ≤ 2048) (fun _ vl _ => lenV vl)
  case atStart => exact ⟨0, fun _ => w0.heap.size, [], fun _ => [], us, Lvs.nil _ _ _ _ (Nat.le_refl _), hL1, hb1.size, hb1, fun i hi => by omega, by omega⟩
  case round =>
    clear hL1 hb1
    obtain ⟨j, cut, vs, uss, us, HV, HL, hcj, hB, HG, hj⟩ := hrel
    obtain ⟨al, cl, rfl⟩ := own_form HL.out.row
    have hm := HLn.out j
    by_cases hn : xs.length = 0
    · have hj0 : j = 0 := by
        apply Classical.byContradiction; intro hne
        have := HG.out 0 (by omega)
        rw [hn] at this; simp [cn] at this
      subst hj0
      have hz : (tre p xs 0).length = 0 := by rw [hm, hn]; simp [cn]
      rw [hz]
      clear hm hz HP
      go_wp2
      go_ret
      exact ⟨_, cut, vs, uss, 0, rfl, HV.out.lo (by omega), .inl ⟨hn, rfl⟩, hcj, Below.next hb0 hB⟩
    · have hmp := cn_pos (n := xs.length) (s := 2 ^ j) (by omega) (Nat.pow_pos (by decide))
      have hvl : vs.length = j := by have := HV.out.row.1; omega
      have hbs := hB.size
      have hpc := hide (fun W (hl : Lss W (cut j) wr.heap.size (.slice al (tre p xs j).length cl) us (tre p xs j)) (hb : Below w0.heap.size w0 W) => HP.out j W _ us _ _ hl (HC0.out W hb) (by have := hb.size; omega))
      have hmn : cn xs.length (2 ^ j) ≤ 2048 := by
        apply Nat.le_of_not_lt; intro hcon
        have := (cn_lt (Nat.pow_pos (by decide))).1 hcon
        have := Nat.le_mul_of_pos_right 2048 (Nat.pow_pos (n := j) (show 0 < 2 by decide))
        omega
      have HM := hide hm
      rw [hm] at hpc HL ⊢
      have HH := hide (fun h => cn_half (n := xs.length) (s := 2 ^ j) (Nat.pow_pos (by decide)) h)
      clear hm
      by_cases hone : cn xs.length (2 ^ j) = 1
      · have HT : Hid (Tall xs.length (j + 1)) := .inr ⟨by omega, j, rfl, hone, HG.out⟩
        rw [hone] at HL hpc ⊢
        clear hmp hmn HH
        go_wp2_with (at_builtin; refine wpList_append_lies _ rfl _ _ _ rfl w0.heap.size 39 i0 _ 1 24 Try.underlying100 hi0 hz0 hz1 hz2 rfl (by omega) u6 j vs rfl (HV.out.row.alloc _) ⟨wr.heap.size, 0, none⟩ 1 1 [.slice al 1 cl] rfl rfl (World.news_of_block (cs := #[.slice al 1 cl]) (t := 39) (fr := (0, 0)) (heap_alloc_new wr _)) (by simp [Value.oneCell']) (by omega) (by unfold maxLen; omega) (by omega) (by simp; omega) (wr.heap.size + 1) (by simp) ?_; intro gg cap2 w4 hown4 hgrow hat hltg)
        have R := hide (HV.out.push (w := w0) (H := w4.heap.size) HL.out (by have := hgrow.size; simp at this; omega) (by have := hgrow.size; simp at this; omega) (Nat.le_refl _) hB hown4 hgrow)
        go_ret
        exact ⟨_, _, _, _, j + 1, rfl, R.out.1.lo (by omega), HT.out, by rw [if_neg (by omega)]; exact Nat.le_refl _, Below.next hb0 R.out.2.2⟩
      · have hgt : 1 < cn xs.length (2 ^ j) := by omega
        have HG2 : Hid (∀ i, i < j + 1 → 1 < cn xs.length (2 ^ i)) := fun i hi => by
          by_cases e : i = j
          · rw [e]; exact hgt
          · exact HG.out i (by omega)
        have hj2 : j + 1 ≤ 2048 := by
          have h1 := (cn_lt (n := xs.length) (i := 1) (s := 2 ^ j) (Nat.pow_pos (by decide))).1 hgt
          have h2 := Nat.lt_two_pow_self (n := j)
          omega
        have HLj := HLn.out (j + 1)
        have HLT : Hid ((tre p xs (j + 1)).length < cn xs.length (2 ^ j)) := by
          show _ < _
          rw [HLj, Nat.pow_succ, Nat.mul_comm]; exact HH.out hgt
        clear HH HLj hone
        generalize hmm : cn xs.length (2 ^ j) = m at *
        have HMM := hide hmm
        clear hmm
        have m1 : ¬ m = 1 := by omega
        go_wp2_with (first
          | (at_builtin; refine wpList_append_lies _ rfl _ _ _ rfl w0.heap.size 39 i0 _ 1 24 Try.underlying100 hi0 hz0 hz1 hz2 rfl (by omega) u6 j vs rfl (HV.out.row.alloc _) ⟨wr.heap.size, 0, none⟩ 1 1 [.slice al m cl] rfl rfl (World.news_of_block (cs := #[.slice al m cl]) (t := 39) (fr := (0, 0)) (heap_alloc_new wr _)) (by simp [Value.oneCell']) (by omega) (by unfold maxLen; omega) (by omega) (by simp; omega) (wr.heap.size + 1) (by simp) ?_; intro gg cap2 w4 hown4 hgrow hat hltg; have R := hide (HV.out.push (w := w0) (H := w4.heap.size) HL.out (by have := hgrow.size; simp at this; omega) (by have := hgrow.size; simp at this; omega) (Nat.le_refl _) hB hown4 hgrow); clear hown4 hgrow hat hltg)
          | (go_at_call 96; refine (hpc.out _ R.out.2.1 R.out.2.2).mono ?_; rintro e w5 ⟨v8, us8, rfl, hL8, hb8⟩))
        have RV : Hid (Lvs w5 w0.heap.size (fun i => if i ≤ j then cut i else w4.heap.size) _ _ _ _ (j + 1)) := R.out.1.below hb8
        have RB := Below.next R.out.2.2 hb8
        have hL9 : Hid (Lss w5 ((fun i => if i ≤ j then cut i else w4.heap.size) (j + 1)) w5.heap.size v8 us8 (tre p xs (j + 1))) := by
          show Lss _ _ _ _ _ _
          simp only
          rw [if_neg (by omega)]; exact hL8
        have hc9 : (fun i => if i ≤ j then cut i else w4.heap.size) (j + 1) ≤ w5.heap.size := by
          simp only
          rw [if_neg (by omega)]; exact hb8.size
        obtain ⟨a8, c8, rfl⟩ := own_form hL8.row
        clear R hL8 HL HV
        go_roundw
        case rel => exact ⟨j + 1, _, _, _, us8, RV, hL9, hc9, RB, HG2, hj2⟩
        case measure => simp only [lenV]; exact HLT.out

end Go.Proofs.Ytifilgmjpflekaa
