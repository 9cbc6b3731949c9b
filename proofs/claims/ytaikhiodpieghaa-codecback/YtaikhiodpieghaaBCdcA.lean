import Derived.Test.YtaikhiodpieghaaBWirB
set_option linter.unusedVariables false
set_option linter.unusedSimpArgs false
set_option maxRecDepth 100000
set_option maxHeartbeats 4000000
namespace Go.Proofs.Ytaikhiodpieghaa.Fld
structure Mg where
 k : Int
 r : Int
 v : Int
 f : Int
 l : List Int
def mg0 : Mg := ⟨0, 0, 0, 0, []⟩
def mgM (m : Mg) : Bool := decide ((m.k = 1 ∨ m.k = 2) ∧ 0 <= m.r ∧ m.r < 65536 ∧ 0 <= m.v ∧ m.v < 64 ∧ inW m.f m.l = true ∧ m.l.length <= 64)
def mgS (m n : Mg) : Bool := decide (m.k = n.k ∧ m.r = n.r ∧ m.v = n.v ∧ m.f = n.f ∧ m.l = n.l)
def mgI (m : Mg) : List Int := m.k :: (wd8 m.r 4 ++ (wd8 m.v 4 ++ lsF m.f m.l))
def mwE (m : Mg) : Int := if mgM m = true then 0 else 2
def mwI (m : Mg) : List Int := if mgM m = true then mgI m else []
def mwL (S : List Int -> Int) (m : Mg) : List Int := if mgM m = true then slF S (mgI m) else []
def miM (is : List Int) : Mg := ⟨is.getD 0 0, tk8 ((is.drop 1).take 4), tk8 ((is.drop 5).take 4), rlF (is.drop 9), rlX (is.drop 9)⟩
def miK (is : List Int) : Bool := decide (9 <= is.length ∧ rlE (is.drop 9) = 0 ∧ mgM (miM is) = true ∧ mgI (miM is) = is)
def mrE (S : List Int -> Int) (bs : List Int) : Int := if usE S bs ≠ 0 then usE S bs else if 12 + usN bs = bs.length ∧ miK (usL S bs) = true then 0 else 8
def mrM (S : List Int -> Int) (bs : List Int) : Mg := if mrE S bs = 0 then miM (usL S bs) else mg0
theorem mgM_facts {m : Mg} (h : mgM m = true) : (m.k = 1 ∨ m.k = 2) ∧ 0 <= m.r ∧ m.r < 65536 ∧ 0 <= m.v ∧ m.v < 64 ∧ inW m.f m.l = true ∧ m.l.length <= 64 := of_decide_eq_true h
theorem mgM_ls {m : Mg} (h : mgM m = true) : lsE m.f m.l = 0 := by
 obtain ⟨_, _, _, _, _, h6, h7⟩ := mgM_facts h
 unfold lsE
 rw [if_pos h6, if_neg (by omega)]
theorem mgI_by {m : Mg} (h : mgM m = true) : By (mgI m) := by
 obtain ⟨h1, _, _, _, _, h6, _⟩ := mgM_facts h
 exact By.cons (by omega) (by omega) ((wd8_by _ _).app ((wd8_by _ _).app (lsF_by (inW_field h6) _)))
theorem mgI_len {m : Mg} (h : mgM m = true) : 14 <= (mgI m).length ∧ (mgI m).length <= 526 := by
 obtain ⟨_, _, _, _, _, h6, h7⟩ := mgM_facts h
 have e : (mgI m).length = 9 + (5 + m.l.length * wF m.f) := by
  unfold mgI
  rw [List.length_cons, List.length_append, List.length_append, wd8_len, wd8_len, lsF_len]; omega
 have hq : wF m.f <= 8 := by rcases inW_field h6 with e | e <;> rw [e] <;> decide
 have hm : m.l.length * wF m.f <= 64 * 8 := Nat.mul_le_mul h7 hq
 omega
theorem mi_of_mg {m : Mg} (h : mgM m = true) (h0 : ∀ x ∈ m.l, 0 <= x) : miM (mgI m) = m ∧ miK (mgI m) = true := by
 obtain ⟨h1, h2, h3, h4, h5, h6, h7⟩ := mgM_facts h
 have hL := mgI_len h
 have r4 : (256 : Int) ^ 4 = 4294967296 := by decide
 have d1 : (mgI m).drop 1 = wd8 m.r 4 ++ (wd8 m.v 4 ++ lsF m.f m.l) := rfl
 have d5 : (mgI m).drop 5 = wd8 m.v 4 ++ lsF m.f m.l := by
  rw [show (5 : Nat) = 1 + 4 from rfl, <- List.drop_drop, d1, List.drop_left' (wd8_len _ _)]
 have d9 : (mgI m).drop 9 = lsF m.f m.l := by
  rw [show (9 : Nat) = 5 + 4 from rfl, <- List.drop_drop, d5, List.drop_left' (wd8_len _ _)]
 obtain ⟨q1, q2, q3, q4⟩ := read_list (mgM_ls h) h0 []
 rw [List.append_nil] at q1 q2 q3 q4
 have e : miM (mgI m) = m := by
  unfold miM
  rw [d1, d5, d9, q2, q4, List.take_left' (wd8_len _ _), List.take_left' (wd8_len _ _), tk8_wd8 h2 (by omega), tk8_wd8 h4 (by omega)]
  rfl
 refine ⟨e, decide_eq_true ⟨by omega, by rw [d9]; exact q1, by rw [e]; exact h, by rw [e]⟩⟩
theorem miK_facts {is : List Int} (h : miK is = true) : 9 <= is.length ∧ rlE (is.drop 9) = 0 ∧ mgM (miM is) = true ∧ mgI (miM is) = is := of_decide_eq_true h
theorem miK_iff {is : List Int} (hb : By is) : miK is = true ↔ 0 < is.length ∧ rcE (is.drop 1) = 0 ∧ rcE (is.drop 5) = 0 ∧ rlE (is.drop 9) = 0 ∧ (is.drop 9).length = 5 + rlN (is.drop 9) * wF (rlF (is.drop 9)) ∧ mgM (miM is) = true := by
 constructor
 · intro h
   obtain ⟨h1, h2, h3, h4⟩ := miK_facts h
   obtain ⟨_, g2, g3, g4, g5, _, _⟩ := mgM_facts h3
   have k1 : rcE (is.drop 1) = 0 := by
    unfold rcE
    have : tk8 ((is.drop 1).take 4) < 65536 := g3
    rw [if_neg (by rw [List.length_drop]; omega), if_neg (by omega)]
   have k5 : rcE (is.drop 5) = 0 := by
    unfold rcE
    have : tk8 ((is.drop 5).take 4) < 64 := g5
    rw [if_neg (by rw [List.length_drop]; omega), if_neg (by omega)]
   refine ⟨by omega, k1, k5, h2, ?_, h3⟩
   have e1 : (mgI (miM is)).length = is.length := by rw [h4]
   have e2 : (mgI (miM is)).length = 9 + (5 + rlN (is.drop 9) * wF (rlF (is.drop 9))) := by
    unfold mgI
    rw [List.length_cons, List.length_append, List.length_append, wd8_len, wd8_len, lsF_len]
    show 4 + (4 + (5 + (rlX (is.drop 9)).length * wF (rlF (is.drop 9)))) + 1 = _
    rw [rlX_len]; omega
   rw [List.length_drop]; omega
 · rintro ⟨h0, h1, h5, h9, hl, hm⟩
   have l1 := (rcE_zero h1).1
   have l5 := (rcE_zero h5).1
   have l9 := (rlE_zero h9).1
   rw [List.length_drop] at l1 l5 l9
   refine decide_eq_true ⟨by omega, h9, hm, ?_⟩
   have w1 := wd8_tk8 ((hb.drop 1).take 4)
   have w5 := wd8_tk8 ((hb.drop 5).take 4)
   rw [List.length_take, List.length_drop, Nat.min_eq_left (by omega)] at w1 w5
   have w9 := (list_read (hb.drop 9) h9).2
   rw [<- hl, List.take_length] at w9
   show is.getD 0 0 :: (wd8 (tk8 ((is.drop 1).take 4)) 4 ++ (wd8 (tk8 ((is.drop 5).take 4)) 4 ++ lsF (rlF (is.drop 9)) (rlX (is.drop 9)))) = is
   rw [w1, w5, w9]
   have e5 : (is.drop 5).take 4 ++ is.drop 9 = is.drop 5 := by
    have := List.take_append_drop 4 (is.drop 5)
    rw [List.drop_drop] at this; exact this
   have e1 : (is.drop 1).take 4 ++ is.drop 5 = is.drop 1 := by
    have := List.take_append_drop 4 (is.drop 1)
    rw [List.drop_drop] at this; exact this
   rw [e5, e1]
   cases is with
   | nil => simp at h0
   | cons b bs => rfl
theorem mrE_zero {S : List Int -> Int} {bs : List Int} (h : mrE S bs = 0) : usE S bs = 0 ∧ 12 + usN bs = bs.length ∧ miK (usL S bs) = true := by
 unfold mrE at h
 by_cases h1 : usE S bs ≠ 0
 · rw [if_pos h1] at h; exact absurd h h1
 · rw [if_neg h1] at h
   by_cases h2 : 12 + usN bs = bs.length ∧ miK (usL S bs) = true
   · exact ⟨by omega, h2.1, h2.2⟩
   · rw [if_neg h2] at h; cases h
theorem mr_of_mw {S : List Int -> Int} (hS : ∀ bs, 0 <= S bs ∧ S bs <= 18446744073709551615) {m : Mg} (h : mgM m = true) (h0 : ∀ x ∈ m.l, 0 <= x) : mrE S (slF S (mgI m)) = 0 ∧ mrM S (slF S (mgI m)) = m := by
 have hl := mgI_len h
 obtain ⟨e1, e2, e3⟩ := unseal_seal hS (bs := mgI m) (by omega) []
 rw [List.append_nil] at e1 e2 e3
 obtain ⟨e4, e5⟩ := mi_of_mg h h0
 have e6 : mrE S (slF S (mgI m)) = 0 := by
  unfold mrE
  rw [if_neg (by omega), if_pos ⟨by rw [e2, slF_len], by rw [e3]; exact e5⟩]
 refine ⟨e6, ?_⟩
 unfold mrM
 rw [if_pos e6, e3, e4]
theorem mw_of_mr {S : List Int -> Int} {bs : List Int} (hb : By bs) (h : mrE S bs = 0) : mgM (mrM S bs) = true ∧ slF S (mgI (mrM S bs)) = bs := by
 obtain ⟨h1, h2, h3⟩ := mrE_zero h
 obtain ⟨_, _, k3, k4⟩ := miK_facts h3
 have e : mrM S bs = miM (usL S bs) := by unfold mrM; rw [if_pos h]
 rw [e]
 refine ⟨k3, ?_⟩
 rw [k4, (seal_unseal hb h1).2, h2, List.take_length]
theorem miK_again {S : List Int -> Int} (hS : ∀ bs, 0 <= S bs ∧ S bs <= 18446744073709551615) {bs : List Int} (hb : By bs) (h : usE S bs = 0) (hn : 12 + usN bs = bs.length) (h9 : 9 <= (usL S bs).length) (he : rlE ((usL S bs).drop 9) = 0) (hm : mgM (miM (usL S bs)) = true) :
 miK (usL S bs) = decide (slF S (mgI (miM (usL S bs))) = bs) := by
 have hs := (seal_unseal hb h).2
 rw [hn, List.take_length] at hs
 have key : mgI (miM (usL S bs)) = usL S bs ↔ slF S (mgI (miM (usL S bs))) = bs := by
  constructor
  · intro e; rw [e]; exact hs
  · intro e
    have hl := mgI_len hm
    have e3 := (unseal_seal hS (bs := mgI (miM (usL S bs))) (by omega) []).2.2
    rw [List.append_nil, e] at e3
    exact e3.symm
 unfold miK
 rw [decide_eq_decide]
 exact ⟨fun h => key.1 h.2.2.2, fun h => ⟨h9, he, hm, key.2 h⟩⟩
theorem mg_eq {m n : Mg} (h1 : m.k = n.k) (h2 : m.r = n.r) (h3 : m.v = n.v) (h4 : m.f = n.f) (h5 : m.l = n.l) : m = n := by
 cases m; cases n; simp_all
theorem mgS_iff (m n : Mg) : mgS m n = true ↔ m = n := by
 unfold mgS
 rw [decide_eq_true_iff]
 exact ⟨fun ⟨h1, h2, h3, h4, h5⟩ => mg_eq h1 h2 h3 h4 h5, fun h => by subst h; exact ⟨rfl, rfl, rfl, rfl, rfl⟩⟩
theorem mgS_self (m : Mg) : mgS m m = true := (mgS_iff m m).2 rfl
theorem mg_turned {S : List Int -> Int} {m : Mg} {bs : List Int} (hb : By bs) (hne : bs ≠ slF S (mgI m)) : (decide (mrE S bs = 0) && mgS m (mrM S bs)) = false := by
 rw [Bool.and_eq_false_iff]
 by_cases h : mrE S bs = 0
 · right
   cases hs : mgS m (mrM S bs) with
   | false => rfl
   | true =>
    have e := (mgS_iff _ _).1 hs
    have := (mw_of_mr hb h).2
    rw [<- e] at this
    exact absurd this.symm hne
 · left; exact decide_eq_false h
end Go.Proofs.Ytaikhiodpieghaa.Fld
