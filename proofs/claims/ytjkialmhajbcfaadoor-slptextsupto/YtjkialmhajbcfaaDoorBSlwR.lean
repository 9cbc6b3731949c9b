/-
  Layer 9: a text's lines, each with its byte 10; the program tells them one by one.
-/
import Derived.Test.YtjkialmhajbcfaaDoorBSlwQ
import Derived.Test.YtjkialmhajbcfaaDoorBRngP
import Derived.WalkKit
import Derived.OwnWalkIn
import Derived.TacticsInMore
import Derived.LoopNIn
import Derived.LoopIn
namespace Go.Proofs.YtjkialmhajbcfaaDoor
open Go.RowKit Fld Slp
set_option linter.unusedVariables false
set_option linter.unusedSimpArgs false

/-- The lines of a text, each with its byte 10; what is left behind the last one is a line too. -/
def lnb : Tx → List Tx
  | [] => []
  | c :: s => if c = 10 then [10] :: lnb s else match lnb s with | [] => [[c]] | l :: ls => (c :: l) :: ls
theorem lnb_hit (b : Tx) : ∀ (a : Tx), (10 : UInt8) ∉ a → lnb (a ++ 10 :: b) = (a ++ [10]) :: lnb b
  | [], _ => by show (if (10 : UInt8) = 10 then _ else _) = _; rw [if_pos rfl]; rfl
  | c :: a, h => by
    have hc : ¬ c = 10 := fun e => h (by rw [e]; exact List.mem_cons_self)
    show (if c = 10 then _ else _) = _
    rw [if_neg hc, show a.append (10 :: b) = a ++ 10 :: b from rfl, lnb_hit b a (fun hm => h (List.mem_cons_of_mem _ hm))]
    rfl
theorem lnb_miss : ∀ (a : Tx), (10 : UInt8) ∉ a → a ≠ [] → lnb a = [a]
  | [], _, h => absurd rfl h
  | c :: a, h, _ => by
    have hc : ¬ c = 10 := fun e => h (by rw [e]; exact List.mem_cons_self)
    show (if c = 10 then _ else _) = _
    rw [if_neg hc]
    by_cases ha : a = []
    · rw [ha]; rfl
    · rw [lnb_miss a (fun hm => h (List.mem_cons_of_mem _ hm)) ha]
theorem lnb_len : ∀ (a : Tx), (lnb a).length ≤ a.length
  | [] => Nat.le_refl _
  | c :: a => by
    have := lnb_len a
    show (if c = 10 then [10] :: lnb a else _).length ≤ _
    split
    · simp; omega
    · split
      · simp
      · rename_i l ls e; rw [e] at this; simp at this ⊢; omega
theorem lnb_nil {a : Tx} (h : lnb a = []) : a = [] := by
  cases a with
  | nil => rfl
  | cons c a =>
    exfalso
    have h' : (if c = 10 then [10] :: lnb a else match lnb a with | [] => [[c]] | l :: ls => (c :: l) :: ls) = [] := h
    split at h'
    · cases h'
    · split at h' <;> cases h'
/-- A text that has the byte is cut at its first one. -/
theorem first10 : ∀ (t : Tx), (10 : UInt8) ∈ t → ∃ a b, t = a ++ 10 :: b ∧ (10 : UInt8) ∉ a
  | [], h => by cases h
  | c :: t, h => by
    by_cases hc : c = 10
    · exact ⟨[], t, by rw [hc]; rfl, by simp⟩
    · obtain ⟨a, b, rfl, ha⟩ := first10 t (by rcases List.mem_cons.1 h with e | h; · exact absurd e.symm hc
                                              · exact h)
      exact ⟨c :: a, b, rfl, fun hm => by
        rcases List.mem_cons.1 hm with e | hm
        · exact hc e.symm
        · exact ha hm⟩

theorem lIndex (t : Tx) (w : World) (i : Int) (hi : Lib.indexByte t 10 = i) : Calls Tryd.prog 59 #[tx t, .int .u8 10] w fun e w' => e = .returned (.int .i64 i) ∧ w' = w :=
  (Tryd.strings_IndexByte ⟨t.toArray⟩ 10 w).mono (fun e w' ⟨he, hw⟩ => ⟨by rw [he]; show Ending.returned (Value.int .i64 (Lib.indexByte t 10)) = _; rw [hi], hw⟩)
theorem tx_none (t : Tx) (W : World) : (binOp .neq 9 (tx t) (.string ⟨#[]⟩)).run Tryd.prog W = .ok (.bool (t != [])) W := by
  unfold tx
  simp [go_sem]
  cases t <;> rfl

theorem tx_len (t : Tx) (W : World) : (Builtin.len_ #[9] 3 #[tx t]).run Tryd.prog W = .ok (.int .i64 t.length) W := by
  unfold tx
  simp [go_sem, tx_size]

/-- What is told of the k-th line. -/
def lnE (s : Tx) (k : Nat) : Array Value := #[.int .i64 ((k : Int) + 1), tx ((lnb s).getD k [])]

set_option maxRecDepth 100000 in
set_option maxHeartbeats 1000000 in
theorem lines_in (s : Tx) (hl : s.length ≤ 281474976710656) (bs l : Nat) (J : Nat → World → Prop) (Jp : Nat → List PanicEntry → World → Prop) (W : World) (hbs : W.cell? ⟨bs, 0, none⟩ = some (tx s))
    (hY : ∀ k W1, k < (lnb s).length → J k W1 → YieldAt Fence.wide 0 Tryd.prog l (lnE s k) W1 fun e W' => (e = .returned (.bool true) ∧ J (k + 1) W') ∨ (∃ ch, e = .panicked ch ∧ Jp k ch W')) (h0 : J 0 W) :
    CallsIn Fence.wide 0 Tryd.prog 58 #[.func (.yield l) #[] #[], .pointer (some ⟨bs, 0, none⟩)] W fun e W' => (∃ v, e = .returned v ∧ J (lnb s).length W') ∨ (∃ ch k, e = .panicked ch ∧ k < (lnb s).length ∧ Jp k ch W') := by
  refine callsIn_of_wp Tryd.func58 rfl trivial ?_ rfl
  simp only [Tryd.ntmps58, List.size_toArray, List.length_cons, List.length_nil, Nat.reduceAdd, Nat.reduceSub, Array.replicate_succ, Array.replicate_zero, List.push_toArray, List.append_toArray, List.nil_append, List.cons_append]
  have hN := lnb_len s
  obtain ⟨N, HN⟩ : ∃ N, Hid ((lnb s).length = N) := ⟨_, rfl⟩
  have HY := hide hY
  clear hY
  rw [HN.out] at hN HY ⊢
  gi_wp2
  gi_loopw [3, 4] (fun vs vn wr => ∃ (k : Nat) (t : Tx), k ≤ N ∧ vs = tx t ∧ vn = .int .i64 ((k : Int) + 1) ∧ Hid (lnb t = (lnb s).drop k) ∧ t.length ≤ 281474976710656 ∧ J k wr) (fun _ vn _ => N + 1 - (intOf vn).toNat)
  case atStart => exact ⟨0, s, Nat.zero_le _, rfl, rfl, rfl, hl, h0⟩
  case round =>
    obtain ⟨k, t, hk, rfl, rfl, HL, ht, hJ⟩ := hrel
    have hg := tx_guard t
    have e1 := tx_none t
    have e2 := tx_len t
    by_cases hlt : k < N
    · have hne : t ≠ [] := fun e => by
        have h1 := HL.out
        rw [e] at h1
        have h2 : (lnb s).length ≤ k := List.drop_eq_nil_iff.1 h1.symm
        rw [HN.out] at h2; omega
      rw [show (t != []) = true by simpa using hne] at e1
      obtain ⟨fn, tmps, assign, body, hy, hR⟩ := HY.out k wr hlt hJ
      unfold lnE at hy
      have hwk : IntKind.i64.wrap ((k : Int) + 1 + 1) = (k : Int) + 1 + 1 := by rw [IntKind.wrap_i64]; omega
      by_cases hm : (10 : UInt8) ∈ t
      · obtain ⟨a, b, rfl, ha⟩ := first10 t hm
        have HI := hide (fun w => callsIn_wide (n := 0).2 (lIndex (a ++ 10 :: b) w a.length (ib_hit 10 a b ha)))
        have hlen : (a ++ 10 :: b).length = a.length + 1 + b.length := by simp; omega
        have f1 := tx_upto (a ++ 10 :: b) ((a.length : Int) + 1) (by omega) (by omega)
        have f2 := tx_from (a ++ 10 :: b) ((a.length : Int) + 1) (by omega) (by omega)
        have g1 : (a ++ 10 :: b).take ((a.length : Int) + 1).toNat = a ++ [10] := by rw [show ((a.length : Int) + 1).toNat = a.length + 1 by omega, show a ++ 10 :: b = (a ++ [10]) ++ b by simp]; exact List.take_left' (by simp)
        have g2 : (a ++ 10 :: b).drop ((a.length : Int) + 1).toNat = b := by rw [show ((a.length : Int) + 1).toNat = a.length + 1 by omega]; simp
        rw [g1] at f1
        rw [g2] at f2
        have hwa : IntKind.i64.wrap ((a.length : Int) + 1) = (a.length : Int) + 1 := by rw [IntKind.wrap_i64]; omega
        have hge : (0 : Int) ≤ (a.length : Int) := by omega
        have hd : (lnb s).drop k = (a ++ [10]) :: lnb b := by rw [← HL.out, lnb_hit b a ha]
        have hgd : (lnb s).getD k [] = a ++ [10] := by rw [List.getD_eq_getElem?_getD, ← List.head?_drop, hd]; rfl
        have HL2 : Hid (lnb b = (lnb s).drop (k + 1)) := by show _ = _; rw [← List.drop_drop, hd]; rfl
        rw [hgd] at hy
        have hb : b.length ≤ 281474976710656 := by omega
        clear g1 g2 hlen hd hgd hm ha HL ht hne
        have hfw : ∀ f, Fence.wide.fn f := fun _ => trivial
        have hdw : Fence.wide.depth = none := rfl
        generalize tx (a ++ [10]) = T1 at *
        generalize tx (a ++ 10 :: b) = T at *
        gi_wp2
        refine (HI.out _).mono ?_
        rintro e w1 ⟨rfl, hw1⟩
        rw [hw1]
        gi_wp2
        refine hR.mono ?_
        rintro e W3 (⟨rfl, hJ3⟩ | ⟨ch, rfl, hJ3⟩)
        · gi_wp2
          go_roundw
          case rel => exact ⟨k + 1, b, by omega, rfl, by congr 1, HL2, hb, hJ3⟩
          case measure => simp [intOf]; omega
        · exact ⟨rfl, .inr ⟨ch, k, rfl, hlt, hJ3⟩⟩
      · have HI := hide (fun w => callsIn_wide (n := 0).2 (lIndex t w (-1) (ib_miss 10 t hm)))
        have f1 := tx_upto t (t.length : Int) (by omega) (by omega)
        have f2 := tx_from t (t.length : Int) (by omega) (by omega)
        have g1 : t.take (t.length : Int).toNat = t := by rw [Int.toNat_natCast]; exact List.take_length
        have g2 : t.drop (t.length : Int).toNat = [] := by rw [Int.toNat_natCast]; exact List.drop_length
        rw [g1] at f1
        rw [g2] at f2
        have hd : (lnb s).drop k = [t] := by rw [← HL.out, lnb_miss t hm hne]
        have hgd : (lnb s).getD k [] = t := by rw [List.getD_eq_getElem?_getD, ← List.head?_drop, hd]; rfl
        have HL2 : Hid (lnb [] = (lnb s).drop (k + 1)) := by show _ = _; rw [← List.drop_drop, hd]; rfl
        rw [hgd] at hy
        clear g1 g2 hd hgd hm HL ht hne
        have hfw : ∀ f, Fence.wide.fn f := fun _ => trivial
        have hdw : Fence.wide.depth = none := rfl
        generalize (t.length : Int) = q at *
        generalize tx t = T at *
        gi_wp2
        refine (HI.out _).mono ?_
        rintro e w1 ⟨rfl, hw1⟩
        rw [hw1]
        gi_wp2
        refine hR.mono ?_
        rintro e W3 (⟨rfl, hJ3⟩ | ⟨ch, rfl, hJ3⟩)
        · gi_wp2
          go_roundw
          case rel => exact ⟨k + 1, [], by omega, rfl, by congr 1, HL2, by simp, hJ3⟩
          case measure => simp [intOf]; omega
        · exact ⟨rfl, .inr ⟨ch, k, rfl, hlt, hJ3⟩⟩
    · obtain rfl : k = N := by omega
      have hnil : t = [] := lnb_nil (by rw [HL.out]; exact List.drop_eq_nil_iff.2 (by rw [HN.out]; exact Nat.le_refl _))
      rw [show (t != []) = false by rw [hnil]; rfl] at e1
      clear hnil
      generalize tx t = T at *
      gi_wp2
      go_end0
      exact .inl ⟨_, rfl, hJ⟩

end Go.Proofs.YtjkialmhajbcfaaDoor
