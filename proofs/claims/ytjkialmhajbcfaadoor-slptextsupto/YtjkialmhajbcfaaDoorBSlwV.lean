/-
  Layer 9: reading line by line is reading.
-/
import Derived.Test.YtjkialmhajbcfaaDoorBSlwU
namespace Go.Proofs.YtjkialmhajbcfaaDoor
open Go.RowKit Fld Slp
set_option linter.unusedVariables false
set_option linter.unusedSimpArgs false

def tailR (rest : Tx) : List Tx := if rest = [] then [] else [rest]
theorem lnb_ends {rest : Tx} (hr : (10 : UInt8) ∉ rest) : ∀ ls : List Tx, (∀ l ∈ ls, (10 : UInt8) ∉ l) → lnb (ends ls ++ rest) = ls.map (· ++ [10]) ++ tailR rest
  | [], _ => by
    show lnb ([] ++ rest) = [] ++ tailR rest
    rw [List.nil_append, List.nil_append]
    unfold tailR
    by_cases h : rest = []
    · rw [if_pos h, h]; rfl
    · rw [if_neg h, lnb_miss rest hr h]
  | l :: ls, h => by
    rw [ends_cons, List.append_assoc, List.cons_append, lnb_hit _ l (h l (by simp)), lnb_ends hr ls (fun x hx => h x (List.mem_cons_of_mem _ hx))]
    rfl
theorem lnb_pst (s : Tx) : lnb s = (pst 10 s).1.map (· ++ [10]) ++ tailR (pst 10 s).2 := by
  have h := lnb_ends (pst_not 10 s).1 (pst 10 s).1 (pst_not 10 s).2
  rwa [← pst_ends] at h

def rd2 : Nat → St → List Tx → Pr × Nat
  | k, st, [] => if st.whole = true then (⟨st.n, st.ops, st.outs⟩, 0) else (pz, k + 1)
  | k, st, l :: ls => match lnStep k st l with | some st' => rd2 (k + 1) st' ls | none => (pz, k + 1)
theorem rd2_at {ls : List Tx} : ∀ {k : Nat} {st : St}, runL ls k = some st → k ≤ ls.length → rd2 0 st0 ls = rd2 k st (ls.drop k)
  | 0, st, h, _ => by cases h; rfl
  | k + 1, st, h, hk => by
    obtain ⟨st', h1, h2⟩ := Option.bind_eq_some_iff.1 h
    rw [rd2_at h1 (by omega)]
    rw [List.drop_eq_getElem_cons (by omega : k < ls.length)]
    show (match lnStep k st' ls[k] with | some st' => rd2 (k + 1) st' (ls.drop (k + 1)) | none => (pz, k + 1)) = _
    rw [List.getD_eq_getElem?_getD, List.getElem?_eq_getElem (by omega)] at h2
    have h3 : lnStep k st' ls[k] = some st := h2
    rw [h3]
theorem rd2_no {ls : List Tx} {k : Nat} {st : St} (h : runL ls k = some st) (hk : k < ls.length) (hn : runL ls (k + 1) = none) : rd2 0 st0 ls = (pz, k + 1) := by
  rw [rd2_at h (by omega), List.drop_eq_getElem_cons hk]
  show (match lnStep k st ls[k] with | some st' => rd2 (k + 1) st' (ls.drop (k + 1)) | none => (pz, k + 1)) = _
  have h2 : (runL ls k).bind (fun st => lnStep k st (ls.getD k [])) = none := hn
  rw [h, List.getD_eq_getElem?_getD, List.getElem?_eq_getElem hk] at h2
  have h3 : lnStep k st ls[k] = none := h2
  rw [h3]

theorem pcs_ne (c : UInt8) (l : Tx) : pcs c l ≠ [] := by unfold pcs; simp
theorem stP_R (n i : Nat) (l : Tx) : stP n i l = if (pcs 32 l).headD [] = 116 :: dec i then stR n (n + i) (pcs 32 l).tail else none := by
  unfold stP
  have hne := pcs_ne 32 l
  generalize pcs 32 l = q at *
  match q, hne with
  | [a], _ => show none = _; split <;> rfl
  | [a, b], _ => show none = _; split <;> rfl
  | [t, e, w], _ =>
    show (if t = 116 :: dec i ∧ e = [61] then _ else none) = (if t = 116 :: dec i then (if e = [61] then _ else none) else none)
    by_cases h1 : t = 116 :: dec i
    · by_cases h2 : e = [61]
      · rw [if_pos ⟨h1, h2⟩, if_pos h1, if_pos h2]
        cases nmb w 18446744073709551615 <;> rfl
      · rw [if_neg (fun h => h2 h.2), if_pos h1, if_neg h2]
    · rw [if_neg (fun h => h1 h.1), if_neg h1]
  | [a, b, c, d], _ => show none = _; split <;> rfl
  | [t, e, x, g, y], _ =>
    show (if t = 116 :: dec i ∧ e = [61] then _ else none) = (if t = 116 :: dec i then (if e = [61] then _ else none) else none)
    by_cases h1 : t = 116 :: dec i
    · by_cases h2 : e = [61]
      · rw [if_pos ⟨h1, h2⟩, if_pos h1, if_pos h2]
        cases valP n (n + i) x <;> cases sgP g <;> cases valP n (n + i) y <;> rfl
      · rw [if_neg (fun h => h2 h.2), if_pos h1, if_neg h2]
    · rw [if_neg (fun h => h1 h.1), if_neg h1]
  | a :: b :: c :: d :: e :: f :: r, _ => show none = _; split <;> rfl
theorem isOut_R (l : Tx) : isOut l = true ↔ (pcs 32 l).headD [] = ouW := by
  unfold isOut
  have hne := pcs_ne 32 l
  generalize pcs 32 l = q at *
  cases q with
  | nil => exact absurd rfl hne
  | cons a r => simp
theorem ouP_R {n own : Nat} {l : Tx} (h : (pcs 32 l).headD [] = ouW) : ouP n own l = ouR n own (pcs 32 l).tail := by
  unfold ouP ouR
  have hne := pcs_ne 32 l
  generalize pcs 32 l = q at *
  cases q with
  | nil => exact absurd rfl hne
  | cons a r =>
    have ha : a = ouW := h
    show (if a = ouW ∧ r.length ≤ 64 then valsP n own r else none) = if r.length ≤ 64 then valsP n own r else none
    by_cases h2 : r.length ≤ 64
    · rw [if_pos ⟨ha, h2⟩, if_pos h2]
    · rw [if_neg (fun h => h2 h.2), if_neg h2]
/-- Behind the last line: nothing, or a piece that is none. -/
theorem rd2_whole (k : Nat) (n : Nat) (ops : List O4) (outs : List Int) (ls : List Tx) : rd2 k ⟨n, ops, outs, true⟩ ls = if ls = [] then (⟨n, ops, outs⟩, 0) else (pz, k + 1) := by
  cases ls with
  | nil => rfl
  | cons l ls =>
    rw [if_neg (by simp)]
    show (match lnStep k ⟨n, ops, outs, true⟩ l with | some st' => rd2 (k + 1) st' ls | none => (pz, k + 1)) = _
    rw [lnStep_no (fun h => by cases h.2)]
theorem rd2_tail (k : Nat) (st : St) (hw : st.whole = false) {rest : Tx} (hr : (10 : UInt8) ∉ rest) : rd2 k st (tailR rest) = (pz, k + 1) := by
  unfold tailR
  by_cases h : rest = []
  · rw [if_pos h]
    show (if st.whole = true then _ else _) = _
    rw [if_neg (by rw [hw]; simp)]
  · rw [if_neg h]
    show (match lnStep k st rest with | some st' => rd2 (k + 1) st' [] | none => (pz, k + 1)) = _
    rw [lnStep_no (fun h => hr (List.mem_of_getLast? h.1))]
theorem rd2_go {rest : Tx} (hr : (10 : UInt8) ∉ rest) (n : Nat) : ∀ (ps : List Tx) (i : Nat) (ops : List O4), ¬ i = 0 → rd2 i ⟨n, ops, [], false⟩ (ps.map (· ++ [10]) ++ tailR rest) = rdGo n rest i ops ps
  | [], i, ops, hi => rd2_tail i _ rfl hr
  | p :: ps, i, ops, hi => by
    show (match lnStep i ⟨n, ops, [], false⟩ (p ++ [10]) with | some st' => rd2 (i + 1) st' (ps.map (· ++ [10]) ++ tailR rest) | none => (pz, i + 1)) = _
    rw [lnStep_k (st := ⟨n, ops, [], false⟩) rfl hi, rdGo]
    show (match (soR n ops (pcs 32 p)).map (fun r => (⟨n, r.1, r.2.1, r.2.2⟩ : St)) with | some st' => rd2 (i + 1) st' (ps.map (· ++ [10]) ++ tailR rest) | none => (pz, i + 1)) = _
    by_cases ho : (pcs 32 p).headD [] = ouW
    · rw [if_pos ((isOut_R p).2 ho), ouP_R ho]
      unfold soR
      rw [if_pos ho]
      cases ouR n (n + ops.length) (pcs 32 p).tail with
      | none => rfl
      | some outs =>
        show rd2 (i + 1) ⟨n, ops, outs, true⟩ (ps.map (· ++ [10]) ++ tailR rest) = if ps = [] ∧ rest = [] then (⟨n, ops, outs⟩, 0) else (pz, i + 2)
        rw [rd2_whole]
        by_cases h : ps = [] ∧ rest = []
        · rw [if_pos h, if_pos (by rw [h.1, h.2]; rfl)]
        · rw [if_neg h, if_neg (fun e => h ?_)]
          have e1 := List.append_eq_nil_iff.1 e
          refine ⟨List.map_eq_nil_iff.1 e1.1, ?_⟩
          have e2 := e1.2
          unfold tailR at e2
          by_cases hh : rest = []
          · exact hh
          · rw [if_neg hh] at e2; cases e2
    · rw [if_neg (fun h => ho ((isOut_R p).1 h)), stP_R]
      unfold soR
      rw [if_neg ho]
      by_cases ht : (pcs 32 p).headD [] = 116 :: dec ops.length
      · rw [if_pos ht]
        by_cases hc : ops.length < 256
        · rw [if_pos ⟨hc, ht⟩]
          cases stR n (n + ops.length) (pcs 32 p).tail with
          | none => rfl
          | some o =>
            show rd2 (i + 1) ⟨n, ops ++ [o], [], false⟩ _ = if ops.length < 256 then rdGo n rest (i + 1) (ops ++ [o]) ps else (pz, i + 1)
            rw [if_pos hc, rd2_go hr n ps (i + 1) (ops ++ [o]) (by omega)]
        · rw [if_neg (fun h => hc h.1)]
          cases stR n (n + ops.length) (pcs 32 p).tail with
          | none => rfl
          | some o =>
            show (pz, i + 1) = if ops.length < 256 then rdGo n rest (i + 1) (ops ++ [o]) ps else (pz, i + 1)
            rw [if_neg hc]
      · rw [if_neg ht, if_neg (fun h => ht h.2)]
        rfl
theorem rd2_rdS (s : Tx) : rd2 0 st0 (lnb s) = rdS s := by
  rw [lnb_pst]
  unfold rdS
  have hr := (pst_not 10 s).1
  generalize (pst 10 s).2 = rest at *
  cases (pst 10 s).1 with
  | nil => exact rd2_tail 0 st0 rfl hr
  | cons p ps =>
    show (match lnStep 0 st0 (p ++ [10]) with | some st' => rd2 1 st' (ps.map (· ++ [10]) ++ tailR rest) | none => (pz, 1)) = match hdP p with | some n => rdGo n rest 1 [] ps | none => (pz, 1)
    rw [lnStep_0 (st := st0) rfl, hdP_R]
    cases hdR (pcs 32 p) with
    | none => rfl
    | some n => exact rd2_go hr n ps 1 [] (by decide)
theorem runs_whole {s : Tx} {st : St} (h : runL (lnb s) (lnb s).length = some st) (hw : st.whole = true) : rdS s = (⟨st.n, st.ops, st.outs⟩, 0) := by
  rw [← rd2_rdS, rd2_at h (Nat.le_refl _), List.drop_length]
  show (if st.whole = true then _ else _) = _
  rw [if_pos hw]
theorem runs_half {s : Tx} {st : St} (h : runL (lnb s) (lnb s).length = some st) (hw : st.whole = false) : rdS s = (pz, (lnb s).length + 1) := by
  rw [← rd2_rdS, rd2_at h (Nat.le_refl _), List.drop_length]
  show (if st.whole = true then _ else _) = _
  rw [if_neg (by rw [hw]; simp)]
theorem runs_none {s : Tx} {k : Nat} {st : St} (h : runL (lnb s) k = some st) (hk : k < (lnb s).length) (hn : runL (lnb s) (k + 1) = none) : rdS s = (pz, k + 1) := by
  rw [← rd2_rdS]; exact rd2_no h hk hn

end Go.Proofs.YtjkialmhajbcfaaDoor
