import Derived.Test.YtaikhiodpieghaaBWirA
set_option linter.unusedVariables false
set_option linter.unusedSimpArgs false
set_option maxRecDepth 100000
set_option maxHeartbeats 4000000
namespace Go.Proofs.Ytaikhiodpieghaa.Fld
def inW (f : Int) (l : List Int) : Bool := if f = 1 then l.all (fun x => decide (x < 2013265921)) else if f = 2 then l.all (fun x => decide (x < 18446744069414584321)) else false
def ctE (n : Int) : Int := if 0 <= n ∧ n <= 2147483647 then 0 else 2
def ctL (n : Int) : List Int := if ctE n = 0 then wd8 n 4 else []
def rcE (bs : List Int) : Int := if bs.length < 4 then 7 else if 2147483647 < tk8 (bs.take 4) then 8 else 0
def rcN (bs : List Int) : Int := if rcE bs = 0 then tk8 (bs.take 4) else 0
def rcS (bs : List Int) : Int := if rcE bs = 0 then 4 else 0
def wF (f : Int) : Nat := (4 * f).toNat
def lsE (f : Int) (l : List Int) : Int := if inW f l = true then if 4096 < l.length then 4 else 0 else 2
def lsF (f : Int) (l : List Int) : List Int := f :: (wd8 (l.length : Int) 4 ++ wrL (wF f) l)
def lsL (f : Int) (l : List Int) : List Int := if lsE f l = 0 then lsF f l else []
def rlF (bs : List Int) : Int := bs.getD 0 0
def rlN (bs : List Int) : Nat := (tk8 ((bs.drop 1).take 4)).toNat
def rlX (bs : List Int) : List Int := rdL (wF (rlF bs)) (rlN bs) (bs.drop 5)
def rlE (bs : List Int) : Int :=
 if bs.length = 0 then 7 else if rlF bs ≠ 1 ∧ rlF bs ≠ 2 then 8 else if rcE (bs.drop 1) ≠ 0 then rcE (bs.drop 1) else if 4096 < rlN bs then 4
 else if bs.length < 5 + rlN bs * wF (rlF bs) then 7 else if inW (rlF bs) (rlX bs) = true then 0 else 8
def slE (bs : List Int) : Int := if 1048576 < bs.length then 4 else 0
def hd8 (bs : List Int) : List Int := wd8 (bs.length : Int) 4 ++ bs
def slF (S : List Int -> Int) (bs : List Int) : List Int := hd8 bs ++ wd8 (S (hd8 bs)) 8
def slL (S : List Int -> Int) (bs : List Int) : List Int := if slE bs = 0 then slF S bs else []
def usN (bs : List Int) : Nat := (tk8 (bs.take 4)).toNat
def usE (S : List Int -> Int) (bs : List Int) : Int :=
 if rcE bs ≠ 0 then rcE bs else if 1048576 < usN bs then 4 else if bs.length < 12 + usN bs then 7
 else if tk8 ((bs.drop (4 + usN bs)).take 8) = S (bs.take (4 + usN bs)) then 0 else 80
def usL (S : List Int -> Int) (bs : List Int) : List Int := if usE S bs = 0 then (bs.drop 4).take (usN bs) else []
theorem ctE_nat {n : Nat} (h : n <= 2147483647) : (0 : Int) <= (n : Int) ∧ (n : Int) < 256 ^ 4 := by
 have : (256 : Int) ^ 4 = 4294967296 := by decide
 omega
theorem tk_count {n : Nat} (h : n <= 2147483647) (rest : List Int) : (wd8 (n : Int) 4 ++ rest).take 4 = wd8 (n : Int) 4 ∧ tk8 (wd8 (n : Int) 4) = n :=
 ⟨List.take_left' (wd8_len _ _), tk8_wd8 (ctE_nat h).1 (ctE_nat h).2⟩
theorem rc_count {n : Nat} (h : n <= 2147483647) (rest : List Int) : rcE (wd8 (n : Int) 4 ++ rest) = 0 := by
 unfold rcE
 rw [(tk_count h rest).1, (tk_count h rest).2, if_neg (by rw [List.length_append, wd8_len]; omega), if_neg (by omega)]
theorem rcE_zero {bs : List Int} (h : rcE bs = 0) : 4 <= bs.length ∧ tk8 (bs.take 4) <= 2147483647 := by
 unfold rcE at h
 by_cases h1 : bs.length < 4
 · rw [if_pos h1] at h; cases h
 · rw [if_neg h1] at h
   by_cases h2 : 2147483647 < tk8 (bs.take 4)
   · rw [if_pos h2] at h; cases h
   · exact ⟨by omega, by omega⟩
theorem rcE_or (bs : List Int) : rcE bs = 0 ∨ rcE bs = 7 ∨ rcE bs = 8 := by
 unfold rcE; split
 · exact .inr (.inl rfl)
 · split
   · exact .inr (.inr rfl)
   · exact .inl rfl
theorem wd_count {bs : List Int} (hb : By bs) (h : 4 <= bs.length) : wd8 (((tk8 (bs.take 4)).toNat : Nat) : Int) 4 = bs.take 4 := by
 have h1 := wd8_tk8 (hb.take 4)
 have h2 := (tk8_bd (hb.take 4)).1
 rw [List.length_take, Nat.min_eq_left h] at h1
 rw [Int.toNat_of_nonneg h2, h1]
theorem inW_field {f : Int} {l : List Int} (h : inW f l = true) : f = 1 ∨ f = 2 := by
 unfold inW at h
 by_cases h1 : f = 1
 · exact .inl h1
 · by_cases h2 : f = 2
   · exact .inr h2
   · rw [if_neg h1, if_neg h2] at h; cases h
theorem inW_wide {f : Int} {l : List Int} (h : inW f l = true) {x : Int} (hx : x ∈ l) : x < 256 ^ wF f := by
 rcases inW_field h with rfl | rfl
 · have h1 : l.all (fun x => decide (x < 2013265921)) = true := h
   have := of_decide_eq_true (List.all_eq_true.1 h1 x hx)
   have e : (256 : Int) ^ wF 1 = 4294967296 := by decide
   omega
 · have h1 : l.all (fun x => decide (x < 18446744069414584321)) = true := h
   have := of_decide_eq_true (List.all_eq_true.1 h1 x hx)
   have e : (256 : Int) ^ wF 2 = 18446744073709551616 := by decide
   omega
theorem lsF_len (f : Int) (l : List Int) : (lsF f l).length = 5 + l.length * wF f := by
 unfold lsF
 rw [List.length_cons, List.length_append, wd8_len, wrL_len]; omega
theorem lsF_by {f : Int} (hf : f = 1 ∨ f = 2) (l : List Int) : By (lsF f l) :=
 By.cons (by omega) (by omega) ((wd8_by _ _).app (wrL_by _ _))
theorem lsE_zero {f : Int} {l : List Int} (h : lsE f l = 0) : inW f l = true ∧ l.length <= 4096 := by
 unfold lsE at h
 by_cases h1 : inW f l = true
 · rw [if_pos h1] at h
   by_cases h2 : 4096 < l.length
   · rw [if_pos h2] at h; cases h
   · exact ⟨h1, by omega⟩
 · rw [if_neg h1] at h; cases h
theorem read_list {f : Int} {l : List Int} (h : lsE f l = 0) (h0 : ∀ x ∈ l, 0 <= x) (rest : List Int) : rlE (lsF f l ++ rest) = 0 ∧ rlF (lsF f l ++ rest) = f ∧ rlN (lsF f l ++ rest) = l.length ∧ rlX (lsF f l ++ rest) = l := by
 obtain ⟨hi, hl⟩ := lsE_zero h
 have hf := inW_field hi
 have e0 : lsF f l ++ rest = f :: (wd8 (l.length : Int) 4 ++ (wrL (wF f) l ++ rest)) := by
  show f :: (wd8 (l.length : Int) 4 ++ wrL (wF f) l ++ rest) = _
  rw [List.append_assoc]
 have e1 : rlF (lsF f l ++ rest) = f := by rw [e0]; rfl
 have e2 : (lsF f l ++ rest).drop 1 = wd8 (l.length : Int) 4 ++ (wrL (wF f) l ++ rest) := by rw [e0]; rfl
 have e3 : rlN (lsF f l ++ rest) = l.length := by
  unfold rlN
  rw [e2, (tk_count (by omega) _).1, (tk_count (by omega) []).2]; simp
 have e4 : (lsF f l ++ rest).drop 5 = wrL (wF f) l ++ rest := by
  rw [show (5 : Nat) = 1 + 4 from rfl, <- List.drop_drop, e2, List.drop_left' (wd8_len _ _)]
 have e5 : rlX (lsF f l ++ rest) = l := by
  unfold rlX
  rw [e1, e3, e4]
  exact rd_wr _ l rest (fun x hx => ⟨h0 x hx, inW_wide hi hx⟩)
 refine ⟨?_, e1, e3, e5⟩
 unfold rlE
 rw [e1, e2, e3, e5, rc_count (by omega) _, if_neg (by rw [e0]; simp), if_neg (by omega), if_neg (by simp), if_neg (by omega), if_neg (by rw [List.length_append, lsF_len]; omega), if_pos hi]
theorem rlE_zero {bs : List Int} (h : rlE bs = 0) : 0 < bs.length ∧ (rlF bs = 1 ∨ rlF bs = 2) ∧ rcE (bs.drop 1) = 0 ∧ rlN bs <= 4096 ∧ 5 + rlN bs * wF (rlF bs) <= bs.length ∧ inW (rlF bs) (rlX bs) = true := by
 unfold rlE at h
 by_cases h1 : bs.length = 0
 · rw [if_pos h1] at h; cases h
 · rw [if_neg h1] at h
   by_cases h2 : rlF bs ≠ 1 ∧ rlF bs ≠ 2
   · rw [if_pos h2] at h; cases h
   · rw [if_neg h2] at h
     by_cases h3 : rcE (bs.drop 1) ≠ 0
     · rw [if_pos h3] at h; exact absurd h h3
     · rw [if_neg h3] at h
       by_cases h4 : 4096 < rlN bs
       · rw [if_pos h4] at h; cases h
       · rw [if_neg h4] at h
         by_cases h5 : bs.length < 5 + rlN bs * wF (rlF bs)
         · rw [if_pos h5] at h; cases h
         · rw [if_neg h5] at h
           by_cases h6 : inW (rlF bs) (rlX bs) = true
           · exact ⟨by omega, by omega, by simpa using h3, by omega, by omega, h6⟩
           · rw [if_neg h6] at h; cases h
theorem rlX_len (bs : List Int) : (rlX bs).length = rlN bs := rdL_len _ _ _
theorem list_read {bs : List Int} (hb : By bs) (h : rlE bs = 0) : lsE (rlF bs) (rlX bs) = 0 ∧ lsF (rlF bs) (rlX bs) = bs.take (5 + rlN bs * wF (rlF bs)) := by
 obtain ⟨h0, h1, h2, h3, h4, h5⟩ := rlE_zero h
 have hc := (rcE_zero h2).1
 constructor
 · unfold lsE
   rw [if_pos h5, if_neg (by rw [rlX_len]; omega)]
 · have e1 : wd8 ((rlN bs : Nat) : Int) 4 = (bs.drop 1).take 4 := wd_count (hb.drop 1) hc
   have e2 : wrL (wF (rlF bs)) (rlX bs) = (bs.drop 5).take (rlN bs * wF (rlF bs)) := by
    unfold rlX
    exact wr_rd _ _ _ (hb.drop 5) (by rw [List.length_drop]; omega)
   have e0 : bs = rlF bs :: bs.drop 1 := by
    cases bs with
    | nil => simp at h0
    | cons b bs => rfl
   unfold lsF
   rw [rlX_len, e1, e2]
   generalize rlN bs * wF (rlF bs) = m
   have e3 : bs.take (5 + m) = rlF bs :: (bs.drop 1).take (4 + m) := by
    rw [show 5 + m = (4 + m) + 1 by omega]
    conv => lhs; rw [e0]
    rw [List.take_succ_cons]
   rw [e3, List.take_add, List.drop_drop]
theorem hd8_len (bs : List Int) : (hd8 bs).length = 4 + bs.length := by unfold hd8; rw [List.length_append, wd8_len]
theorem slF_len (S : List Int -> Int) (bs : List Int) : (slF S bs).length = 12 + bs.length := by unfold slF; rw [List.length_append, wd8_len, hd8_len]; omega
theorem hd8_by {bs : List Int} (h : By bs) : By (hd8 bs) := (wd8_by _ _).app h
theorem slF_by (S : List Int -> Int) {bs : List Int} (h : By bs) : By (slF S bs) := (hd8_by h).app (wd8_by _ _)
theorem unseal_seal {S : List Int -> Int} (hS : ∀ bs, 0 <= S bs ∧ S bs <= 18446744073709551615) {bs : List Int} (h : bs.length <= 1048576) (rest : List Int) : usE S (slF S bs ++ rest) = 0 ∧ usN (slF S bs ++ rest) = bs.length ∧ usL S (slF S bs ++ rest) = bs := by
 have e0 : slF S bs ++ rest = wd8 (bs.length : Int) 4 ++ (bs ++ (wd8 (S (hd8 bs)) 8 ++ rest)) := by
  unfold slF
  rw [show hd8 bs = wd8 (bs.length : Int) 4 ++ bs from rfl]
  simp only [List.append_assoc]
 have e1 : usN (slF S bs ++ rest) = bs.length := by
  unfold usN
  rw [e0, (tk_count (by omega) _).1, (tk_count (by omega) []).2]; simp
 have e2 : rcE (slF S bs ++ rest) = 0 := by rw [e0]; exact rc_count (by omega) _
 have e3 : (slF S bs ++ rest).take (4 + bs.length) = hd8 bs := by
  unfold slF
  rw [List.append_assoc, List.take_left' (hd8_len bs)]
 have e4 : ((slF S bs ++ rest).drop (4 + bs.length)).take 8 = wd8 (S (hd8 bs)) 8 := by
  unfold slF
  rw [List.append_assoc, List.drop_left' (hd8_len bs), List.take_left' (wd8_len _ _)]
 have e5 : usE S (slF S bs ++ rest) = 0 := by
  unfold usE
  have hw := hS (hd8 bs)
  have e : (256 : Int) ^ 8 = 18446744073709551616 := by decide
  rw [e1, e2, e3, e4, tk8_wd8 hw.1 (by omega), if_neg (by simp), if_neg (by omega), if_neg (by rw [List.length_append, slF_len]; omega), if_pos rfl]
 refine ⟨e5, e1, ?_⟩
 unfold usL
 rw [if_pos e5, e1, e0, List.drop_left' (wd8_len _ _), List.take_left' rfl]
theorem usE_zero {S : List Int -> Int} {bs : List Int} (h : usE S bs = 0) : rcE bs = 0 ∧ usN bs <= 1048576 ∧ 12 + usN bs <= bs.length ∧ tk8 ((bs.drop (4 + usN bs)).take 8) = S (bs.take (4 + usN bs)) := by
 unfold usE at h
 by_cases h1 : rcE bs ≠ 0
 · rw [if_pos h1] at h; exact absurd h h1
 · rw [if_neg h1] at h
   by_cases h2 : 1048576 < usN bs
   · rw [if_pos h2] at h; cases h
   · rw [if_neg h2] at h
     by_cases h3 : bs.length < 12 + usN bs
     · rw [if_pos h3] at h; cases h
     · rw [if_neg h3] at h
       by_cases h4 : tk8 ((bs.drop (4 + usN bs)).take 8) = S (bs.take (4 + usN bs))
       · exact ⟨by simpa using h1, by omega, by omega, h4⟩
       · rw [if_neg h4] at h; cases h
theorem usL_len {S : List Int -> Int} {bs : List Int} (h : usE S bs = 0) : (usL S bs).length = usN bs := by
 obtain ⟨_, _, h3, _⟩ := usE_zero h
 unfold usL
 rw [if_pos h, List.length_take, List.length_drop]; omega
theorem seal_unseal {S : List Int -> Int} {bs : List Int} (hb : By bs) (h : usE S bs = 0) : slE (usL S bs) = 0 ∧ slF S (usL S bs) = bs.take (12 + usN bs) := by
 obtain ⟨h1, h2, h3, h4⟩ := usE_zero h
 have hl := usL_len h
 constructor
 · unfold slE
   rw [if_neg (by omega)]
 · have e1 : hd8 (usL S bs) = bs.take (4 + usN bs) := by
    unfold hd8
    rw [hl, show wd8 ((usN bs : Nat) : Int) 4 = bs.take 4 from wd_count hb (rcE_zero h1).1]
    unfold usL
    rw [if_pos h, List.take_add]
   have e2 : wd8 (S (bs.take (4 + usN bs))) 8 = (bs.drop (4 + usN bs)).take 8 := by
    have := wd8_tk8 ((hb.drop (4 + usN bs)).take 8)
    rw [List.length_take, List.length_drop, Nat.min_eq_left (by omega), h4] at this
    exact this
   unfold slF
   rw [e1, e2, show 12 + usN bs = (4 + usN bs) + 8 by omega]
   exact List.take_add.symm
theorem turned {S : List Int -> Int} {bs : List Int} (hb : By bs) {k : Nat} {v : Int} (hk : k < (slF S bs).length) (h0 : 0 <= v) (h1 : v <= 255) (hv : v ≠ (slF S bs).getD k 0) :
 usE S ((slF S bs).set k v) ≠ 0 ∨ usL S ((slF S bs).set k v) ≠ bs ∨ 12 + usN ((slF S bs).set k v) ≠ (slF S bs).length := by
 apply Classical.byContradiction
 intro hc
 have hc1 : usE S ((slF S bs).set k v) = 0 := Classical.byContradiction fun h => hc (.inl h)
 have hc2 : usL S ((slF S bs).set k v) = bs := Classical.byContradiction fun h => hc (.inr (.inl h))
 have hc3 : 12 + usN ((slF S bs).set k v) = (slF S bs).length := Classical.byContradiction fun h => hc (.inr (.inr h))
 have hy : By ((slF S bs).set k v) := fun x hx => by
  rcases List.mem_or_eq_of_mem_set hx with h | rfl
  · exact slF_by S hb x h
  · exact ⟨h0, h1⟩
 have e := (seal_unseal hy hc1).2
 rw [hc2, List.take_of_length_le (by rw [List.length_set]; omega)] at e
 apply hv
 rw [e, List.getD_eq_getElem?_getD, List.getElem?_set_self hk]; rfl
end Go.Proofs.Ytaikhiodpieghaa.Fld
