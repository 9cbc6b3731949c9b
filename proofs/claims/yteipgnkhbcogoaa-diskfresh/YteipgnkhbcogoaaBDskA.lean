import Derived.Test.YteipgnkhbcogoaaBWirA
set_option linter.unusedVariables false
set_option linter.unusedSimpArgs false
set_option maxRecDepth 100000
set_option maxHeartbeats 4000000
namespace Go.Proofs.Yteipgnkhbcogoaa.Fld
structure Dsk where
 l : List (List Int)
 f : Int
 x : Bool
 n : Nat
def dk0 : Dsk := ⟨[], -1, false, 0⟩
def dieD (D : Dsk) : Bool := D.x || decide (D.f = 0)
def didD (D : Dsk) (l : List (List Int)) : Dsk := ⟨l, if 0 < D.f then D.f - 1 else D.f, D.x, D.n + 1⟩
def wrE22 (D : Dsk) (b : List Int) : Int := if b.length = 32 then if dieD D = true then 220 else if 65536 <= D.l.length then 4 else 0 else 2
def wrN22 (D : Dsk) (b : List Int) : Dsk := if wrE22 D b = 0 then didD D (D.l ++ [b]) else if wrE22 D b = 220 then { D with x := true } else D
def tmE (D : Dsk) (i : Int) : Int := if 0 <= i ∧ i <= (D.l.length : Int) then if dieD D = true then 220 else 0 else 2
def tmN (D : Dsk) (i : Int) : Dsk := if tmE D i = 0 then didD D (D.l.take i.toNat) else if tmE D i = 220 then { D with x := true } else D
def fuE (i : Int) : Int := if 0 <= i then 0 else 2
def fuN (D : Dsk) (i : Int) : Dsk := if fuE i = 0 then { D with f := i } else D
def mdN (D : Dsk) : Dsk := { D with f := -1, x := false }
structure DskOk (D : Dsk) : Prop where
 len : D.l.length <= 65536
 blk : ∀ b ∈ D.l, b.length = 32
 fu : -1 <= D.f
theorem dk0_ok : DskOk dk0 := ⟨by simp [dk0], fun b hb => by simp [dk0] at hb, by simp [dk0]⟩
theorem didD_ok {D : Dsk} (h : DskOk D) {l : List (List Int)} (h1 : l.length <= 65536) (h2 : ∀ b ∈ l, b.length = 32) : DskOk (didD D l) := ⟨h1, h2, by
 have := h.fu
 unfold didD
 dsimp only
 split <;> omega⟩
theorem mdN_ok {D : Dsk} (h : DskOk D) : DskOk (mdN D) := ⟨h.len, h.blk, by simp [mdN]⟩
theorem wrN_n (D : Dsk) (b : List Int) : (wrN22 D b).n <= D.n + 1 := by unfold wrN22 didD; split <;> (try split) <;> simp
theorem tmN_n (D : Dsk) (i : Int) : (tmN D i).n <= D.n + 1 := by unfold tmN didD; split <;> (try split) <;> simp
def cutD (bs : List (List Int)) (n k : Nat) : Dsk := if k <= n then ⟨bs.take k, (n : Int) - (k : Int), false, k⟩ else ⟨bs.take n, 0, true, n⟩
theorem cut_start (bs : List (List Int)) (n : Nat) : fuN dk0 (n : Int) = cutD bs n 0 := by
 unfold fuN fuE cutD dk0
 rw [if_pos (by rw [if_pos (by omega)]), if_pos (Nat.zero_le _)]
 simp
theorem cut_step {bs : List (List Int)} {n k : Nat} (hk : k < bs.length) (hb : ∀ b ∈ bs, b.length = 32) (hn : n < 65536) : wrE22 (cutD bs n k) (bs.getD k []) = (if k < n then 0 else 220) ∧ wrN22 (cutD bs n k) (bs.getD k []) = cutD bs n (k + 1) := by
 have hg : bs.getD k [] = bs[k] := by simp [List.getD_eq_getElem?_getD, List.getElem?_eq_getElem hk]
 have h32 : bs[k].length = 32 := hb _ (List.getElem_mem hk)
 rw [hg]
 by_cases h1 : k < n
 · have hc : cutD bs n k = ⟨bs.take k, (n : Int) - (k : Int), false, k⟩ := by unfold cutD; rw [if_pos (by omega)]
   have he : wrE22 (cutD bs n k) bs[k] = 0 := by
    rw [hc]
    unfold wrE22 dieD
    rw [if_pos h32, if_neg (by show ¬ ((false || decide ((n : Int) - (k : Int) = 0)) = true); simp; omega), if_neg (by rw [List.length_take]; omega)]
   refine ⟨by rw [he, if_pos h1], ?_⟩
   unfold wrN22
   rw [if_pos he, hc]
   unfold didD cutD
   dsimp only
   rw [if_pos (by omega : (0 : Int) < (n : Int) - (k : Int)), if_pos (by omega : k + 1 <= n), List.take_succ_eq_append_getElem hk]
   congr 1
   omega
 · have he : wrE22 (cutD bs n k) bs[k] = 220 := by
    unfold wrE22
    rw [if_pos h32, if_pos]
    unfold dieD cutD
    split
    · show (false || decide ((n : Int) - (k : Int) = 0)) = true
      simp; omega
    · simp
   refine ⟨by rw [he, if_neg h1], ?_⟩
   unfold wrN22
   rw [if_neg (by omega), if_pos he]
   unfold cutD
   rw [if_neg (by omega : ¬ k + 1 <= n)]
   split
   · have : k = n := by omega
     subst this
     simp
   · rfl
end Go.Proofs.Yteipgnkhbcogoaa.Fld
