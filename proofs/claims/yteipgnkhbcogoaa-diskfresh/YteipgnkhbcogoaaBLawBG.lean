import Derived.Test.YteipgnkhbcogoaaBLawBE
import Derived.Test.YteipgnkhbcogoaaBSpoB
set_option linter.unusedVariables false
set_option linter.unusedSimpArgs false
set_option maxRecDepth 100000
set_option maxHeartbeats 4000000
namespace Go.Proofs.Yteipgnkhbcogoaa
open Go.RowKit Fld
theorem Hd.grown8 {w w' : World} {base g lo n : Nat} {v x : Value} {xs : List Value} {D : Dsk} (h : Hd w base g v D) (ho : w.ownsRow lo 5 1 x n xs) (hg : w.grownBy w' x.ownBlock) : Hd w' base g v D :=
 ⟨(hg.block g h.lt (fun e => own_notO ho h.dsk (by decide) e.symm)).trans h.dsk, own_kept h.row hg (fun j hj e => own_kindO h.row ho (by decide) j hj e), h.low, h.o⟩
theorem own8_mvH {w w' : World} {b n base g : Nat} {x v v' : Value} {xs : List Value} {D : Dsk} (ho : w.ownsRow b 5 1 x n xs) (hn : Hd w base g v D) (m : Mv w w' g v v') : w'.ownsRow b 5 1 x n xs := by
 refine m.kq.own ho (fun j hj => ⟨(ho.lt j hj).2, fun e => ?_, fun e => ?_⟩)
 · subst e; exact own_notO ho hn.dsk (by decide) hj
 · exact own_kindO ho hn.row (by decide) j hj e
theorem yr_row {w : World} {lo r n c : Nat} {bs : List (List Int)} (h : w.ownsRow lo 56 32 (.slice (some ⟨r, 0, none⟩) n c) n (bs.flatMap k32)) : Yr w r (n * 32) := by
 have hl := h.1
 refine ⟨(h.lt r (by simp [Value.ownBlock])).2, fun j hj => ⟨?_, own_frz h j⟩⟩
 have hj2 : j < (bs.flatMap k32).length := by omega
 have hx := List.getElem?_eq_getElem hj2
 have hm := List.getElem_mem hj2
 obtain ⟨b, _, hb⟩ := List.mem_flatMap.1 hm
 obtain ⟨i, _, hi⟩ := List.mem_map.1 hb
 rw [<- hi] at hx
 exact ⟨_, own_atO h hx⟩
structure Wip (w : World) (lo r n : Nat) (v : Value) : Prop where
 row : w.ownsRow lo 43 1 v n (tbl r n)
 yr : 0 < n -> Yr w r (n * 32) ∧ lo <= r ∧ v.ownBlock ≠ some r
theorem Tol.wip {w : World} {lo r c : Nat} {v : Value} {bs : List (List Int)} (h : Tol w lo v r c bs) : Wip w lo r bs.length v := by
 refine ⟨h.row, fun hp => ?_⟩
 have hb := h.blk hp
 exact ⟨yr_row hb, (hb.lt r (by simp [Value.ownBlock])).1, fun e => own_kindO h.row hb (by decide) r e (by simp [Value.ownBlock])⟩
theorem Wip.step {w w' : World} {lo r n : Nat} {v : Value} (h : Wip w lo r n v) (hp : 0 < n) (hg : w.grownBy w' (some r)) (hy : Yr w' r (n * 32)) : Wip w' lo r n v :=
 ⟨own_kept h.row hg (fun j hj e => (h.yr hp).2.2 (by rw [hj]; exact e.symm)), fun _ => ⟨hy, (h.yr hp).2⟩⟩
theorem md_wr {E : Dsk} (h : E.l.length < 65536) : wrE22 (mdN E) (blkc 7) = 0 ∧ (wrN22 (mdN E) (blkc 7)).l = E.l ++ [blkc 7] := by
 have e : wrE22 (mdN E) (blkc 7) = 0 := by
  unfold wrE22
  rw [if_pos (blkc_len 7), if_neg (by simp [dieD, mdN]), if_neg (by show ¬ 65536 <= E.l.length; omega)]
 refine ⟨e, ?_⟩
 unfold wrN22
 rw [if_pos e]
 rfl
end Go.Proofs.Yteipgnkhbcogoaa
