/-
  Layer 9: what is appended to a reading's lists; the last line read: the program's call.
-/
import Derived.Test.YtjkialmhajbcfaaDoorBSlwN
import Derived.Test.YtjkialmhajbcfaaDoorBQMute
import Derived.Maps.AppendAt
namespace Go.Proofs.YtjkialmhajbcfaaDoor
open Go.RowKit Fld Slp
set_option linter.unusedVariables false
set_option linter.unusedSimpArgs false

theorem int_info : (Tryd.prog.info? 3).map (fun i => (i.zero, i.size, i.bytes)) = some (some (.int .i64 0), 1, 8) := by kernel_rfl
theorem op_info : (Tryd.prog.info? 47).map (fun i => (i.zero, i.size, i.bytes)) = some (some (.agg #[.int .u8 0, .int .i64 0, .int .i64 0, .int .u64 0]), 4, 32) := by kernel_rfl

/-- A row's block holds what its type says. -/
theorem own_not {W : World} {base s n b : Nat} {T T' : TypeId} {v : Value} {xs : List Value} {cs : Array Value} {fz : Nat × Nat} (h : W.ownsRow base T s v n xs) (hb : W.heap[b]? = some (.cells cs T' fz)) (hT : T' ≠ T) : v.ownBlock ≠ some b := by
  rcases h.2 with ⟨rfl, _⟩ | ⟨g, cap, cur, rfl, _, hgb, _⟩
  · simp [Value.ownBlock]
  · intro e
    have e1 : g = b := by simpa [Value.ownBlock] using e
    rw [e1] at hgb
    have := hb.symm.trans hgb
    simp at this
    exact hT this.2.1
theorem own_blk {W : World} {base s n g : Nat} {T : TypeId} {v : Value} {xs : List Value} (h : W.ownsRow base T s v n xs) (hg : v.ownBlock = some g) : ∃ cs, W.heap[g]? = some (.cells cs T (0, 0)) := by
  rcases h.2 with ⟨rfl, _⟩ | ⟨g1, cap, cur, rfl, _, hgb, _⟩
  · simp [Value.ownBlock] at hg
  · have e1 : g1 = g := by simpa [Value.ownBlock] using hg
    exact ⟨_, by rw [← e1]; exact hgb⟩
/-- What an append leaves of the rest. -/
theorem grown_fr {W W' : World} {base s n B : Nat} {T : TypeId} {v : Value} {xs : List Value} (h : W.ownsRow base T s v n xs) (hg : W.grownBy W' v.ownBlock) (hB : B ≤ base) (hs : base ≤ W.heap.size) : Fr B W W' := by
  refine ⟨(Below.refl B W).grown hg (Nat.le_trans hB hs) (fun k hk => Nat.le_trans hB (own_base h k hk)), ⟨hg.size, fun k o hk ho => ?_⟩⟩
  rw [hg.block k (Array.getElem?_eq_some_iff.1 hk).1 (fun e => ?_)]
  · exact hk
  · obtain ⟨cs, hc⟩ := own_blk h e.symm
    rw [hk] at hc; cases hc; cases ho
theorem Wds.grown {W W' : World} {base s n lb mb : Nat} {T : TypeId} {v : Value} {xs : List Value} {rs : List Tx} (hw : Wds W lb mb rs) (h : W.ownsRow base T s v n xs) (hg : W.grownBy W' v.ownBlock) (h1 : 9 ≠ T) (h2 : 4 ≠ T) : Wds W' lb mb rs := by
  obtain ⟨l, hl, hl2⟩ := hw.left
  have hl' : W.heap[lb]? = _ := hl
  have hm' : W.heap[mb]? = _ := hw.more
  refine ⟨hw.ne, (hg.block mb (Array.getElem?_eq_some_iff.1 hm').1 (fun e => own_not h hm' h2 e.symm)).trans hm', ⟨l, (hg.block lb (Array.getElem?_eq_some_iff.1 hl').1 (fun e => own_not h hl' h1 e.symm)).trans hl', hl2⟩⟩

theorem RdS.app_outs {W : World} {rb : Nat} {line inp : Int} {vo : Value} {ops : List O4} {vu : Value} {outs : List Int} {whole : Bool} {lb mb : Nat} {rs : List Tx} (h : RdS W rb line inp vo ops vu outs whole) (hw : Wds W lb mb rs) (h1 : rb < lb) (h2 : rb < mb) (a : Addr) (x : Int) (hc : W.cell? a = some (.int .i64 x)) (hl : outs.length < 64) :
    ∃ (au' : Option Addr) (cu' : Nat) (W' : World), (Builtin.append_ #[23, 23] 23 #[vu, .slice (some a) 1 1]).run Tryd.prog W = .ok (.slice au' (outs.length + 1) cu') W' ∧ W'.cell? ⟨rb, 3, none⟩ = some vu ∧ W'.frozen? ⟨rb, 3, none⟩ = false ∧ RdS (W'.setCell ⟨rb, 3, none⟩ (.slice au' (outs.length + 1) cu')) rb line inp vo ops (.slice au' (outs.length + 1) cu') (outs ++ [x]) whole ∧ Wds (W'.setCell ⟨rb, 3, none⟩ (.slice au' (outs.length + 1) cu')) lb mb rs ∧ Fr rb W (W'.setCell ⟨rb, 3, none⟩ (.slice au' (outs.length + 1) cu')) := by
  obtain ⟨i0, hi0, hz0, hz1, hz2⟩ := info_parts int_info
  obtain ⟨v', W', hr, ho, hg, _, hb⟩ := run_append_own_at (P := Tryd.prog) (w := W) rb 23 23 3 i0 (.int .i64 0) 1 8 Tryd.underlying23 hi0 hz0 hz1 hz2 rfl (by decide) vu outs.length (outs.flatMap iw) h.ru a 1 1 [.int .i64 x] rfl (fun j u hj => by
    cases j with
    | zero => simp at hj; rw [← hj]; exact hc
    | succ j => simp at hj) (by simp [Value.oneCell']) (by unfold maxLen; omega) (by omega) (Nat.le_of_lt h.lt)
  have hblk : W'.heap[rb]? = _ := (hg.block rb h.lt (fun e => own_not h.ru h.blk (by decide) e.symm)).trans h.blk
  have hro : W'.ownsRow rb 47 4 vo ops.length (ops.flatMap opw) := own_kept h.ro hg (fun g hg' => by
    obtain ⟨cs, hcs⟩ := own_blk h.ro hg'
    exact own_not h.ru hcs (by decide))
  have hS : RdS W' rb line inp vo ops v' (outs ++ [x]) whole → True := fun _ => trivial
  have hset : W'.grownBy (W'.setCell ⟨rb, 3, none⟩ v') (some rb) := ⟨rfl, rfl, rfl, (KeepsWalks.setCell W' _ v').size, fun j _ hj => Below.heap_setCell _ _ _ j (fun e => hj (by rw [e]))⟩
  have hfl : (outs ++ [x]).flatMap iw = outs.flatMap iw ++ [.int .i64 x] := by rw [List.flatMap_append]; rfl
  have hln : (outs ++ [x]).length = outs.length + 1 := by simp
  obtain ⟨au', cu', rfl⟩ := own_slice ho
  refine ⟨au', cu', W', hr, by rw [Lib.cell_of_heap hblk]; rfl, Lib.frozen_of_heap hblk 3, ⟨set_blk hblk 3 _, own_kept hro hset (fun g hg' e => ?_), ?_⟩, (hw.grown h.ru hg (by decide) (by decide)).set (Nat.ne_of_lt h1) (Nat.ne_of_lt h2) 3 _, (grown_fr h.ru hg (Nat.le_refl _) (Nat.le_of_lt h.lt)).trans (setCell_fr (Nat.le_refl _))⟩
  · exact own_not hro hblk (by decide) (hg'.trans e.symm)
  · rw [hfl, hln]
    exact own_kept ho hset (fun g hg' e => own_not ho hblk (by decide) (hg'.trans e.symm))

theorem RdS.app_ops {W : World} {rb : Nat} {line inp : Int} {vo : Value} {ops : List O4} {vu : Value} {outs : List Int} {whole : Bool} (h : RdS W rb line inp vo ops vu outs whole) (a : Addr) (x : O4) (hc : ∀ j u, (opw x)[j]? = some u → W.cell? (a.add j) = some u) (hl : ops.length < 256) :
    ∃ (au' : Option Addr) (cu' : Nat) (W' : World), (Builtin.append_ #[22, 22] 22 #[vo, .slice (some a) 1 1]).run Tryd.prog W = .ok (.slice au' (ops.length + 1) cu') W' ∧ W'.cell? ⟨rb, 2, none⟩ = some vo ∧ W'.frozen? ⟨rb, 2, none⟩ = false ∧ RdS (W'.setCell ⟨rb, 2, none⟩ (.slice au' (ops.length + 1) cu')) rb line inp (.slice au' (ops.length + 1) cu') (ops ++ [x]) vu outs whole ∧ Fr rb W (W'.setCell ⟨rb, 2, none⟩ (.slice au' (ops.length + 1) cu')) := by
  obtain ⟨i0, hi0, hz0, hz1, hz2⟩ := info_parts op_info
  obtain ⟨v', W', hr, ho, hg, _, hb⟩ := run_append_own_at (P := Tryd.prog) (w := W) rb 22 22 47 i0 (.agg #[.int .u8 0, .int .i64 0, .int .i64 0, .int .u64 0]) 4 32 Tryd.underlying22 hi0 hz0 hz1 hz2 rfl (by decide) vo ops.length (ops.flatMap opw) h.ro a 1 1 (opw x) rfl hc (by simp [opw, Value.oneCell']) (by unfold maxLen; omega) (by omega) (Nat.le_of_lt h.lt)
  have hblk : W'.heap[rb]? = _ := (hg.block rb h.lt (fun e => own_not h.ro h.blk (by decide) e.symm)).trans h.blk
  have hru : W'.ownsRow rb 3 1 vu outs.length (outs.flatMap iw) := own_kept h.ru hg (fun g hg' => by
    obtain ⟨cs, hcs⟩ := own_blk h.ru hg'
    exact own_not h.ro hcs (by decide))
  have hset : W'.grownBy (W'.setCell ⟨rb, 2, none⟩ v') (some rb) := ⟨rfl, rfl, rfl, (KeepsWalks.setCell W' _ v').size, fun j _ hj => Below.heap_setCell _ _ _ j (fun e => hj (by rw [e]))⟩
  have hfl : (ops ++ [x]).flatMap opw = ops.flatMap opw ++ opw x := by rw [List.flatMap_append]; simp
  have hln : (ops ++ [x]).length = ops.length + 1 := by simp
  obtain ⟨au', cu', rfl⟩ := own_slice ho
  refine ⟨au', cu', W', hr, by rw [Lib.cell_of_heap hblk]; rfl, Lib.frozen_of_heap hblk 2, ⟨set_blk hblk 2 _, ?_, own_kept hru hset (fun g hg' e => ?_)⟩, (grown_fr h.ro hg (Nat.le_refl _) (Nat.le_of_lt h.lt)).trans (setCell_fr (Nat.le_refl _))⟩
  · rw [hfl, hln]
    exact own_kept ho hset (fun g hg' e => own_not ho hblk (by decide) (hg'.trans e.symm))
  · exact own_not hru hblk (by decide) (hg'.trans e.symm)

end Go.Proofs.YtjkialmhajbcfaaDoor
