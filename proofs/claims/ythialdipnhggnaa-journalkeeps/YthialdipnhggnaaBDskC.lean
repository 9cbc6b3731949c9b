import Derived.Test.YthialdipnhggnaaBObjA
set_option linter.unusedVariables false
set_option linter.unusedSimpArgs false
set_option maxRecDepth 100000
set_option maxHeartbeats 4000000
namespace Go.Proofs.Ythialdipnhggnaa
open Go.RowKit Fld
theorem kept_info : (Try.prog.info? 71).map (fun i => (i.zero, i.size, i.bytes)) = some (some (.agg (List.replicate 32 (Value.int .u8 0)).toArray), 32, 32) := by kernel_rfl
theorem headK {w : World} {base n cap : Nat} {ao : Option Addr} {xs : List (List Int)} (h : w.ownsRow base 71 32 (.slice ao n cap) n (xs.flatMap k32)) (hl : xs.length = n) (k : Nat) (hk : k <= n) :
 (∀ W, (Instr.slice 62 (.slice ao n cap) none (some (.int .i64 (k : Int))) none).run Try.prog W = .ok (.slice ao k cap) W) ∧ w.ownsRow base 71 32 (.slice ao k cap) k ((xs.take k).flatMap k32) := by
 obtain ⟨i0, hi0, hz0, hz1, hz2⟩ := info_parts kept_info
 subst hl
 rcases h.2 with ⟨e, h0⟩ | ⟨g, cap', cur, e, h2, h3, h4, h5, h6, h7⟩
 · have hx : xs = [] := by
    injection e with _ e2 _
    exact List.length_eq_zero_iff.1 e2
   subst hx
   cases e
   have : k = 0 := by simpa using hk
   subst this
   refine ⟨fun W => ?_, by simpa using h⟩
   simp [Instr.slice, Instr.sliceBounds, Instr.sliceBound, asIntOf, run_underlying Try.underlying62, sizeOf, typeInfo, hi0, hz1]
 · cases e
   refine ⟨fun W => ?_, ?_⟩
   · have h2' : (k : Int) <= (cap : Int) := by omega
     by_cases h0 : cap = 0
     · subst h0
       have : k = 0 := by omega
       subst this
       simp [Instr.slice, Instr.sliceBounds, Instr.sliceBound, asIntOf, run_underlying Try.underlying62, sizeOf, typeInfo, hi0, hz1]
     · simp [Instr.slice, Instr.sliceBounds, Instr.sliceBound, asIntOf, run_underlying Try.underlying62, sizeOf, typeInfo, hi0, hz1, h2', h0, show ¬ cap < k by omega, Addr.add]
   · rw [<- flat_take k32 32 k32_len xs k hk]
     exact own_short h hk
def Mr (w : World) (u : Value) (bs : List (List Int)) : Prop := (u = .slice none 0 0 ∧ bs = []) ∨ ∃ r c, u = .slice (some ⟨r, 0, none⟩) bs.length c ∧ ∀ j x, (bs.flatMap k32)[j]? = some x -> w.cell? ((⟨r, 0, none⟩ : Addr).add j) = some x
theorem app_kept {W : World} {lo k c : Nat} {a : Option Addr} {xs bs : List (List Int)} {u : Value} (h : W.ownsRow lo 71 32 (.slice a k c) k (xs.flatMap k32)) (hu : Mr W u bs) (hl : k + bs.length <= 65536) (hb : lo <= W.heap.size) :
 ∃ (au : Option Addr) (cu : Nat) (W' : World), (Builtin.append_ #[62, 62] 62 #[.slice a k c, u]).run Try.prog W = .ok (.slice au (k + bs.length) cu) W' ∧ W'.ownsRow lo 71 32 (.slice au (k + bs.length) cu) (k + bs.length) ((xs ++ bs).flatMap k32) ∧ W.grownBy W' (Value.slice a k c).ownBlock ∧ (∀ j, (Value.slice au (k + bs.length) cu).ownBlock = some j -> (Value.slice a k c).ownBlock = some j ∨ W.heap.size <= j) := by
 obtain ⟨i0, hi0, hz0, hz1, hz2⟩ := info_parts kept_info
 rcases hu with ⟨rfl, rfl⟩ | ⟨r, c', rfl, hc⟩
 · refine ⟨a, c, W, ?_, by simpa using h, ⟨rfl, rfl, rfl, Nat.le_refl _, fun _ _ _ => rfl⟩, fun j hj => .inl hj⟩
   exact run_append_owned_none (P := Try.prog) (w := W) lo 62 62 71 i0 32 Try.underlying62 hi0 _ _ _ h
 · obtain ⟨v', W', hr, ho, hg, _, hat⟩ := run_append_own_at (P := Try.prog) (w := W) lo 62 62 71 i0 (.agg (List.replicate 32 (Value.int .u8 0)).toArray) 32 32 Try.underlying62 hi0 hz0 hz1 hz2 rfl (by decide) (.slice a k c) k (xs.flatMap k32) h ⟨r, 0, none⟩ bs.length c' (bs.flatMap k32) (flat_len k32 32 k32_len bs) hc (fun v hv => by
    obtain ⟨b, _, hx⟩ := List.mem_flatMap.1 hv
    exact k32_one b v hx) (by unfold maxLen; omega) (by omega) hb
   rw [<- List.flatMap_append] at ho
   obtain ⟨au, cu, rfl, _⟩ := own_spellO ho
   exact ⟨au, cu, W', hr, ho, hg, new_of_at hat⟩
theorem dok_did {D : Dsk} (h : Dok D) {l : List (List Int)} (h1 : l.length <= 65536) (h2 : ∀ b ∈ l, b.length = 32) (h3 : ∀ b ∈ l, By b) : Dok (didD D l) := ⟨didD_ok h.ok h1 h2, h3, by
 have := h.top
 unfold didD
 dsimp only
 split <;> omega⟩
theorem dok_x {D : Dsk} (h : Dok D) (x : Bool) : Dok { D with x := x } := ⟨⟨h.ok.len, h.ok.blk, h.ok.fu⟩, h.byt, h.top⟩
theorem gRaw_cut {w : World} {base g : Nat} {v : Value} {D : Dsk} (h : Hd w base g v D) (hd : dieD D = true) (k : Int) (u : Value) :
 Calls Try.prog 38 #[.pointer (some ⟨g, 0, none⟩), .int .i64 k, u] w fun e w' => e = .returned (.int .i64 220) ∧ Hd w' base g v { D with x := true } ∧ Mv w w' g v v := by
 have HS := hide (dSucc h)
 rw [hd] at HS
 have HH := hide h
 obtain ⟨_, _, _, _, c4, _⟩ := h.cells
 have f4 := h.free 4
 clear h hd
 go_enter Try.func38, Try.ntmps38
 go_wp2
 refine wp_scope_jumps 0 (fun a' w' => w' = w ∧ ∃ x1 x2 x3 x4 x5 x6 x7 x8 x9 : Value, a' = { tmps := #[.pointer (some ⟨g, 0, none⟩), x1, x2, x3, x4, x5, x6, x7, x8, x9, undef, undef, undef, undef, undef, undef, undef, undef, undef, undef, undef, undef, undef, undef, undef, undef, undef, undef, undef, undef, undef, undef, undef, undef, undef, undef, undef, undef, undef, undef, undef, undef, undef, undef, undef, undef, undef], defers := [] }) (fun _ _ => 0) rfl ?_ ?_
 · go_wp2_with (go_at_call 56; refine HS.out.mono ?_; rintro e w1 ⟨rfl, rfl⟩)
   go_step3
   exact ⟨rfl, rfl, _, _, _, _, _, _, _, _, _, rfl⟩
 · rintro a' w' ⟨rfl, x1, x2, x3, x4, x5, x6, x7, x8, x9, rfl⟩
   go_wp2
   simp only [Exit.jump]
   go_ret
   have h := HH.out
   refine ⟨rfl, ⟨?_, ownsRow_setCell_other h.row h.ne _, h.low, dok_x h.o true⟩, mv_set _ g 4 _ _⟩
   rw [set_blk h.dsk 4 _]; rfl
theorem gRaw_full {w : World} {base g : Nat} {v : Value} {D : Dsk} (h : Hd w base g v D) (hd : dieD D = false) (k : Nat) {u : Value} {bs : List (List Int)} (hu : Mr w u bs) (hk : k <= 65536) (hb : bs.length <= 65536) (hl : 65536 < k + bs.length) :
 Calls Try.prog 38 #[.pointer (some ⟨g, 0, none⟩), .int .i64 (k : Int), u] w fun e w' => e = .returned (.int .i64 4) ∧ w' = w := by
 have HS := hide (dSucc h)
 rw [hd] at HS
 obtain ⟨a, m, c, rfl, hm⟩ : ∃ a m c, u = .slice a m c ∧ m = bs.length := by
  rcases hu with ⟨rfl, rfl⟩ | ⟨r, c, rfl, _⟩
  · exact ⟨_, _, _, rfl, rfl⟩
  · exact ⟨_, _, _, rfl, rfl⟩
 have h1 : (65536 : Int) < (k : Int) + (m : Int) := by omega
 have h2 : IntKind.i64.wrap ((k : Int) + (m : Int)) = (k : Int) + (m : Int) := by rw [IntKind.wrap_i64]; omega
 clear h hd hu hm hl
 go_enter Try.func38, Try.ntmps38
 go_wp2
 go_step3
 go_wp2_with (go_at_call 56; refine HS.out.mono ?_; rintro e w1 ⟨rfl, rfl⟩)
 rw [Exit.noGoto_ret]
 go_ret
 exact ⟨rfl, rfl⟩
theorem gRaw_ok {w : World} {base g : Nat} {v : Value} {D : Dsk} (h : Hd w base g v D) (hb : base <= w.heap.size) (hd : dieD D = false) (hn : D.n < 4611686018427387904) (k : Nat) (hk : k <= D.l.length) {u : Value} {bs : List (List Int)} (hu : Mr w u bs) (hl : k + bs.length <= 65536) (h32 : ∀ b ∈ bs, b.length = 32 ∧ By b) :
 Calls Try.prog 38 #[.pointer (some ⟨g, 0, none⟩), .int .i64 (k : Int), u] w fun e w' => ∃ v', e = .returned (.int .i64 0) ∧ Hd w' base g v' (didD D (D.l.take k ++ bs)) ∧ Mv w w' g v v' := by
 have HS := hide (dSucc h)
 rw [hd] at HS
 obtain ⟨ao, cap, rfl, hcap, _⟩ := h.spell
 obtain ⟨hsl, hrow⟩ := headK h.row rfl k hk
 obtain ⟨au, cu, W, hr, ho, hg, hnew⟩ := app_kept hrow hu hl hb
 have hob : (Value.slice ao k cap).ownBlock = (Value.slice ao D.l.length cap).ownBlock := by cases ao <;> rfl
 rw [hob] at hg hnew
 have hne := h.ne
 have hblk : W.heap[g]? = _ := (hg.block g h.lt (fun e => hne e.symm)).trans h.dsk
 have hvg : (Value.slice au (k + bs.length) cu).ownBlock ≠ some g := fun e => by
  rcases hnew g e with e2 | e2
  · exact hne e2
  · have := h.lt; omega
 obtain ⟨a, m, c, rfl, hm⟩ : ∃ a m c, u = .slice a m c ∧ m = bs.length := by
  rcases hu with ⟨rfl, rfl⟩ | ⟨r, c, rfl, _⟩
  · exact ⟨_, _, _, rfl, rfl⟩
  · exact ⟨_, _, _, rfl, rfl⟩
 have HMv : Hid (Mv w W g (.slice ao D.l.length cap) (.slice au (k + bs.length) cu)) := mv_grown g hg h.row ho hnew
 have HB := hide hblk
 have HO := hide ho
 have HVG := hide hvg
 have HLow := hide h.low
 have HDk : Hid (Dok (didD D (D.l.take k ++ bs))) := dok_did h.o (by rw [List.length_append, List.length_take]; omega) (fun b hb => by
  rcases List.mem_append.1 hb with hb | hb
  · exact h.o.ok.blk b (List.mem_of_mem_take hb)
  · exact (h32 b hb).1) (fun b hb => by
  rcases List.mem_append.1 hb with hb | hb
  · exact h.o.byt b (List.mem_of_mem_take hb)
  · exact (h32 b hb).2)
 have HL : Hid ((D.l.take k ++ bs).length = k + bs.length) := by show _ = _; rw [List.length_append, List.length_take]; omega
 obtain ⟨_, c1, _, _, _, _⟩ := h.cells
 have hf := h.o.ok.fu
 have hft := h.o.top
 obtain ⟨l, f, x, n⟩ := D
 have hx : x = false ∧ f ≠ 0 := by
  unfold dieD at hd
  simpa using hd
 obtain ⟨rfl, hf0⟩ := hx
 dsimp only at *
 rw [<- hm] at hr HO HL HMv HVG hl
 have e1 : ¬ (65536 : Int) < (k : Int) + (m : Int) := by omega
 have e2 : IntKind.i64.wrap ((k : Int) + (m : Int)) = (k : Int) + (m : Int) := by rw [IntKind.wrap_i64]; omega
 have e3 : IntKind.i64.wrap ((n : Int) + 1) = ((n + 1 : Nat) : Int) := by rw [IntKind.wrap_i64]; omega
 obtain ⟨r, hrw⟩ : ∃ r, l.take k ++ bs = r := ⟨_, rfl⟩
 rw [hrw] at HO HDk HL ⊢
 clear h hd hu h32 hrow ho hg hnew hne hblk hvg hob hm hrw hl hk hcap
 have k1 : W.cell? ⟨g, 1, none⟩ = some (.slice ao l.length cap) := (Lib.cell_of_heap HB.out 1).trans rfl
 have k2 : W.cell? ⟨g, 2, none⟩ = some (.bool (decide (0 <= f))) := (Lib.cell_of_heap HB.out 2).trans rfl
 have k3 : W.cell? ⟨g, 3, none⟩ = some (.int .i64 (max f 0)) := (Lib.cell_of_heap HB.out 3).trans rfl
 have k5 : W.cell? ⟨g, 5, none⟩ = some (.int .i64 (n : Int)) := (Lib.cell_of_heap HB.out 5).trans rfl
 have kf : ∀ j, W.frozen? ⟨g, j, none⟩ = false := fun j => Lib.frozen_of_heap HB.out j
 by_cases h1 : 0 <= f
 · rw [decide_eq_true h1] at k2
   have e4 : max f 0 = f := by omega
   rw [e4] at k3
   go_enter Try.func38, Try.ntmps38
   go_wp2
   go_step3
   go_wp2_with (first
    | (go_at_call 56; refine HS.out.mono ?_; rintro e w1 ⟨rfl, rfl⟩)
    | (at_builtin; refine app_runO rfl _ _ _ rfl _ _ _ rfl rfl hr ?_))
   rw [Exit.noGoto_ret]
   go_ret
   have e7 : didD ⟨l, f, false, n⟩ r = ⟨r, f - 1, false, n + 1⟩ := by unfold didD; rw [if_pos (show (0 : Int) < (⟨l, f, false, n⟩ : Dsk).f by dsimp only; omega)]
   rw [e7] at HDk ⊢
   refine ⟨_, rfl, ⟨?_, ?_, HLow.out, HDk.out⟩, ((HMv.out.trans (mv_set _ g 1 _ _)).trans (mv_set _ g 5 _ _)).trans (mv_set _ g 3 _ _)⟩
   · rw [set_blk (set_blk (set_blk HB.out 1 _) 5 _) 3 _]
     unfold dkw
     dsimp only
     rw [decide_eq_true h1, decide_eq_true (show 0 <= f - 1 by omega), show max (f - 1) 0 = f - 1 by omega]
     rfl
   · rw [show (⟨r, f - 1, false, n + 1⟩ : Dsk).l.length = k + m from HL.out]
     exact ownsRow_setCell_other (ownsRow_setCell_other (ownsRow_setCell_other HO.out HVG.out _) HVG.out _) HVG.out _
 · rw [decide_eq_false (show ¬ 0 <= f from h1)] at k2
   go_enter Try.func38, Try.ntmps38
   go_wp2
   go_step3
   go_wp2_with (first
    | (go_at_call 56; refine HS.out.mono ?_; rintro e w1 ⟨rfl, rfl⟩)
    | (at_builtin; refine app_runO rfl _ _ _ rfl _ _ _ rfl rfl hr ?_))
   rw [Exit.noGoto_ret]
   go_ret
   have e7 : didD ⟨l, f, false, n⟩ r = ⟨r, f, false, n + 1⟩ := by unfold didD; rw [if_neg (show ¬ (0 : Int) < (⟨l, f, false, n⟩ : Dsk).f by dsimp only; omega)]
   rw [e7] at HDk ⊢
   refine ⟨_, rfl, ⟨?_, ?_, HLow.out, HDk.out⟩, (HMv.out.trans (mv_set _ g 1 _ _)).trans (mv_set _ g 5 _ _)⟩
   · rw [set_blk (set_blk HB.out 1 _) 5 _]
     unfold dkw
     dsimp only
     rw [decide_eq_false (show ¬ 0 <= f by omega)]
     rfl
   · rw [show (⟨r, f, false, n + 1⟩ : Dsk).l.length = k + m from HL.out]
     exact ownsRow_setCell_other (ownsRow_setCell_other HO.out HVG.out _) HVG.out _
end Go.Proofs.Ythialdipnhggnaa
