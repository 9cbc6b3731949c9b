import Derived.Test.YtcglbbglapomgaaBNetB
import Derived.Test.YtcglbbglapomgaaBQMute
import Derived.Test.YtcglbbglapomgaaBTkA
import Derived.Lib.ConvBytes
import Derived.Deep.CutRange
set_option linter.unusedVariables false
set_option linter.unusedSimpArgs false
set_option maxRecDepth 100000
set_option maxHeartbeats 4000000
namespace Go.Proofs.Ytcglbbglapomgaa
open Go.RowKit Fld
structure Yb (w : World) (q cap : Nat) (bs : List Int) : Prop where
 lt : q < w.heap.size
 fit : bs.length <= cap
 len : bs.length <= 140737488351232
 by_ : By bs
 cell : ∀ i, i < bs.length -> w.cell? ⟨q, i, none⟩ = some (.int .u8 (bs.getD i 0))
 typ : ∃ cs fz, w.heap[q]? = some (.cells cs 5 fz)
 room : ∀ j, j < cap -> (∃ x, w.cell? ⟨q, j, none⟩ = some (.int .u8 x)) ∧ w.frozen? ⟨q, j, none⟩ = false
theorem Yb.rb {w : World} {q cap : Nat} {bs : List Int} (h : Yb w q cap bs) : Rb w (.slice (some ⟨q, 0, none⟩) bs.length cap) bs :=
 ⟨some ⟨q, 0, none⟩, cap, rfl, ⟨h.fit, by have := h.len; omega, fun e => by cases e⟩, h.by_, fun _ => ⟨q, 0, rfl, h.lt, fun i hi => by rw [Nat.zero_add]; exact h.cell i hi⟩⟩
theorem Yb.kept {w w' : World} {q cap : Nat} {bs : List Int} (h : Yb w q cap bs) (hs : w.heap.size <= w'.heap.size) (hb : w'.heap[q]? = w.heap[q]?) : Yb w' q cap bs :=
 ⟨by have := h.lt; omega, h.fit, h.len, h.by_, fun i hi => (World.cell?_of_block (a := ⟨q, i, none⟩) hb).trans (h.cell i hi), (by rw [hb]; exact h.typ), fun j hj => ⟨by
  obtain ⟨x, hx⟩ := (h.room j hj).1
  exact ⟨x, (World.cell?_of_block (a := ⟨q, j, none⟩) hb).trans hx⟩, (World.frozen?_of_block (a := ⟨q, j, none⟩) hb).trans (h.room j hj).2⟩⟩
theorem Yb.below {w w' : World} {q cap : Nat} {bs : List Int} (h : Yb w q cap bs) (hb : Below w.heap.size w w') : Yb w' q cap bs := h.kept hb.size (hb.block q h.lt)
theorem strSize (bs : List Int) : (strOfNums bs).size = bs.length := by
 show (strOfNums bs).data.size = _
 rw [<- Array.length_toList, strOfNums_data]; simp
theorem strAt {bs : List Int} (hy : By bs) {i : Nat} (hi : i < bs.length) : ((strOfNums bs).data.toList.getD i 0).toNat = bs.getD i 0 := by
 rw [strOfNums_data]
 have h := hy bs[i] (List.getElem_mem hi)
 simp [List.getD_eq_getElem?_getD, List.getElem?_eq_getElem hi]
 omega
theorem yb_new (w : World) {bs : List Int} (hy : By bs) (hl : bs.length <= 140737488351232) : Yb (Lib.bytesWorld w 5 (strOfNums bs)) w.heap.size (grownCap w (strOfNums bs).size 0 5) bs ∧ Below w.heap.size w (Lib.bytesWorld w 5 (strOfNums bs)) := by
 have hss := strSize bs
 have hge := grownCap_ge w (strOfNums bs).size 0 5
 have hnew := Lib.bytesWorld_at_new w 5 (strOfNums bs)
 have hsz := Lib.bytesWorld_size w 5 (strOfNums bs)
 have hbc : (Lib.bytesCells w 5 (strOfNums bs)).size = grownCap w (strOfNums bs).size 0 5 := by
  unfold Lib.bytesCells
  rw [Array.size_append, Array.size_map, Array.size_replicate]
  show (strOfNums bs).size + _ = _
  omega
 refine ⟨⟨by omega, by omega, hl, hy, fun i hi => ?_, ⟨_, _, hnew⟩, fun j hj => ⟨?_, ?_⟩⟩, ⟨rfl, rfl, rfl, by omega, fun k hk => Lib.bytesWorld_at_old w _ _ k hk⟩⟩
 · rw [Lib.bytesWorld_cell w _ _ i (by omega), strAt hy hi]
 · rw [<- hbc] at hj
   by_cases hs : j < (strOfNums bs).size
   · exact ⟨_, Lib.bytesWorld_cell w _ _ j hs⟩
   · refine ⟨0, ?_⟩
     have hj2 := hj
     simp only [World.cell?, hnew]
     have : (Lib.bytesCells w 5 (strOfNums bs))[j]? = some (.int .u8 0) := by
      unfold Lib.bytesCells at hj2 ⊢
      have hm : ((strOfNums bs).data.map fun b => Value.int .u8 b.toNat).size = (strOfNums bs).size := by rw [Array.size_map]; rfl
      rw [Array.getElem?_append_right (by rw [hm]; omega), hm]
      rw [Array.size_append, hm, Array.size_replicate] at hj2
      rw [Array.getElem?_replicate, if_pos (by omega)]
     simp [this]
 · rw [<- hbc] at hj
   simp only [World.frozen?, hnew, Bool.and_eq_false_iff, decide_eq_false_iff_not]
   left; omega
theorem conv_txt (W : World) (s : ByteArray) : (convert 9 34 (.string s)).run Try.prog W = .ok (.slice (some ⟨W.heap.size, 0, none⟩) s.size (grownCap W s.size 0 5)) (Lib.bytesWorld W 5 s) := Lib.run_convert_string_bytes W 9 34 5 s Try.underlying9 Try.underlying34 Try.underlying5
def pkv (p : Pk) : Value := .agg #[.int .i64 p.f, .int .i64 p.t, .string (strOfNums p.b)]
def pka (p : Pk) (q cap : Nat) : Value := .agg #[.int .i64 p.f, .int .i64 p.t, .slice (some ⟨q, 0, none⟩) p.b.length cap]
theorem load_pka {w : World} {b : Nat} {x y z : Value} (h : w.heap[b]? = some (.cells #[x, y, z] 40 (0, 0))) : (loadVar 40 ⟨b, 0, none⟩).run Try.prog w = .ok (.agg #[x, y, z]) w := by
 have c0 : w.cell? ⟨b, 0, none⟩ = some x := by simp [World.cell?, h]
 have c1 : w.cell? ⟨b, 1, none⟩ = some y := by simp [World.cell?, h]
 have c2 : w.cell? ⟨b, 2, none⟩ = some z := by simp [World.cell?, h]
 simp [go_sem, c0, c1, c2]
theorem load_pkw {w : World} {b : Nat} {x y z : Value} (h : w.heap[b]? = some (.cells #[x, y, z] 72 (0, 0))) : (loadVar 72 ⟨b, 0, none⟩).run Try.prog w = .ok (.agg #[x, y, z]) w := by
 have c0 : w.cell? ⟨b, 0, none⟩ = some x := by simp [World.cell?, h]
 have c1 : w.cell? ⟨b, 1, none⟩ = some y := by simp [World.cell?, h]
 have c2 : w.cell? ⟨b, 2, none⟩ = some z := by simp [World.cell?, h]
 simp [go_sem, c0, c1, c2]
theorem blk_set3 {W : World} {g : Nat} {x y z a b c : Value} {T : TypeId} (h : W.heap[g]? = some (.cells #[x, y, z] T (0, 0))) : (((W.setCell ⟨g, 0, none⟩ a).setCell ⟨g, 1, none⟩ b).setCell ⟨g, 2, none⟩ c).heap[g]? = some (.cells #[a, b, c] T (0, 0)) := set_blk (set_blk (set_blk h 0 a) 1 b) 2 c
theorem gTold (p : Pk) (hy : By p.b) (hl : p.b.length <= 140737488351232) (w : World) : Calls Try.prog 31 #[pkv p] w fun e w' => ∃ q cap, e = .returned (pka p q cap) ∧ Yb w' q cap p.b ∧ w.heap.size <= q ∧ Below w.heap.size w w' := by
 obtain ⟨f, t, bs⟩ := p
 obtain ⟨W, hW⟩ : ∃ W, (w.alloc (.cells #[.int .i64 f, .int .i64 t, .string (strOfNums bs)] 72)).alloc (.cells #[.int .i64 0, .int .i64 0, .slice none 0 0] 40) = W := ⟨_, rfl⟩
 have hz : W.heap.size = w.heap.size + 1 + 1 := by rw [<- hW]; simp
 have hB : Below w.heap.size w W := by rw [<- hW]; exact Below.next (alloc_below _ _) (alloc_below _ _)
 obtain ⟨hY, hB2⟩ := yb_new W hy hl
 have hcv := conv_txt W (strOfNums bs)
 have e0 : W.cell? ⟨w.heap.size, 0, none⟩ = some (.int .i64 f) := by rw [<- hW]; simp [go_sem]
 have e1 : W.cell? ⟨w.heap.size, 1, none⟩ = some (.int .i64 t) := by rw [<- hW]; simp [go_sem]
 have e2 : W.cell? ⟨w.heap.size, 2, none⟩ = some (.string (strOfNums bs)) := by rw [<- hW]; simp [go_sem]
 have hb1 : W.heap[w.heap.size + 1]? = some (.cells #[.int .i64 0, .int .i64 0, .slice none 0 0] 40 (0, 0)) := by
  rw [<- hW]
  have := heap_alloc_new (w.alloc (.cells #[.int .i64 f, .int .i64 t, .string (strOfNums bs)] 72)) (.cells #[.int .i64 0, .int .i64 0, .slice none 0 0] 40)
  simpa using this
 have hb2 : (Lib.bytesWorld W 5 (strOfNums bs)).heap[w.heap.size + 1]? = _ := (hB2.block _ (by omega)).trans hb1
 have hsz := strSize bs
 rw [hsz] at hcv hY
 have HY := hide hY
 have HB := hide hB
 have HB2 := hide hB2
 have hq : W.heap.size ≠ w.heap.size + 1 := by omega
 generalize grownCap W bs.length 0 5 = cap at *
 generalize Lib.bytesWorld W 5 (strOfNums bs) = W2 at *
 clear hb1 hY hB hB2 hsz
 have f0 : ∀ k, W2.frozen? ⟨w.heap.size + 1, k, none⟩ = false := fun k => by simp [World.frozen?, hb2]
 have d0 : W2.cell? ⟨w.heap.size + 1, 0, none⟩ = some (.int .i64 0) := by simp [World.cell?, hb2]
 have d1 : W2.cell? ⟨w.heap.size + 1, 1, none⟩ = some (.int .i64 0) := by simp [World.cell?, hb2]
 have d2 : W2.cell? ⟨w.heap.size + 1, 2, none⟩ = some (.slice none 0 0) := by simp [World.cell?, hb2]
 have HZ := hide hz
 have HQ := hide hq
 have HB3 := hide hb2
 clear hb2 hz hq
 generalize W.heap.size = q at *
 unfold pkv
 dsimp only
 go_enter Try.func31, Try.ntmps31
 go_wp2
 have hq := HZ.out
 have hb := HB.out
 refine bodyPost_ret (resCell1 rfl rfl (load_pka (blk_set3 HB3.out))) rfl ⟨q, cap, rfl, HY.out.kept (by simp) ?_, by omega, (((Below.setCell (hb.trans (HB2.out.mono (by omega))) (p := ⟨w.heap.size + 1, 0, none⟩) (by show _ <= w.heap.size + 1; omega) _).setCell (p := ⟨w.heap.size + 1, 1, none⟩) (by show _ <= w.heap.size + 1; omega) _).setCell (p := ⟨w.heap.size + 1, 2, none⟩) (by show _ <= w.heap.size + 1; omega) _)⟩
 rw [Below.heap_setCell _ _ _ q HQ.out, Below.heap_setCell _ _ _ q HQ.out, Below.heap_setCell _ _ _ q HQ.out]
end Go.Proofs.Ytcglbbglapomgaa
