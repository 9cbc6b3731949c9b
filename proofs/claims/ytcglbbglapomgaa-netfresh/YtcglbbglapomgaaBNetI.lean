import Derived.Test.YtcglbbglapomgaaBNetH
set_option linter.unusedVariables false
set_option linter.unusedSimpArgs false
set_option maxRecDepth 100000
set_option maxHeartbeats 4000000
namespace Go.Proofs.Ytcglbbglapomgaa
open Go.RowKit Fld
def pkz : Value := .agg #[.int .i64 0, .int .i64 0, .slice none 0 0]
def Pv (w : World) (lo : Nat) (x : Value) (p : Pk) : Prop := (∃ q cap, x = pka p q cap ∧ lo <= q ∧ Yb w q cap p.b) ∨ (p = pk0 ∧ x = pkz)
theorem Pv.below {w w' : World} {lo : Nat} {x : Value} {p : Pk} (h : Pv w lo x p) (hb : Below w.heap.size w w') : Pv w' lo x p := by
 rcases h with ⟨q, cap, h1, h2, h3⟩ | h
 · exact .inl ⟨q, cap, h1, h2, h3.below hb⟩
 · exact .inr h
theorem Pv.form {w : World} {lo : Nat} {x : Value} {p : Pk} (h : Pv w lo x p) : ∃ u, x = .agg #[.int .i64 p.f, .int .i64 p.t, u] ∧ Rb w u p.b := by
 rcases h with ⟨q, cap, h1, h2, h3⟩ | ⟨rfl, rfl⟩
 · exact ⟨_, h1, h3.rb⟩
 · exact ⟨_, rfl, rb_nil w⟩
theorem gDeliver {w : World} {base g : Nat} {v : Value} {N : Nt} (h : Np w base g v N) (hs : N.s < 4611686018427387904) (i : Int) :
 Calls Try.prog 12 #[.pointer (some ⟨g, 0, none⟩), .int .i64 i] w fun e w' => ∃ v' x, e = .returned (.tuple #[x, .int .i64 (plE N i)]) ∧ Pv w' w.heap.size x (dvP N i) ∧ Np w' base g v' (dvN N i) ∧ Mv w w' g v v' := by
 obtain ⟨w0, hw0⟩ : ∃ w0, w.alloc (.cells #[.int .i64 0, .int .i64 0, .slice none 0 0] 40) = w0 := ⟨_, rfl⟩
 have hb : Below w.heap.size w w0 := by rw [<- hw0]; exact alloc_below _ _
 have hz0 : w0.heap.size = w.heap.size + 1 := by rw [<- hw0]; simp
 have hx : w0.heap[w.heap.size]? = some (.cells #[.int .i64 0, .int .i64 0, .slice none 0 0] 40 (0, 0)) := by rw [<- hw0]; exact heap_alloc_new w _
 have h0 := h.below hb
 have H := hide (gPlace h0 i)
 have HM0 := hide (Mv.of_below g v hb)
 have hgl := h.m.lt
 have hol := h.m.own_lt
 rcases pl_cases N i with ⟨k, rfl, hk, hh, e⟩ | ⟨hh, e⟩
 · have e1 : dvP N (k : Int) = N.l.getD (k : Int).toNat pk0 := by unfold dvP; rw [if_pos hh]
   have e2 : dvN N (k : Int) = { N with l := N.l.eraseIdx k, d := N.d + 1 } := by unfold dvN; rw [if_pos hh, Int.toNat_natCast]
   have HK := hide (nok_dv h.o (k : Int))
   have hsum := h.o.ok.sum
   have hmem := getD_mem hh
   have HY := hide (h.o.byt _ hmem)
   have HYl := hide (h.o.ok.pk _ hmem).2.2
   rw [e] at H ⊢
   rw [e1]
   rw [e2] at HK ⊢
   have ha := at_getD hk
   generalize N.l.getD (k : Int).toNat pk0 = p at *
   have hn1 : Nm (w0.setCell ⟨g, 3, none⟩ (.int .i64 ((N.d + 1 : Nat) : Int))) base g v { N with d := N.d + 1 } := ⟨by rw [set_blk h0.m.net 3 _]; rfl, ownsRow_setCell_other h0.m.row h0.m.ne _, h.m.low⟩
   have HT := hide (gTakeN hn1 h.o.ok.len ha)
   have HM1 := hide (HM0.out.trans (mv_set w0 g 3 (.int .i64 ((N.d + 1 : Nat) : Int)) v))
   have hx1 : (w0.setCell ⟨g, 3, none⟩ (.int .i64 ((N.d + 1 : Nat) : Int))).heap[w.heap.size]? = w0.heap[w.heap.size]? := Below.heap_setCell _ _ _ _ (by show w.heap.size ≠ g; omega)
   have HX := hide (hx1.trans hx)
   have hzz : (w0.setCell ⟨g, 3, none⟩ (.int .i64 ((N.d + 1 : Nat) : Int))).heap.size = w.heap.size + 1 := by simp [hz0]
   have c3 := h0.m.cells.2.2.2
   have f3 := h0.m.free 3
   have hd : IntKind.i64.wrap ((N.d : Int) + 1) = ((N.d + 1 : Nat) : Int) := by rw [IntKind.wrap_i64]; omega
   have hd2 : (N.d : Int) + 1 = ((N.d + 1 : Nat) : Int) := by omega
   have hd3 : N.d + 1 < 4611686018427387905 := by omega
   have HZZ := hide hzz
   clear e e1 e2 hh h h0 hb hsum hmem ha hn1 hx1 hzz hx hz0
   unfold pkv at HT
   generalize ((N.d + 1 : Nat) : Int) = d1 at *
   generalize hW1 : w0.setCell ⟨g, 3, none⟩ (.int .i64 d1) = w1 at *
   go_enter Try.func12, Try.ntmps12
   go_wp2_with (first
    | (go_at_call 29; refine H.out.mono ?_; rintro e w2 ⟨rfl, hw2⟩; rw [hw2]; clear hw2)
    | (go_at_call 30; refine HT.out.mono ?_; rintro e w3 ⟨v3, rfl, hn3, hm3⟩; have hz3 := hm3.kq.size; have HG := hide (gTold p HY.out (by have := HYl.out; omega) w3); unfold pkv at HG)
    | (go_at_call 31; go_loud (refine HG.out.mono ?_; rintro e w4 ⟨q, cap, rfl, hy4, hq4, hb4⟩; unfold pka; have hx4 := hide (((hb4.block w.heap.size (by have := HZZ.out; omega)).trans (hm3.block (by have := HZZ.out; omega) (by omega) (fun e => by have := hol _ e; omega))).trans HX.out); have x0 : w4.cell? ⟨w.heap.size, 0, none⟩ = some (.int .i64 0) := (Lib.cell_of_heap hx4.out 0).trans rfl; have x1 : w4.cell? ⟨w.heap.size, 1, none⟩ = some (.int .i64 0) := (Lib.cell_of_heap hx4.out 1).trans rfl; have x2 : w4.cell? ⟨w.heap.size, 2, none⟩ = some (.slice none 0 0) := (Lib.cell_of_heap hx4.out 2).trans rfl; have xf : ∀ k, w4.frozen? ⟨w.heap.size, k, none⟩ = false := fun k => Lib.frozen_of_heap hx4.out k)))
   have hqz : ¬ q = w.heap.size := by have := HZZ.out; omega
   have hgz : ¬ g = w.heap.size := by omega
   have HM4 := hide (((HM1.out.trans hm3).next hb4))
   have hn4 := hn3.below hb4
   refine bodyPost_ret (res_ct (a := 4) (b := 5) rfl rfl rfl (load_pka (blk_set3 hx4.out))) rfl ⟨v3, _, rfl, .inl ⟨q, cap, rfl, by have := HZZ.out; omega, hy4.kept (by simp) ?_⟩, ⟨hn4.kept (S := fun j => j ≠ w.heap.size) ⟨rfl, rfl, rfl, by simp, fun j hj => ?_⟩ hgz (fun j hj => ?_), HK.out⟩, ((HM4.out.set_new (Nat.le_refl _) _ _).set_new (Nat.le_refl _) _ _).set_new (Nat.le_refl _) _ _⟩
   · rw [Below.heap_setCell _ _ _ q hqz, Below.heap_setCell _ _ _ q hqz, Below.heap_setCell _ _ _ q hqz]
   · rw [Below.heap_setCell _ _ _ j hj, Below.heap_setCell _ _ _ j hj, Below.heap_setCell _ _ _ j hj]
   · rcases (HM1.out.trans hm3).new j hj with e | e
     · have := hol _ e; omega
     · intro ej
       subst ej
       rcases hm3.new _ hj with e2 | e2
       · have := hol _ e2; omega
       · have := HZZ.out; omega
 · have e1 : dvP N i = pk0 := by unfold dvP; rw [if_neg (by rw [hh]; decide)]
   have e2 : dvN N i = N := by unfold dvN; rw [if_neg (by rw [hh]; decide)]
   rw [e] at H ⊢
   rw [e1, e2]
   have x0 : w0.cell? ⟨w.heap.size, 0, none⟩ = some (.int .i64 0) := by rw [Lib.cell_of_heap hx]; rfl
   have x1 : w0.cell? ⟨w.heap.size, 1, none⟩ = some (.int .i64 0) := by rw [Lib.cell_of_heap hx]; rfl
   have x2 : w0.cell? ⟨w.heap.size, 2, none⟩ = some (.slice none 0 0) := by rw [Lib.cell_of_heap hx]; rfl
   have xf : ∀ k, w0.frozen? ⟨w.heap.size, k, none⟩ = false := fun k => Lib.frozen_of_heap hx k
   have HX := hide hx
   have H0 := hide h0
   have hgz : ¬ g = w.heap.size := by omega
   clear e e1 e2 hh h h0 hb hx hz0
   go_enter Try.func12, Try.ntmps12
   go_wp2_with (go_at_call 29; refine H.out.mono ?_; rintro e w1 ⟨rfl, hw1⟩; rw [hw1]; clear hw1)
   refine bodyPost_ret (res_ct (a := 4) (b := 5) rfl rfl rfl (load_pka (blk_set3 HX.out))) rfl ⟨v, _, rfl, .inr ⟨rfl, rfl⟩, H0.out.kept (S := fun j => j ≠ w.heap.size) ⟨rfl, rfl, rfl, by simp, fun j hj => ?_⟩ hgz (fun j hj => by have := hol _ hj; omega), ((HM0.out.set_new (Nat.le_refl _) _ _).set_new (Nat.le_refl _) _ _).set_new (Nat.le_refl _) _ _⟩
   rw [Below.heap_setCell _ _ _ j hj, Below.heap_setCell _ _ _ j hj, Below.heap_setCell _ _ _ j hj]
theorem gCount {w : World} {base g : Nat} {v : Value} {N : Nt} (h : Np w base g v N) (hs : N.s < 4611686018427387904) :
 Calls Try.prog 13 #[.pointer (some ⟨g, 0, none⟩)] w fun e w' => e = .returned (.tuple #[.int .i64 (N.s : Int), .int .i64 (N.d : Int), .int .i64 (N.c : Int)]) ∧ Below w.heap.size w w' := by
 have H := hide (gIsThere h)
 obtain ⟨c0, c1, c2, c3⟩ := h.m.cells
 have HL := hide (lLoad g 2 (N.s : Int) w c2)
 have hsum := h.o.ok.sum
 obtain ⟨ao, cap, rfl, _⟩ := h.m.spell
 have e1 : IntKind.i64.wrap ((N.s : Int) - (N.d : Int)) = ((N.s - N.d : Nat) : Int) := by rw [IntKind.wrap_i64]; omega
 have e2 : IntKind.i64.wrap (((N.s - N.d : Nat) : Int) - (N.l.length : Int)) = (N.c : Int) := by rw [IntKind.wrap_i64]; omega
 obtain ⟨D, hD⟩ : ∃ D : Nat, D = N.s - N.d := ⟨_, rfl⟩
 rw [<- hD] at e1 e2
 have HB := hide (Below.refl w.heap.size w).drew
 clear h hsum hD
 go_enter Try.func13, Try.ntmps13
 go_wp2_with (first
  | (go_at_call 32; refine H.out.mono ?_; rintro e w1 ⟨rfl, rfl⟩)
  | (go_at_call 33; refine HL.out.mono ?_; rintro e w1 ⟨rfl, rfl⟩))
 go_region
 go_wp2
 go_ret3
 exact ⟨rfl, HB.out⟩
end Go.Proofs.Ytcglbbglapomgaa
