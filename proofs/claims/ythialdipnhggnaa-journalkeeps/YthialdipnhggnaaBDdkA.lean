import Derived.Test.YthialdipnhggnaaBObjA
import Derived.Test.YthialdipnhggnaaBWirL
set_option linter.unusedVariables false
set_option linter.unusedSimpArgs false
set_option maxRecDepth 100000
set_option maxHeartbeats 4000000
namespace Go.Proofs.Ythialdipnhggnaa
open Go.RowKit Fld
abbrev Be := List Int × Value
def dkr (D : Dsk) (v : Value) : Array Value := #[v, .int .i64 D.f, .bool D.x, .int .i64 (D.n : Int)]
structure Dr (w : World) (base g : Nat) (v : Value) (D : Dsk) (es : List Be) : Prop where
 dsk : w.heap[g]? = some (.cells (dkr D v) 35 (0, 0))
 row : w.ownsRow base 23 1 v es.length (es.map (·.2))
 each : ∀ e ∈ es, w.ownsRow base 5 1 e.2 e.1.length (valb e.1)
 eq : es.map (·.1) = D.l
 low : base <= g
 o : Dok D
theorem Dr.lt {w : World} {base g : Nat} {v : Value} {D : Dsk} {es : List Be} (h : Dr w base g v D es) : g < w.heap.size := (Array.getElem?_eq_some_iff.1 h.dsk).1
theorem Dr.len {w : World} {base g : Nat} {v : Value} {D : Dsk} {es : List Be} (h : Dr w base g v D es) : es.length = D.l.length := by rw [<- h.eq, List.length_map]
theorem Dr.cells {w : World} {base g : Nat} {v : Value} {D : Dsk} {es : List Be} (h : Dr w base g v D es) : w.cell? ⟨g, 0, none⟩ = some v ∧ w.cell? ⟨g, 1, none⟩ = some (.int .i64 D.f) ∧ w.cell? ⟨g, 2, none⟩ = some (.bool D.x) ∧ w.cell? ⟨g, 3, none⟩ = some (.int .i64 (D.n : Int)) := by
 have h' := h.dsk
 refine ⟨?_, ?_, ?_, ?_⟩ <;> simp [World.cell?, h', dkr]
theorem Dr.free {w : World} {base g : Nat} {v : Value} {D : Dsk} {es : List Be} (h : Dr w base g v D es) (k : Nat) : w.frozen? ⟨g, k, none⟩ = false := by
 have h' := h.dsk
 simp [World.frozen?, h']
theorem Dr.spell {w : World} {base g : Nat} {v : Value} {D : Dsk} {es : List Be} (h : Dr w base g v D es) : ∃ ao cap, v = .slice ao D.l.length cap ∧ D.l.length <= cap ∧ (0 < D.l.length -> ∃ r, ao = some ⟨r, 0, none⟩ ∧ base <= r ∧ r < w.heap.size) := by
 have := own_spellO h.row
 rw [h.len] at this
 exact this
theorem Dr.ne {w : World} {base g : Nat} {v : Value} {D : Dsk} {es : List Be} (h : Dr w base g v D es) : v.ownBlock ≠ some g := own_notO h.row h.dsk (by decide)
theorem Dr.une {w : World} {base g : Nat} {v : Value} {D : Dsk} {es : List Be} (h : Dr w base g v D es) {e : Be} (he : e ∈ es) : e.2.ownBlock ≠ some g := own_notO (h.each e he) h.dsk (by decide)
theorem Dr.kept {S : Nat -> Prop} {w w' : World} {base g : Nat} {v : Value} {D : Dsk} {es : List Be} (h : Dr w base g v D es) (k : Kq S w w') (hg : S g) (hv : ∀ j, v.ownBlock = some j -> S j) (hu : ∀ e ∈ es, ∀ j, e.2.ownBlock = some j -> S j) : Dr w' base g v D es :=
 ⟨(k.block g hg).trans h.dsk, k.own h.row hv, fun e he => k.own (h.each e he) (hu e he), h.eq, h.low, h.o⟩
theorem Dr.below {w w' : World} {base g : Nat} {v : Value} {D : Dsk} {es : List Be} (h : Dr w base g v D es) (hb : Below w.heap.size w w') : Dr w' base g v D es :=
 h.kept (Below.kq hb (S := fun j => j < w.heap.size) (fun j hj => hj)) h.lt (fun j hj => (h.row.lt j hj).2) (fun e he j hj => ((h.each e he).lt j hj).2)
theorem Dr.put {w w' : World} {base g : Nat} {v : Value} {D D' : Dsk} {es : List Be} (h : Dr w base g v D es) (m : Mv w w' g v v) (hk : ∀ j, j ≠ g -> w'.heap[j]? = w.heap[j]?) (hb : w'.heap[g]? = some (.cells (dkr D' v) 35 (0, 0))) (hl : D'.l = D.l) (ho : Dok D') : Dr w' base g v D' es := by
 have k : Kq (fun j => j ≠ g) w w' := ⟨m.kq.os, m.kq.tape, m.kq.output, m.kq.size, hk⟩
 exact ⟨hb, k.own h.row (fun j hj e => h.ne (by rw [hj, e])), fun e he => k.own (h.each e he) (fun j hj e' => h.une he (by rw [hj, e'])), by rw [h.eq, hl], h.low, ho⟩
def Dy (w : World) (base g : Nat) (v : Value) (D : Dsk) : Prop := ∃ es, Dr w base g v D es
theorem Dy.below {w w' : World} {base g : Nat} {v : Value} {D : Dsk} (h : Dy w base g v D) (hb : Below w.heap.size w w') : Dy w' base g v D := by
 obtain ⟨es, h⟩ := h
 exact ⟨es, h.below hb⟩
theorem dies_ok {D : Dsk} (h : Dok D) : Dok { D with x := dieD D } := ⟨⟨h.ok.len, h.ok.blk, h.ok.fu⟩, h.byt, h.top⟩
theorem dDies {w : World} {base g : Nat} {v : Value} {D : Dsk} {es : List Be} (h : Dr w base g v D es) :
 Calls Try.prog 39 #[.pointer (some ⟨g, 0, none⟩)] w fun e w' => e = .returned (.bool (dieD D)) ∧ Dr w' base g v { D with x := dieD D } es ∧ Mv w w' g v v ∧ (dieD D = false -> w' = w) := by
 obtain ⟨_, c1, c2, _⟩ := h.cells
 have c3 := h.free 2
 have HP := hide h
 by_cases hf : D.f = 0
 · have e : dieD D = true := by unfold dieD; rw [hf]; simp
   have HK := hide (dies_ok h.o)
   rw [hf] at c1
   rw [e] at HK ⊢
   clear e hf h
   go_enter Try.func39, Try.ntmps39
   go_wp2
   go_ret
   refine ⟨rfl, HP.out.put (mv_set w g 2 _ v) (fun j hj => Below.heap_setCell _ _ _ j hj) ?_ rfl HK.out, mv_set w g 2 _ v, fun h => by cases h⟩
   rw [set_blk HP.out.dsk 2 _]; rfl
 · have e : dieD D = D.x := by unfold dieD; rw [decide_eq_false hf, Bool.or_false]
   have e2 : ({ D with x := dieD D } : Dsk) = D := by rw [e]
   rw [e2, e]
   clear e e2 h
   go_enter Try.func39, Try.ntmps39
   go_wp2
   go_ret
   exact ⟨rfl, HP.out, Mv.refl _ _ _, fun _ => rfl⟩
theorem did_same {D : Dsk} (h : Dok D) : Dok (didD D D.l) := ⟨didD_ok h.ok h.ok.len h.ok.blk, h.byt, by
 have := h.top
 unfold didD
 dsimp only
 split <;> omega⟩
theorem dDid {w : World} {base g : Nat} {v : Value} {D : Dsk} {es : List Be} (h : Dr w base g v D es) (hn : D.n < 4611686018427387904) :
 Calls Try.prog 41 #[.pointer (some ⟨g, 0, none⟩)] w fun e w' => e = .returned (.tuple #[]) ∧ Dr w' base g v (didD D D.l) es ∧ Mv w w' g v v := by
 obtain ⟨_, c1, _, c3⟩ := h.cells
 have cf := h.free
 have HP := hide h
 have HK := hide (did_same h.o)
 have ht := h.o.top
 have e3 : IntKind.i64.wrap ((D.n : Int) + 1) = ((D.n + 1 : Nat) : Int) := by rw [IntKind.wrap_i64]; omega
 clear h
 by_cases hf : 0 < D.f
 · have e7 : didD D D.l = ⟨D.l, D.f - 1, D.x, D.n + 1⟩ := by unfold didD; rw [if_pos hf]
   rw [e7] at HK ⊢
   have hm := ((mv_set w g 3 (.int .i64 ((D.n + 1 : Nat) : Int)) v).trans (mv_set _ g 1 (.int .i64 (D.f - 1)) v))
   have HM := hide hm
   have HB : Hid (((w.setCell ⟨g, 3, none⟩ (.int .i64 ((D.n + 1 : Nat) : Int))).setCell ⟨g, 1, none⟩ (.int .i64 (D.f - 1))).heap[g]? = some (.cells (dkr ⟨D.l, D.f - 1, D.x, D.n + 1⟩ v) 35 (0, 0))) := by
    show _ = _
    rw [set_blk (set_blk HP.out.dsk 3 _) 1 _]; rfl
   clear e7 hm
   go_enter Try.func41, Try.ntmps41
   go_wp2
   go_end0
   refine ⟨rfl, HP.out.put HM.out (fun j hj => ?_) HB.out rfl HK.out, HM.out⟩
   rw [Below.heap_setCell _ _ _ j hj, Below.heap_setCell _ _ _ j hj]
 · have e7 : didD D D.l = ⟨D.l, D.f, D.x, D.n + 1⟩ := by unfold didD; rw [if_neg hf]
   rw [e7] at HK ⊢
   have HM := hide (mv_set w g 3 (.int .i64 ((D.n + 1 : Nat) : Int)) v)
   have HB : Hid ((w.setCell ⟨g, 3, none⟩ (.int .i64 ((D.n + 1 : Nat) : Int))).heap[g]? = some (.cells (dkr ⟨D.l, D.f, D.x, D.n + 1⟩ v) 35 (0, 0))) := by
    show _ = _
    rw [set_blk HP.out.dsk 3 _]; rfl
   clear e7
   go_enter Try.func41, Try.ntmps41
   go_wp2
   go_end0
   exact ⟨rfl, HP.out.put HM.out (fun j hj => Below.heap_setCell _ _ _ j hj) HB.out rfl HK.out, HM.out⟩
theorem dFuse {w : World} {base g : Nat} {v : Value} {D : Dsk} {es : List Be} (h : Dr w base g v D es) (i : Int) (hi : i <= 9223372036854775807) :
 Calls Try.prog 20 #[.pointer (some ⟨g, 0, none⟩), .int .i64 i] w fun e w' => e = .returned (.int .i64 (fuE i)) ∧ Dr w' base g v (fuN D i) es ∧ Mv w w' g v v := by
 obtain ⟨_, c1, _, _⟩ := h.cells
 have cf := h.free 1
 have HP := hide h
 by_cases h1 : i < 0
 · have e1 : fuE i = 2 := by unfold fuE; rw [if_neg (by omega)]
   have e2 : fuN D i = D := by unfold fuN; rw [if_neg (by omega)]
   rw [e1, e2]
   clear e1 e2 c1 cf h
   go_enter Try.func20, Try.ntmps20
   go_wp2
   go_ret
   exact ⟨rfl, HP.out, Mv.refl _ _ _⟩
 · have e1 : fuE i = 0 := by unfold fuE; rw [if_pos (by omega)]
   have e2 : fuN D i = { D with f := i } := by unfold fuN; rw [if_pos e1]
   have HK : Hid (Dok { D with f := i }) := ⟨⟨h.o.ok.len, h.o.ok.blk, by show -1 <= i; omega⟩, h.o.byt, hi⟩
   rw [e1, e2]
   clear e1 e2 h hi
   go_enter Try.func20, Try.ntmps20
   go_wp2
   go_ret
   refine ⟨rfl, HP.out.put (mv_set w g 1 _ v) (fun j hj => Below.heap_setCell _ _ _ j hj) ?_ rfl HK.out, mv_set w g 1 _ v⟩
   rw [set_blk HP.out.dsk 1 _]; rfl
theorem dMend {w : World} {base g : Nat} {v : Value} {D : Dsk} {es : List Be} (h : Dr w base g v D es) :
 Calls Try.prog 22 #[.pointer (some ⟨g, 0, none⟩)] w fun e w' => e = .returned (.tuple #[]) ∧ Dr w' base g v (mdN D) es ∧ Mv w w' g v v := by
 obtain ⟨_, c1, c2, _⟩ := h.cells
 have cf := h.free
 have HP := hide h
 have HK : Hid (Dok (mdN D)) := ⟨mdN_ok h.o.ok, h.o.byt, by simp [mdN]⟩
 clear h
 go_enter Try.func22, Try.ntmps22
 go_wp2
 go_end0
 refine ⟨rfl, HP.out.put ((mv_set w g 1 _ v).trans (mv_set _ g 2 _ v)) (fun j hj => ?_) ?_ rfl HK.out, (mv_set w g 1 _ v).trans (mv_set _ g 2 _ v)⟩
 · rw [Below.heap_setCell _ _ _ j hj, Below.heap_setCell _ _ _ j hj]
 · rw [set_blk (set_blk HP.out.dsk 1 _) 2 _]; rfl
end Go.Proofs.Ythialdipnhggnaa
