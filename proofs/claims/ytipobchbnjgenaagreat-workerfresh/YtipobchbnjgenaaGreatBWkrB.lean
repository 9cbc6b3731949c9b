import Derived.Test.YtipobchbnjgenaaGreatBunNA
import Derived.Test.YtipobchbnjgenaaGreatBJrnG
set_option linter.unusedVariables false
set_option linter.unusedSimpArgs false
set_option maxRecDepth 100000
set_option maxHeartbeats 4000000
namespace Go.Proofs.YtipobchbnjgenaaGreat
open Go.RowKit Go.Maps Fld Slp Pln
def tokR (v : Value) : Option (DataW Value × List MemPlace) := some (.held v, [])
theorem int_keyedW : Keyed Tryz.prog 3 := int_keyed Tryz.underlying3
theorem key_int {r : Int} (h : -9223372036854775808 <= r ∧ r <= 9223372036854775807) : keyOf Tryz.prog 3 (.int .i64 r) = some (.int .i64 r) := by
 refine keyOf_int_mk Tryz.underlying3 ?_
 have h1 : IntKind.i64.min = -9223372036854775808 := by decide
 have h2 : IntKind.i64.max = 9223372036854775807 := by decide
 simp only [Lit.wf, h1, h2, Bool.and_eq_true, decide_eq_true_eq]
 exact h
theorem zero_u64s (w : World) : (zeroValue 54).run Tryz.prog w = .ok (.slice none 0 0) w := by kernel_rfl
def Mpw (w : World) (lo b : Nat) (L : List (Int × List Int)) : Prop :=
 ∃ D : DataW Value, w.ownsMap Tryz.prog 3 tokR b L.length D ∧ (∀ r, has D (.int .i64 r) = (fndW L r).isSome) ∧ ∀ r xs, fndW L r = some xs -> ∃ v, (∀ z, D.atKey (.int .i64 r) z = .held v) ∧ w.ownsRow lo 83 1 v xs.length (vals xs)
theorem Mpw.lt {w : World} {lo b : Nat} {L : List (Int × List Int)} (h : Mpw w lo b L) : b < w.heap.size := by obtain ⟨D, h1, _⟩ := h; exact h1.lt
theorem Mpw.obj {w : World} {lo b : Nat} {L : List (Int × List Int)} (h : Mpw w lo b L) : ∃ es c, w.heap[b]? = some (.map es c) := by obtain ⟨D, ⟨es, c, h1, _⟩, _⟩ := h; exact ⟨es, c, h1⟩
theorem own_map {w : World} {base s n b : Nat} {T : TypeId} {v : Value} {xs : List Value} {es : Array MapEntry} {c : Nat} (h : w.ownsRow base T s v n xs) (hb : w.heap[b]? = some (.map es c)) : v.ownBlock ≠ some b := by
 rcases h.2 with ⟨rfl, _⟩ | ⟨g, cap, cur, rfl, _, hg, _⟩
 · simp [Value.ownBlock]
 · intro e
   have e1 : g = b := by simpa [Value.ownBlock] using e
   subst e1
   have := hg.symm.trans hb
   cases this
theorem ownsMap_kq {S : Nat -> Prop} {w w' : World} {b n : Nat} {D : DataW Value} (h : w.ownsMap Tryz.prog 3 tokR b n D) (k : Kq S w w') (hb : S b) : w'.ownsMap Tryz.prog 3 tokR b n D := by
 obtain ⟨es, c, h1, h2⟩ := h
 exact ⟨es, c, (k.block b hb).trans h1, h2⟩
theorem Mpw.kept {S : Nat -> Prop} {w w' : World} {lo b : Nat} {L : List (Int × List Int)} (h : Mpw w lo b L) (k : Kq S w w') (hb : S b) (hr : ∀ v n xs, w.ownsRow lo 83 1 v n xs -> ∀ j, v.ownBlock = some j -> S j) : Mpw w' lo b L := by
 obtain ⟨D, h1, h2, h3⟩ := h
 refine ⟨D, ownsMap_kq h1 k hb, h2, fun r xs hf => ?_⟩
 obtain ⟨v, e, ho⟩ := h3 r xs hf
 exact ⟨v, e, k.own ho (fun j hj => hr v _ _ ho j hj)⟩
theorem Mpw.below {w w' : World} {lo b : Nat} {L : List (Int × List Int)} (h : Mpw w lo b L) (hb : Below w.heap.size w w') : Mpw w' lo b L :=
 h.kept (Below.kq hb (S := fun j => j < w.heap.size) (fun j hj => hj)) h.lt (fun v n xs ho j hj => (ho.lt j hj).2)
theorem Mpw.mono {w : World} {lo lo' b : Nat} {L : List (Int × List Int)} (h : Mpw w lo b L) (hl : lo' <= lo) : Mpw w lo' b L := by
 obtain ⟨D, h1, h2, h3⟩ := h
 refine ⟨D, h1, h2, fun r xs hf => ?_⟩
 obtain ⟨v, e, ho⟩ := h3 r xs hf
 exact ⟨v, e, own_mono ho hl⟩
theorem mpw_new (w : World) (lo : Nat) : Mpw (w.alloc (.map #[] 0)) lo w.heap.size [] :=
 ⟨.map [], World.ownsMap_made _ _ _ _, fun r => rfl, fun r xs h => by cases h⟩
def shW (L : List (Int × List Int)) (r : Int) : List Int := (fndW L r).getD []
theorem shW_some {L : List (Int × List Int)} {r : Int} {xs : List Int} (h : fndW L r = some xs) : shW L r = xs := by unfold shW; rw [h]; rfl
theorem shW_none {L : List (Int × List Int)} {r : Int} (h : fndW L r = none) : shW L r = [] := by unfold shW; rw [h]; rfl
theorem Mpw.look {w : World} {lo b : Nat} {L : List (Int × List Int)} (h : Mpw w lo b L) {r : Int} (hr : -9223372036854775808 <= r ∧ r <= 9223372036854775807) :
 ∃ v, (Instr.lookup 100 (.map (some b)) (.int .i64 r) true).run Tryz.prog w = .ok (.tuple #[v, .bool (fndW L r).isSome]) w ∧ w.ownsRow lo 83 1 v (shW L r).length (vals (shW L r)) := by
 obtain ⟨D, h1, h2, h3⟩ := h
 obtain ⟨v, ps, hrun, hv⟩ := h1.look_ok int_keyedW Tryz.underlying100 (zero_u64s w) (zd := .held (.slice none 0 0)) (zp := []) rfl (key_int hr)
 rw [h2 r] at hrun
 refine ⟨v, hrun, ?_⟩
 have hv2 : (DataW.held v : DataW Value) = D.atKey (.int .i64 r) (.held (.slice none 0 0)) := by
  have := Option.some.inj hv
  exact (Prod.mk.inj this).1
 cases hf : fndW L r with
 | none =>
  rw [shW_none hf]
  have hn : has D (.int .i64 r) = false := by rw [h2, hf]; rfl
  rw [atKey_of_not_has hn] at hv2
  injection hv2 with hv2
  rw [hv2]
  exact World.ownsRow_nil _ _ _ _
 | some xs =>
  rw [shW_some hf]
  obtain ⟨u, e, ho⟩ := h3 r xs hf
  rw [e] at hv2
  injection hv2 with hv2
  rw [hv2]; exact ho
theorem Mpw.put {w w' : World} {lo b : Nat} {L : List (Int × List Int)} {D : DataW Value} {r : Int} {xs : List Int} {v : Value} (h2 : ∀ r, has D (.int .i64 r) = (fndW L r).isSome) (h3 : ∀ r xs, fndW L r = some xs -> ∃ v, (∀ z, D.atKey (.int .i64 r) z = .held v) ∧ w.ownsRow lo 83 1 v xs.length (vals xs))
 (hm : IsMap D) (hb : ∃ es c, w.heap[b]? = some (.map es c)) (hf : fndW L r = none) (ho : w.ownsRow lo 83 1 v xs.length (vals xs)) (h1 : w'.ownsMap Tryz.prog 3 tokR b (L.length + 1) (D.put (.int .i64 r) (.held v))) (hg : w.grownBy w' (some b)) : Mpw w' lo b (L ++ [(r, xs)]) := by
 obtain ⟨es, c, hb⟩ := hb
 have keep : ∀ {v : Value} {n : Nat} {xs : List Value}, w.ownsRow lo 83 1 v n xs -> w'.ownsRow lo 83 1 v n xs := fun ho => own_kept ho hg (fun g hg e => own_map ho hb (by rw [hg, e]))
 have hk : WideAt.IsKeyLit (.int .i64 r) := trivial
 have hne : ∀ {s : Int}, s ≠ r -> (Lit.int .i64 s) ≠ .int .i64 r := fun hs e => hs (by injection e)
 refine ⟨_, by rw [List.length_append]; exact h1, fun s => ?_, fun s ys hs => ?_⟩
 · rw [fnd_snoc]
   by_cases e : s = r
   · subst e
     rw [hf, has_put_same hm hk]
     simp
   · rw [has_put_other (hne e), h2]
     cases hs : fndW L s with
     | none => simp [Ne.symm e]
     | some _ => rfl
 · rw [fnd_snoc] at hs
   by_cases e : s = r
   · subst e
     rw [hf] at hs
     simp only [if_true] at hs
     injection hs with hs
     subst hs
     exact ⟨v, fun z => atKey_put_same hm hk _ z, keep ho⟩
   · have hs2 : fndW L s = some ys := by
      cases hq : fndW L s with
      | none => rw [hq] at hs; simp [Ne.symm e] at hs
      | some zs => rw [hq] at hs; exact hs
     obtain ⟨u, e1, e2⟩ := h3 s ys hs2
     exact ⟨u, fun z => by rw [atKey_put_other (hne e)]; exact e1 z, keep e2⟩
def wkw (p : Pn) (q : Pr) (vo vu : Value) (id : Int) (g mb : Nat) (x : Bool) : Array Value := #[.int .u8 p.f, .int .i64 p.n, .int .i64 p.k, .int .i64 p.t, .int .i64 p.s, .int .i64 p.e, .int .i64 p.d, .int .i64 p.w, .int .i64 q.inp, vo, vu, .int .i64 id, .pointer (some ⟨g, 0, none⟩), .map (some mb), .bool x]
structure Wp (w : World) (base kb mb g : Nat) (vo vu : Value) (p : Pn) (q : Pr) (id : Int) (st : Wk) : Prop where
 blk : w.heap[kb]? = some (.cells (wkw p q vo vu id g mb st.x) 102 (0, 0))
 map : Mpw w base mb st.L
 ops : w.ownsRow base 85 4 vo q.ops.length (q.ops.flatMap opw)
 outs : w.ownsRow base 3 1 vu q.outs.length (q.outs.flatMap iw)
 lowk : base <= kb
 lowm : base <= mb
section
variable {w w' : World} {base kb mb g : Nat} {vo vu : Value} {p : Pn} {q : Pr} {id : Int} {st : Wk}
theorem Wp.lt (h : Wp w base kb mb g vo vu p q id st) : kb < w.heap.size := (Array.getElem?_eq_some_iff.1 h.blk).1
theorem Wp.free (h : Wp w base kb mb g vo vu p q id st) (k : Nat) : w.frozen? ⟨kb, k, none⟩ = false := by
 have h' := h.blk
 simp [World.frozen?, h']
theorem Wp.kept {S : Nat -> Prop} (h : Wp w base kb mb g vo vu p q id st) (k : Kq S w w') (h1 : S kb) (h2 : S mb) (hr : ∀ T s v n xs, (T = 83 ∨ T = 3 ∨ T = 85) -> w.ownsRow base T s v n xs -> ∀ j, v.ownBlock = some j -> S j) : Wp w' base kb mb g vo vu p q id st :=
 ⟨(k.block kb h1).trans h.blk, h.map.kept k h2 (fun v n xs ho j hj => hr _ _ _ _ _ (.inl rfl) ho j hj), k.own h.ops (fun j hj => hr _ _ _ _ _ (.inr (.inr rfl)) h.ops j hj), k.own h.outs (fun j hj => hr _ _ _ _ _ (.inr (.inl rfl)) h.outs j hj), h.lowk, h.lowm⟩
theorem Wp.below (h : Wp w base kb mb g vo vu p q id st) (hb : Below w.heap.size w w') : Wp w' base kb mb g vo vu p q id st :=
 h.kept (Below.kq hb (S := fun j => j < w.heap.size) (fun j hj => hj)) h.lt h.map.lt (fun T s v n xs _ ho j hj => (ho.lt j hj).2)
theorem Wp.mono {base' : Nat} (h : Wp w base kb mb g vo vu p q id st) (hb : base' <= base) : Wp w base' kb mb g vo vu p q id st :=
 ⟨h.blk, h.map.mono hb, own_mono h.ops hb, own_mono h.outs hb, Nat.le_trans hb h.lowk, Nat.le_trans hb h.lowm⟩
end
def Wv (w : World) (kb mb g : Nat) (o : Option Nat) (j : Nat) : Prop := Bv w g o j ∧ j ≠ kb ∧ j ≠ mb
structure Ev (w w' : World) (kb mb g : Nat) (v v' : Value) : Prop where
 kq : Kq (Wv w kb mb g v.ownBlock) w w'
 new : ∀ j, v'.ownBlock = some j -> v.ownBlock = some j ∨ w.heap.size <= j
theorem Ev.refl (w : World) (kb mb g : Nat) (v : Value) : Ev w w kb mb g v v := ⟨Kq.refl _ w, fun j h => .inl h⟩
theorem Ev.of_mv {w w' : World} {g : Nat} {v v' : Value} (kb mb : Nat) (h : Mv w w' g v v') : Ev w w' kb mb g v v' := ⟨h.kq.mono (fun j hj => hj.1), h.new⟩
theorem Ev.of_below {w w' : World} (kb mb g : Nat) (v : Value) (h : Below w.heap.size w w') : Ev w w' kb mb g v v := Ev.of_mv kb mb (Mv.of_below g v h)
theorem Ev.trans {a b c : World} {kb mb g : Nat} {u v x : Value} (h : Ev a b kb mb g u v) (k : Ev b c kb mb g v x) : Ev a c kb mb g u x := by
 have hs := h.kq.size
 refine ⟨h.kq.trans (k.kq.mono (fun j hj => ⟨⟨by have := hj.1.1; omega, hj.1.2.1, fun e => ?_⟩, hj.2⟩)), fun j hj => ?_⟩
 · rcases h.new j e with h1 | h1
   · exact hj.1.2.2 h1
   · have := hj.1.1; omega
 · rcases k.new j hj with h1 | h1
   · exact h.new j h1
   · exact .inr (by omega)
theorem Ev.next {a b c : World} {kb mb g : Nat} {u v : Value} (h : Ev a b kb mb g u v) (k : Below b.heap.size b c) : Ev a c kb mb g u v := h.trans (Ev.of_below _ _ _ _ k)
theorem Ev.after {a b c : World} {kb mb g : Nat} {u v : Value} (h : Below a.heap.size a b) (k : Ev b c kb mb g u v) : Ev a c kb mb g u v := (Ev.of_below _ _ _ _ h).trans k
theorem Ev.below {w w' : World} {kb mb g base : Nat} {v v' : Value} (h : Ev w w' kb mb g v v') (hw : base <= w.heap.size) (h1 : base <= kb) (h2 : base <= mb) (h3 : base <= g) (hv : ∀ j, v.ownBlock = some j -> base <= j) : Below base w w' :=
 h.kq.below (fun j hj => ⟨⟨by omega, by omega, fun e => by have := hv j e; omega⟩, by omega, by omega⟩)
section
variable {w w' : World} {base kb mb g : Nat} {vo vu v v' : Value} {p : Pn} {q : Pr} {id : Int} {st : Wk} {D : Dsk}
theorem Wp.mvd (h : Wp w base kb mb g vo vu p q id st) {base2 g2 : Nat} (hd : Hd w base2 g2 v D) (m : Mv w w' g2 v v') : Wp w' base kb mb g vo vu p q id st := by
 obtain ⟨es, c, ho⟩ := h.map.obj
 refine h.kept m.kq ⟨h.lt, fun e => ?_, own_notO hd.row h.blk (by decide)⟩ ⟨h.map.lt, fun e => ?_, own_map hd.row ho⟩ (fun T s u n xs hT hu j hj => ⟨(hu.lt j hj).2, fun e => ?_, own_kindO hu hd.row (by rcases hT with rfl | rfl | rfl <;> decide) j hj⟩)
 · have h1 := hd.dsk
   rw [<- e, h.blk] at h1
   simp at h1
 · have h1 := hd.dsk
   rw [<- e, ho] at h1
   cases h1
 · subst e
   exact own_notO hu hd.dsk (by rcases hT with rfl | rfl | rfl <;> decide) hj
theorem Hd.kqm (hd : Hd w base g v D) (h : ∃ es c, w.heap[mb]? = some (.map es c)) (k : Kq (fun j => j < w.heap.size ∧ j ≠ mb) w w') : Hd w' base g v D := by
 obtain ⟨es, c, ho⟩ := h
 refine hd.kept k ⟨hd.lt, fun e => ?_⟩ (fun j hj => ⟨(hd.own_lt j hj).2, fun e => own_map hd.row ho (by rw [hj, e])⟩)
 have h1 := hd.dsk
 rw [e, ho] at h1
 cases h1
theorem Wp.down (h : Wp w base kb mb g vo vu p q id st) : Wp (w.setCell ⟨kb, 14, none⟩ (.bool true)) base kb mb g vo vu p q id ⟨st.L, true⟩ := by
 obtain ⟨es, c, ho⟩ := h.map.obj
 have hkq : Kq (fun j => j < w.heap.size ∧ j ≠ kb) w (w.setCell ⟨kb, 14, none⟩ (.bool true)) := ⟨rfl, rfl, rfl, by simp, fun j hj => Below.heap_setCell _ _ _ j hj.2⟩
 refine ⟨set_blk h.blk 14 (.bool true), h.map.kept hkq ⟨h.map.lt, fun e => ?_⟩ (fun u n xs hu j hj => ⟨(hu.lt j hj).2, fun e => own_notO hu h.blk (by decide) (by rw [hj, e])⟩), hkq.own h.ops (fun j hj => ⟨(h.ops.lt j hj).2, fun e => own_notO h.ops h.blk (by decide) (by rw [hj, e])⟩), hkq.own h.outs (fun j hj => ⟨(h.outs.lt j hj).2, fun e => own_notO h.outs h.blk (by decide) (by rw [hj, e])⟩), h.lowk, h.lowm⟩
 have := h.blk
 rw [<- e, ho] at this
 cases this
theorem Hd.down (hd : Hd w base g v D) (h : Wp w base kb mb g vo vu p q id st) : Hd (w.setCell ⟨kb, 14, none⟩ (.bool true)) base g v D := by
 have hkq : Kq (fun j => j < w.heap.size ∧ j ≠ kb) w (w.setCell ⟨kb, 14, none⟩ (.bool true)) := ⟨rfl, rfl, rfl, by simp, fun j hj => Below.heap_setCell _ _ _ j hj.2⟩
 refine hd.kept hkq ⟨hd.lt, fun e => ?_⟩ (fun j hj => ⟨(hd.own_lt j hj).2, fun e => own_notO hd.row h.blk (by decide) (by rw [hj, e])⟩)
 have h1 := hd.dsk
 rw [e, h.blk] at h1
 simp at h1
theorem Kq.ev (v : Value) (h : Kq (fun j => j < w.heap.size ∧ j ≠ mb) w w') (kb g : Nat) : Ev w w' kb mb g v v := ⟨h.mono (fun j hj => ⟨hj.1.1, hj.2.2⟩), fun j hj => .inl hj⟩
theorem ev_down (w : World) (kb mb g : Nat) (v : Value) : Ev w (w.setCell ⟨kb, 14, none⟩ (.bool true)) kb mb g v v := ⟨⟨rfl, rfl, rfl, by simp, fun j hj => Below.heap_setCell _ _ _ j hj.2.1⟩, fun j hj => .inl hj⟩
end
end Go.Proofs.YtipobchbnjgenaaGreat
