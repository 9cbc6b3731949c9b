import Derived.Test.YtipobchbnjgenaaGreatBJrnD
import Derived.Test.YtipobchbnjgenaaGreatBRngA
set_option linter.unusedVariables false
set_option linter.unusedSimpArgs false
set_option maxRecDepth 100000
set_option maxHeartbeats 4000000
namespace Go.Proofs.YtipobchbnjgenaaGreat
open Go.RowKit Go.Shelf Fld
def bksP (zs : List Int) : List (List Int) := (List.range ((zs.length + 31) / 32)).map (blkP zs)
theorem bksP_len (zs : List Int) : (bksP zs).length = (zs.length + 31) / 32 := by simp [bksP]
theorem bksP_at {zs : List Int} {k : Nat} (h : k < (zs.length + 31) / 32) : (bksP zs)[k]? = some (blkP zs k) := by
 unfold bksP
 rw [List.getElem?_map, List.getElem?_range h]; rfl
theorem bksP_take {zs : List Int} {k : Nat} (h : k < (zs.length + 31) / 32) : (bksP zs).take (k + 1) = (bksP zs).take k ++ [blkP zs k] := by
 rw [List.take_add_one, bksP_at h]; rfl
theorem bksP_jrC (S : List Int -> Int) (r : List Int) : bksP (slF S r) = jrC S r := by
 have e : ((slF S r).length + 31) / 32 = jrN r.length := by rw [slF_len]; unfold jrN; congr 1; omega
 apply List.ext_getElem?
 intro k
 by_cases h : k < jrN r.length
 · rw [bksP_at (by rw [e]; exact h), jrC_at S r h]
 · rw [List.getElem?_eq_none (by rw [bksP_len, e]; omega), List.getElem?_eq_none (by rw [jrC_len]; omega)]
theorem wsE_cons (D : Dsk) (b : List Int) (bs : List (List Int)) : wsE D (b :: bs) = if wrE22 D b = 0 then wsE (wrN22 D b) bs else wrE22 D b := rfl
theorem wsN_cons (D : Dsk) (b : List Int) (bs : List (List Int)) : wsN D (b :: bs) = if wrE22 D b = 0 then wsN (wrN22 D b) bs else wrN22 D b := rfl
theorem ws_app (cs bs : List (List Int)) : ∀ D : Dsk, wsE D (cs ++ bs) = (if wsE D cs = 0 then wsE (wsN D cs) bs else wsE D cs) ∧ wsN D (cs ++ bs) = (if wsE D cs = 0 then wsN (wsN D cs) bs else wsN D cs) := by
 induction cs with
 | nil => intro D; exact ⟨rfl, rfl⟩
 | cons a cs ih =>
  intro D
  rw [List.cons_append, wsE_cons, wsN_cons, wsE_cons, wsN_cons]
  by_cases h : wrE22 D a = 0
  · rw [if_pos h, if_pos h, if_pos h, if_pos h]
    exact ih _
  · rw [if_neg h, if_neg h, if_neg h, if_neg h, if_neg h, if_neg h]
    exact ⟨rfl, rfl⟩
theorem ws_one (D : Dsk) (b : List Int) : wsE D [b] = wrE22 D b ∧ wsN D [b] = wrN22 D b := by
 rw [wsE_cons, wsN_cons]
 by_cases h : wrE22 D b = 0
 · rw [if_pos h, if_pos h, h]; exact ⟨rfl, rfl⟩
 · rw [if_neg h, if_neg h]; exact ⟨rfl, rfl⟩
theorem wsN_n (bs : List (List Int)) : ∀ D : Dsk, (wsN D bs).n <= D.n + bs.length := by
 induction bs with
 | nil => intro D; exact Nat.le_refl _
 | cons b bs ih =>
  intro D
  unfold wsN
  rw [List.length_cons]
  have h1 := wrN_n D b
  split
  · have := ih (wrN22 D b); omega
  · omega
theorem ws_snoc {D : Dsk} {zs : List Int} {k : Nat} (h : k < (zs.length + 31) / 32) (h0 : wsE D ((bksP zs).take k) = 0) : wsE D ((bksP zs).take (k + 1)) = wrE22 (wsN D ((bksP zs).take k)) (blkP zs k) ∧ wsN D ((bksP zs).take (k + 1)) = wrN22 (wsN D ((bksP zs).take k)) (blkP zs k) := by
 obtain ⟨h1, h2⟩ := ws_app ((bksP zs).take k) [blkP zs k] D
 rw [if_pos h0] at h1 h2
 rw [bksP_take h, h1, h2]
 exact ws_one _ _
theorem ws_stop {D : Dsk} {zs : List Int} {k : Nat} (h0 : wsE D ((bksP zs).take k) ≠ 0) : wsE D (bksP zs) = wsE D ((bksP zs).take k) ∧ wsN D (bksP zs) = wsN D ((bksP zs).take k) := by
 obtain ⟨h1, h2⟩ := ws_app ((bksP zs).take k) ((bksP zs).drop k) D
 rw [List.take_append_drop, if_neg h0] at h1 h2
 exact ⟨h1, h2⟩
def wrF (g : Nat) : Value := .func (.func 71) #[.pointer (some ⟨g, 0, none⟩)] #[]
structure Wrt (w : World) (base g : Nat) (v : Value) (lo : Nat) (pv : Value) (n : Nat) (zs : List Int) (D : Dsk) (x : Int) (W : World) : Prop where
 dsk : ∃ v', Hd W base g v' D ∧ Mv w W g v v'
 b0 : W.heap[w.heap.size]? = some (.cells #[wrF g] 138 (0, 0))
 ke : Ke W (w.heap.size + 1) x
 b2 : W.heap[w.heap.size + 1 + 1]? = some (.cells #[keF (w.heap.size + 1)] 196 (0, 0))
 b3 : W.heap[w.heap.size + 1 + 1 + 1]? = some (.cells #[pv] 30 (0, 0))
 pc : W.ownsRow lo 5 1 pv n (valb zs)
theorem Wrt.lt {w W : World} {base g lo n : Nat} {v pv : Value} {zs : List Int} {D : Dsk} {x : Int} (h : Wrt w base g v lo pv n zs D x W) : w.heap.size + 1 + 1 + 1 < W.heap.size := (Array.getElem?_eq_some_iff.1 h.b3).1
theorem Mv.grown {w W W' : World} {g : Nat} {v v' : Value} {row : Option Nat} (m : Mv w W g v v') (hg : W.grownBy W' row) (hr : ∀ r, row = some r -> w.heap.size <= r) : Mv w W' g v v' :=
 ⟨m.kq.trans (grown_kq hg (fun j hj => Nat.lt_of_lt_of_le hj.1 m.kq.size) (fun k e hk => by have := hr k e; have := hk.1; omega)), m.new⟩
theorem Hd.left {W W' : World} {base g : Nat} {v : Value} {D : Dsk} {row : Option Nat} (h : Hd W base g v D) (hg : W.grownBy W' row) (hr : ∀ r, row = some r -> ∃ o : Obj, W.heap[r]? = some o ∧ o.isCells = false) : Hd W' base g v D :=
 ⟨blk_kept h.dsk hg hr, own_left h.row hg hr, h.low, h.o⟩
theorem Wrt.own {σ : Type} {w : World} {base g lo n : Nat} {v pv : Value} {zs : List Int} {L : Nat} (hL : w.heap.size <= L) (D : σ -> Dsk) (x : σ -> Int) : OwnFrom L (fun (s : σ) W => Wrt w base g v lo pv n zs (D s) (x s) W) := fun s W W' row h hg hr => by
 have hr2 : ∀ r, row = some r -> ∃ o : Obj, W.heap[r]? = some o ∧ o.isCells = false := fun r e => (hr r e).2
 obtain ⟨v', hd, hm⟩ := h.dsk
 exact ⟨⟨v', hd.left hg hr2, hm.grown hg (fun r e => Nat.le_trans hL (hr r e).1)⟩, blk_kept h.b0 hg hr2, blk_kept h.ke hg hr2, blk_kept h.b2 hg hr2, blk_kept h.b3 hg hr2, own_left h.pc hg hr2⟩
theorem Hd.apart {W W' : World} {base g b : Nat} {v v' : Value} {D : Dsk} {cs : Array Value} {T : TypeId} (h : Hd W base g v D) (m : Mv W W' g v v') (hb : W.heap[b]? = some (.cells cs T (0, 0))) (h1 : T ≠ 93) (h2 : T ≠ 123) : W'.heap[b]? = some (.cells cs T (0, 0)) := by
 refine (m.block (Array.getElem?_eq_some_iff.1 hb).1 (fun e => ?_) (own_notO h.row hb h2)).trans hb
 subst e
 have := hb.symm.trans h.dsk
 injection this with this
 injection this with _ e2 _
 exact h1 e2
theorem Hd.apart_row {W W' : World} {base g lo n s : Nat} {v v' u : Value} {D : Dsk} {xs : List Value} {T : TypeId} (h : Hd W base g v D) (m : Mv W W' g v v') (ho : W.ownsRow lo T s u n xs) (h1 : T ≠ 93) (h2 : T ≠ 123) : W'.ownsRow lo T s u n xs :=
 m.kq.own ho (fun j hj => ⟨(ho.lt j hj).2, fun e => by subst e; exact own_notO ho h.dsk (fun e => h1 e.symm) hj, fun e => own_kindO ho h.row h2 j hj e⟩)
theorem Wrt.wrote {w W W' : World} {base g lo n : Nat} {v pv u u' : Value} {zs : List Int} {D E : Dsk} {x : Int} (h : Wrt w base g v lo pv n zs D x W) (hd : Hd W base g u D) (hm : Mv w W g v u) (hn : Hd W' base g u' E) (m : Mv W W' g u u') : Wrt w base g v lo pv n zs E x W' :=
 ⟨⟨u', hn, hm.trans m⟩, hd.apart m h.b0 (by decide) (by decide), hd.apart m h.ke (by decide) (by decide), hd.apart m h.b2 (by decide) (by decide), hd.apart m h.b3 (by decide) (by decide), hd.apart_row m h.pc (by decide) (by decide)⟩
theorem Wrt.kept {w W W' : World} {base g lo n : Nat} {v pv : Value} {zs : List Int} {D : Dsk} {x y e : Int} (h : Wrt w base g v lo pv n zs D x W) (hk : Ke W' (w.heap.size + 1) y) (hw : W' = W ∨ W' = W.setCell ⟨w.heap.size + 1, 0, none⟩ (.int .i64 e)) : Wrt w base g v lo pv n zs D y W' := by
 rcases hw with rfl | rfl
 · exact ⟨h.dsk, h.b0, hk, h.b2, h.b3, h.pc⟩
 · obtain ⟨v', hd, hm⟩ := h.dsk
   have hne : w.heap.size + 1 ≠ g := by
    intro e; rw [<- e] at hd
    have := hd.dsk.symm.trans h.ke
    simp at this
   have hke : W.heap[w.heap.size + 1]? = some (.cells #[.int .i64 x] 40 (0, 0)) := h.ke
   refine ⟨⟨v', ⟨?_, ownsRow_setCell_other hd.row (own_notO hd.row hke (by decide)) _, hd.low, hd.o⟩, hm.set_new (by omega) 0 _⟩, ?_, hk, ?_, ?_, ownsRow_setCell_other h.pc (own_notO h.pc hke (by decide)) _⟩
   · exact (Below.heap_setCell _ _ _ _ (fun e => hne e.symm)).trans hd.dsk
   · exact (Below.heap_setCell _ _ _ _ (by show w.heap.size ≠ w.heap.size + 1; omega)).trans h.b0
   · exact (Below.heap_setCell _ _ _ _ (by show w.heap.size + 1 + 1 ≠ w.heap.size + 1; omega)).trans h.b2
   · exact (Below.heap_setCell _ _ _ _ (by show w.heap.size + 1 + 1 + 1 ≠ w.heap.size + 1; omega)).trans h.b3
def Sj (b p j : Nat) : Prop := j = b ∨ j = p
theorem Wrt.kqw {w W W' : World} {base g lo n p : Nat} {v pv u u' : Value} {zs : List Int} {D : Dsk} {x : Int} (h : Wrt w base g v lo pv n zs D x W) (hd : Hd W base g u D) (m : Mv W W' g u u') (hp : pv.ownBlock = some p) : Kq (Sj (w.heap.size + 1 + 1 + 1) p) W W' := by
 refine m.kq.mono (fun j hj => ?_)
 rcases hj with rfl | rfl
 · refine ⟨h.lt, fun e => ?_, own_notO hd.row h.b3 (by decide)⟩
   have hb3 := h.b3
   rw [e] at hb3
   have := hd.dsk.symm.trans hb3
   simp at this
 · exact ⟨(h.pc.lt j hp).2, fun e => by subst e; exact own_notO h.pc hd.dsk (by decide) hp, fun e => own_kindO h.pc hd.row (by decide) j hp e⟩
theorem Wrt.kqk {w W W' : World} {base g lo n p : Nat} {v pv : Value} {zs : List Int} {D : Dsk} {x e : Int} (h : Wrt w base g v lo pv n zs D x W) (hw : W' = W ∨ W' = W.setCell ⟨w.heap.size + 1, 0, none⟩ (.int .i64 e)) (hp : pv.ownBlock = some p) : Kq (Sj (w.heap.size + 1 + 1 + 1) p) W W' := by
 rcases hw with rfl | rfl
 · exact Kq.refl _ _
 · refine ⟨rfl, rfl, rfl, by simp, fun j hj => Below.heap_setCell _ _ _ j ?_⟩
   rcases hj with rfl | rfl
   · show w.heap.size + 1 + 1 + 1 ≠ w.heap.size + 1; omega
   · intro e2
     rw [e2] at hp
     exact own_notO h.pc h.ke (by decide) hp
theorem Hd.keeps {W W' : World} {base g B : Nat} {v v' : Value} {D : Dsk} (h : Hd W base g v D) (m : Mv W W' g v v') : KeepsFrom B W W' := by
 refine ⟨m.kq.size, fun k o _ hk ho => ?_⟩
 refine (m.block (Array.getElem?_eq_some_iff.1 hk).1 (fun e => ?_) (fun e => ?_)).trans hk
 · subst e
   have := hk.symm.trans h.dsk
   injection this with this
   subst this
   simp [Obj.isCells] at ho
 · rcases h.row.2 with ⟨e1, _⟩ | ⟨g1, c1, u1, e1, _, k1, _⟩
   · rw [e1] at e; simp [Value.ownBlock] at e
   · rw [e1] at e
     simp [Value.ownBlock] at e
     subst e
     have := hk.symm.trans k1
     injection this with this
     subst this
     simp [Obj.isCells] at ho
end Go.Proofs.YtipobchbnjgenaaGreat
