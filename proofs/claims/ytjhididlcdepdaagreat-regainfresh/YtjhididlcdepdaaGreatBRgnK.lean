import Derived.Test.YtjhididlcdepdaaGreatBRgnH
import Derived.Test.YtjhididlcdepdaaGreatBLocK
set_option linter.unusedVariables false
set_option linter.unusedSimpArgs false
set_option maxRecDepth 100000
set_option maxHeartbeats 4000000
namespace Go.Proofs.YtjhididlcdepdaaGreat
open Go.RowKit Fld Pln
noncomputable def mkm (p : Pn) (l : List Rp) (k : Nat) (a : List Int) (j : Nat) : Bool := wrB p l k j || a.any (fun i => decide ((l.getD i.toNat nrp).w = (j : Int)))
theorem mkm_zero (p : Pn) (l : List Rp) (k : Nat) (j : Nat) : mkm p l k [] j = wrB p l k j := by unfold mkm; simp
theorem mkm_next {p : Pn} {l : List Rp} {k : Nat} {a : List Int} {i : Int} {J : Nat} (h : (l.getD i.toNat nrp).w = (J : Int)) (j : Nat) : (mkm p l k a j || decide (j = J)) = mkm p l k (a ++ [i]) j := by
 unfold mkm
 rw [List.any_append]
 have : [i].any (fun i => decide ((l.getD i.toNat nrp).w = (j : Int))) = decide (j = J) := by
  simp only [List.any_cons, List.any_nil, Bool.or_false, h]
  by_cases e : j = J
  · rw [decide_eq_true e, decide_eq_true (by omega)]
  · rw [decide_eq_false e, decide_eq_false (by omega)]
 rw [this, Bool.or_assoc]
theorem mkm_end (p : Pn) (l : List Rp) (k : Nat) (j : Nat) : mkm p l k (ofI (pOf p.f) (dcL p l k) (xsR p l) (ysR k l)) j = wrB p l (k + 1) j := by
 rw [Bool.eq_iff_iff, wrB_next]
 unfold mkm ofI
 rw [Bool.or_eq_true, List.any_eq_true]
 constructor
 · rintro (h | ⟨x, hx, hj⟩)
   · exact .inl h
   · obtain ⟨i, hi, rfl⟩ := List.mem_map.1 hx
     exact .inr ⟨i, hi, by have := of_decide_eq_true hj; rwa [Int.toNat_natCast] at this⟩
 · rintro (h | ⟨i, hi, hj⟩)
   · exact .inl h
   · exact .inr ⟨(i : Int), List.mem_map.2 ⟨i, hi, rfl⟩, by rw [Int.toNat_natCast]; exact decide_eq_true hj⟩
noncomputable def plk (p : Pn) (l : List Rp) (n k : Nat) : List (List Int) := mkl n (fun t => if t < k then dcL p l t else [])
theorem plk_len (p : Pn) (l : List Rp) (n k : Nat) : (plk p l n k).length = n := mkl_len _ _
theorem plk_set (p : Pn) (l : List Rp) {n k : Nat} (hk : k < n) : (plk p l n k).set k (dcL p l k) = plk p l n (k + 1) := by
 unfold plk
 rw [mkl_set _ hk]
 refine mkl_congr (fun t ht => ?_)
 by_cases e : t = k
 · rw [if_pos e, if_pos (by omega), e]
 · rw [if_neg e]
   by_cases e2 : t < k
   · rw [if_pos e2, if_pos (by omega)]
   · rw [if_neg e2, if_neg (by omega)]
theorem plk_all (p : Pn) (l : List Rp) (n : Nat) : plk p l n n = plL p l n := mkl_congr (fun t ht => by rw [if_pos ht])
theorem kq_set8 {S : Nat -> Prop} {W : World} {g k : Nat} {v : Value} (h : ¬ S g) : Kq S W (W.setCell ⟨g, k, none⟩ v) :=
 ⟨rfl, rfl, rfl, by simp, fun j hj => Below.heap_setCell _ _ _ j (fun e => h (by have e' : j = g := e; rw [<- e']; exact hj))⟩
structure Dcf (p : Pn) (us : List Rq) (n : Nat) (w0 Wb : World) (gp gx gl gd gq gw G : Nat) (vx vl : Value) : Prop where
 rp : Rpl w0 vl us
 bl : Below w0.heap.size w0 Wb
 pb : Pb Wb gp p
 bx : Wb.heap[gx]? = some (.cells #[vx] 36 (0, 0))
 br : Wb.heap[gl]? = some (.cells #[vl] 25 (0, 0))
 bd : Wb.heap[gd]? = some (.cells #[.int .i64 (dg p)] 3 (0, 0))
 bq : Wb.heap[gq]? = some (.cells #[.slice (some ⟨G, 0, none⟩) n n] 26 (0, 0))
 xs : Wb.ownsRow w0.heap.size 64 1 vx us.length (vals (xsR p (rps us)))
 lw : w0.heap.size <= gw ∧ gw < Wb.heap.size
 lG : w0.heap.size <= G ∧ G < Wb.heap.size
 ne : gw ≠ G ∧ (gp ≠ gw ∧ gp ≠ G) ∧ (gx ≠ gw ∧ gx ≠ G) ∧ (gl ≠ gw ∧ gl ≠ G) ∧ (gd ≠ gw ∧ gd ≠ G) ∧ (gq ≠ gw ∧ gq ≠ G)
 xo : ∀ g, vx.ownBlock = some g -> g ≠ gw ∧ g ≠ G
def Sd (Wb : World) (gw G : Nat) (j : Nat) : Prop := j < Wb.heap.size ∧ j ≠ gw ∧ j ≠ G
structure Dcs (p : Pn) (us : List Rq) (n : Nat) (w0 Wb : World) (gw G : Nat) (k : Nat) (W : World) : Prop where
 kq : Kq (Sd Wb gw G) Wb W
 ms : Mks W gw (wrB p (rps us) k)
 mt : ∃ vs, Mtx W w0.heap.size (.slice (some ⟨G, 0, none⟩) n n) vs (plk p (rps us) n k)
 fn : Fine p (rps us) k
structure Dcx (p : Pn) (us : List Rq) (n : Nat) (Wb : World) (gw G : Nat) (r : Int) (W : World) : Prop where
 e : r = 180
 kq : Kq (Sd Wb gw G) Wb W
 ms : ∃ b, Mks W gw b
 no : ¬ Fine p (rps us) n
theorem Dcf.at {p : Pn} {us : List Rq} {n : Nat} {w0 Wb W : World} {gp gx gl gd gq gw G : Nat} {vx vl : Value} (h : Dcf p us n w0 Wb gp gx gl gd gq gw G vx vl) (hk : Kq (Sd Wb gw G) Wb W) :
 Pb W gp p ∧ W.heap[gx]? = some (.cells #[vx] 36 (0, 0)) ∧ W.heap[gl]? = some (.cells #[vl] 25 (0, 0)) ∧ W.heap[gd]? = some (.cells #[.int .i64 (dg p)] 3 (0, 0)) ∧ W.heap[gq]? = some (.cells #[.slice (some ⟨G, 0, none⟩) n n] 26 (0, 0)) ∧ W.ownsRow w0.heap.size 64 1 vx us.length (vals (xsR p (rps us))) ∧ Below w0.heap.size w0 W := by
 have l : ∀ {g : Nat} {o : Obj}, Wb.heap[g]? = some o -> g < Wb.heap.size := fun h => (Array.getElem?_eq_some_iff.1 h).1
 obtain ⟨n0, ⟨n1, n2⟩, ⟨n3, n4⟩, ⟨n5, n6⟩, ⟨n7, n8⟩, n9, n10⟩ := h.ne
 refine ⟨(hk.block gp ⟨h.pb.lt, n1, n2⟩).trans h.pb, (hk.block gx ⟨l h.bx, n3, n4⟩).trans h.bx, (hk.block gl ⟨l h.br, n5, n6⟩).trans h.br, (hk.block gd ⟨l h.bd, n7, n8⟩).trans h.bd, (hk.block gq ⟨l h.bq, n9, n10⟩).trans h.bq, hk.own h.xs (fun g hg => ⟨own_top h.xs g hg, h.xo g hg⟩), h.bl.trans (hk.below (fun j hj => ⟨by have := h.lw; omega, by have := h.lw; omega, by have := h.lG; omega⟩))⟩
theorem xsR_wd {p : Pn} {n : Int} {l : List Rp} {q : Int} {wd : Bool} (h : Rvf p n l q wd) : Wd (xsR p l) := wd_els h.xe h.fld.top (by rw [xsR_len]; have := h.few; omega)
theorem ysR_wd {p : Pn} {n : Int} {l : List Rp} {q : Int} {wd : Bool} (h : Rvf p n l q wd) (o : Nat) : Wd (ysR o l) := wd_els (h.ye o) h.fld.top (by rw [ysR_len]; have := h.few; omega)
end Go.Proofs.YtjhididlcdepdaaGreat
