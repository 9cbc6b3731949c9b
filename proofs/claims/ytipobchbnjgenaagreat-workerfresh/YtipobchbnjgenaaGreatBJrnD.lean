import Derived.Test.YtipobchbnjgenaaGreatBDskD
import Derived.Test.YtipobchbnjgenaaGreatBRndA
import Derived.Deep.WholeRow
set_option linter.unusedVariables false
set_option linter.unusedSimpArgs false
set_option maxRecDepth 100000
set_option maxHeartbeats 4000000
namespace Go.Proofs.YtipobchbnjgenaaGreat
open Go.RowKit Go.Shelf Fld
attribute [local go_sem] Oper.semAt_some
def blkP (zs : List Int) (k : Nat) : List Int := (zs.drop (32 * k)).take 32 ++ List.replicate (32 - ((zs.drop (32 * k)).take 32).length) 0
theorem blkP_len (zs : List Int) (k : Nat) : (blkP zs k).length = 32 := by
 unfold blkP
 rw [List.length_append, List.length_replicate]
 have : ((zs.drop (32 * k)).take 32).length <= 32 := by rw [List.length_take]; omega
 omega
theorem blkP_by {zs : List Int} (h : By zs) (k : Nat) : By (blkP zs k) := ((h.drop _).take _).app (fun x hx => by rw [List.eq_of_mem_replicate hx]; exact ⟨by decide, by decide⟩)
theorem pad_at (xs : List Int) (m a : Nat) (h : a + 32 <= xs.length + m) : ((xs ++ List.replicate m 0).drop a).take 32 = (xs.drop a).take 32 ++ List.replicate (32 - ((xs.drop a).take 32).length) 0 := by
 rw [List.drop_append, List.take_append, List.drop_replicate, List.take_replicate]
 congr 2
 rw [List.length_take, List.length_drop]
 omega
theorem jrC_at (S : List Int -> Int) (r : List Int) {k : Nat} (h : k < jrN r.length) : (jrC S r)[k]? = some (blkP (slF S r) k) := by
 unfold jrC blkP
 rw [ck32_at _ _ _ h]
 have := jrN_bd r.length
 unfold jrB
 rw [pad_at _ _ _ (by rw [slF_len]; omega)]
theorem jrC_len (S : List Int -> Int) (r : List Int) : (jrC S r).length = jrN r.length := ck32_len _ _
def bkx (x : Nat) : Array Value := #[.slice (some ⟨x, 0, none⟩) 32 32]
def GdB (zs : List Int) (k x : Nat) (W : World) : Prop := W.heap[x]? = some (.cells (valb (blkP zs k)).toArray 5 (0, 0))
theorem GdB.rb {zs : List Int} {k x : Nat} {W : World} (h : GdB zs k x W) (hy : By zs) : Rb W (.slice (some ⟨x, 0, none⟩) 32 32) (blkP zs k) := by
 have hl := blkP_len zs k
 refine ⟨_, 32, by rw [hl], ⟨by omega, by omega, fun h => by cases h⟩, blkP_by hy k, fun _ => ⟨x, 0, rfl, (Array.getElem?_eq_some_iff.1 h).1, fun i hi => ?_⟩⟩
 rw [Nat.zero_add, Lib.cell_of_heap h i, List.getElem?_toArray, valb_at _ _ hi]
theorem GdB.put {zs : List Int} {k x : Nat} {W : World} {l : Nat} {o o' : Obj} (h : GdB zs k x W) (hl : W.heap[l]? = some o) (ho : o.isCells = false) : GdB zs k x (W.putObj l o') := by
 have hne : x ≠ l := by
  intro e; subst e
  have := h.symm.trans hl
  injection this with this
  subst this
  simp [Obj.isCells] at ho
 exact (World.putObj_heap_other hne).trans h
theorem fill_new (W : World) (zs : List Int) (k : Nat) : splice (valb zr32) 0 (valb ((zs.drop (32 * k)).take 32)) = valb (blkP zs k) := by
 have hl : ((zs.drop (32 * k)).take 32).length <= 32 := by rw [List.length_take]; omega
 unfold splice blkP
 rw [List.take_zero, List.nil_append, Nat.zero_add, valb_length, <- valb_app]
 congr 1
 unfold valb zr32
 rw [List.map_replicate, List.map_replicate, List.drop_replicate]
theorem copy_blk {w0 W : World} {p : Nat} {a : Option Addr} {c k : Nat} {zs : List Int} {S : Nat -> Prop} (hp : S p) (hu : Ub w0 p (.slice a (zs.drop (32 * k)).length c) (zs.drop (32 * k))) (hk : Kq S w0 W) (hd : 0 < (zs.drop (32 * k)).length) :
 (Builtin.copy_ #[30, 30] 3 #[.slice (some ⟨W.heap.size, 0, none⟩) 32 32, .slice a (zs.drop (32 * k)).length c]).run Tryz.prog (W.alloc (.cells (valb zr32).toArray 5)) = .ok (.int .i64 (((zs.drop (32 * k)).take 32).length : Nat)) (W.alloc (.cells (valb (blkP zs k)).toArray 5)) := by
 have hB := alloc_below W (.cells (valb zr32).toArray 5)
 have h1 := hu.kept hk hp
 obtain ⟨off, n', c', e⟩ := h1.2 (by intro e; rw [e] at hd; simp at hd)
 cases e
 have h2 := (h1.1.below hB).cut (o := 0) (n := ((zs.drop (32 * k)).take 32).length) (c := ((zs.drop (32 * k)).take 32).length) (by rw [List.length_take]; omega) (Nat.le_refl _)
 have e1 : ((zs.drop (32 * k)).drop 0).take ((zs.drop (32 * k)).take 32).length = (zs.drop (32 * k)).take 32 := by
  rw [List.drop_zero, List.length_take]
  rcases Nat.le_total 32 (zs.drop (32 * k)).length with h | h
  · rw [Nat.min_eq_left h]
  · rw [Nat.min_eq_right h, List.take_length, List.take_of_length_le h]
 rw [e1, Nat.add_zero] at h2
 have hnew : (W.alloc (.cells (valb zr32).toArray 5)).heap[W.heap.size]? = some (.cells (valb zr32).toArray 5 (0, 0)) := heap_alloc_new W _
 have hr := run_copy_row (P := Tryz.prog) (W.alloc (.cells (valb zr32).toArray 5)) 30 30 3 5 W.heap.size 0 32 32 ⟨p, off, none⟩ (zs.drop (32 * k)).length c (valb zr32).toArray 5 (valb ((zs.drop (32 * k)).take 32)) Tryz.underlying30 (by kernel_rfl) hnew (by rw [valb_length, List.length_take, Nat.min_comm]) h2.news (by rw [valb_length, List.size_toArray, zr32_len, List.length_take]; omega) (valb_one _)
 rw [hr, World.setRow_alloc_new, List.toList_toArray, List.append_assoc]
 have := fill_new W zs k
 unfold splice at this
 rw [this, valb_length]
 rfl
theorem rest_blk (zs : List Int) (k : Nat) : (zs.drop (32 * (k + 1))).length = (zs.drop (32 * k)).length - ((zs.drop (32 * k)).take 32).length ∧ zs.drop (32 * (k + 1)) = ((zs.drop (32 * k)).drop ((zs.drop (32 * k)).take 32).length).take ((zs.drop (32 * k)).length - ((zs.drop (32 * k)).take 32).length) := by
 have e : zs.drop (32 * (k + 1)) = (zs.drop (32 * k)).drop 32 := by rw [List.drop_drop]; congr 1
 rw [e]
 generalize zs.drop (32 * k) = ys
 rcases Nat.le_total 32 ys.length with h | h
 · have e2 : (ys.take 32).length = 32 := by rw [List.length_take]; omega
   rw [e2]
   exact ⟨List.length_drop, (List.take_of_length_le (by rw [List.length_drop]; exact Nat.le_refl _)).symm⟩
 · have e2 : (ys.take 32).length = ys.length := by rw [List.length_take]; omega
   rw [e2, Nat.sub_self, List.take_zero, List.drop_eq_nil_of_le h]
   exact ⟨rfl, rfl⟩
theorem below_grownJ {W W' : World} (h : Below W.heap.size W W') : W.grownBy W' none := ⟨h.os, h.tape, h.output, h.size, fun j hj _ => h.block j hj⟩
theorem bl1_in (n : Nat) (hn : 1 <= n) (l bi p : Nat) (pv : Value) (zs : List Int) (N : Nat) (hN : N = (zs.length + 31) / 32) (hz : zs.length <= 100000000) (S : Nat -> Prop) (w0 : World) (hSb : S bi) (hSp : S p) (hSw : ∀ j, S j -> j < w0.heap.size) (hu : Ub w0 p pv zs) (J Jx : Nat -> World -> Prop) (W : World) (hJ : AbidesFrom W.heap.size J)
 (hY : ∀ k x W1, k < N -> GdB zs k x W1 -> J k W1 -> YieldAt Fence.wide (n - 1) Tryz.prog l (bkx x) W1 fun e W' => (e = .returned (.bool true) ∧ J (k + 1) W' ∧ Kq S W1 W') ∨ (e = .returned (.bool false) ∧ Jx k W'))
 (hK : Kq S w0 W) (hb : W.cell? ⟨bi, 0, none⟩ = some pv) (h0 : J 0 W) :
 CallsIn Fence.wide n Tryz.prog 172 #[.func (.yield l) #[] #[], .pointer (some ⟨bi, 0, none⟩)] W fun e W' => (∃ v, e = .returned v) ∧ (J N W' ∨ ∃ k, k < N ∧ Jx k W') := by
 refine callsIn_of_wp Tryz.func172 rfl trivial ?_ rfl
 simp only [Tryz.ntmps172, List.size_toArray, List.length_cons, List.length_nil, Nat.reduceAdd, Nat.reduceSub, Array.replicate_succ, Array.replicate_zero, List.push_toArray, List.append_toArray, List.nil_append, List.cons_append]
 have HY := hide hY
 have HJ := hide hJ
 have HK := hide hK
 have HU := hide hu
 have HN := hide hN
 obtain ⟨a0, c0, rfl, _⟩ := hu.1.spell
 clear hY hJ hK hu hN
 gi_wp2
 gi_loopw [3] (fun vl wr => ∃ (k : Nat) (a : Option Addr) (c : Nat), k <= N ∧ vl = .slice a (zs.drop (32 * k)).length c ∧ Hid (Ub w0 p (.slice a (zs.drop (32 * k)).length c) (zs.drop (32 * k))) ∧ Hid (J k wr) ∧ Hid (Kq S W wr)) (fun vl _ => match vl with | .slice _ m _ => m | _ => 0)
 case atStart => exact ⟨0, a0, c0, Nat.zero_le _, rfl, HU, hide h0, hide (Kq.refl _ _)⟩
 case round =>
  obtain ⟨k, a, c, hk, rfl, HUk, HJk, HKk⟩ := hrel
  have hdl : (zs.drop (32 * k)).length = zs.length - 32 * k := List.length_drop
  by_cases hlt : k < N
  · have hpos : 0 < (zs.drop (32 * k)).length := by have := HN.out; omega
    have HCp := hide (copy_blk hSp HUk.out (HK.out.trans HKk.out) hpos)
    have HM := hide (made_32 wr)
    obtain ⟨a2, HU2, HR2⟩ := cut3u HUk.out (k := ((zs.drop (32 * k)).take 32).length) (m := (zs.drop (32 * k)).length) (by rw [List.length_take]; omega) (Nat.le_refl _)
    have HAl := hide (alloc_below wr (.cells (valb (blkP zs k)).toArray 5))
    have HGd : Hid (GdB zs k wr.heap.size (wr.alloc (.cells (valb (blkP zs k)).toArray 5))) := heap_alloc_new wr _
    have HJ2 := hide (HJ.out k _ _ none HJk.out (below_grownJ HAl.out) (fun r e => by cases e))
    obtain ⟨fn, tmps, assign, body, hy, hR⟩ := HY.out k wr.heap.size _ hlt HGd.out HJ2.out
    unfold bkx at hy
    have hr1 := HM.out
    have hr2 := HCp.out
    have hr3 := HR2
    generalize hj : ((zs.drop (32 * k)).take 32).length = j at *
    generalize hm : (zs.drop (32 * k)).length = m at *
    have HDl := hide hdl
    have HMm := hide hm
    have HJj := hide hj
    have hjm : j <= m := by rw [<- hj, <- hm, List.length_take]; omega
    have HJ1 : Hid (1 <= j ∧ j <= m) := by
     show _ ∧ _
     rw [<- hj, List.length_take, hm]; omega
    clear hdl hm hj HR2 HM HCp
    have HNe := hide (rest_blk zs k)
    rw [HJj.out, HMm.out] at HNe
    gi_wp2
    refine hR.mono ?_
    rintro e W3 (⟨rfl, hJ3, hk3⟩ | ⟨rfl, hJx3⟩)
    · have HJ3 := hide hJ3
      have HK3 := hide (HKk.out.trans ((Below.kq HAl.out (fun j hj => Nat.lt_of_lt_of_le (hSw j hj) (Nat.le_trans HK.out.size HKk.out.size))).trans hk3))
      clear hJ3 hk3 hy
      gi_wp2
      go_roundw
      case rel => exact ⟨k + 1, a2, m - j, by omega, by rw [HNe.out.1], by rw [HNe.out.1, HNe.out.2]; exact HU2, HJ3, HK3⟩
      case measure => simp; have := HJ1.out; omega
    · clear hy
      gi_wp2
      refine bodyPost_ret (results_none rfl _ _ _) rfl ?_
      exact ⟨⟨_, rfl⟩, .inr ⟨k, hlt, hJx3⟩⟩
  · have hz0 : (zs.drop (32 * k)).length = 0 := by have := HN.out; omega
    obtain rfl : k = N := by omega
    clear hdl hlt
    rw [hz0]
    gi_wp2
    go_end0
    exact ⟨⟨_, rfl⟩, .inl HJk.out⟩
theorem bl_stops (n : Nat) (hn : 1 <= n) (bi p : Nat) (pv : Value) (zs : List Int) (N : Nat) (hN : N = (zs.length + 31) / 32) (hz : zs.length <= 100000000) (S : Nat -> Prop) (w0 : World) (hSb : S bi) (hSp : S p) (hSw : ∀ j, S j -> j < w0.heap.size) (hu : Ub w0 p pv zs) (hb : w0.cell? ⟨bi, 0, none⟩ = some pv) :
 SeqD Fence.wide n Tryz.prog 172 #[.pointer (some ⟨bi, 0, none⟩)] bkx (GdB zs) (Kq S) N w0 := fun l J Jx W hW hJ hY h0 =>
 bl1_in n hn l bi p pv zs N hN hz S w0 hSb hSp hSw hu J Jx W hJ hY (Below.kq hW (fun j hj => hSw j hj)) ((hW.cell (cell_in hb)).trans hb) h0
theorem gBlocksOf (a : Option Addr) (m c : Nat) (w : World) : Calls Tryz.prog 138 #[.slice a m c] w fun e w' => e = .returned (.func (.func 172) #[] #[.pointer (some ⟨w.heap.size, 0, none⟩)]) ∧ w' = w.alloc (.cells #[.slice a m c] 30) := by
 go_enter Tryz.func138, Tryz.ntmps138
 go_wp2
 go_ret
 exact ⟨rfl, rfl⟩
end Go.Proofs.YtipobchbnjgenaaGreat
