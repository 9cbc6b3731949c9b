import Derived.Test.YtjhididlcdepdaaGreatBunIB
import Derived.Test.YtjhididlcdepdaaGreatBRngA
set_option linter.unusedVariables false
set_option linter.unusedSimpArgs false
set_option maxRecDepth 100000
set_option maxHeartbeats 4000000
namespace Go.Proofs.YtjhididlcdepdaaGreat
open Go.RowKit Go.Shelf Fld
attribute [local go_sem] Oper.semAt_some
def nmv (k : Nat) : Array Value := #[.int .i64 (k : Int)]
def offs (B : Nat -> Bool) (n : Nat) : List Nat := (List.range n).filter (fun i => !B i)
theorem offs_yes {B : Nat -> Bool} {n : Nat} (h : B n = true) : offs B (n + 1) = offs B n := by unfold offs; rw [List.range_succ, List.filter_append]; simp [h]
theorem offs_no {B : Nat -> Bool} {n : Nat} (h : B n = false) : offs B (n + 1) = offs B n ++ [n] := by unfold offs; rw [List.range_succ, List.filter_append]; simp [h]
theorem offs_len (B : Nat -> Bool) (n : Nat) : (offs B n).length <= n := by unfold offs; exact Nat.le_trans (List.length_filter_le _ _) (by simp)
def Lies (S : Nat -> Prop) (g : Nat) (lb : Array Value) (B : Nat -> Bool) (N : Nat) (w0 : World) : Prop := (∀ args w, (callFunc g args).run Tryz.prog w = .ok (.enter g args) w) ∧ ∀ W (i : Nat), Kq S w0 W -> i < N -> Calls Tryz.prog g (#[.int .i64 (i : Int)] ++ lb) W fun e W' => e = .returned (.bool (B i)) ∧ Below W.heap.size W W'
theorem below_grown {W W' : World} (h : Below W.heap.size W W') : W.grownBy W' none := ⟨h.os, h.tape, h.output, h.size, fun j hj _ => h.block j hj⟩
theorem off1_in (n : Nat) (hn : 2 <= n) (l bn bl g : Nat) (lb : Array Value) (N : Nat) (hN : N <= 100000) (B : Nat -> Bool) (S : Nat -> Prop) (w0 : World) (hS : S bl) (hSw : ∀ j, S j -> j < w0.heap.size) (HL : Lies S g lb B N w0) (J Jx : List Nat -> World -> Prop) (W : World) (hJ : AbidesFrom W.heap.size J)
 (hY : ∀ pre x W, J pre W -> pre.length < N -> YieldAt Fence.wide (n - 1) Tryz.prog l (nmv x) W fun e W' =>
  (e = .returned (.bool true) ∧ J (pre ++ [x]) W' ∧ Kq S W W') ∨ (e = .returned (.bool false) ∧ Jx (pre ++ [x]) W'))
 (hK : Kq S w0 W) (hbn : W.cell? ⟨bn, 0, none⟩ = some (.int .i64 N)) (hbl : W.cell? ⟨bl, 0, none⟩ = some (.func (.func g) #[] lb)) (h0 : J [] W) :
 CallsIn Fence.wide n Tryz.prog 107 #[.func (.yield l) #[] #[], .pointer (some ⟨bn, 0, none⟩), .pointer (some ⟨bl, 0, none⟩)] W fun e W' => (∃ v, e = .returned v) ∧
  ((∃ ys, ys = offs B N ∧ J ys W') ∨ (∃ pre, True ∧ Jx pre W')) := by
 refine callsIn_of_wp Tryz.func107 rfl trivial ?_ rfl
 simp only [Tryz.ntmps107, List.size_toArray, List.length_cons, List.length_nil, Nat.reduceAdd, Nat.reduceSub, Array.replicate_succ, Array.replicate_zero, List.push_toArray, List.append_toArray, List.nil_append, List.cons_append]
 have HY := hide hY
 have HC := hide HL.2
 have eg := HL.1
 have HJ := hide hJ
 have HK := hide hK
 clear hY hJ HL hK
 gi_wp2
 gi_loopw [6] (fun vi wr => ∃ k : Nat, k <= N ∧ vi = .int .i64 (k : Int) ∧ J (offs B k) wr ∧ Kq S W wr) (fun vi _ => N - (intOf vi).toNat)
 case atStart => exact ⟨0, Nat.zero_le _, by simp, h0, Kq.refl _ _⟩
 case round =>
  obtain ⟨k, hk, rfl, hJs, hnx⟩ := hrel
  have hbl2 := (hnx.cell (a := ⟨bl, 0, none⟩) hS).trans hbl
  have HJs := hide hJs
  have HNX := hide hnx
  clear hJs hnx
  by_cases hlt : k < N
  · have hge : (0 : Int) <= (k : Int) := by omega
    have hltI : (k : Int) < (N : Int) := by omega
    have HCk := hide ((callsIn_wide (n := n - 1)).2 (HC.out wr k (HK.out.trans HNX.out) hlt))
    by_cases hB : B k = true
    · rw [hB] at HCk
      have HE : Hid (offs B (k + 1) = offs B k) := offs_yes hB
      clear hB
      gi_wp2
      refine ⟨trivial, fun _ => by omega, ?_⟩
      refine HCk.out.mono ?_
      rintro e W2 ⟨rfl, hb2⟩
      gi_wp2
      refine ⟨fun _ _ => trivial, ?_⟩
      gi_wp2
      go_roundw
      case rel => exact ⟨k + 1, by omega, by go_num, by rw [HE.out]; exact HJ.out _ _ _ none HJs.out (below_grown hb2) (fun r e => by cases e), HNX.out.trans (Below.kq hb2 (fun j hj => Nat.lt_of_lt_of_le (hSw j hj) (Nat.le_trans HK.out.size HNX.out.size)))⟩
      case measure => simp [intOf]; omega
    · have hB2 : B k = false := by simpa using hB
      rw [hB2] at HCk
      have HE : Hid (offs B (k + 1) = offs B k ++ [k]) := offs_no hB2
      clear hB hB2
      gi_wp2
      refine ⟨trivial, fun _ => by omega, ?_⟩
      refine HCk.out.mono ?_
      rintro e W2 ⟨rfl, hb2⟩
      have HJ2 := hide (HJ.out _ _ _ none HJs.out (below_grown hb2) (fun r e => by cases e))
      have HNX2 := hide (HNX.out.trans (Below.kq hb2 (fun j hj => Nat.lt_of_lt_of_le (hSw j hj) (Nat.le_trans HK.out.size HNX.out.size))))
      obtain ⟨fn, tmps, assign, body, hy, hR⟩ := HY.out (offs B k) k W2 HJ2.out (Nat.lt_of_le_of_lt (offs_len B k) hlt)
      unfold nmv at hy
      gi_wp2
      refine ⟨fun _ => by omega, ?_⟩
      refine hR.mono ?_
      rintro e W3 (⟨rfl, hJ3, hk3⟩ | ⟨rfl, hJx3⟩)
      · rw [<- HE.out] at hJ3
        have hnx3 := HNX2.out.trans hk3
        gi_wp2
        go_roundw
        case rel => exact ⟨k + 1, by omega, by go_num, hJ3, hnx3⟩
        case measure => simp [intOf]; omega
      · gi_wp2
        refine bodyPost_ret (results_none rfl _ _ _) rfl ?_
        exact ⟨⟨_, rfl⟩, .inr ⟨_, trivial, hJx3⟩⟩
  · obtain rfl : k = N := by omega
    gi_wp2
    go_end0
    exact ⟨⟨_, rfl⟩, .inl ⟨_, rfl, HJs.out⟩⟩
theorem off_stops (n : Nat) (hn : 2 <= n) (bn bl g : Nat) (lb : Array Value) (N : Nat) (hN : N <= 100000) (B : Nat -> Bool) (S : Nat -> Prop) (w0 : World) (hS : S bl) (hSw : ∀ j, S j -> j < w0.heap.size) (HL : Lies S g lb B N w0)
 (hbn : w0.cell? ⟨bn, 0, none⟩ = some (.int .i64 N)) (hbl : w0.cell? ⟨bl, 0, none⟩ = some (.func (.func g) #[] lb)) :
 SeqStopsK Fence.wide n Tryz.prog 107 #[.pointer (some ⟨bn, 0, none⟩), .pointer (some ⟨bl, 0, none⟩)] nmv (Kq S) (fun ys => ys = offs B N) (fun _ => True) N w0 := fun l J Jx W hW hJ _ hY h0 =>
 off1_in n hn l bn bl g lb N hN B S w0 hS hSw HL J Jx W hJ hY (Below.kq hW (fun j hj => hSw j hj)) ((hW.cell (cell_lt hbn)).trans hbn) ((hW.cell (cell_lt hbl)).trans hbl) h0
theorem gOff (n : Int) (g : Nat) (lb : Array Value) (w : World) : Calls Tryz.prog 80 #[.int .i64 n, .func (.func g) #[] lb] w fun e w' => ∃ bn bl, e = .returned (.func (.func 107) #[] #[.pointer (some ⟨bn, 0, none⟩), .pointer (some ⟨bl, 0, none⟩)]) ∧ w'.cell? ⟨bn, 0, none⟩ = some (.int .i64 n) ∧ w'.cell? ⟨bl, 0, none⟩ = some (.func (.func g) #[] lb) ∧ w.heap.size <= bn ∧ w.heap.size <= bl ∧ bn < w'.heap.size ∧ bl < w'.heap.size ∧ Below w.heap.size w w' := by
 have e1 : (w.alloc (.cells #[.int .i64 n] 3)).heap.size = w.heap.size + 1 := by simp
 have c1 := heap_alloc_new w (.cells #[.int .i64 n] 3)
 have c2 := heap_alloc_new (w.alloc (.cells #[.int .i64 n] 3)) (.cells #[.func (.func g) #[] lb] 124)
 have c1 := ((alloc_below (w.alloc (.cells #[.int .i64 n] 3)) (.cells #[.func (.func g) #[] lb] 124)).block _ (by omega)).trans c1
 rw [e1] at c2
 have hB := Below.next (alloc_below w (.cells #[.int .i64 n] 3)) (alloc_below (w.alloc (.cells #[.int .i64 n] 3)) (.cells #[.func (.func g) #[] lb] 124))
 go_enter Tryz.func80, Tryz.ntmps80
 go_wp2
 go_ret
 exact ⟨_, _, rfl, (box_cell c1).1, (box_cell c2).1, by omega, by omega, by simp; omega, by simp, hB⟩
attribute [local go_sem] Oper.semAt_some
def nms (l : List Nat) : List Value := l.map (fun (i : Nat) => Value.int .i64 (i : Int))
theorem nms_snoc (l : List Nat) (x : Nat) : nms (l ++ [x]) = nms l ++ [.int .i64 (x : Int)] := by simp [nms]
def Sx (sz B j : Nat) : Prop := j < sz ∧ j ≠ B
structure Atb (w0 W : World) (B : Nat) (l : List Nat) : Prop where
 box : ∃ ao cap, W.heap[B]? = some (.cells #[.slice ao l.length cap] 27 (0, 0)) ∧ W.ownsRow w0.heap.size 3 1 (.slice ao l.length cap) l.length (nms l)
 kq : Kq (Sx w0.heap.size B) w0 W
theorem Atb.own {w0 : World} {B L : Nat} (hL : w0.heap.size <= L) : OwnFrom L (fun (l : List Nat) W => Atb w0 W B l) := fun s W W' row h hg hr => by
 have hr2 : ∀ r, row = some r -> ∃ o : Obj, W.heap[r]? = some o ∧ o.isCells = false := fun r e => (hr r e).2
 obtain ⟨ao, cap, h1, h2⟩ := h.box
 refine ⟨⟨ao, cap, blk_kept h1 hg hr2, own_left h2 hg hr2⟩, h.kq.trans (grown_kq hg (fun j hj => Nat.lt_of_lt_of_le hj.1 h.kq.size) (fun k e hk => ?_))⟩
 have := (hr k e).1
 have := hk.1
 omega
theorem Kq.put {sz B : Nat} (W : World) (l : Nat) (o o' : Obj) (hl : sz <= l) : Kq (Sx sz B) W (W.putObj l o') :=
 ⟨rfl, rfl, rfl, by simp [World.putObj], fun j hj => World.putObj_heap_other (by have := hj.1; omega)⟩
theorem Atb.app {w0 W w3 : World} {B x : Nat} {l : List Nat} {ao : Option Addr} {cap : Nat} {v' : Value} (h : Atb w0 W B l) (hBb : B < w0.heap.size)
 (h1 : W.heap[B]? = some (.cells #[.slice ao l.length cap] 27 (0, 0))) (h2 : W.ownsRow w0.heap.size 3 1 (.slice ao l.length cap) l.length (nms l))
 (hown : w3.ownsRow w0.heap.size 3 1 v' (l.length + 1) (nms l ++ [.int .i64 (x : Int)])) (hg : (W.alloc (.cells #[.int .i64 (x : Int)] 3)).grownBy w3 (Value.slice ao l.length cap).ownBlock) :
 w3.heap[B]? = some (.cells #[.slice ao l.length cap] 27 (0, 0)) ∧ Atb w0 (w3.setCell ⟨B, 0, none⟩ v') B (l ++ [x]) ∧ KeepsFrom w0.heap.size W (w3.setCell ⟨B, 0, none⟩ v') ∧ Kq (Sx w0.heap.size B) W (w3.setCell ⟨B, 0, none⟩ v') := by
 have hab := alloc_below W (.cells #[.int .i64 (x : Int)] 3)
 have hBl := (Array.getElem?_eq_some_iff.1 h1).1
 have hO2 := own_below h2 hab
 have hB1 := (hab.block B hBl).trans h1
 have hBne : (Value.slice ao l.length cap).ownBlock ≠ some B := own_apart hO2 hB1 (by decide)
 have hB3 := (hg.block B (Array.getElem?_eq_some_iff.1 hB1).1 (fun e => hBne e.symm)).trans hB1
 have hv3 : v'.ownBlock ≠ some B := own_apart hown hB3 (by decide)
 have hkW : Kq (Sx w0.heap.size B) W (w3.setCell ⟨B, 0, none⟩ v') := by
  refine (Below.kq hab (fun j hj => Nat.lt_of_lt_of_le hj.1 h.kq.size)).trans ((grown_kq hg (fun j hj => ?_) (fun k e hk => ?_)).trans ⟨rfl, rfl, rfl, by simp [World.setCell], fun j hj => Below.heap_setCell _ _ _ j hj.2⟩)
  · have := hj.1; have := h.kq.size; have := hab.size; omega
  · have := own_base hO2 k e
    have := hk.1
    omega
 obtain ⟨a3, c3, rfl⟩ := own_form hown
 have hl : (l ++ [x]).length = l.length + 1 := by simp
 refine ⟨hB3, ⟨⟨a3, c3, ?_, ?_⟩, h.kq.trans hkW⟩, ?_, hkW⟩
 · rw [hl]
   have := set_blk hB3 0 (.slice a3 (l.length + 1) c3)
   rw [this]; rfl
 · rw [hl, nms_snoc]
   exact own_other hown hv3
 · refine KeepsFrom.trans ((KeepsOthers.alloc W _).from _) (KeepsFrom.trans ((KeepsOthers.of_grownBy hg ?_).from _) ((KeepsOthers.setCell _ _ _).from _))
   intro j o hj ho
   rcases hO2.2 with ⟨e, _⟩ | ⟨g1, c1, u1, e, _, k1, _⟩
   · rw [e] at hj; simp [Value.ownBlock] at hj
   · rw [e] at hj; simp [Value.ownBlock] at hj
     subst hj
     rw [k1] at ho
     cases ho
     rfl
theorem Rw.kq {w0 W : World} {v : Value} {xs : List Int} {B : Nat} {cs : Array Value} {T : TypeId} (h : Rw w0 v xs) (hb : w0.heap[B]? = some (.cells cs T (0, 0))) (hn : ∀ (i : Nat) (x : Int), cs[i]? ≠ some (Value.int .u64 x)) (hk : Kq (Sx w0.heap.size B) w0 W) : Rw W v xs := by
 obtain ⟨⟨ao, cap, h1, h2, h3, h4⟩, h5⟩ := h
 refine ⟨⟨ao, cap, h1, h2, h3, fun hne => ?_⟩, h5⟩
 obtain ⟨b, off, h6, h7, h8⟩ := h4 hne
 have hbk : b ≠ B := by
  intro e
  subst e
  have h9 := h8 0 (List.length_pos_iff.2 hne)
  rw [cell_of_row w0 b (off + 0) _ _ _ hb] at h9
  exact hn _ _ h9
 refine ⟨b, off, h6, Nat.lt_of_lt_of_le h7 hk.size, fun i hi => ?_⟩
 rw [<- h8 i hi]
 exact World.cell?_of_block (hk.block b ⟨h7, hbk⟩)
end Go.Proofs.YtjhididlcdepdaaGreat
