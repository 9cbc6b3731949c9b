import Derived.Test.YtjhididlcdepdaaGreatBunIB
import Derived.Test.YtjhididlcdepdaaGreatBRngA
set_option linter.unusedVariables false
set_option linter.unusedSimpArgs false
set_option maxRecDepth 100000
set_option maxHeartbeats 4000000
namespace Go.Proofs.YtjhididlcdepdaaGreat
open Go.RowKit Go.Shelf Fld
attribute [local go_sem] Oper.semAt_some
def nmv (k : Nat) : Array Value := #[.int .i64 (k : Int)]
def offs (B : Nat -> Bool) (n : Nat) : List Nat := (List.range n).filter (fun i => !B i)
theorem offs_yes {B : Nat -> Bool} {n : Nat} (h : B n = true) : offs B (n + 1) = offs B n := by unfold offs; rw [List.range_succ, List.filter_append]; simp [h]
theorem offs_no {B : Nat -> Bool} {n : Nat} (h : B n = false) : offs B (n + 1) = offs B n ++ [n] := by unfold offs; rw [List.range_succ, List.filter_append]; simp [h]
theorem offs_len (B : Nat -> Bool) (n : Nat) : (offs B n).length <= n := by unfold offs; exact Nat.le_trans (List.length_filter_le _ _) (by simp)
def Lies (S : Nat -> Prop) (g : Nat) (lb : Array Value) (B : Nat -> Bool) (N : Nat) (w0 : World) : Prop := (∀ args w, (callFunc g args).run Tryz.prog w = .ok (.enter g args) w) ∧ ∀ W (i : Nat), Kq S w0 W -> i < N -> Calls Tryz.prog g (#[.int .i64 (i : Int)] ++ lb) W fun e W' => e = .returned (.bool (B i)) ∧ Below W.heap.size W W'
theorem below_grown {W W' : World} (h : Below W.heap.size W W') : W.grownBy W' none := ⟨h.os, h.tape, h.output, h.size, fun j hj _ => h.block j hj⟩
theorem off1_in (n : Nat) (hn : 2 <= n) (l bn bl g : Nat) (lb : Array Value) (N : Nat) (hN : N <= 100000) (B : Nat -> Bool) (S : Nat -> Prop) (w0 : World) (hS : S bl) (hSw : ∀ j, S j -> j < w0.heap.size) (HL : Lies S g lb B N w0) (J Jx : List Nat -> World -> Prop) (W : World) (hJ : AbidesFrom W.heap.size J)
 (hY : ∀ pre x W, J pre W -> pre.length < N -> YieldAt Fence.wide (n - 1) Tryz.prog l (nmv x) W fun e W' =>
  (e = .returned (.bool true) ∧ J (pre ++ [x]) W' ∧ Kq S W W') ∨ (e = .returned (.bool false) ∧ Jx (pre ++ [x]) W'))
 (hK : Kq S w0 W) (hbn : W.cell? ⟨bn, 0, none⟩ = some (.int .i64 N)) (hbl : W.cell? ⟨bl, 0, none⟩ = some (.func (.func g) #[] lb)) (h0 : J [] W) :
 CallsIn Fence.wide n Tryz.prog 107 #[.func (.yield l) #[] #[], .pointer (some ⟨bn, 0, none⟩), .pointer (some ⟨bl, 0, none⟩)] W fun e W' => (∃ v, e = .returned v) ∧
  ((∃ ys, ys = offs B N ∧ J ys W') ∨ (∃ pre, True ∧ Jx pre W')) := by
 refine callsIn_of_wp Tryz.func107 rfl trivial ?_ rfl
 simp only [Tryz.ntmps107, List.size_toArray, List.length_cons, List.length_nil, Nat.reduceAdd, Nat.reduceSub, Array.replicate_succ, Array.replicate_zero, List.push_toArray, List.append_toArray, List.nil_append, List.cons_append]
 have HY := hide hY
 have HC := hide HL.2
 have eg := HL.1
 have HJ := hide hJ
 have HK := hide hK
 clear hY hJ HL hK
 gi_wp2
 gi_loopw [6] (fun vi wr => ∃ k : Nat, k <= N ∧ vi = .int .i64 (k : Int) ∧ J (offs B k) wr ∧ Kq S W wr) (fun vi _ => N - (intOf vi).toNat)
 case atStart => exact ⟨0, Nat.zero_le _, by simp, h0, Kq.refl _ _⟩
 case round =>
  obtain ⟨k, hk, rfl, hJs, hnx⟩ := hrel
  have hbl2 := (hnx.cell (a := ⟨bl, 0, none⟩) hS).trans hbl
  have HJs := hide hJs
  have HNX := hide hnx
  clear hJs hnx
  by_cases hlt : k < N
  · have hge : (0 : Int) <= (k : Int) := by omega
    have hltI : (k : Int) < (N : Int) := by omega
    have HCk := hide ((callsIn_wide (n := n - 1)).2 (HC.out wr k (HK.out.trans HNX.out) hlt))
    by_cases hB : B k = true
    · rw [hB] at HCk
      have HE : Hid (offs B (k + 1) = offs B k) := offs_yes hB
      clear hB
      gi_wp2
      refine ⟨trivial, fun _ => by omega, ?_⟩
      refine HCk.out.mono ?_
      rintro e W2 ⟨rfl, hb2⟩
      gi_wp2
      refine ⟨fun _ _ => trivial, ?_⟩
      gi_wp2
      go_roundw
      case rel => exact ⟨k + 1, by omega, by go_num, by rw [HE.out]; exact HJ.out _ _ _ none HJs.out (below_grown hb2) (fun r e => by cases e), HNX.out.trans (Below.kq hb2 (fun j hj => Nat.lt_of_lt_of_le (hSw j hj) (Nat.le_trans HK.out.size HNX.out.size)))⟩
      case measure => simp [intOf]; omega
    · have hB2 : B k = false := by simpa using hB
      rw [hB2] at HCk
      have HE : Hid (offs B (k + 1) = offs B k ++ [k]) := offs_no hB2
      clear hB hB2
      gi_wp2
      refine ⟨trivial, fun _ => by omega, ?_⟩
      refine HCk.out.mono ?_
      rintro e W2 ⟨rfl, hb2⟩
      have HJ2 := hide (HJ.out _ _ _ none HJs.out (below_grown hb2) (fun r e => by cases e))
      have HNX2 := hide (HNX.out.trans (Below.kq hb2 (fun j hj => Nat.lt_of_lt_of_le (hSw j hj) (Nat.le_trans HK.out.size HNX.out.size))))
      obtain ⟨fn, tmps, assign, body, hy, hR⟩ := HY.out (offs B k) k W2 HJ2.out (Nat.lt_of_le_of_lt (offs_len B k) hlt)
      unfold nmv at hy
      gi_wp2
      refine ⟨fun _ => by omega, ?_⟩
      refine hR.mono ?_
      rintro e W3 (⟨rfl, hJ3, hk3⟩ | ⟨rfl, hJx3⟩)
      · rw [<- HE.out] at hJ3
        have hnx3 := HNX2.out.trans hk3
        gi_wp2
        go_roundw
        case rel => exact ⟨k + 1, by omega, by go_num, hJ3, hnx3⟩
        case measure => simp [intOf]; omega
      · gi_wp2
        refine bodyPost_ret (results_none rfl _ _ _) rfl ?_
        exact ⟨⟨_, rfl⟩, .inr ⟨_, trivial, hJx3⟩⟩
  · obtain rfl : k = N := by omega
    gi_wp2
    go_end0
    exact ⟨⟨_, rfl⟩, .inl ⟨_, rfl, HJs.out⟩⟩
theorem off_stops (n : Nat) (hn : 2 <= n) (bn bl g : Nat) (lb : Array Value) (N : Nat) (hN : N <= 100000) (B : Nat -> Bool) (S : Nat -> Prop) (w0 : World) (hS : S bl) (hSw : ∀ j, S j -> j < w0.heap.size) (HL : Lies S g lb B N w0)
 (hbn : w0.cell? ⟨bn, 0, none⟩ = some (.int .i64 N)) (hbl : w0.cell? ⟨bl, 0, none⟩ = some (.func (.func g) #[] lb)) :
 SeqStopsK Fence.wide n Tryz.prog 107 #[.pointer (some ⟨bn, 0, none⟩), .pointer (some ⟨bl, 0, none⟩)] nmv (Kq S) (fun ys => ys = offs B N) (fun _ => True) N w0 := fun l J Jx W hW hJ _ hY h0 =>
 off1_in n hn l bn bl g lb N hN B S w0 hS hSw HL J Jx W hJ hY (Below.kq hW (fun j hj => hSw j hj)) ((hW.cell (cell_lt hbn)).trans hbn) ((hW.cell (cell_lt hbl)).trans hbl) h0
theorem gOff (n : Int) (g : Nat) (lb : Array Value) (w : World) : Calls Tryz.prog 80 #[.int .i64 n, .func (.func g) #[] lb] w fun e w' => ∃ bn bl, e = .returned (.func (.func 107) #[] #[.pointer (some ⟨bn, 0, none⟩), .pointer (some ⟨bl, 0, none⟩)]) ∧ w'.cell? ⟨bn, 0, none⟩ = some (.int .i64 n) ∧ w'.cell? ⟨bl, 0, none⟩ = some (.func (.func g) #[] lb) ∧ w.heap.size <= bn ∧ w.heap.size <= bl ∧ bn < w'.heap.size ∧ bl < w'.heap.size ∧ Below w.heap.size w w' := by
 have e1 : (w.alloc (.cells #[.int .i64 n] 3)).heap.size = w.heap.size + 1 := by simp
 have c1 := heap_alloc_new w (.cells #[.int .i64 n] 3)
 have c2 := heap_alloc_new (w.alloc (.cells #[.int .i64 n] 3)) (.cells #[.func (.func g) #[] lb] 124)
 have c1 := ((alloc_below (w.alloc (.cells #[.int .i64 n] 3)) (.cells #[.func (.func g) #[] lb] 124)).block _ (by omega)).trans c1
 rw [e1] at c2
 have hB := Below.next (alloc_below w (.cells #[.int .i64 n] 3)) (alloc_below (w.alloc (.cells #[.int .i64 n] 3)) (.cells #[.func (.func g) #[] lb] 124))
 go_enter Tryz.func80, Tryz.ntmps80
 go_wp2
 go_ret
 exact ⟨_, _, rfl, (box_cell c1).1, (box_cell c2).1, by omega, by omega, by simp; omega, by simp, hB⟩
attribute [local go_sem] Oper.semAt_some
def nms (l : List Nat) : List Value := l.map (fun (i : Nat) => Value.int .i64 (i : Int))
theorem nms_snoc (l : List Nat) (x : Nat) : nms (l ++ [x]) = nms l ++ [.int .i64 (x : Int)] := by simp [nms]
def Sx (sz B j : Nat) : Prop := j < sz ∧ j ≠ B
structure Atb (w0 W : World) (B : Nat) (l : List Nat) : Prop where
 box : ∃ ao cap, W.heap[B]? = some (.cells #[.slice ao l.length cap] 27 (0, 0)) ∧ W.ownsRow w0.heap.size 3 1 (.slice ao l.length cap) l.length (nms l)
 kq : Kq (Sx w0.heap.size B) w0 W
theorem Atb.own {w0 : World} {B L : Nat} (hL : w0.heap.size <= L) : OwnFrom L (fun (l : List Nat) W => Atb w0 W B l) := fun s W W' row h hg hr => by
 have hr2 : ∀ r, row = some r -> ∃ o : Obj, W.heap[r]? = some o ∧ o.isCells = false := fun r e => (hr r e).2
 obtain ⟨ao, cap, h1, h2⟩ := h.box
 refine ⟨⟨ao, cap, blk_kept h1 hg hr2, own_left h2 hg hr2⟩, h.kq.trans (grown_kq hg (fun j hj => Nat.lt_of_lt_of_le hj.1 h.kq.size) (fun k e hk => ?_))⟩
 have := (hr k e).1
 have := hk.1
 omega
theorem Kq.put {sz B : Nat} (W : World) (l : Nat) (o o' : Obj) (hl : sz <= l) : Kq (Sx sz B) W (W.putObj l o') :=
 ⟨rfl, rfl, rfl, by simp [World.putObj], fun j hj => World.putObj_heap_other (by have := hj.1; omega)⟩
theorem Atb.app {w0 W w3 : World} {B x : Nat} {l : List Nat} {ao : Option Addr} {cap : Nat} {v' : Value} (h : Atb w0 W B l) (hBb : B < w0.heap.size)
 (h1 : W.heap[B]? = some (.cells #[.slice ao l.length cap] 27 (0, 0))) (h2 : W.ownsRow w0.heap.size 3 1 (.slice ao l.length cap) l.length (nms l))
 (hown : w3.ownsRow w0.heap.size 3 1 v' (l.length + 1) (nms l ++ [.int .i64 (x : Int)])) (hg : (W.alloc (.cells #[.int .i64 (x : Int)] 3)).grownBy w3 (Value.slice ao l.length cap).ownBlock) :
 w3.heap[B]? = some (.cells #[.slice ao l.length cap] 27 (0, 0)) ∧ Atb w0 (w3.setCell ⟨B, 0, none⟩ v') B (l ++ [x]) ∧ KeepsFrom w0.heap.size W (w3.setCell ⟨B, 0, none⟩ v') ∧ Kq (Sx w0.heap.size B) W (w3.setCell ⟨B, 0, none⟩ v') := by
 have hab := alloc_below W (.cells #[.int .i64 (x : Int)] 3)
 have hBl := (Array.getElem?_eq_some_iff.1 h1).1
 have hO2 := own_below h2 hab
 have hB1 := (hab.block B hBl).trans h1
 have hBne : (Value.slice ao l.length cap).ownBlock ≠ some B := own_apart hO2 hB1 (by decide)
 have hB3 := (hg.block B (Array.getElem?_eq_some_iff.1 hB1).1 (fun e => hBne e.symm)).trans hB1
 have hv3 : v'.ownBlock ≠ some B := own_apart hown hB3 (by decide)
 have hkW : Kq (Sx w0.heap.size B) W (w3.setCell ⟨B, 0, none⟩ v') := by
  refine (Below.kq hab (fun j hj => Nat.lt_of_lt_of_le hj.1 h.kq.size)).trans ((grown_kq hg (fun j hj => ?_) (fun k e hk => ?_)).trans ⟨rfl, rfl, rfl, by simp [World.setCell], fun j hj => Below.heap_setCell _ _ _ j hj.2⟩)
  · have := hj.1; have := h.kq.size; have := hab.size; omega
  · have := own_base hO2 k e
    have := hk.1
    omega
 obtain ⟨a3, c3, rfl⟩ := own_form hown
 have hl : (l ++ [x]).length = l.length + 1 := by simp
 refine ⟨hB3, ⟨⟨a3, c3, ?_, ?_⟩, h.kq.trans hkW⟩, ?_, hkW⟩
 · rw [hl]
   have := set_blk hB3 0 (.slice a3 (l.length + 1) c3)
   rw [this]; rfl
 · rw [hl, nms_snoc]
   exact own_other hown hv3
 · refine KeepsFrom.trans ((KeepsOthers.alloc W _).from _) (KeepsFrom.trans ((KeepsOthers.of_grownBy hg ?_).from _) ((KeepsOthers.setCell _ _ _).from _))
   intro j o hj ho
   rcases hO2.2 with ⟨e, _⟩ | ⟨g1, c1, u1, e, _, k1, _⟩
   · rw [e] at hj; simp [Value.ownBlock] at hj
   · rw [e] at hj; simp [Value.ownBlock] at hj
     subst hj
     rw [k1] at ho
     cases ho
     rfl
theorem Rw.kq {w0 W : World} {v : Value} {xs : List Int} {B : Nat} {cs : Array Value} {T : TypeId} (h : Rw w0 v xs) (hb : w0.heap[B]? = some (.cells cs T (0, 0))) (hn : ∀ (i : Nat) (x : Int), cs[i]? ≠ some (Value.int .u64 x)) (hk : Kq (Sx w0.heap.size B) w0 W) : Rw W v xs := by
 obtain ⟨⟨ao, cap, h1, h2, h3, h4⟩, h5⟩ := h
 refine ⟨⟨ao, cap, h1, h2, h3, fun hne => ?_⟩, h5⟩
 obtain ⟨b, off, h6, h7, h8⟩ := h4 hne
 have hbk : b ≠ B := by
  intro e
  subst e
  have h9 := h8 0 (List.length_pos_iff.2 hne)
  rw [cell_of_row w0 b (off + 0) _ _ _ hb] at h9
  exact hn _ _ h9
 refine ⟨b, off, h6, Nat.lt_of_lt_of_le h7 hk.size, fun i hi => ?_⟩
 rw [<- h8 i hi]
 exact World.cell?_of_block (hk.block b ⟨h7, hbk⟩)
theorem ev_ok {f p t : Int} {wd : Bool} (h : Fi f p wd) {V : List Int} (hV : Els p V) (hl : V.length <= 4096) (ht : El p t) : er f V [t] = 0 ∧ valE f t V = vl p t V := by
 have h1 : er f V [t] = 0 := er_yes h (allIn_of hV) (allIn_of (fun x hx => by rw [List.mem_singleton.1 hx]; exact ht)) hl (by simp)
 refine ⟨h1, ?_⟩
 unfold valE
 rw [h1, if_pos rfl, pOf_eq h]
theorem gEv (f p t : Int) (wd : Bool) (v : Value) (V : List Int) (W : World) (h : Fi f p wd) (hr : Rw W v V) (hV : Els p V) (hl : V.length <= 4096) (ht : El p t) : Calls Tryz.prog 76 #[.int .u8 f, v, .int .u64 t] W fun e w' => e = .returned (.tuple #[.int .u64 (vl p t V), .int .i64 0]) ∧ Below W.heap.size W w' := by
 have := pEval_any f t v V W (by have := ht.1; have := ht.2; have := h.top; omega) hr
 rw [(ev_ok h hV hl ht).1, (ev_ok h hV hl ht).2] at this
 exact this
theorem gLies (f p : Int) (wd : Bool) (bf br bx : Nat) (vV vx : Value) (V xs : List Int) (i : Nat) (W : World) (h : Fi f p wd) (c1 : W.cell? ⟨bf, 0, none⟩ = some (.int .u8 f)) (c2 : W.cell? ⟨br, 1, none⟩ = some vV) (c3 : W.cell? ⟨bx, 0, none⟩ = some vx) (hr : Rw W vV V) (hx : Rw W vx xs) (hV : Els p V) (hl : V.length <= 4096) (hxe : Els p xs) (hi : i < xs.length) :
 Calls Tryz.prog 90 #[.int .i64 (i : Int), .pointer (some ⟨bf, 0, none⟩), .pointer (some ⟨br, 0, none⟩), .pointer (some ⟨bx, 0, none⟩)] W fun e w' => e = .returned (.bool (vl p (co xs i) V != 0)) ∧ Below W.heap.size W w' := by
 have HE := hide (fun W' (hb : Below W.heap.size W W') => gEv f p (co xs i) wd vV V W' h (hr.below hb) hV hl (hxe.co h.pos i))
 have hxl := hx.len
 obtain ⟨⟨ao, cap, rfl, _, _, hc⟩, _⟩ := hx
 obtain ⟨b, off, rfl, hb, hcell⟩ := hc (fun e => by rw [e] at hi; cases hi)
 have c4 : W.cell? ⟨b, off + i, none⟩ = some (.int .u64 (co xs i)) := hcell i hi
 obtain ⟨x2, y2, rfl, _⟩ := hr.spell
 have h0 : (0 : Int) <= (i : Int) := Int.natCast_nonneg _
 have h1 : (i : Int) < (xs.length : Int) := by omega
 have HEl := hide (elWord (hxe.co h.pos i) h.top)
 have HV0 := hide (vl_el h.pos (co xs i) V)
 obtain ⟨t, Ht⟩ : ∃ t, Hid (co xs i = t) := ⟨_, rfl⟩
 rw [Ht.out] at HE c4 HV0 ⊢
 generalize hn : xs.length = n at *
 generalize hm : V.length = m at *
 generalize vl p t V = z at *
 clear hn hm hcell hr hV hxe h hb hl hi
 go_enter Tryz.func90, Tryz.ntmps90
 go_wp2
 go_region_held3 (fun w' => w'.cell? ⟨bf, 0, none⟩ = some (.int .u8 f) ∧ w'.cell? ⟨br, 1, none⟩ = some (.slice x2 m y2) ∧ w'.cell? ⟨bx, 0, none⟩ = some (.slice (some ⟨b, off, none⟩) n cap) ∧ w'.cell? ⟨b, off + i, none⟩ = some (.int .u64 t)) (first | with_reducible exact hd.out | exact ⟨c1, c2, c3, c4⟩) (first | (go_at_call 76; refine (HE.out _ (Below.refl _ _).drew).mono ?_; rintro e w2 ⟨rfl, hb2⟩; have hB2 := Below.next (Below.refl W.heap.size W).drew hb2; have hd := hide (And.intro ((hB2.cell (cell_lt c1)).trans c1) (And.intro ((hB2.cell (cell_lt c2)).trans c2) (And.intro ((hB2.cell (cell_lt c3)).trans c3) ((hB2.cell (cell_lt c4)).trans c4))))))
 go_wp2
 go_ret
 exact ⟨rfl, hB2⟩
def fst2 (a b : Int) : Int := if a = 0 then b else if b = 0 then a else if b < a then b else a
def agE (f : Int) (P xs ys : List Int) : Int := fst2 (bad f xs ys ys.length) (er f P [0])
def agV (f : Int) (P xs ys : List Int) : Int := if agE f P xs ys = 0 then (xs.length : Int) - (offp (pOf f) P xs ys).length else 0
theorem vlu_zero (f : Int) (xs ys : List Int) : vluE f xs ys 0 = bad f xs ys ys.length := by
 unfold vluE
 by_cases h : inF f [0] = true
 · rw [if_pos h]
 · rw [if_neg h]
   have hno : f ≠ 1 ∧ f ≠ 2 := by
    constructor <;> intro e <;> apply h <;> rw [e] <;> decide +kernel
   rw [bad_arg (.inl (inF_no hno.1 hno.2 xs))]
theorem fst2_zero {a b : Int} (h : fst2 a b = 0) : a = 0 ∧ b = 0 := by
 unfold fst2 at h
 by_cases h1 : a = 0
 · rw [if_pos h1] at h; exact ⟨h1, h⟩
 · rw [if_neg h1] at h
   by_cases h2 : b = 0
   · rw [if_pos h2] at h; exact absurd h h1
   · rw [if_neg h2] at h
     by_cases h3 : b < a
     · rw [if_pos h3] at h; exact absurd h h2
     · rw [if_neg h3] at h; exact absurd h h1
theorem gFirst (a b : Int) (w : World) : Calls Tryz.prog 78 #[.slice (some ⟨w.heap.size, 0, none⟩) 2 2] (w.alloc (.cells #[.int .i64 a, .int .i64 b] 30)) fun e w' => e = .returned (.int .i64 (fst2 a b)) ∧ w' = (w.alloc (.cells #[.int .i64 a, .int .i64 b] 30)) := by
 have h0 := heap_alloc_new w (.cells #[.int .i64 a, .int .i64 b] 30)
 obtain ⟨k0, k1, _, _⟩ := cell_two h0
 generalize w.alloc (.cells #[.int .i64 a, .int .i64 b] 30) = W at *
 generalize w.heap.size = g at *
 clear h0
 by_cases ha : a = 0
 · subst ha
   by_cases hb : b = 0
   · subst hb
     go_enter Tryz.func78, Tryz.ntmps78
     go_wp2_with fail
     refine wp_loop_rounds 3 ?_
     rw [rounds_succ]
     go_wp2
     rw [rounds_succ]
     go_wp2
     rw [rounds_succ]
     go_wp2
     go_ret
     exact ⟨rfl, rfl⟩
   · have hb2 : (b != 0) = true := bne_iff_ne.2 hb
     have HE : Hid (fst2 0 b = b) := rfl
     rw [HE.out]
     go_enter Tryz.func78, Tryz.ntmps78
     go_wp2_with fail
     refine wp_loop_rounds 3 ?_
     rw [rounds_succ]
     go_wp2
     rw [rounds_succ]
     go_wp2
     rw [rounds_succ]
     go_wp2
     go_ret
     exact ⟨rfl, rfl⟩
 · have ha2 : (a != 0) = true := bne_iff_ne.2 ha
   have ha3 : (a == 0) = false := beq_eq_false_iff_ne.2 ha
   by_cases hb : b = 0
   · subst hb
     have HE : Hid (fst2 a 0 = a) := by show _ = _; unfold fst2; rw [if_neg ha, if_pos rfl]
     rw [HE.out]
     go_enter Tryz.func78, Tryz.ntmps78
     go_wp2_with fail
     refine wp_loop_rounds 3 ?_
     rw [rounds_succ]
     go_wp2
     rw [rounds_succ]
     go_wp2
     rw [rounds_succ]
     go_wp2
     go_ret
     exact ⟨rfl, rfl⟩
   · have hb2 : (b != 0) = true := bne_iff_ne.2 hb
     by_cases hl : b < a
     · have HE : Hid (fst2 a b = b) := by show _ = _; unfold fst2; rw [if_neg ha, if_neg hb, if_pos hl]
       rw [HE.out]
       go_enter Tryz.func78, Tryz.ntmps78
       go_wp2_with fail
       refine wp_loop_rounds 3 ?_
       rw [rounds_succ]
       go_wp2
       rw [rounds_succ]
       go_wp2
       rw [rounds_succ]
       go_wp2
       go_ret
       exact ⟨rfl, rfl⟩
     · have HE : Hid (fst2 a b = a) := by show _ = _; unfold fst2; rw [if_neg ha, if_neg hb, if_neg hl]
       rw [HE.out]
       go_enter Tryz.func78, Tryz.ntmps78
       go_wp2_with fail
       refine wp_loop_rounds 3 ?_
       rw [rounds_succ]
       go_wp2
       rw [rounds_succ]
       go_wp2
       rw [rounds_succ]
       go_wp2
       go_ret
       exact ⟨rfl, rfl⟩
theorem gLies2 (f p : Int) (wd : Bool) (bf bp bx bY : Nat) (vV vx vy : Value) (V xs ys : List Int) (i : Nat) (W : World) (h : Fi f p wd) (c1 : W.cell? ⟨bf, 0, none⟩ = some (.int .u8 f)) (c2 : W.cell? ⟨bp, 0, none⟩ = some vV) (c3 : W.cell? ⟨bx, 0, none⟩ = some vx) (c5 : W.cell? ⟨bY, 0, none⟩ = some vy) (hr : Rw W vV V) (hx : Rw W vx xs) (hy : Rw W vy ys) (hV : Els p V) (hl : V.length <= 4096) (hxe : Els p xs) (hi : i < xs.length) (hxy : xs.length = ys.length) :
 Calls Tryz.prog 79 #[.int .i64 (i : Int), .pointer (some ⟨bf, 0, none⟩), .pointer (some ⟨bp, 0, none⟩), .pointer (some ⟨bx, 0, none⟩), .pointer (some ⟨bY, 0, none⟩)] W fun e w' => e = .returned (.bool (vl p (co xs i) V == co ys i)) ∧ Below W.heap.size W w' := by
 have HE := hide (fun W' (hb : Below W.heap.size W W') => gEv f p (co xs i) wd vV V W' h (hr.below hb) hV hl (hxe.co h.pos i))
 have hxl := hx.len
 obtain ⟨⟨ao, cap, rfl, _, _, hc⟩, _⟩ := hx
 obtain ⟨b, off, rfl, hb, hcell⟩ := hc (fun e => by rw [e] at hi; cases hi)
 have c4 : W.cell? ⟨b, off + i, none⟩ = some (.int .u64 (co xs i)) := hcell i hi
 have hyw := hy.words
 obtain ⟨⟨ay, cay, rfl, _, _, hcy⟩, _⟩ := hy
 obtain ⟨by', oy, rfl, hby, hcelly⟩ := hcy (fun e => by rw [hxy, e] at hi; cases hi)
 have c6 : W.cell? ⟨by', oy + i, none⟩ = some (.int .u64 (co ys i)) := hcelly i (by omega)
 obtain ⟨x2, y2, rfl, _⟩ := hr.spell
 have h0 : (0 : Int) <= (i : Int) := Int.natCast_nonneg _
 have h1 : (i : Int) < (xs.length : Int) := by omega
 obtain ⟨t, Ht⟩ : ∃ t, Hid (co xs i = t) := ⟨_, rfl⟩
 rw [Ht.out] at HE c4 ⊢
 generalize hn : xs.length = n at *
 rw [<- hxy] at c5
 generalize hm : V.length = m at *
 generalize vl p t V = z at *
 generalize co ys i = y at *
 clear hn hm hcell hcelly hr hV hxe h hb hl hi hxy hcy hc hyw
 go_enter Tryz.func79, Tryz.ntmps79
 go_wp2
 go_region_held3 (fun w' => w'.cell? ⟨bf, 0, none⟩ = some (.int .u8 f) ∧ w'.cell? ⟨bp, 0, none⟩ = some (.slice x2 m y2) ∧ w'.cell? ⟨bx, 0, none⟩ = some (.slice (some ⟨b, off, none⟩) n cap) ∧ w'.cell? ⟨b, off + i, none⟩ = some (.int .u64 t)) (first | with_reducible exact hd.out | exact ⟨c1, c2, c3, c4⟩) (first | (go_at_call 76; refine (HE.out _ (Below.refl _ _).drew).mono ?_; rintro e w2 ⟨rfl, hb2⟩; have hB2 := Below.next (Below.refl W.heap.size W).drew hb2; have hd := hide (And.intro ((hB2.cell (cell_lt c1)).trans c1) (And.intro ((hB2.cell (cell_lt c2)).trans c2) (And.intro ((hB2.cell (cell_lt c3)).trans c3) ((hB2.cell (cell_lt c4)).trans c4))))))
 have d5 := (hB2.cell (cell_lt c5)).trans c5
 have d6 := (hB2.cell (cell_lt c6)).trans c6
 go_wp2
 go_ret
 exact ⟨rfl, hB2⟩
end Go.Proofs.YtjhididlcdepdaaGreat
