import Derived.Test.YtjhididlcdepdaaGreatBunAE
import Derived.RangeFuncNested
import Derived.RangeFuncBound
import Derived.Shelf.RegionOpen
import Derived.OwnWalkIn
import Derived.LoopNIn
import Derived.LoopIn
set_option linter.unusedVariables false
set_option linter.unusedSimpArgs false
set_option maxRecDepth 100000
set_option maxHeartbeats 4000000
namespace Go.Proofs.YtjhididlcdepdaaGreat
open Go.RowKit Go.Shelf Fld
attribute [local go_sem] Oper.semAt_some
def KpB (n0 Bs : Nat) (W W' : World) : Prop := Below n0 W W' ∧ W'.heap[Bs]? = W.heap[Bs]?
theorem KpB.refl (n0 Bs : Nat) (W : World) : KpB n0 Bs W W := ⟨Below.refl _ _, rfl⟩
theorem KpB.trans {n0 Bs : Nat} {A B C : World} (h : KpB n0 Bs A B) (k : KpB n0 Bs B C) : KpB n0 Bs A C := ⟨h.1.trans k.1, k.2.trans h.2⟩
theorem KpB.turn {n0 Bs : Nat} {w : World} (hn : n0 <= w.heap.size) (hB : Bs < w.heap.size) (W : World) (l : Nat) (o o' : Obj) (hl : w.heap.size <= l) (h : W.heap[l]? = some o) (h1 : o.isCells = false) (h2 : o.isWalk = false) : KpB n0 Bs W (W.putObj l o') :=
 ⟨belowK_b hn W l o o' hl h h1 h2, World.putObj_heap_other (by omega)⟩
theorem cell_of_heap {W W' : World} {b k : Nat} (h : W'.heap[b]? = W.heap[b]?) : W'.cell? ⟨b, k, none⟩ = W.cell? ⟨b, k, none⟩ := World.cell?_of_block h
def bkv (zs : List Int) (k : Nat) : Array Value := #[.int .i64 ((zs.length - 1 - k : Nat) : Int), .int .u64 (zs.getD (zs.length - 1 - k) 0)]
theorem bk1_in (F : Fence) (n : Nat) (hf : F.fn 124) (hro : F.round = none) (hn : 1 <= n) (l Bs n0 cap : Nat) (ao : Option Addr) (zs : List Int) (hl : zs.length <= 17592186043904) (J Jx : List Nat -> World -> Prop)
 (hY : ∀ pre x W, J pre W -> pre.length < zs.length -> YieldAt F (n - 1) Tryz.prog l (bkv zs x) W fun e W' =>
  (e = .returned (.bool true) ∧ J (pre ++ [x]) W' ∧ KpB n0 Bs W W') ∨ (e = .returned (.bool false) ∧ Jx (pre ++ [x]) W'))
 (W : World) (hBs : W.cell? ⟨Bs, 0, none⟩ = some (.slice ao zs.length cap)) (hc : ∀ j, j < zs.length -> ∃ b off, ao = some ⟨b, off, none⟩ ∧ b < n0 ∧ W.cell? ⟨b, off + j, none⟩ = some (.int .u64 (zs.getD j 0))) (h0 : J [] W) :
 CallsIn F n Tryz.prog 124 #[.func (.yield l) #[] #[], .pointer (some ⟨Bs, 0, none⟩)] W fun e W' => (∃ v, e = .returned v) ∧
  ((∃ ys, ys = List.range zs.length ∧ J ys W') ∨ (∃ pre, True ∧ Jx pre W')) := by
 refine callsIn_of_wp Tryz.func124 rfl hf ?_ hro
 simp only [Tryz.ntmps124, List.size_toArray, List.length_cons, List.length_nil, Nat.reduceAdd, Nat.reduceSub, Array.replicate_succ, Array.replicate_zero, List.push_toArray, List.append_toArray, List.nil_append, List.cons_append]
 obtain ⟨N, HN⟩ : ∃ N, Hid (zs.length = N) := ⟨_, rfl⟩
 have HY := hide hY
 clear hY
 rw [HN.out] at hBs hc hl HY ⊢
 gi_wp2
 gi_loopw [3] (fun vi wr => ∃ k : Nat, k <= N ∧ vi = .int .i64 ((N : Int) - 1 - k) ∧ J (List.range k) wr ∧ KpB n0 Bs W wr) (fun vi _ => (intOf vi + 1).toNat)
 case atStart => exact ⟨0, Nat.zero_le _, by simp, h0, KpB.refl _ _ _⟩
 case round =>
  obtain ⟨k, hk, rfl, hJs, hnx⟩ := hrel
  by_cases hlt : k < N
  · have hBs2 := (cell_of_heap (k := 0) hnx.2).trans hBs
    obtain ⟨i, hi⟩ : ∃ i : Nat, i + k + 1 = N := ⟨N - 1 - k, by omega⟩
    obtain ⟨b, off, rfl, hb, hcell⟩ := hc i (by omega)
    have hck := (hnx.1.cell (p := ⟨b, off + i, none⟩) hb).trans hcell
    obtain ⟨fn, tmps, assign, body, hy, hR⟩ := HY.out (List.range k) k wr hJs (by rw [List.length_range]; exact hlt)
    have hii : zs.length - 1 - k = i := by rw [HN.out]; omega
    unfold bkv at hy
    rw [hii] at hy
    have hsi : (N : Int) - 1 - (k : Int) = (i : Int) := by omega
    rw [hsi]
    have hlti : (i : Int) < (N : Int) := by omega
    have hge : (0 : Int) <= (i : Int) := by omega
    generalize zs.getD i 0 = z at *
    clear hcell hsi hii hc
    gi_wp2
    refine hR.mono ?_
    rintro e W3 (⟨rfl, hJ3, hk3⟩ | ⟨rfl, hJx3⟩)
    · rw [<- List.range_succ] at hJ3
      have hnx3 := hnx.trans hk3
      gi_wp2
      go_roundw
      case rel => exact ⟨k + 1, by omega, by congr 1; omega, hJ3, hnx3⟩
      case measure => simp [intOf]
    · gi_wp2
      refine bodyPost_ret (results_none rfl _ _ _) rfl ?_
      exact ⟨⟨_, rfl⟩, .inr ⟨_, trivial, hJx3⟩⟩
  · obtain rfl : k = N := by omega
    have hneg : (k : Int) - 1 - (k : Int) = -1 := by omega
    rw [hneg]
    gi_wp2
    go_end0
    exact ⟨⟨_, rfl⟩, .inl ⟨_, rfl, hJs⟩⟩
theorem bk_stops (F : Fence) (n : Nat) (hf : F.fn 124) (hro : F.round = none) (hn : 1 <= n) (Bs n0 cap : Nat) (ao : Option Addr) (zs : List Int) (hl : zs.length <= 17592186043904) (w : World) (hBl : Bs < w.heap.size) (hn0 : n0 <= w.heap.size)
 (hBs : w.cell? ⟨Bs, 0, none⟩ = some (.slice ao zs.length cap)) (hc : ∀ j, j < zs.length -> ∃ b off, ao = some ⟨b, off, none⟩ ∧ b < n0 ∧ w.cell? ⟨b, off + j, none⟩ = some (.int .u64 (zs.getD j 0))) :
 SeqStopsK F n Tryz.prog 124 #[.pointer (some ⟨Bs, 0, none⟩)] (bkv zs) (KpB n0 Bs) (fun ys => ys = List.range zs.length) (fun _ => True) zs.length w := fun l J Jx W hW _ _ hY h0 =>
 bk1_in F n hf hro hn l Bs n0 cap ao zs hl J Jx hY W ((hW.cell (p := ⟨Bs, 0, none⟩) hBl).trans hBs) (fun j hj => by
  obtain ⟨b, off, e, hb, hcell⟩ := hc j hj
  exact ⟨b, off, e, hb, (hW.cell (p := ⟨b, off + j, none⟩) (by exact Nat.lt_of_lt_of_le hb hn0)).trans hcell⟩) h0
theorem back_in (F : Fence) (n : Nat) (hf : F.fn 93) (hro : F.round = none) (ao : Option Addr) (len cap : Nat) (w : World) :
 CallsIn F n Tryz.prog 93 #[.slice ao len cap] w fun e w' => e = .returned (.func (.func 124) #[] #[.pointer (some ⟨w.heap.size, 0, none⟩)]) ∧ w' = w.alloc (.cells #[.slice ao len cap] 36) := by
 refine callsIn_of_wp Tryz.func93 rfl hf ?_ hro
 simp only [Tryz.ntmps93, List.size_toArray, List.length_cons, List.length_nil, Nat.reduceAdd, Nat.reduceSub, Array.replicate_succ, Array.replicate_zero, List.push_toArray, List.append_toArray, List.nil_append, List.cons_append]
 gi_wp2
 go_ret
 exact ⟨rfl, rfl⟩
def bst (p : Int) (l : List Int) (s : List Int × Int) (k : Nat) : List Int × Int := (s.1.set (l.length - 1 - k) (mul p (co s.1 (l.length - 1 - k)) s.2), mul p s.2 (co l (l.length - 1 - k)))
def bfo (p : Int) (l A : List Int) (pre : List Nat) : List Int × Int := pre.foldl (bst p l) (A, 1)
theorem bfo_snoc (p : Int) (l A : List Int) (pre : List Nat) (k : Nat) : bfo p l A (pre ++ [k]) = bst p l (bfo p l A pre) k := by simp [bfo, List.foldl_append]
theorem bst_facts {p : Int} (hp : 0 < p) {l : List Int} : ∀ (pre : List Nat) (s : List Int × Int) (m : Nat), Els p s.1 -> s.1.length = m -> El p s.2 -> Els p (pre.foldl (bst p l) s).1 ∧ (pre.foldl (bst p l) s).1.length = m ∧ El p (pre.foldl (bst p l) s).2 := by
 intro pre
 induction pre with
 | nil => intro s m h1 h2 h3; exact ⟨h1, h2, h3⟩
 | cons k pre ih =>
  intro s m h1 h2 h3
  refine ih _ m (fun x hx => ?_) (by show (s.1.set _ _).length = m; rw [List.length_set]; exact h2) (mul_el hp)
  rcases List.mem_or_eq_of_mem_set hx with h | h
  · exact h1 x h
  · rw [h]; exact mul_el hp
theorem bfo_facts {p : Int} {wd : Bool} (hm : Md p wd) {l A : List Int} (hA : Els p A) (pre : List Nat) : Els p (bfo p l A pre).1 ∧ (bfo p l A pre).1.length = A.length ∧ El p (bfo p l A pre).2 := by
 have hb := hm.bounds
 exact bst_facts (by omega) pre (A, 1) A.length hA rfl (show El p 1 from ⟨by decide, by omega⟩)
theorem bfo_range {p : Int} {wd : Bool} (hm : Md p wd) {l A : List Int} (hl : A.length = l.length) : ∀ k, k <= l.length -> (bfo p l A (List.range k)).1 = mk l.length (fun j => if l.length - k <= j then mul p (co A j) (pd p (l.drop (j + 1))) else co A j) ∧ (bfo p l A (List.range k)).2 = pd p (l.drop (l.length - k)) := by
 intro k
 induction k with
 | zero =>
  intro _
  constructor
  · show A = _
    apply ext_co
    · rw [mk_len, hl]
    · intro i hi
      rw [co_mk, if_pos (by omega), if_neg (by omega)]
  · show (1 : Int) = _
    rw [Nat.sub_zero, List.drop_length]; rfl
 | succ k ih =>
  intro hk
  obtain ⟨h1, h2⟩ := ih (by omega)
  obtain ⟨i, hi⟩ : ∃ i, i + k + 1 = l.length := ⟨l.length - 1 - k, by omega⟩
  have e1 : l.length - 1 - k = i := by omega
  have e2 : l.length - k = i + 1 := by omega
  have e3 : l.length - (k + 1) = i := by omega
  rw [List.range_succ, bfo_snoc]
  unfold bst
  rw [e1, h2, e2, e3, h1, e2]
  constructor
  · apply ext_co
    · rw [List.length_set, mk_len, mk_len]
    · intro j hj
      rw [List.length_set, mk_len] at hj
      rw [co_set _ _ _ _ (by rw [mk_len]; omega), co_mk, co_mk, co_mk, if_pos hj, if_pos (show i < l.length by omega), if_pos hj]
      by_cases hji : j = i
      · subst hji
        rw [if_pos rfl, if_neg (by omega), if_pos (Nat.le_refl _)]
      · rw [if_neg hji]
        by_cases h : i + 1 <= j
        · rw [if_pos h, if_pos (by omega)]
        · rw [if_neg h, if_neg (by omega)]
  · exact (pd_behind hm (by omega)).symm
theorem bfo_end {p : Int} {wd : Bool} (hm : Md p wd) (l : List Int) : (bfo p l (mk l.length (fun j => pd p (l.take j))) (List.range l.length)).1 = mk l.length (ot p l) := by
 rw [(bfo_range hm (mk_len _ _) l.length (Nat.le_refl _)).1]
 apply ext_co
 · rw [mk_len, mk_len]
 · intro j hj
   rw [mk_len] at hj
   rw [co_mk, co_mk, co_mk, if_pos hj, if_pos hj, if_pos hj, if_pos (by omega)]
   rfl
theorem setCell_heap_far (W : World) (a : Addr) (v : Value) {b : Nat} (h : a.block ≠ b) : (W.setCell a v).heap[b]? = W.heap[b]? := by
 exact Below.heap_setCell W _ _ _ (fun e => h e.symm)
def noDefer (ops : Array Oper) : Bool := ops.toList.all (fun o => match o.op with | .defer _ => false | _ => true)
theorem oper_round {P : Program} {l m : Nat} {o : Oper} {a : Act} {W : World} {K : Act -> World -> Prop} {Q : Exit -> Act -> World -> Prop} (hd : ∀ c, o.op ≠ .defer c) (h : o.wp P a W K Q) : o.wpIn (Fence.wide.inRound l) m P a W K Q := by
 refine ⟨fun _ _ => trivial, ?_⟩
 have e : o.semAt (Fence.wide.inRound l).round a.eval = execOp a.eval o := Oper.semAt_eq _ _ _ hd
 rw [e]
 unfold Oper.wp at h
 generalize (execOp a.eval o).run P W = r at *
 cases r with
 | ok x w' =>
  cases x <;> simp only [Oper.upon] at h <;> simp only [Oper.uponIn]
  case value v => exact h
  case skip => exact h
  case defer d => exact h
  case enter f args => exact ⟨fun hc => by simp [Fence.inRound, Fence.wide] at hc, CallsIn.inRound l (callsIn_wide.2 h)⟩
  case row r args => exact ⟨fun hc => by simp [Fence.inRound, Fence.wide] at hc, fun c cs _ => let ⟨v, w2, r1, r2⟩ := h c cs; ⟨v, w2, r1, stepsIn_wide.2 r2⟩⟩
 | halt x w' => cases x <;> simp only [Oper.upon] at h <;> simp only [Oper.uponIn] <;> exact h
theorem any_round {P : Program} {l m : Nat} {md : Region.Mode} {ops : Array Oper} {Q : Exit -> Act -> World -> Prop} (hd : noDefer ops = true) (hlo : ¬ LetsOut Q) : ∀ (fuel : Nat) (listed : Array Bool) (a : Act) (W : World), wpAny P md ops Q fuel listed a W -> wpAnyIn (Fence.wide.inRound l) m P md ops Q fuel listed a W := by
 intro fuel
 induction fuel with
 | zero => intro listed a W h; exact h
 | succ fuel ih =>
  intro listed a W h
  refine ⟨h.1, fun i hi => ?_⟩
  have h2 := h.2 i hi
  unfold wpOp at h2
  unfold wpOpIn
  cases ho : ops[i]? with
  | none => rw [ho] at h2; exact ih _ _ _ h2
  | some o =>
   rw [ho] at h2
   have hno : ∀ c, o.op ≠ .defer c := fun c hc => by
    have hm : o ∈ ops.toList := by
     obtain ⟨hlt, e⟩ := Array.getElem?_eq_some_iff.1 ho
     rw [<- e]; exact Array.getElem_mem_toList hlt
    have := List.all_eq_true.1 hd o hm
    rw [hc] at this; cases this
   simp only at h2 ⊢
   split
   · rename_i hw
     rw [if_pos hw] at h2
     exact Oper.wpIn_mono (fun a' w' h' => ih _ a' w' h') (oper_round hno (h2.resolve_right fun hc => hlo hc.2))
   · rename_i hw
     rw [if_neg hw] at h2
     exact ⟨fun _ _ => trivial, ih _ _ _ h2⟩
def onlyN (K : Act -> World -> Prop) : Exit -> Act -> World -> Prop
 | .normal, a, w => K a w
 | _, _, _ => False
theorem region_round {P : Program} {l m id : Nat} {ops : Array Oper} {Q : Exit -> Act -> World -> Prop} {a : Act} {W : World} {S : World -> Prop} (hm : P.follows .mixedOrders = true) (hd : noDefer ops = true) (hS : S W.drew)
 (h : S W.drew -> wpAnyH P .any ops (onlyN (Q .normal)) S ops.size (Array.replicate ops.size false) a W.drew) : (Code.region id ops true).wpIn (Fence.wide.inRound l) m P Q a W :=
 wpIn_mono (wpIn_region_any hm (any_round hd (fun ⟨_, _, hc⟩ => hc) _ _ _ _ (wpAny_of_held _ _ _ _ (h hS)))) (fun e a w h => by
  cases e <;> first | exact h | exact h.elim)
structure Oth (w W : World) (f : Int) (n g bp bh sz : Nat) (ys : List Int) (b : Int) : Prop where
 big : sz <= W.heap.size
 fb : W.cell? ⟨w.heap.size, 0, none⟩ = some (.int .u8 f)
 pb : W.cell? ⟨bp, 0, none⟩ = some (.slice (some ⟨g, 0, none⟩) n n)
 bb : W.cell? ⟨bh, 0, none⟩ = some (.int .u64 b)
 bf : W.frozen? ⟨bh, 0, none⟩ = false
 row : Ow W g n ys
 below : Below w.heap.size w W
theorem cell_lt {W : World} {a : Addr} {v : Value} (h : W.cell? a = some v) : a.block < W.heap.size := by
 obtain ⟨o, ho, _⟩ := cells_of_cell h
 exact (Array.getElem?_eq_some_iff.1 ho).1
theorem Oth.after {w W W' : World} {f : Int} {n g bp bh sz : Nat} {ys : List Int} {b : Int} (h : Oth w W f n g bp bh sz ys b) (hb : Below W.heap.size W W') : Oth w W' f n g bp bh sz ys b :=
 ⟨Nat.le_trans h.big hb.size, (hb.cell (cell_lt h.fb)).trans h.fb, (hb.cell (cell_lt h.pb)).trans h.pb, (hb.cell (cell_lt h.bb)).trans h.bb, (World.frozen?_of_block (hb.block _ (cell_lt h.bb))).trans h.bf, h.row.below hb, Below.next h.below hb⟩
theorem cell_other {W : World} {b g k j : Nat} {x : Value} (h : b ≠ g) : (W.setCell ⟨g, k, none⟩ x).cell? ⟨b, j, none⟩ = W.cell? ⟨b, j, none⟩ := World.cell?_setCell_far W _ _ _ (Ne.symm h)
theorem Oth.put {w W : World} {f : Int} {n g bp bh sz : Nat} {ys : List Int} {b : Int} (h : Oth w W f n g bp bh sz ys b) (h1 : g ≠ w.heap.size) (h2 : g ≠ bp) (h3 : g ≠ bh) (h4 : w.heap.size <= g) (k : Nat) (x : Int) : Oth w (W.setCell ⟨g, k, none⟩ (.int .u64 x)) f n g bp bh sz (ys.set k x) b :=
 ⟨by simpa using h.big, (cell_other (Ne.symm h1)).trans h.fb, (cell_other (Ne.symm h2)).trans h.pb, (cell_other (Ne.symm h3)).trans h.bb, by rw [World.frozen?_setCell]; exact h.bf, h.row.set k x, h.below.setCell (p := ⟨g, k, none⟩) h4 _⟩
theorem Oth.putB {w W : World} {f : Int} {n g bp bh sz : Nat} {ys : List Int} {b : Int} (h : Oth w W f n g bp bh sz ys b) (h1 : bh ≠ w.heap.size) (h2 : bh ≠ bp) (h3 : g ≠ bh) (h4 : w.heap.size <= bh) (x : Int) : Oth w (W.setCell ⟨bh, 0, none⟩ (.int .u64 x)) f n g bp bh sz ys x :=
 ⟨by simpa using h.big, (cell_other (Ne.symm h1)).trans h.fb, (cell_other (Ne.symm h2)).trans h.pb, World.cell?_setCell_same' _ _ _ (by rw [h.bb]; rfl), by rw [World.frozen?_setCell]; exact h.bf, own_other (g := bh) (k := 0) (u := .int .u64 x) h.row (by simp [Value.ownBlock]; exact h3), h.below.setCell (p := ⟨bh, 0, none⟩) h4 _⟩
theorem oth_own {β : Type} {w : World} {f : Int} {n g bp bh sz B : Nat} (F : β -> List Int) (G : β -> Int) (hB : w.heap.size <= B) : OwnFrom B (fun (s : β) W => Oth w W f n g bp bh sz (F s) (G s)) := fun s W W' row h hg hr => by
 have hr2 : ∀ r, row = some r -> ∃ o : Obj, W.heap[r]? = some o ∧ o.isCells = false := fun r e => (hr r e).2
 refine ⟨Nat.le_trans h.big hg.size, cell_kept h.fb hg hr2, cell_kept h.pb hg hr2, cell_kept h.bb hg hr2, (frozen_kept h.bb hg hr2).trans h.bf, h.row.kept hg (.inr fun e => ?_), h.below.grown hg h.below.size (fun k e => Nat.le_trans hB (hr k e).1)⟩
 obtain ⟨o, ho, hc⟩ := hr2 g (by rw [<- e]; rfl)
 have := own_block h.row
 rw [this] at ho
 injection ho with ho
 rw [<- ho] at hc
 cases hc
theorem ipOthers (f p : Int) (wd : Bool) (v : Value) (l : List Int) (w : World) (h : Fi f p wd) (h1 : Rw w v l) (he : Els p l) (hl : l.length <= 512) :
 Calls Tryz.prog 134 #[.int .u8 f, v] w fun e w' => ∃ v', e = .returned v' ∧ w'.ownsRow w.heap.size 64 1 v' l.length (vals (mk l.length (ot p l))) ∧ Below w.heap.size w w' := by
 obtain ⟨i0, hi0, hz0, hz1, hz2⟩ := info_parts u64_info
 have HT := hide (fun W a b (ha : El p a) (hb : El p b) => ipTimes f p a b wd W h ha hb)
 have hp0 := h.pos
 have HE := hide he
 have HM := hide h.md
 obtain ⟨⟨ao, cap, rfl, hlen, hw, hc⟩, _⟩ := h1
 have HC : Hid (∀ W, Below w.heap.size w W -> ∀ j, j < l.length -> ∃ b off, ao = some ⟨b, off, none⟩ ∧ b < w.heap.size ∧ W.cell? ⟨b, off + j, none⟩ = some (.int .u64 (l.getD j 0))) := fun W hb j hj => by
  obtain ⟨b, off, e, h2, h3⟩ := hc (by intro e; rw [e] at hj; simp at hj)
  exact ⟨b, off, e, h2, (hb.cell (p := ⟨b, off + j, none⟩) h2).trans (h3 j hj)⟩
 have HA := hide (fun k (hk : k < l.length) => pd_ahead HM.out he hk)
 have HP := hide (fun k => pd_el HM.out (l.take k))
 obtain ⟨n, HN⟩ : ∃ n, Hid (l.length = n) := ⟨_, rfl⟩
 have hlen : n <= 512 := by rw [<- HN.out]; exact hl
 clear hc hw h he hl
 refine (callsIn_wide (n := 5)).1 ?_
 refine callsIn_of_wp_marks Tryz.func134 rfl trivial ?_ rfl
 simp only [Tryz.ntmps134, List.size_toArray, List.length_cons, List.length_nil, Nat.reduceAdd, Nat.reduceSub, Array.replicate_succ, Array.replicate_zero, List.push_toArray, List.append_toArray, List.nil_append, List.cons_append]
 refine wpIn_wide.2 ?_
 rw [HN.out] at HC HA ⊢
 go_wp2_with (at_make; refine wpList_make_full _ rfl _ _ 36 rfl (w.heap.size + 1) 64 i0 (.int .u64 0) 1 Tryz.underlying36 hi0 hz0 hz1 .i64 .i64 _ _ n rfl rfl (by omega) (by omega) (by rw [hz2]; omega) (by unfold maxLen; omega) (by simp) ?_; intro w2 hown hgrow)
 have hsz := hgrow.size
 rw [World.size_alloc] at hsz
 have hO0 := own_made hown
 rw [World.size_alloc] at hO0
 have hgt := own_top hO0 (w.heap.size + 1) rfl
 have hB2 : Below w.heap.size w w2 := Below.next (alloc_below w _) (below_grown_none hgrow)
 have hf2 : w2.cell? ⟨w.heap.size, 0, none⟩ = some (.int .u8 f) := ((below_grown_none hgrow).cell (p := ⟨w.heap.size, 0, none⟩) (by simp)).trans (by simp [go_sem])
 obtain ⟨o2, HO2⟩ : ∃ o2, Hid (o2 = Obj.cells #[Value.slice (some ⟨w.heap.size + 1, 0, none⟩) n n] 36) := ⟨_, rfl⟩
 obtain ⟨o3, HO3⟩ : ∃ o3, Hid (o3 = Obj.cells #[Value.int .u64 1] 64) := ⟨_, rfl⟩
 rw [<- HO2.out, <- HO3.out]
 have a1 := alloc_below w2 o2
 have a2 := alloc_below (w2.alloc o2) o3
 obtain ⟨g, Hg⟩ : ∃ g, Hid (w.heap.size + 1 = g) := ⟨_, rfl⟩
 obtain ⟨bp, Hbp⟩ : ∃ bp, Hid (w2.heap.size = bp) := ⟨_, rfl⟩
 have hS : Oth w ((w2.alloc o2).alloc o3) f n g bp (bp + 1) 0 (List.replicate n 0) 1 := by
  have hg := Hg.out
  have hbp := Hbp.out
  subst hg hbp
  refine ⟨Nat.zero_le _, ?_, ?_, ?_, ?_, own_below (own_below hO0 a1) a2, Below.next (Below.next hB2 a1) a2⟩
  · rw [a2.cell (p := ⟨w.heap.size, 0, none⟩) (by simp; omega), a1.cell (p := ⟨w.heap.size, 0, none⟩) (by show w.heap.size < w2.heap.size; omega)]; exact hf2
  · rw [a2.cell (p := ⟨w2.heap.size, 0, none⟩) (by simp), HO2.out]; simp [go_sem]
  · rw [HO3.out]
    have : (w2.alloc o2).heap.size = w2.heap.size + 1 := by simp
    rw [<- this]; simp [go_sem]
  · rw [HO3.out]
    have : (w2.alloc o2).heap.size = w2.heap.size + 1 := by simp
    rw [<- this]; simp [go_sem]
 have hgb : g < bp := by rw [<- Hg.out, <- Hbp.out]; exact hgt
 have hwg : w.heap.size < g := by rw [<- Hg.out]; omega
 have hs3 : bp + 1 < ((w2.alloc o2).alloc o3).heap.size := by rw [<- Hbp.out]; simp
 rw [Hg.out, Hbp.out]
 have HS := hide hS
 generalize (w2.alloc o2).alloc o3 = w3 at *
 clear hown hgrow hO0 hf2 a1 a2 hS hB2 hsz hgt HO2 HO3
 go_loopw [6, 17] (fun va vi wr => ∃ (k : Nat) (ys : List Int), k <= n ∧ vi = .int .i64 k ∧ va = .int .u64 (pd p (l.take k)) ∧ ys.length = n ∧ Hid (∀ j, j < k -> co ys j = pd p (l.take j)) ∧ Hid (Oth w wr f n g bp (bp + 1) 0 ys 1)) (fun _ vi _ => n - (intOf vi).toNat)
 case atStart => exact ⟨0, List.replicate n 0, Nat.zero_le _, rfl, rfl, by simp, fun j hj => by omega, HS⟩
 case round =>
  clear HS
  obtain ⟨k, ys, hk, rfl, rfl, hyl, HY, HS⟩ := hrel
  by_cases hlt : k < n
  · obtain ⟨b, off, rfl, hbl, hck⟩ := HC.out wr HS.out.below k hlt
    have hel : El p (l.getD k 0) := HE.out.co hp0 k
    have HA2 := hide (HA.out k hlt)
    have hpe := HP.out k
    have hfb := HS.out.fb
    have hpb := HS.out.pb
    have hrc := HS.out.row.cell k hlt
    have hrf := HS.out.row.free k
    have HS1 := hide (HS.out.put (by omega) (by omega) (by omega) (by omega) k (pd p (l.take k)))
    have hT := hide (fun W => HT.out W _ _ hpe hel)
    have HY2 := hide (fill_step (F := fun j => pd p (l.take j)) HY.out (by omega) (rfl : _ = pd p (l.take k)))
    have hfb1 := HS1.out.fb
    have HA2 : Hid (mul p (pd p (l.take k)) (l.getD k 0) = pd p (l.take (k + 1))) := HA2.out.symm
    rw [HA2.out] at hT
    obtain ⟨ah2, HAh⟩ : ∃ ah2, Hid (pd p (l.take (k + 1)) = ah2) := ⟨_, rfl⟩
    rw [HAh.out] at hT
    clear HA2 hel hpe HY HC
    generalize l.getD k 0 = a at *
    generalize pd p (l.take k) = ah at *
    go_wp2_with (go_at_call 117; refine (hT.out _).mono ?_; rintro e w4 ⟨rfl, hb4⟩)
    have HS2 := hide (HS1.out.after hb4)
    go_roundw
    case rel => exact ⟨k + 1, _, by omega, by go_num, by rw [HAh.out], by simpa using hyl, HY2, HS2⟩
    case measure => simp [intOf]; omega
  · obtain rfl : k = n := by omega
    have HYE : Hid (ys = mk k (fun j => pd p (l.take j))) := fill_end HY.out hyl
    rw [HYE.out] at HS
    have HBk := hide ((callsIn_wide (n := 1)).1 (back_in Fence.wide 1 trivial rfl ao k cap wr))
    clear HY HYE HA HP hyl
    go_wp2_with (go_at_call 93; refine HBk.out.mono ?_; rintro e w5 ⟨rfl, hw5⟩)
    have hal := alloc_below wr (.cells #[Value.slice ao k cap] 36)
    have HS5 : Hid (Oth w (wr.alloc (.cells #[Value.slice ao k cap] 36)) f k g bp (bp + 1) (wr.heap.size + 1) (mk k (fun j => pd p (l.take j))) 1) := { HS.out.after hal with big := by simp }
    have hwr := HS.out.below.size
    have hbpl := cell_lt HS.out.pb
    have hbhl := cell_lt HS.out.bb
    have hseq := bk_stops Fence.wide 4 trivial rfl (by omega) wr.heap.size w.heap.size cap ao l (by omega) (wr.alloc (.cells #[Value.slice ao k cap] 36)) (by simp) (by simp; omega) (by rw [HN.out]; simp [go_sem]) (by rw [HN.out]; exact HC.out _ HS5.out.below)
    rw [HN.out] at hseq
    have HA0 : Hid (Els p (mk k (fun j => pd p (l.take j)))) := Els.mk _ (fun j _ => pd_el HM.out _)
    refine (wpIn_wide (n := 5)).1 ?_
    refine wpIn_rangeFunc_ownG rfl (by omega) (gf := 124) (lb := #[.pointer (some ⟨wr.heap.size, 0, none⟩)]) rfl trivial (enters_of Tryz.func124 (by kernel_rfl) rfl)
     hseq KpB.trans (KpB.turn (by simp; omega) (by simp)) (Below.refl _ _) (fun _ => rfl)
     (fun pre W => Oth w W f k g bp (bp + 1) (wr.heap.size + 1) (bfo p l (mk k (fun j => pd p (l.take j))) pre).1 (bfo p l (mk k (fun j => pd p (l.take j))) pre).2)
     (fun _ _ _ => False)
     (oth_own (fun pre => (bfo p l (mk k (fun j => pd p (l.take j))) pre).1) (fun pre => (bfo p l (mk k (fun j => pd p (l.take j))) pre).2) (by simp; omega))
     (fun _ _ _ _ _ hs _ _ => hs)
     HS5.out
     (fun x => { tmps := #[.int .u8 f, .slice ao k cap, .pointer (some ⟨w.heap.size, 0, none⟩), undef, .slice none 0 0, .pointer (some ⟨bp, 0, none⟩), .int .u64 (pd p (l.take k)), .pointer (some ⟨bp + 1, 0, none⟩), u8, u9, .int .i64 ((l.length - 1 - x : Nat) : Int), .int .u64 (l.getD (l.length - 1 - x) 0), .slice ao k cap, .int .i64 k, .slice (some ⟨g, 0, none⟩) k k, .slice ao k cap, .int .i64 k, .int .i64 k, .bool false, u19, u20, u21, u22, u23, u24, u25, u26, u27, u28, u29, u30, .slice ao k cap, .func (.func 124) #[] #[.pointer (some ⟨wr.heap.size, 0, none⟩)], .int .i64 ((l.length - 1 - x : Nat) : Int), .int .u64 (l.getD (l.length - 1 - x) 0), undef, undef, undef, undef, undef, undef, undef, undef, undef, undef, undef, undef, undef, undef, undef], defers := [] }) ?assign ?body ?done ?stop
    case assign =>
     intro L x W K hK
     unfold bkv
     gi_wp2
     exact hK
    case body =>
     intro L pre x W hI hlt
     obtain ⟨b1, b2, b3⟩ := bfo_facts HM.out HA0.out (l := l) pre
     rw [mk_len] at b2
     rw [HN.out]
     obtain ⟨i, HI⟩ : ∃ i, Hid (k - 1 - x = i) := ⟨_, rfl⟩
     have hik : i < k := by rw [<- HI.out]; omega
     have HF : Hid ((bfo p l (mk k (fun j => pd p (l.take j))) (pre ++ [x])).1 = (bfo p l (mk k (fun j => pd p (l.take j))) pre).1.set i (mul p (co (bfo p l (mk k (fun j => pd p (l.take j))) pre).1 i) (bfo p l (mk k (fun j => pd p (l.take j))) pre).2) ∧ (bfo p l (mk k (fun j => pd p (l.take j))) (pre ++ [x])).2 = mul p (bfo p l (mk k (fun j => pd p (l.take j))) pre).2 (co l i)) := by
      rw [bfo_snoc]
      unfold bst
      rw [HN.out, HI.out]
      exact ⟨rfl, rfl⟩
     have HQ : Hid (∀ W', KeepsFrom (wr.alloc (Obj.cells #[Value.slice ao k cap] 36)).heap.size W W' -> KpB w.heap.size wr.heap.size W W' -> Oth w W' f k g bp (bp + 1) (wr.heap.size + 1) ((bfo p l (mk k (fun j => pd p (l.take j))) pre).1.set i (mul p (co (bfo p l (mk k (fun j => pd p (l.take j))) pre).1 i) (bfo p l (mk k (fun j => pd p (l.take j))) pre).2)) (mul p (bfo p l (mk k (fun j => pd p (l.take j))) pre).2 (co l i)) -> ∀ a', ownPostG (wr.alloc (Obj.cells #[Value.slice ao k cap] 36)).heap.size (KpB w.heap.size wr.heap.size) (fun pre W => Oth w W f k g bp (bp + 1) (wr.heap.size + 1) (bfo p l (mk k (fun j => pd p (l.take j))) pre).1 (bfo p l (mk k (fun j => pd p (l.take j))) pre).2) (fun _ _ _ => False) (pre ++ [x]) W .normal a' W') := fun W' k1 k2 k3 a' => ⟨k1, k2, by show Oth _ _ _ _ _ _ _ _ _ _; rw [HF.out.1, HF.out.2]; exact k3⟩
     rw [HI.out]
     have hai : El p (co l i) := HE.out.co hp0 i
     have hyi : El p (co (bfo p l (mk k (fun j => pd p (l.take j))) pre).1 i) := b1.co hp0 i
     change (_ : Code).wpIn _ _ _ _ _ _
     generalize ownPostG (wr.alloc (Obj.cells #[Value.slice ao k cap] 36)).heap.size (KpB w.heap.size wr.heap.size) (fun pre W => Oth w W f k g bp (bp + 1) (wr.heap.size + 1) (bfo p l (mk k (fun j => pd p (l.take j))) pre).1 (bfo p l (mk k (fun j => pd p (l.take j))) pre).2) (fun _ _ _ => False) (pre ++ [x]) W = QQ at HQ ⊢
     generalize (bfo p l (mk k (fun j => pd p (l.take j))) pre).1 = ys at *
     generalize (bfo p l (mk k (fun j => pd p (l.take j))) pre).2 = bh at *
     obtain ⟨y, Hy⟩ : ∃ y, Hid (co ys i = y) := ⟨_, rfl⟩
     obtain ⟨a, Ha⟩ : ∃ a, Hid (co l i = a) := ⟨_, rfl⟩
     have HS := hide hI
     have c1 := hI.fb
     have c2 := hI.pb
     have c3 := hI.bb
     have c4 : W.cell? ⟨g, i, none⟩ = some (.int .u64 y) := by rw [<- Hy.out]; exact hI.row.cell i hik
     have ea : l.getD i 0 = a := Ha.out
     rw [Hy.out] at HQ hyi
     rw [Ha.out] at HQ hai
     rw [ea]
     have hT1 := hide (fun W' => HT.out W' y bh hyi b3)
     have hT2 := hide (fun W' => HT.out W' bh a b3 hai)
     obtain ⟨m1, Hm1⟩ : ∃ m1, Hid (mul p y bh = m1) := ⟨_, rfl⟩
     obtain ⟨m2, Hm2⟩ : ∃ m2, Hid (mul p bh a = m2) := ⟨_, rfl⟩
     rw [Hm1.out] at HQ hT1
     rw [Hm2.out] at HQ hT2
     dsimp only
     clear hI ea
     have hik2 : (i : Int) < (k : Int) := by omega
     have hmx : Tryz.prog.follows .mixedOrders = true := by kernel_rfl
     gi_wp2
     refine region_round (S := fun W' => W'.cell? ⟨bp, 0, none⟩ = some (.slice (some ⟨g, 0, none⟩) k k) ∧ W'.cell? ⟨w.heap.size, 0, none⟩ = some (.int .u8 f) ∧ W'.cell? ⟨bp + 1, 0, none⟩ = some (.int .u64 bh)) hmx (by kernel_rfl) ⟨c2, c1, c3⟩ (fun hH => ?_)
     refine wpAnyH_take (i := 0) (v := .slice (some ⟨g, 0, none⟩) k k) rfl (by kernel_rfl) (by kernel_rfl) (by kernel_rfl) (fun _ _ _ h => h) (Or.inl ⟨by rfl, fun W' hs => by obtain ⟨s1, s2, s3⟩ := hs; go_simp⟩) hH ?_
     simp only [Act.put, List.getElem_toArray, List.getElem_cons_succ, List.getElem_cons_zero, List.setIfInBounds_toArray, List.set_cons_zero, List.set_cons_succ]
     refine wpAnyH_take (i := 1) (v := .int .i64 i) rfl (by kernel_rfl) (by kernel_rfl) (by kernel_rfl) (fun _ _ _ h => h) (Or.inl ⟨by rfl, fun W' hs => by obtain ⟨s1, s2, s3⟩ := hs; go_simp⟩) hH ?_
     simp only [Act.put, List.getElem_toArray, List.getElem_cons_succ, List.getElem_cons_zero, List.setIfInBounds_toArray, List.set_cons_zero, List.set_cons_succ]
     refine wpAnyH_take (i := 2) (v := .int .u8 f) rfl (by kernel_rfl) (by kernel_rfl) (by kernel_rfl) (fun _ _ _ h => h) (Or.inl ⟨by rfl, fun W' hs => by obtain ⟨s1, s2, s3⟩ := hs; go_simp⟩) hH ?_
     simp only [Act.put, List.getElem_toArray, List.getElem_cons_succ, List.getElem_cons_zero, List.setIfInBounds_toArray, List.set_cons_zero, List.set_cons_succ]
     refine wpAnyH_take (i := 3) (v := .slice (some ⟨g, 0, none⟩) k k) rfl (by kernel_rfl) (by kernel_rfl) (by kernel_rfl) (fun _ _ _ h => h) (Or.inl ⟨by rfl, fun W' hs => by obtain ⟨s1, s2, s3⟩ := hs; go_simp⟩) hH ?_
     simp only [Act.put, List.getElem_toArray, List.getElem_cons_succ, List.getElem_cons_zero, List.setIfInBounds_toArray, List.set_cons_zero, List.set_cons_succ]
     refine wpAnyH_take (i := 4) (v := .int .i64 i) rfl (by kernel_rfl) (by kernel_rfl) (by kernel_rfl) (fun _ _ _ h => h) (Or.inl ⟨by rfl, fun W' hs => by obtain ⟨s1, s2, s3⟩ := hs; go_simp⟩) hH ?_
     simp only [Act.put, List.getElem_toArray, List.getElem_cons_succ, List.getElem_cons_zero, List.setIfInBounds_toArray, List.set_cons_zero, List.set_cons_succ]
     refine wpAnyH_take (i := 5) (v := .pointer (some ⟨g, i, none⟩)) rfl (by kernel_rfl) (by kernel_rfl) (by kernel_rfl) (fun _ _ _ h => h) (Or.inl ⟨by rfl, fun W' hs => by obtain ⟨s1, s2, s3⟩ := hs; go_simp⟩) hH ?_
     simp only [Act.put, List.getElem_toArray, List.getElem_cons_succ, List.getElem_cons_zero, List.setIfInBounds_toArray, List.set_cons_zero, List.set_cons_succ]
     refine wpAnyH_take (i := 7) (v := .int .u64 bh) rfl (by kernel_rfl) (by kernel_rfl) (by kernel_rfl) (fun _ _ _ h => h) (Or.inl ⟨by rfl, fun W' hs => by obtain ⟨s1, s2, s3⟩ := hs; go_simp⟩) hH ?_
     simp only [Act.put, List.getElem_toArray, List.getElem_cons_succ, List.getElem_cons_zero, List.setIfInBounds_toArray, List.set_cons_zero, List.set_cons_succ]
     refine wpAnyH_ready (rs := [6]) (by kernel_rfl) (by simp) ?_
     refine AllReadyH.cons rfl (fun K hK => ?_) AllReadyH.nil
     go_simp
     refine hK.out _ _ hH (fun hH => ?_)
     clear hK K
     refine wpAnyH_ready (rs := [8]) (by kernel_rfl) (by simp) ?_
     refine AllReadyH.cons rfl (fun K hK => ?_) AllReadyH.nil
     go_simp
     refine (hT1.out _).mono ?_
     rintro e W4 ⟨rfl, hb4⟩
     have hB4 := Below.next (Below.refl W.heap.size W).drew hb4
     have HS4 := hide (HS.out.after hB4)
     have d1 := HS4.out.row.cell i hik
     have d2 := HS4.out.row.free i
     dsimp only
     refine hK.out _ _ ⟨HS4.out.pb, HS4.out.fb, HS4.out.bb⟩ (fun hH => ?_)
     clear hK K
     refine wpAnyH_ready (rs := [9]) (by kernel_rfl) (by simp) ?_
     refine AllReadyH.cons rfl (fun K hK => ?_) AllReadyH.nil
     go_simp
     refine hK.out _ _ hH (fun hH => ?_)
     clear hK K
     refine wpAnyH_ready (rs := [10]) (by kernel_rfl) (by simp) ?_
     refine AllReadyH.cons rfl (fun K hK => ?_) AllReadyH.nil
     go_simp
     have HS5 := hide (HS4.out.put (by omega) (by omega) (by omega) (by omega) i m1)
     refine hK.out _ _ ⟨HS5.out.pb, HS5.out.fb, HS5.out.bb⟩ (fun hH => ?_)
     clear hK K
     refine wpAnyH_done (by kernel_rfl) ?_ _
     have hK5 : KeepsFrom (wr.alloc (Obj.cells #[Value.slice ao k cap] 36)).heap.size W (W4.setCell ⟨g, i, none⟩ (.int .u64 m1)) := by
      refine KeepsFrom.trans ⟨hB4.size, fun j o _ hj _ => (hB4.block j (Array.getElem?_eq_some_iff.1 hj).1).trans hj⟩ ((KeepsOthers.setCell _ _ _).from _)
     have hP5 : KpB w.heap.size wr.heap.size W (W4.setCell ⟨g, i, none⟩ (.int .u64 m1)) := by
      refine ⟨(hB4.mono HS.out.below.size).setCell (p := ⟨g, i, none⟩) (show w.heap.size <= g by omega) _, ?_⟩
      have : (W4.setCell ⟨g, i, none⟩ (.int .u64 m1)).heap[wr.heap.size]? = W4.heap[wr.heap.size]? := setCell_heap_far W4 _ _ (by show g ≠ wr.heap.size; omega)
      rw [this]
      exact hB4.block _ (by have := HS.out.big; omega)
     have e1 := HS5.out.fb
     have e2 := HS5.out.bb
     have e3 := HS5.out.bf
     unfold onlyN
     dsimp only
     clear d1 d2 c1 c2 c3 c4 hb4 HS4 HS hH hmx
     generalize W4.setCell ⟨g, i, none⟩ (.int .u64 m1) = W5 at *
     gi_wp2_with (refine ⟨trivial, ?_⟩; gi_at_call 117; refine (CallsIn.inRound L (callsIn_wide.2 (hT2.out _))).mono ?_; rintro e W6 ⟨rfl, hb6⟩; have HS6 := hide (HS5.out.after hb6); have f1 := HS6.out.bb; have f2 := HS6.out.bf)
     have h6 := HS5.out.below.size
     have h7 := HS5.out.big
     refine HQ.out _ ?_ ?_ (HS6.out.putB (by omega) (by omega) (by omega) (by omega) m2) _
     · exact hK5.trans (KeepsFrom.trans ⟨hb6.size, fun j o _ hj _ => (hb6.block j (Array.getElem?_eq_some_iff.1 hj).1).trans hj⟩ ((KeepsOthers.setCell _ _ _).from _))
     · refine hP5.trans ⟨(hb6.mono h6).setCell (p := ⟨bp + 1, 0, none⟩) (show w.heap.size <= bp + 1 by omega) _, ?_⟩
       rw [setCell_heap_far W6 _ _ (show bp + 1 ≠ wr.heap.size by omega)]
       exact hb6.block _ (by omega)
    case done =>
     rintro D zs W hD rfl hI hK
     have HRow := hI.row
     rw [show k = l.length from HN.out.symm, bfo_end HM.out] at HRow
     have HRw := hide HRow
     rw [HN.out] at HRw
     have c2 := hI.pb
     have hBW := hI.below
     have hD2 : wr.heap.size + 1 <= D := by simpa using hD
     have hDw : w.heap.size <= D := by omega
     clear hI HRow
     go_wp2
     refine ⟨by simp, .inl ⟨_, _, rfl, run_takeDeferred hK, ?_⟩⟩
     exact ⟨_, results_tmp rfl _ _ _, _, rfl, own_mono (ownsRow_putObj HRw.out _ hK rfl) (show w.heap.size <= g by omega), hBW.trans (belowK_b (w := w) (Nat.le_refl _) W D _ _ hDw hK rfl rfl)⟩
    case stop =>
     rintro D c pre W _ _ hx _
     exact hx.elim
end Go.Proofs.YtjhididlcdepdaaGreat
namespace Go.Proofs.YtjhididlcdepdaaGreat
open Go.RowKit Fld
theorem dv_one {p c : Int} {wd : Bool} (hm : Md p wd) (hc : Un p c) : Dv p [1] [c] [inv p c] [] := by
 have hi := inv_un hm hc
 have ht : tr [c] = [c] := (Tm.single hc.1 hc.2).2
 refine Dv.of (Tm.single hi.1 hi.2) (Tm.nil p) (by rw [ht]; simp) ?_
 rw [pl_add_nil, <- pl_two]
 have : (inv p c * c) % p = 1 := by have := mul_inv hm c hc.1 hc.2; rw [ring_comm] at this; exact this
 rw [this]
theorem dv_out {p : Int} {wd : Bool} (hm : Md p wd) {xs : List Int} {i : Nat} (hi : i < xs.length) : Dv p (zl p xs) (zl p [co xs i]) (zl p (xs.eraseIdx i)) [] := by
 have h1 := zl_facts hm (xs.eraseIdx i)
 have h2 := zl_facts hm [co xs i]
 have ht : tr (zl p [co xs i]) = zl p [co xs i] := h2.1.2
 refine Dv.of h1.1 (Tm.nil p) (by rw [ht, h2.2.2]; simp) ?_
 rw [pl_add_nil, h1.2.1, (zl_facts hm xs).2.1, zr_take_out p xs i hi, <- fac_zl hm, co_at hi, qm_comm]
theorem div_yes {f p : Int} {wd : Bool} (h : Fi f p wd) {xs ys A : List Int} (hx : Els p xs) (hy : Els p ys) (l1 : xs.length <= 4096) (l2 : ys.length <= 4096) (hd : Dv p xs ys A []) : divE f xs ys = 0 ∧ ∀ Q R, DvE f xs ys Q R -> Q = A ∧ R = [] := by
 have hne : tr ys ≠ [] := by intro e; have := hd.rg.2.2.1; rw [e] at this; simp at this
 have he : divE f xs ys = 0 := by unfold divE; rw [er_yes h (allIn_of hx) (allIn_of hy) l1 l2, if_pos rfl, if_neg hne]
 refine ⟨he, fun Q R hQ => ?_⟩
 have := hQ.2 he
 rw [pOf_eq h] at this
 exact Dv.only h.md hy this hd
theorem divOne (w : World) (T T2 : TypeId) {f p c : Int} {wd : Bool} (h : Fi f p wd) (hc : Un p c) :
 Calls Tryz.prog 115 #[.int .u8 f, .slice (some ⟨w.heap.size, 0, none⟩) 1 1, .slice (some ⟨w.heap.size + 1, 0, none⟩) 1 1] ((w.alloc (.cells #[.int .u64 1] T)).alloc (.cells #[.int .u64 c] T2)) fun e w' => ∃ b cap vr, e = .returned (.tuple #[.slice (some ⟨b, 0, none⟩) 1 cap, vr, .int .i64 0]) ∧ w'.cell? ⟨b, 0, none⟩ = some (.int .u64 (inv p c)) ∧ Below w.heap.size w w' := by
 have hb := h.md.bounds
 have b1 := alloc_below w (.cells #[.int .u64 1] T)
 have b2 := alloc_below (w.alloc (.cells #[.int .u64 1] T)) (.cells #[.int .u64 c] T2)
 have e2 : (w.alloc (.cells #[.int .u64 1] T)).heap.size = w.heap.size + 1 := by simp
 have r1 := (rw1 w 1 (by decide) T).below b2
 have r2 := rw1 (w.alloc (.cells #[.int .u64 1] T)) c (elWord hc.1 h.top) T2
 rw [e2] at r2
 have hq := div_yes h (xs := [1]) (ys := [c]) (fun x hx => by rw [List.mem_singleton.1 hx]; exact ⟨by decide, by omega⟩) (fun x hx => by rw [List.mem_singleton.1 hx]; exact hc.1) (by simp) (by simp) (dv_one h.md hc)
 have := pDivMod_any f _ _ [1] [c] _ r1 r2
 unfold Parts at this
 rw [hq.1] at this
 refine this.mono fun e w' ⟨vq, vr, A, B, b, he, hS, hA, hB, _, _, hbl⟩ => ?_
 obtain ⟨rfl, rfl⟩ := hq.2 A B hS
 obtain ⟨g, cap, rfl, _, _⟩ := hA.form (by simp)
 refine ⟨g, cap, vr, he, ?_, Below.next (Below.next b1 b2) hbl⟩
 rw [hA.cellAt 0 (by simp)]; rfl
theorem scl_inv {f p : Int} {wd : Bool} (h : Fi f p wd) {l : List Int} (hl : ∀ x ∈ l, Un p x) (hn : l.length <= 4096) : er f [inv p (pd p l)] (mk l.length (ot p l)) = 0 ∧ sclL f (inv p (pd p l)) (mk l.length (ot p l)) = mk l.length (fun i => inv p (co l i)) := by
 have hp := h.pos
 have hw := pd_un h.md l hl
 have hi := inv_un h.md hw
 have he : er f [inv p (pd p l)] (mk l.length (ot p l)) = 0 := er_yes h (allIn_of (fun x hx => by rw [List.mem_singleton.1 hx]; exact hi.1)) (allIn_of (Els.mk _ (fun i _ => ot_el hp l i))) (by simp) (by rw [mk_len]; exact hn)
 refine ⟨he, ?_⟩
 unfold sclL
 rw [if_pos he, pOf_eq h]
 have e : sm p (inv p (pd p l)) [] (mk l.length (ot p l)) = mk l.length (fun i => inv p (co l i)) := by
  apply ext_co
  · rw [sm_len, mk_len, mk_len]; simp
  · intro i hi2
    rw [sm_len, mk_len] at hi2
    have hi3 : i < l.length := by simpa using hi2
    unfold sm
    rw [co_mk, if_pos (by rw [mk_len]; simpa using hi3), co_mk, if_pos hi3, co_mk, if_pos hi3, <- ot_inv h.md hl hi3]
    show (0 + _) % p = _
    rw [Int.zero_add]; rfl
 rw [e]
 refine tr_full ?_
 by_cases h0 : l.length = 0
 · left; rw [h0]; rfl
 · right
   rw [mk_len, co_mk, if_pos (by omega)]
   exact (inv_un h.md (by rw [co_at (show l.length - 1 < l.length by omega)]; exact hl _ (List.getElem_mem _))).2
theorem ipInverses (f p : Int) (wd : Bool) (v : Value) (l : List Int) (w : World) (h : Fi f p wd) (h1 : Rw w v l) (hu : ∀ x ∈ l, Un p x) (hl : l.length <= 512) :
 Calls Tryz.prog 145 #[.int .u8 f, v] w fun e w' => ∃ v', e = .returned v' ∧ w'.ownsRow w.heap.size 64 1 v' l.length (vals (mk l.length (fun i => inv p (co l i)))) ∧ Below w.heap.size w w' := by
 have he : Els p l := fun x hx => (hu x hx).1
 have hp0 := h.pos
 have HT := hide (fun W a b (ha : El p a) (hb : El p b) => ipTimes f p a b wd W h ha hb)
 have HO := hide (fun W (hb : Below w.heap.size w W) => ipOthers f p wd v l W h (h1.below hb) he hl)
 have HD := hide (fun W T T2 => divOne W T T2 h (pd_un h.md l hu))
 have HS := hide (scl_inv h hu (by omega))
 have HC := hide (fun W u (hr : Rw W u (mk l.length (ot p l))) => pScale_any f (inv p (pd p l)) u (mk l.length (ot p l)) W (elWord (inv_un h.md (pd_un h.md l hu)).1 h.top) hr)
 unfold Gives at HC
 rw [HS.out.1, HS.out.2] at HC
 have HR := hide (fun W u base (hO : World.ownsRow W base 64 1 u l.length (vals (mk l.length (ot p l)))) => rw_of_own hO (by rw [mk_len]; omega) (els_words (Els.mk _ (fun i _ => ot_el hp0 l i)) h.top))
 have HA := hide (fun k (hk : k < l.length) => pd_ahead h.md he hk)
 have HP := hide (fun k => pd_el h.md (l.take k))
 have HE := hide he
 have HLn : Hid ((mk l.length (fun i => inv p (co l i))).length = l.length) := mk_len _ _
 obtain ⟨⟨ao, cap, rfl, hlen, hw, hc⟩, _⟩ := h1
 obtain ⟨n, HN⟩ : ∃ n, Hid (l.length = n) := ⟨_, rfl⟩
 have hlen : n <= 512 := by rw [<- HN.out]; exact hl
 have HTk : Hid (l.take n = l) := by show _ = _; rw [<- HN.out]; exact List.take_length
 rw [HLn.out] at HC
 rw [HN.out] at HO HC HR hc HA ⊢
 clear HS h hu he hl hw HLn
 generalize mk n (ot p l) = ots at *
 generalize mk n (fun i => inv p (co l i)) = ivs at *
 go_enter Tryz.func145, Tryz.ntmps145
 go_wp2
 go_loopw [5, 15] (fun va vi wr => ∃ k : Nat, k <= n ∧ vi = .int .i64 k ∧ va = .int .u64 (pd p (l.take k)) ∧ Below w.heap.size w wr) (fun _ vi _ => n - (intOf vi).toNat)
 case atStart => exact ⟨0, Nat.zero_le _, rfl, rfl, Below.refl _ _⟩
 case round =>
  obtain ⟨k, hk, rfl, rfl, hB⟩ := hrel
  by_cases hlt : k < n
  · obtain ⟨b, off, rfl, hbl, hcell⟩ := hc (by intro e; have := HN.out; rw [e] at this; simp at this; omega)
    have hck := (hB.cell (p := ⟨b, off + k, none⟩) hbl).trans (hcell k hlt)
    have hel : El p (l.getD k 0) := HE.out.co hp0 k
    have hT := hide (fun W => HT.out W _ _ (HP.out k) hel)
    have HA2 : Hid (mul p (pd p (l.take k)) (l.getD k 0) = pd p (l.take (k + 1))) := (HA.out k hlt).symm
    rw [HA2.out] at hT
    obtain ⟨ah2, HAh⟩ : ∃ ah2, Hid (pd p (l.take (k + 1)) = ah2) := ⟨_, rfl⟩
    rw [HAh.out] at hT
    clear HA2 hel hcell hc
    generalize l.getD k 0 = a at *
    generalize pd p (l.take k) = ah at *
    go_wp2_with (go_at_call 117; refine (hT.out _).mono ?_; rintro e w4 ⟨rfl, hb4⟩)
    have hB4 := Below.next hB hb4
    go_roundw
    case rel => exact ⟨k + 1, by omega, by go_num, by rw [HAh.out], hB4⟩
    case measure => simp [intOf]; omega
  · obtain rfl : k = n := by omega
    rw [HTk.out]
    clear hc HA HP HE HT HTk
    generalize pd p l = wh at *
    generalize inv p wh = iw at *
    go_wp2_with (go_at_call 115; refine (HD.out _ _ _).mono ?_; rintro e w2 ⟨b2, c2, vr, rfl, hcd, hb2⟩)
    have hB2 := Below.next hB hb2
    have hbd := cell_lt hcd
    have hcd1 : w2.drew.cell? ⟨b2, 0, none⟩ = some (.int .u64 iw) := hcd
    go_region_held3 (fun W' => W'.cell? ⟨b2, 0, none⟩ = some (.int .u64 iw)) (first | with_reducible exact hS4 | with_reducible exact hS3 | with_reducible exact hcd1) (first
     | (go_at_call 116; refine (HC.out _ _ hr3).mono ?_; rintro e w4 ⟨v4, rfl, hO4, hb4⟩; have hS4 := (hb4.cell (p := ⟨b2, 0, none⟩) (by have := hb3.size; exact Nat.lt_of_lt_of_le hbd this)).trans hS3)
     | (go_at_call 134; refine (HO.out _ hB2.drew).mono ?_; rintro e w3 ⟨v3, rfl, hO3, hb3⟩; have hS3 := (hb3.cell (p := ⟨b2, 0, none⟩) hbd).trans hcd1; have hr3 := HR.out _ _ _ hO3; obtain ⟨a3, c3, rfl⟩ := own_form hO3))
    have hB3 := Below.next hB2.drew hb3
    have hB4 := Below.next hB3 hb4
    have HO4 := hide (own_mono hO4 hB3.size)
    clear hO4 hO3 hr3
    go_wp2
    go_ret
    exact ⟨_, rfl, HO4.out, hB4⟩
theorem chk_els {f p : Int} {wd : Bool} (h : Fi f p wd) {xss : List (List Int)} (hx : ∀ xs ∈ xss, Els p xs ∧ xs.length <= 2048) : chk f xss = 0 :=
 chk_ok (fun i hi => by rw [inF_yes h]; exact allIn_of (hx _ (getD_mem hi)).1) (fun i hi => (hx _ (getD_mem hi)).2)
theorem slp_len (p : Int) (xs : List Int) : (slp p xs).length <= xs.length - 1 := by
 unfold slp
 refine Nat.le_trans (tr_len _) ?_
 rw [mk_len]; exact Nat.le_refl _
theorem slp_els {p : Int} (hp : 0 < p) (xs : List Int) : Els p (slp p xs) := (is_slp hp xs).tm.1.1
def dps (p : Int) (xs : List Int) : List Int := xs.map (fun x => vl p x (slp p (zl p xs)))
theorem dps_at {p : Int} {wd : Bool} (hm : Md p wd) {xs : List Int} {i : Nat} (hi : i < xs.length) : co (dps p xs) i = dp p (co xs i) (xs.eraseIdx i) := by
 unfold dps
 rw [co_map _ _ _ hi]; exact slp_place hm hi
theorem dps_un {p : Int} {wd : Bool} (hm : Md p wd) {xs : List Int} (hx : Els p xs) (hn : xs.Nodup) : ∀ x ∈ dps p xs, Un p x := fun x hx2 => by
 obtain ⟨i, hi, rfl⟩ := List.mem_iff_getElem.1 hx2
 have hi2 : i < xs.length := by simpa [dps] using hi
 rw [<- co_at hi, dps_at hm hi2]
 exact dp_un hm hx hn hi2
theorem dps_inv {p : Int} {wd : Bool} (hm : Md p wd) (xs : List Int) : mk (dps p xs).length (fun i => inv p (co (dps p xs) i)) = wts p xs := by
 have e : (dps p xs).length = xs.length := by simp [dps]
 apply ext_co
 · rw [mk_len, e, wts_len]
 · intro i hi
   rw [mk_len, e] at hi
   rw [co_mk, if_pos (by rw [e]; exact hi), wts_at hi, dps_at hm hi]; rfl
theorem ipWeigh (f p : Int) (wd : Bool) (v : Value) (xs : List Int) (w : World) (h : Fi f p wd) (h1 : Rw w v xs) (he : Els p xs) (hn : xs.Nodup) (hl : xs.length <= 512) :
 Calls Tryz.prog 114 #[.int .u8 f, v] w fun e w' => ∃ v', e = .returned v' ∧ w'.ownsRow w.heap.size 64 1 v' xs.length (vals (wts p xs)) ∧ Below w.heap.size w w' := by
 have hp := h.pos
 have hz := zl_facts h.md xs
 have k1 : chk f [xs] = 0 := chk_els h (fun l hl' => by rw [List.mem_singleton.1 hl']; exact ⟨he, by omega⟩)
 have k2 : chk f [zl p xs] = 0 := chk_els h (fun l hl' => by rw [List.mem_singleton.1 hl']; exact ⟨hz.1.1, by rw [hz.2.2]; omega⟩)
 have hsl := slp_len p (zl p xs)
 have k3 : chk f [slp p (zl p xs), xs] = 0 := chk_els h (fun l hl' => by
  have : l = slp p (zl p xs) ∨ l = xs := by simpa using hl'
  rcases this with rfl | rfl
  · exact ⟨slp_els hp _, by rw [hz.2.2] at hsl; omega⟩
  · exact ⟨he, by omega⟩)
 have H1 := hide (tZero_any f v xs w h1)
 have H2 := hide (fun W u (hr : Rw W u (zl p xs)) => tSlope_any f u (zl p xs) W hr)
 have H3 := hide (fun W u (hb : Below w.heap.size w W) (hr : Rw W u (slp p (zl p xs))) => tValues_any f u v (slp p (zl p xs)) xs W hr (h1.below hb))
 unfold Gives at H1 H2 H3
 have e1 : zeroL f xs = zl p xs := by unfold zeroL; rw [if_pos k1, pOf_eq h]
 have e2 : slpL f (zl p xs) = slp p (zl p xs) := by unfold slpL; rw [if_pos k2, pOf_eq h]
 have e3 : valsL f (slp p (zl p xs)) xs = dps p xs := by unfold valsL; rw [if_pos k3, pOf_eq h]; rfl
 rw [k1, e1] at H1
 rw [k2, e2] at H2
 rw [k3, e3] at H3
 have hdl : (dps p xs).length = xs.length := by simp [dps]
 have H4 := hide (fun W u (hr : Rw W u (dps p xs)) => ipInverses f p wd u (dps p xs) W h hr (dps_un h.md he hn) (by rw [hdl]; omega))
 rw [dps_inv h.md xs, hdl] at H4
 have R1 := hide (fun W u base (hO : World.ownsRow W base 64 1 u (zl p xs).length (vals (zl p xs))) => rw_of_own hO (by rw [hz.2.2]; omega) (els_words hz.1.1 h.top))
 have R2 := hide (fun W u base (hO : World.ownsRow W base 64 1 u (slp p (zl p xs)).length (vals (slp p (zl p xs)))) => rw_of_own hO (by rw [hz.2.2] at hsl; omega) (els_words (slp_els hp _) h.top))
 have R3 := hide (fun W u base (hO : World.ownsRow W base 64 1 u (dps p xs).length (vals (dps p xs))) => rw_of_own hO (by rw [hdl]; omega) (els_words (fun x hx => (dps_un h.md he hn x hx).1) h.top))
 obtain ⟨a1, c1, rfl, _⟩ := h1.spell
 clear h1 h he hn hl hz k1 k2 k3 hsl e1 e2 e3 hdl
 generalize slp p (zl p xs) = sl at *
 generalize zl p xs = zz at *
 generalize dps p xs = dd at *
 generalize wts p xs = ww at *
 generalize xs.length = n at *
 go_enter Tryz.func114, Tryz.ntmps114
 go_wp2_with (first
  | (go_at_call 113; refine H1.out.mono ?_; rintro e w1 ⟨v1, rfl, hO1, hb1⟩; have hr1 := R1.out _ _ _ hO1; obtain ⟨b1, k1, rfl⟩ := own_form hO1; clear hO1)
  | (go_at_call 143; refine (H2.out _ _ hr1).mono ?_; rintro e w2 ⟨v2, rfl, hO2, hb2⟩; have hr2 := R2.out _ _ _ hO2; have hB2 := Below.next hb1 hb2; obtain ⟨b2, k2, rfl⟩ := own_form hO2; clear hO2)
  | (go_at_call 144; refine (H3.out _ _ hB2 hr2).mono ?_; rintro e w3 ⟨v3, rfl, hO3, hb3⟩; have hr3 := R3.out _ _ _ hO3; have hB3 := Below.next hB2 hb3; obtain ⟨b3, k3, rfl⟩ := own_form hO3; clear hO3)
  | (go_at_call 145; refine (H4.out _ _ hr3).mono ?_; rintro e w4 ⟨v4, rfl, hO4, hb4⟩))
 go_ret
 exact ⟨_, rfl, own_mono hO4 hB3.size, Below.next hB3 hb4⟩
structure Bas (W : World) (f p : Int) (xs : List Int) (bf bx bw : Nat) : Prop where
 fb : W.cell? ⟨bf, 0, none⟩ = some (.int .u8 f)
 xb : ∃ v, W.cell? ⟨bx, 0, none⟩ = some v ∧ Rw W v xs
 wb : ∃ v, W.cell? ⟨bw, 0, none⟩ = some v ∧ Rw W v (wts p xs)
theorem ipBasis (f p : Int) (wd : Bool) (v : Value) (xs : List Int) (w : World) (h : Fi f p wd) (h1 : Rw w v xs) (he : Els p xs) (hn : xs.Nodup) (hl : xs.length <= 512) :
 Calls Tryz.prog 106 #[.int .u8 f, v] w fun e w' => ∃ bf bx bw, e = .returned (.func (.func 133) #[] #[.pointer (some ⟨bf, 0, none⟩), .pointer (some ⟨bx, 0, none⟩), .pointer (some ⟨bw, 0, none⟩)]) ∧ Bas w' f p xs bf bx bw ∧ Below w.heap.size w w' := by
 have HW := hide (fun W (hb : Below w.heap.size w W) => ipWeigh f p wd v xs W h (h1.below hb) he hn hl)
 have R1 := hide (fun W u base (hO : World.ownsRow W base 64 1 u xs.length (vals (wts p xs))) => rw_of_own hO (by rw [wts_len]; omega) (els_words (wts_els h.pos xs) h.top))
 have H1 := hide h1
 obtain ⟨a1, c1, rfl, _⟩ := h1.spell
 clear h1 h he hn hl
 have hal : Below w.heap.size w ((w.alloc (.cells #[.int .u8 f] 22)).alloc (.cells #[.slice a1 xs.length c1] 36)) := Below.next (alloc_below w _) (alloc_below _ _)
 have q1 : ((w.alloc (.cells #[.int .u8 f] 22)).alloc (.cells #[.slice a1 xs.length c1] 36)).cell? ⟨w.heap.size, 0, none⟩ = some (.int .u8 f) := by
  rw [(alloc_below (w.alloc (.cells #[.int .u8 f] 22)) _).cell (p := ⟨w.heap.size, 0, none⟩) (by simp)]; simp [go_sem]
 have q2 : ((w.alloc (.cells #[.int .u8 f] 22)).alloc (.cells #[.slice a1 xs.length c1] 36)).cell? ⟨w.heap.size + 1, 0, none⟩ = some (.slice a1 xs.length c1) := by
  have e : (w.alloc (.cells #[.int .u8 f] 22)).heap.size = w.heap.size + 1 := by simp
  rw [<- e]; simp [go_sem]
 have HQ : Hid (∀ w2 v2, Below ((w.alloc (.cells #[.int .u8 f] 22)).alloc (.cells #[.slice a1 xs.length c1] 36)).heap.size ((w.alloc (.cells #[.int .u8 f] 22)).alloc (.cells #[.slice a1 xs.length c1] 36)) w2 -> Rw w2 v2 (wts p xs) -> Bas (w2.alloc (.cells #[v2] 36)) f p xs w.heap.size (w.heap.size + 1) w2.heap.size) := fun w2 v2 hb2 hr2 => by
  have a2 := alloc_below w2 (.cells #[v2] 36)
  have d1 := (hb2.cell (cell_lt q1)).trans q1
  have d2 := (hb2.cell (cell_lt q2)).trans q2
  exact ⟨(a2.cell (cell_lt d1)).trans d1, ⟨_, (a2.cell (cell_lt d2)).trans d2, (H1.out.below (Below.next hal hb2)).below a2⟩, ⟨v2, by simp [go_sem], hr2.below a2⟩⟩
 have HAl := hide hal
 clear hal
 go_enter Tryz.func106, Tryz.ntmps106
 go_wp2_with (go_at_call 114; refine (HW.out _ HAl.out).mono ?_; rintro e w2 ⟨v2, rfl, hO2, hb2⟩; have hr2 := R1.out _ _ _ hO2; obtain ⟨b2, k2, rfl⟩ := own_form hO2; clear hO2)
 have hB2 := Below.next HAl.out hb2
 have HB := hide (HQ.out _ _ hb2 hr2)
 go_ret
 exact ⟨_, _, _, rfl, HB.out, hB2.alloc hB2.size _⟩
def fl7 (p : Int) (xs : List Int) (x : Int) (n k : Nat) : List Int := mk n (fun j => if j < k then bs p xs x j else dp p x (xs.eraseIdx j))
theorem fl7_len (p : Int) (xs : List Int) (x : Int) (n k : Nat) : (fl7 p xs x n k).length = n := mk_len _ _
theorem fl7_zero (p : Int) (xs : List Int) (x : Int) (n : Nat) : fl7 p xs x n 0 = mk n (fun i => dp p x (xs.eraseIdx i)) := by
 unfold fl7; congr 1
theorem fl7_end (p : Int) (xs : List Int) (x : Int) (n : Nat) : fl7 p xs x n n = mk n (bs p xs x) := by
 apply ext_co
 · rw [fl7_len, mk_len]
 · intro i hi
   rw [fl7_len] at hi
   unfold fl7
   rw [co_mk, co_mk, if_pos hi, if_pos hi, if_pos hi]
theorem fl7_at (p : Int) (xs : List Int) (x : Int) {n k : Nat} (hk : k < n) : co (fl7 p xs x n k) k = dp p x (xs.eraseIdx k) := by
 unfold fl7
 rw [co_mk, if_pos hk, if_neg (by omega)]
theorem fl7_step (p : Int) (xs : List Int) (x : Int) {n k : Nat} (hk : k < n) : (fl7 p xs x n k).set k (bs p xs x k) = fl7 p xs x n (k + 1) := by
 apply ext_co
 · rw [List.length_set, fl7_len, fl7_len]
 · intro i hi
   rw [List.length_set, fl7_len] at hi
   rw [co_set _ _ _ _ (by rw [fl7_len]; exact hk)]
   unfold fl7
   rw [co_mk, co_mk, if_pos hi, if_pos hi]
   by_cases h : i = k
   · subst h; rw [if_pos rfl, if_pos (by omega)]
   · rw [if_neg h]
     by_cases h2 : i < k
     · rw [if_pos h2, if_pos (by omega)]
     · rw [if_neg h2, if_neg (by omega)]
theorem mk_diff {p x : Int} {wd : Bool} (hm : Md p wd) (xs : List Int) : mk (xs.map (fun z => sub p x z)).length (ot p (xs.map (fun z => sub p x z))) = mk xs.length (fun i => dp p x (xs.eraseIdx i)) := by
 apply ext_co
 · rw [mk_len, mk_len]; simp
 · intro i hi
   rw [mk_len] at hi
   have hi2 : i < xs.length := by simpa using hi
   rw [co_mk, if_pos hi, co_mk, if_pos hi2, ot_diff hm]
theorem ipRow (f p x : Int) (wd : Bool) (xs : List Int) (bf bx bw : Nat) (w : World) (h : Fi f p wd) (hx : El p x) (he : Els p xs) (hl : xs.length <= 512) (hB0 : Bas w f p xs bf bx bw) :
 Calls Tryz.prog 133 #[.int .u64 x, .pointer (some ⟨bf, 0, none⟩), .pointer (some ⟨bx, 0, none⟩), .pointer (some ⟨bw, 0, none⟩)] w fun e w' => ∃ v', e = .returned v' ∧ w'.ownsRow w.heap.size 64 1 v' xs.length (vals (bsl p xs x)) ∧ Below w.heap.size w w' := by
 have hp0 := h.pos
 obtain ⟨hfb, ⟨vx, hxb, hrx⟩, ⟨vw, hwb, hrw⟩⟩ := hB0
 have HT := hide (fun W a b (ha : El p a) (hb : El p b) => ipTimes f p a b wd W h ha hb)
 have HD := hide (fun W (hb : Below w.heap.size w W) => ipDiffs f p x wd vx xs W h hx (hrx.below hb) he hl)
 have hml : (xs.map (fun z => sub p x z)).length = xs.length := by simp
 have hme : Els p (xs.map (fun z => sub p x z)) := fun y hy => by obtain ⟨z, _, rfl⟩ := List.mem_map.1 hy; exact sub_el hp0
 have HO := hide (fun W u (hr : Rw W u (xs.map (fun z => sub p x z))) => ipOthers f p wd u (xs.map (fun z => sub p x z)) W h hr hme (by rw [hml]; exact hl))
 rw [mk_diff h.md xs, hml] at HO
 have HR := hide (fun W u base (hO : World.ownsRow W base 64 1 u xs.length (vals (xs.map (fun z => sub p x z)))) => rw_of_own hO (by rw [hml]; omega) (els_words hme h.top))
 have HSt : Hid (∀ k, k < xs.length -> mul p (dp p x (xs.eraseIdx k)) (wt p xs k) = bs p xs x k) := fun k _ => by unfold bs; rw [ring_comm]
 have HWl := hide (wts_len p xs)
 have HWe := hide (wts_els hp0 xs)
 have HDe := hide (fun k => dp_el hp0 x (xs.eraseIdx k))
 have HWa := hide (fun k (hk : k < xs.length) => wts_at (p := p) hk)
 obtain ⟨ax, cx, rfl, _⟩ := hrx.spell
 obtain ⟨aw, cw, rfl, _⟩ := hrw.spell
 obtain ⟨⟨aw', cw', hvw, _, _, hcw⟩, _⟩ := hrw
 cases hvw
 obtain ⟨n, HN⟩ : ∃ n, Hid (xs.length = n) := ⟨_, rfl⟩
 rw [HWl.out] at hcw hwb
 unfold bsl
 rw [HN.out] at HD HO HR HSt HWa hcw hwb hxb hl ⊢
 have HCw : Hid (∀ W, Below w.heap.size w W -> ∀ j, j < n -> ∃ b off, aw = some ⟨b, off, none⟩ ∧ W.cell? ⟨b, off + j, none⟩ = some (.int .u64 ((wts p xs).getD j 0))) := fun W hb j hj => by
  obtain ⟨b, off, e, h2, h3⟩ := hcw (by intro e; have := HWl.out; rw [e, HN.out] at this; simp at this; omega)
  exact ⟨b, off, e, (hb.cell (p := ⟨b, off + j, none⟩) h2).trans (h3 j hj)⟩
 have lf := cell_lt hfb
 have lx := cell_lt hxb
 have lw := cell_lt hwb
 have HK : Hid (∀ W, Below w.heap.size w W -> W.cell? ⟨bf, 0, none⟩ = some (.int .u8 f) ∧ W.cell? ⟨bx, 0, none⟩ = some (.slice ax n cx) ∧ W.cell? ⟨bw, 0, none⟩ = some (.slice aw n cw)) := fun W hb => ⟨(hb.cell lf).trans hfb, (hb.cell lx).trans hxb, (hb.cell lw).trans hwb⟩
 clear hcw h hx he hrx hme hml hfb hxb hwb
 generalize xs.map (fun z => sub p x z) = dl at *
 have hd0 := HK.out w.drew (Below.refl _ w).drew
 have hk0 := HK.out w (Below.refl _ w)
 obtain ⟨hf0, hx0, hw0⟩ := hk0
 go_enter Tryz.func133, Tryz.ntmps133
 go_wp2_with fail
 go_region_held3 (fun W' => W'.cell? ⟨bf, 0, none⟩ = some (.int .u8 f) ∧ W'.cell? ⟨bx, 0, none⟩ = some (.slice ax n cx) ∧ W'.cell? ⟨bw, 0, none⟩ = some (.slice aw n cw)) (first | with_reducible exact hS2 | with_reducible exact hS1 | with_reducible exact hd0) (first
  | (go_at_call 134; refine (HO.out _ _ hr1).mono ?_; rintro e w2 ⟨v2, rfl, hO2, hb2⟩; have hB2 := Below.next hB1 hb2; have hS2 := HK.out _ hB2; obtain ⟨a2, k2, rfl⟩ := own_form hO2)
  | (go_at_call 135; refine (HD.out _ (Below.refl _ w).drew).mono ?_; rintro e w1 ⟨v1, rfl, hO1, hb1⟩; have hB1 := Below.next (Below.refl _ w).drew hb1; have hS1 := HK.out _ hB1; have hr1 := HR.out _ _ _ hO1; obtain ⟨a1, k1, rfl⟩ := own_form hO1; clear hO1))
 have HO2 := hide (own_mono hO2 hB1.size)
 clear hO2 hS1 hr1 hd0 hf0 hx0 hw0 HD HO HR
 obtain ⟨hf0, hx0, hw0⟩ := hS2
 rw [<- fl7_zero] at HO2
 go_wp2
 go_loopw [17] (fun vi wr => ∃ k : Nat, k <= n ∧ vi = .int .i64 k ∧ Hid (wr.ownsRow w.heap.size 64 1 (.slice a2 n k2) n (vals (fl7 p xs x n k))) ∧ Below w.heap.size w wr) (fun vi _ => n - (intOf vi).toNat)
 case atStart => exact ⟨0, Nat.zero_le _, rfl, HO2, hB2⟩
 case round =>
  clear HO2 hB2 hf0 hx0 hw0
  obtain ⟨k, hk, rfl, HO, hB⟩ := hrel
  by_cases hlt : k < n
  · obtain ⟨bb, ob, rfl, hcw⟩ := HCw.out wr hB k hlt
    obtain ⟨g, cg, hvg, hgl, _⟩ := HO.out.form (by omega)
    injection hvg with hvg _ hcg
    subst hvg hcg
    have hfl := fl7_len p xs x n k
    have hgc : wr.cell? ⟨g, k, none⟩ = some (.int .u64 (dp p x (xs.eraseIdx k))) := by
     rw [<- fl7_at p xs x hlt]; exact own_cell HO.out hfl hlt
    have hgd : wr.drew.cell? ⟨g, k, none⟩ = some (.int .u64 (dp p x (xs.eraseIdx k))) := hgc
    have HG2 : Hid (∀ W, Below wr.heap.size wr W -> W.cell? ⟨g, k, none⟩ = some (.int .u64 (dp p x (xs.eraseIdx k))) ∧ W.frozen? ⟨g, k, none⟩ = false) := fun W hb => by
     have := own_below HO.out hb
     exact ⟨by rw [<- fl7_at p xs x hlt]; exact own_cell this hfl hlt, this.frozenAt k⟩
    have hew : El p ((wts p xs).getD k 0) := HWe.out.co hp0 k
    have hT := hide (fun W => HT.out W _ _ (HDe.out k) hew)
    have HM : Hid (mul p (dp p x (xs.eraseIdx k)) ((wts p xs).getD k 0) = bs p xs x k) := by
     show _ = _
     rw [<- HSt.out k hlt, <- HWa.out k hlt]; rfl
    rw [HM.out] at hT
    have HStp := hide (fl7_step p xs x hlt)
    have hd1 := HK.out wr.drew hB.drew
    have hgn : w.heap.size <= g := hgl
    generalize dp p x (xs.eraseIdx k) = y at *
    generalize (wts p xs).getD k 0 = wk at *
    generalize bs p xs x k = bk at *
    clear HM hfl HSt HWa HWe HDe HCw
    go_wp2_with fail
    obtain ⟨hfd, _, _⟩ := hd1
    go_region_with (go_at_call 117; refine (hT.out _).mono ?_; rintro e w4 ⟨rfl, hb4⟩; have hb4' := Below.next (Below.refl wr.heap.size wr).drew hb4; have hB4 := Below.next hB hb4'; have d1 := (HG2.out _ hb4').1; have d2 := (HG2.out _ hb4').2; have hB5 := hB4.setCell (p := ⟨g, k, none⟩) hgn (.int .u64 bk))
    all_goals
     have R := hide (own_here (k := k) (z := bk) (own_below HO.out hb4'))
     rw [HStp.out] at R
     go_wp2
     go_roundw
     case rel => exact ⟨k + 1, by omega, by go_num, R, hB5⟩
     case measure => simp [intOf]; omega
  · obtain rfl : k = n := by omega
    rw [fl7_end] at HO
    go_wp2
    go_ret
    exact ⟨_, rfl, HO.out, hB⟩
def wtsL (f : Int) (xs : List Int) : List Int := if bad f xs [] xs.length = 0 then wts (pOf f) xs else []
def thrL (f : Int) (xs ys : List Int) : List Int := if bad f xs ys ys.length = 0 then tp (pOf f) xs ys xs.length else []
def vluE (f : Int) (xs ys : List Int) (x : Int) : Int := if inF f [x] = true then bad f xs ys ys.length else 2
def vluV (f : Int) (xs ys : List Int) (x : Int) : Int := if vluE f xs ys x = 0 then ds (pOf f) (bs (pOf f) xs x) (co ys) xs.length else 0
theorem iWeights (f : Int) (v : Value) (xs : List Int) (w : World) (h1 : Rw w v xs) : Gives 122 #[.int .u8 f, v] w (wtsL f xs) (bad f xs [] xs.length) := by
 have HP := hide (ipPlaces f v _ xs [] w h1 (.inl ⟨rfl, rfl⟩))
 rw [chl_one] at HP
 by_cases hz : bad f xs [] xs.length = 0
 · obtain ⟨p, wd, h, i1, _, _, hl, hn⟩ := bad_zero hz
   have HL : Hid (wtsL f xs = wts p xs) := by show _ = _; unfold wtsL; rw [if_pos hz, pOf_eq h]
   have HW := hide (fun W (hb : Below w.heap.size w W) => ipWeigh f p wd v xs W h (h1.below hb) (els_of i1 h1.words) hn hl)
   have HN := hide (wts_len p xs)
   rw [HL.out, hz]
   rw [hz] at HP
   obtain ⟨a1, c1, rfl, _⟩ := h1.spell
   clear h1 h i1 hl hn hz HL
   show Calls _ _ _ _ _
   rw [HN.out]
   generalize wts p xs = ww at *
   generalize xs.length = n at *
   go_enter Tryz.func122, Tryz.ntmps122
   go_wp2_with (first
    | (go_at_call 132; refine HP.out.mono ?_; rintro e w1 ⟨rfl, hb1⟩)
    | (go_at_call 114; refine (HW.out _ hb1).mono ?_; rintro e w2 ⟨v2, rfl, hO2, hb2⟩))
   go_ret2
   exact ⟨_, rfl, own_mono hO2 hb1.size, Below.next hb1 hb2⟩
 · have ht : (bad f xs [] xs.length != 0) = true := bne_iff_ne.2 hz
   have HL : Hid (wtsL f xs = []) := by show _ = _; unfold wtsL; rw [if_neg hz]
   rw [HL.out]
   obtain ⟨a1, c1, rfl, _⟩ := h1.spell
   clear h1 hz HL
   generalize bad f xs [] xs.length = e0 at *
   generalize xs.length = n at *
   apply Gives.none
   go_enter Tryz.func122, Tryz.ntmps122
   go_wp2_with (go_at_call 132; refine HP.out.mono ?_; rintro e w1 ⟨rfl, hb1⟩)
   go_ret2
   exact ⟨rfl, hb1⟩
theorem val_add {f p s y b : Int} {wd : Bool} (h : Fi f p wd) (hs : El p s) (hy : El p y) (hb : El p b) : er f [s, y] [b] = 0 ∧ valE f b [s, y] = add p s (mul p b y) := by
 have hp := h.pos
 have he : er f [s, y] [b] = 0 := er_yes h (allIn_of (fun x hx => by
  have : x = s ∨ x = y := by simpa using hx
  rcases this with rfl | rfl
  · exact hs
  · exact hy)) (allIn_of (fun x hx => by rw [List.mem_singleton.1 hx]; exact hb)) (by simp) (by simp)
 refine ⟨he, ?_⟩
 unfold valE
 rw [if_pos he, pOf_eq h]
 show (s + b * (y + b * 0)) % p = (s + b * y % p) % p
 rw [Int.mul_zero, Int.add_zero, Int.add_emod s (b * y % p), Int.emod_emod_of_dvd _ (Int.dvd_refl p), <- Int.add_emod]
theorem eval_add (w : World) (T : TypeId) {f p s y b : Int} {wd : Bool} (h : Fi f p wd) (hs : El p s) (hy : El p y) (hb : El p b) :
 Calls Tryz.prog 76 #[.int .u8 f, .slice (some ⟨w.heap.size, 0, none⟩) 2 2, .int .u64 b] (w.alloc (.cells #[.int .u64 s, .int .u64 y] T)) fun e w' => e = .returned (.tuple #[.int .u64 (add p s (mul p b y)), .int .i64 0]) ∧ Below w.heap.size w w' := by
 have := pEval_any f b _ [s, y] _ (elWord hb h.top) (rwT w s y (elWord hs h.top) (elWord hy h.top) T)
 rw [(val_add h hs hy hb).1, (val_add h hs hy hb).2] at this
 exact this.mono fun e w' ⟨he, hb⟩ => ⟨he, below_one hb⟩
theorem iValue (f x : Int) (v1 v2 : Value) (xs ys : List Int) (w : World) (hx : 0 <= x ∧ x <= 18446744073709551615) (h1 : Rw w v1 xs) (h2 : Rw w v2 ys) :
 Calls Tryz.prog 77 #[.int .u8 f, v1, v2, .int .u64 x] w fun e w' => e = .returned (.tuple #[.int .u64 (vluV f xs ys x), .int .i64 (vluE f xs ys x)]) ∧ Below w.heap.size w w' := by
 have a2 := hide (fun T T2 => Below.next (alloc_below w (.cells #[.int .u64 x] T)) (alloc_below (w.alloc (.cells #[.int .u64 x] T)) (.cells #[.slice (some ⟨w.heap.size, 0, none⟩) 1 1] T2)))
 have HEl : Hid (∀ T T2, Calls Tryz.prog 104 #[.int .u8 f, .slice (some ⟨w.heap.size + 1, 0, none⟩) 1 1] ((w.alloc (.cells #[.int .u64 x] T)).alloc (.cells #[.slice (some ⟨w.heap.size, 0, none⟩) 1 1] T2)) fun e w' => e = .returned (.bool (inF f [x])) ∧ Below w.heap.size w w') := fun T T2 => by
  have e : (w.alloc (.cells #[.int .u64 x] T)).heap.size = w.heap.size + 1 := by simp
  have := ipElements f _ [[x]] _ (rws_one (w.alloc (.cells #[.int .u64 x] T)) _ [x] (rw1 w x hx T) T2)
  rw [e] at this
  refine this.mono fun e' w' ⟨he, hb⟩ => ⟨?_, Below.next (a2.out T T2) hb⟩
  rw [he]; simp
 have HV := hide (fun W (hb : Below w.heap.size w W) => ipValues f v1 v2 xs ys W (h1.below hb) (h2.below hb))
 cases hi : inF f [x] with
 | false =>
  have HE : Hid (vluE f xs ys x = 2) := by show _ = _; unfold vluE; rw [hi]; rfl
  have HW : Hid (vluV f xs ys x = 0) := by show _ = _; unfold vluV; rw [HE.out]; rfl
  rw [HE.out, HW.out]
  rw [hi] at HEl
  obtain ⟨a1, c1, rfl, _⟩ := h1.spell
  obtain ⟨a3, c3, rfl, _⟩ := h2.spell
  clear h1 h2 hi HE HW HV
  generalize xs.length = n1 at *
  generalize ys.length = n2 at *
  go_enter Tryz.func77, Tryz.ntmps77
  go_wp2_with (go_at_call 104; refine (HEl.out _ _).mono ?_; rintro e w1 ⟨rfl, hb1⟩)
  go_ret2
  exact ⟨rfl, hb1⟩
 | true =>
  have HE : Hid (vluE f xs ys x = bad f xs ys ys.length) := by show _ = _; unfold vluE; rw [hi]; rfl
  rw [hi] at HEl
  by_cases hz : bad f xs ys ys.length = 0
  · obtain ⟨p, wd, h, i1, i2, hlen, hl, hn⟩ := bad_zero hz
    have hxe : El p x := by rw [inF_yes h] at hi; exact els_of hi (by simp [hx]) x (List.mem_singleton.2 rfl)
    have hex := els_of i1 h1.words
    have hey := els_of i2 h2.words
    have hp0 := h.pos
    have HW : Hid (vluV f xs ys x = ds p (bs p xs x) (co ys) xs.length) := by show _ = _; unfold vluV; rw [HE.out, if_pos hz, pOf_eq h]
    have HB := hide (fun W (hb : Below w.heap.size w W) => ipBasis f p wd v1 xs W h (h1.below hb) hex hn hl)
    have HR := hide (fun W bf bx bw (hB : Bas W f p xs bf bx bw) => ipRow f p x wd xs bf bx bw W h hxe hex hl hB)
    have HA := hide (fun W T s y b (hs : El p s) (hy : El p y) (hb : El p b) => eval_add W T h hs hy hb)
    have HSt : Hid (∀ k, ds p (bs p xs x) (co ys) (k + 1) = add p (ds p (bs p xs x) (co ys) k) (mul p (bs p xs x k) (co ys k))) := fun k => rfl
    have HDe := hide (fun k => ds_el hp0 (bs p xs x) (co ys) k)
    have HBe := hide (fun k => bs_el hp0 xs x k)
    have HYe := hide (fun k => hey.co hp0 k)
    have HBa := hide (fun k (hk : k < xs.length) => bsl_at (p := p) (x := x) hk)
    have HBl := hide (bsl_len p xs x)
    rw [HE.out, HW.out, hz]
    rw [hz] at HV
    obtain ⟨a1, c1, rfl, _⟩ := h1.spell
    obtain ⟨⟨ao, cap, rfl, _, _, hc⟩, _⟩ := h2
    obtain ⟨n, HN⟩ : ∃ n, Hid (xs.length = n) := ⟨_, rfl⟩
    have HNy : Hid (ys.length = n) := by rw [<- HN.out]; exact hlen.symm
    rw [HNy.out] at HV hc ⊢
    rw [HN.out] at HV HB HR HBa hl ⊢
    have HC : Hid (∀ W, Below w.heap.size w W -> ∀ j, j < n -> ∃ b off, ao = some ⟨b, off, none⟩ ∧ W.cell? ⟨b, off + j, none⟩ = some (.int .u64 (ys.getD j 0))) := fun W hb j hj => by
     obtain ⟨b, off, e, h3, h4⟩ := hc (by intro e; have := HNy.out; rw [e] at this; simp at this; omega)
     exact ⟨b, off, e, (hb.cell (p := ⟨b, off + j, none⟩) h3).trans (h4 j hj)⟩
    clear h1 h i1 i2 hlen hn hz hi hxe hex hey HW HE hc
    go_enter Tryz.func77, Tryz.ntmps77
    go_wp2_with (first
     | (go_at_call 104; refine (HEl.out _ _).mono ?_; rintro e w1 ⟨rfl, hb1⟩)
     | (go_at_call 105; refine (HV.out _ hb1).mono ?_; rintro e w2 ⟨rfl, hb2⟩; have hB2 := Below.next hb1 hb2)
     | (go_at_call 106; refine (HB.out _ hB2).mono ?_; rintro e w3 ⟨bf, bx, bw, rfl, hBa, hb3⟩; have hB3 := Below.next hB2 hb3)
     | (go_at_call 133; refine (HR.out _ _ _ _ hBa).mono ?_; rintro e w4 ⟨v4, rfl, hO4, hb4⟩; have hB4 := Below.next hB3 hb4; obtain ⟨a4, k4, rfl⟩ := own_form hO4; have HO4 := hide hO4; clear hO4))
    clear HEl HV HB HR a2
    go_loopw [11, 33] (fun vs vi wr => ∃ k : Nat, k <= n ∧ vi = .int .i64 k ∧ vs = .int .u64 (ds p (bs p xs x) (co ys) k) ∧ Below w4.heap.size w4 wr) (fun _ vi _ => n - (intOf vi).toNat)
    case atStart => exact ⟨0, Nat.zero_le _, rfl, rfl, Below.refl _ _⟩
    case round =>
     obtain ⟨k, hk, rfl, rfl, hb⟩ := hrel
     have hB := Below.next hB4 hb
     by_cases hlt : k < n
     · obtain ⟨b, off, rfl, hcy⟩ := HC.out wr hB k hlt
       obtain ⟨g, cg, hvg, _, _⟩ := HO4.out.form (by omega)
       injection hvg with hvg _ hcg
       subst hvg hcg
       have hcb : wr.cell? ⟨g, k, none⟩ = some (.int .u64 (bs p xs x k)) := by
        rw [<- HBa.out k hlt]
        exact own_cell (own_below HO4.out hb) (by rw [HBl.out, HN.out]) hlt
       have hye : El p (ys.getD k 0) := HYe.out k
       have hA := hide (fun T => HA.out wr T _ _ _ (HDe.out k) hye (HBe.out k))
       have HS2 : Hid (add p (ds p (bs p xs x) (co ys) k) (mul p (bs p xs x k) (ys.getD k 0)) = ds p (bs p xs x) (co ys) (k + 1)) := rfl
       rw [HS2.out] at hA
       obtain ⟨d2, HD2⟩ : ∃ d2, Hid (ds p (bs p xs x) (co ys) (k + 1) = d2) := ⟨_, rfl⟩
       rw [HD2.out] at hA
       clear HS2 hye HSt HDe HBe HYe HBa HC
       generalize ds p (bs p xs x) (co ys) k = d1 at *
       generalize bs p xs x k = bk at *
       generalize ys.getD k 0 = yk at *
       go_wp2_with (go_at_call 76; refine (hA.out _).mono ?_; rintro e w5 ⟨rfl, hb5⟩)
       have hB5 := Below.next hb hb5
       go_roundw
       case rel => exact ⟨k + 1, by omega, by go_num, by rw [HD2.out], hB5⟩
       case measure => simp [intOf]; omega
     · obtain rfl : k = n := by omega
       clear HSt HDe HBe HYe HBa HC
       go_wp2
       go_ret2
       exact ⟨rfl, hB⟩
  · have ht : (bad f xs ys ys.length != 0) = true := bne_iff_ne.2 hz
    have HW : Hid (vluV f xs ys x = 0) := by show _ = _; unfold vluV; rw [HE.out, if_neg hz]
    rw [HW.out, HE.out]
    obtain ⟨a1, c1, rfl, _⟩ := h1.spell
    obtain ⟨a3, c3, rfl, _⟩ := h2.spell
    clear h1 h2 hi HE HW hz
    generalize bad f xs ys ys.length = e0 at *
    generalize xs.length = n1 at *
    generalize ys.length = n2 at *
    go_enter Tryz.func77, Tryz.ntmps77
    go_wp2_with (first
     | (go_at_call 104; refine (HEl.out _ _).mono ?_; rintro e w1 ⟨rfl, hb1⟩)
     | (go_at_call 105; refine (HV.out _ hb1).mono ?_; rintro e w2 ⟨rfl, hb2⟩))
    go_ret2
    exact ⟨rfl, Below.next hb1 hb2⟩
theorem thr_scale {f p c : Int} {wd : Bool} (h : Fi f p wd) (hc : El p c) {Q : List Int} (hQ : Els p Q) (hl : Q.length <= 4096) : er f [c] Q = 0 ∧ sclL f c Q = sc p c Q := by
 have he : er f [c] Q = 0 := er_yes h (allIn_of (fun x hx => by rw [List.mem_singleton.1 hx]; exact hc)) (allIn_of hQ) (by simp) hl
 exact ⟨he, by unfold sclL; rw [if_pos he, pOf_eq h]; rfl⟩
theorem thr_add {f p : Int} {wd : Bool} (h : Fi f p wd) {S P : List Int} (hS : Els p S) (hP : Els p P) (l1 : S.length <= 4096) (l2 : P.length <= 4096) : er f S P = 0 ∧ addL f S P = tr (sm p 1 S P) := by
 have he : er f S P = 0 := er_yes h (allIn_of hS) (allIn_of hP) l1 l2
 exact ⟨he, by unfold addL; rw [if_pos he, pOf_eq h]⟩
theorem erase_len {xs : List Int} {k : Nat} (hk : k < xs.length) : (xs.eraseIdx k).length + 1 = xs.length := by
 rw [List.length_eraseIdx, if_pos hk]; omega
theorem thr_zero (W : World) (b off cap : Nat) {f p : Int} {wd : Bool} (h : Fi f p wd) {xs : List Int} (hx : Els p xs) {k : Nat} (hk : k < xs.length) (hr : Rw W (.slice (some ⟨b, off, none⟩) xs.length cap) xs) :
 Calls Tryz.prog 113 #[.int .u8 f, .slice (some ⟨b, off + k, none⟩) 1 (cap - k)] W fun e w' => ∃ v', e = .returned (.tuple #[v', .int .i64 0]) ∧ w'.ownsRow W.heap.size 64 1 v' (zl p [co xs k]).length (vals (zl p [co xs k])) ∧ Below W.heap.size W w' := by
 have hr1 := hr.one hk
 have hk1 : chk f [[co xs k]] = 0 := chk_els h (fun l hl => by
  rw [List.mem_singleton.1 hl]
  exact ⟨fun x hx2 => by rw [List.mem_singleton.1 hx2]; exact hx.co h.pos k, by simp⟩)
 have := tZero_any f _ [co xs k] W hr1
 unfold Gives zeroL at this
 rw [hk1, if_pos rfl, pOf_eq h] at this
 exact this
theorem thr_div (W : World) (v1 v2 : Value) {f p : Int} {wd : Bool} (h : Fi f p wd) {xs : List Int} (hl : xs.length <= 512) {k : Nat} (hk : k < xs.length) (h1 : Rw W v1 (zl p xs)) (h2 : Rw W v2 (zl p [co xs k])) :
 Calls Tryz.prog 115 #[.int .u8 f, v1, v2] W fun e w' => ∃ vq vr, e = .returned (.tuple #[vq, vr, .int .i64 0]) ∧ w'.ownsRow W.heap.size 64 1 vq (zl p (xs.eraseIdx k)).length (vals (zl p (xs.eraseIdx k))) ∧ Below W.heap.size W w' := by
 have f1 := zl_facts h.md xs
 have f2 := zl_facts h.md [co xs k]
 have hq := div_yes h f1.1.1 f2.1.1 (by rw [f1.2.2]; omega) (by rw [f2.2.2]; simp) (dv_out h.md hk)
 have := pDivMod_any f v1 v2 _ _ W h1 h2
 unfold Parts at this
 rw [hq.1] at this
 refine this.mono fun e w' ⟨vq, vr, A, B, b, he, hS, hA, hB, _, hbw, hbl⟩ => ?_
 obtain ⟨rfl, rfl⟩ := hq.2 A B hS
 exact ⟨vq, vr, he, own_mono hA hbw, hbl⟩
theorem thr_scl (W : World) (v : Value) {f p c : Int} {wd : Bool} (h : Fi f p wd) (hc : El p c) {Q : List Int} (hQ : Els p Q) (hl : Q.length <= 4096) (h1 : Rw W v Q) :
 Calls Tryz.prog 116 #[.int .u8 f, .int .u64 c, v] W fun e w' => ∃ v', e = .returned (.tuple #[v', .int .i64 0]) ∧ w'.ownsRow W.heap.size 64 1 v' (sc p c Q).length (vals (sc p c Q)) ∧ Below W.heap.size W w' := by
 have := pScale_any f c v Q W (elWord hc h.top) h1
 unfold Gives at this
 rw [(thr_scale h hc hQ hl).1, (thr_scale h hc hQ hl).2] at this
 exact this
theorem thr_sum (W : World) (v1 v2 : Value) {f p : Int} {wd : Bool} (h : Fi f p wd) {S P : List Int} (hS : Els p S) (hP : Els p P) (l1 : S.length <= 4096) (l2 : P.length <= 4096) (h1 : Rw W v1 S) (h2 : Rw W v2 P) :
 Calls Tryz.prog 118 #[.int .u8 f, v1, v2] W fun e w' => ∃ v', e = .returned (.tuple #[v', .int .i64 0]) ∧ w'.ownsRow W.heap.size 64 1 v' (tr (sm p 1 S P)).length (vals (tr (sm p 1 S P))) ∧ Below W.heap.size W w' := by
 have := pAdd_any f v1 v2 S P W h1 h2
 unfold Gives at this
 rw [(thr_add h hS hP l1 l2).1, (thr_add h hS hP l1 l2).2] at this
 exact this
theorem iThrough (f : Int) (v1 v2 : Value) (xs ys : List Int) (w : World) (h1 : Rw w v1 xs) (h2 : Rw w v2 ys) : Gives 86 #[.int .u8 f, v1, v2] w (thrL f xs ys) (bad f xs ys ys.length) := by
 have HV := hide (ipValues f v1 v2 xs ys w h1 h2)
 by_cases hz : bad f xs ys ys.length = 0
 · obtain ⟨p, wd, h, i1, i2, hlen, hl, hn⟩ := bad_zero hz
   have hex := els_of i1 h1.words
   have hey := els_of i2 h2.words
   have hp0 := h.pos
   have HL : Hid (thrL f xs ys = tp p xs ys xs.length) := by show _ = _; unfold thrL; rw [if_pos hz, pOf_eq h]
   rw [HL.out, hz]
   rw [hz] at HV
   have zf := zl_facts h.md xs
   have HZ : Hid (∀ W, Below w.heap.size w W -> Calls Tryz.prog 113 #[.int .u8 f, v1] W fun e w' => ∃ v', e = .returned (.tuple #[v', .int .i64 0]) ∧ w'.ownsRow W.heap.size 64 1 v' (zl p xs).length (vals (zl p xs)) ∧ Below W.heap.size W w') := fun W hb => by
    have hk1 : chk f [xs] = 0 := chk_els h (fun l hl' => by rw [List.mem_singleton.1 hl']; exact ⟨hex, by omega⟩)
    have := tZero_any f v1 xs W (h1.below hb)
    unfold Gives zeroL at this
    rw [hk1, if_pos rfl, pOf_eq h] at this
    exact this
   have HW := hide (fun W (hb : Below w.heap.size w W) => ipWeigh f p wd v1 xs W h (h1.below hb) hex hn hl)
   have R0 := hide (fun W u base n (hO : World.ownsRow W base 64 1 u n (vals (zl p xs))) => rw_of_own hO (by rw [zf.2.2]; omega) (els_words zf.1.1 h.top))
   have HC : Hid (∀ W b off cap k, k < xs.length -> v1 = .slice (some ⟨b, off, none⟩) xs.length cap -> Below w.heap.size w W -> Calls Tryz.prog 113 #[.int .u8 f, .slice (some ⟨b, off + k, none⟩) 1 (cap - k)] W fun e w' => ∃ v', e = .returned (.tuple #[v', .int .i64 0]) ∧ w'.ownsRow W.heap.size 64 1 v' (zl p [co xs k]).length (vals (zl p [co xs k])) ∧ Below W.heap.size W w') := fun W b off cap k hk hv hb => thr_zero W b off cap h hex hk (by rw [<- hv]; exact h1.below hb)
   have R1 := hide (fun k W u base n (hO : World.ownsRow W base 64 1 u n (vals (zl p [co xs k]))) => rw_of_own hO (by rw [(zl_facts h.md [co xs k]).2.2]; simp) (els_words (zl_facts h.md [co xs k]).1.1 h.top))
   have HD := hide (fun W u1 u2 k (hk : k < xs.length) r1 r2 => thr_div W u1 u2 h hl hk r1 r2)
   have R2 := hide (fun k (hk : k < xs.length) W u base n (hO : World.ownsRow W base 64 1 u n (vals (zl p (xs.eraseIdx k)))) => rw_of_own hO (by have := erase_len hk; rw [(zl_facts h.md (xs.eraseIdx k)).2.2]; omega) (els_words (zl_facts h.md (xs.eraseIdx k)).1.1 h.top))
   have HT := hide (fun W a b (ha : El p a) (hb : El p b) => ipTimes f p a b wd W h ha hb)
   have HS := hide (fun W u k (hk : k < xs.length) c (hc : El p c) r => thr_scl W u h hc (Q := zl p (xs.eraseIdx k)) (zl_facts h.md (xs.eraseIdx k)).1.1 (by have := erase_len hk; rw [(zl_facts h.md (xs.eraseIdx k)).2.2]; omega) r)
   have scl : ∀ k, k < xs.length -> ∀ c, Els p (sc p c (zl p (xs.eraseIdx k))) ∧ (sc p c (zl p (xs.eraseIdx k))).length <= 512 := fun k hk c => by
    have := sc_facts hp0 c (zl p (xs.eraseIdx k))
    have e := erase_len hk
    refine ⟨this.1.1, ?_⟩
    have := this.2.2
    rw [(zl_facts h.md (xs.eraseIdx k)).2.2] at this; omega
   have R3 := hide (fun k (hk : k < xs.length) c W u base n (hO : World.ownsRow W base 64 1 u n (vals (sc p c (zl p (xs.eraseIdx k))))) => rw_of_own hO (by have := (scl k hk c).2; omega) (els_words (scl k hk c).1 h.top))
   have R4 := hide (fun k (hk : k <= xs.length) W u base n (hO : World.ownsRow W base 64 1 u n (vals (tp p xs ys k))) => rw_of_own hO (by have := tp_len h.md xs ys k hk; omega) (els_words (tp_tm hp0 xs ys k).1 h.top))
   have HA := hide (fun W u1 u2 k (hk : k < xs.length) c r1 r2 => thr_sum W u1 u2 h (S := tp p xs ys k) (P := sc p c (zl p (xs.eraseIdx k))) (tp_tm hp0 xs ys k).1 (scl k hk c).1 (by have := tp_len h.md xs ys k (by omega); omega) (by have := (scl k hk c).2; omega) r1 r2)
   have HWe := hide (wts_els hp0 xs)
   have HYe := hide (fun k => hey.co hp0 k)
   have HWl := hide (wts_len p xs)
   have HWa := hide (fun k (hk : k < xs.length) => wts_at (p := p) hk)
   obtain ⟨ax, cx, rfl, hcx⟩ := h1.spell
   have HXs : Hid (∀ k, k < xs.length -> ∃ b off, ax = some ⟨b, off, none⟩) := fun k hk => by
    obtain ⟨⟨a', c', e', _, _, hc⟩, _⟩ := h1
    cases e'
    obtain ⟨b, off, e, _⟩ := hc (by intro e; rw [e] at hk; simp at hk)
    exact ⟨b, off, e⟩
   obtain ⟨⟨ao, cap, rfl, _, _, hc⟩, _⟩ := h2
   obtain ⟨n, HN⟩ : ∃ n, Hid (xs.length = n) := ⟨_, rfl⟩
   have HNy : Hid (ys.length = n) := by rw [<- HN.out]; exact hlen.symm
   rw [HNy.out] at HV hc ⊢
   rw [HN.out] at HV HW HZ HC HD R2 HS R3 R4 HA HWa HXs hl hcx ⊢
   have HCy : Hid (∀ W, Below w.heap.size w W -> ∀ j, j < n -> ∃ b off, ao = some ⟨b, off, none⟩ ∧ W.cell? ⟨b, off + j, none⟩ = some (.int .u64 (ys.getD j 0))) := fun W hb j hj => by
    obtain ⟨b, off, e, h3, h4⟩ := hc (by intro e; have := HNy.out; rw [e] at this; simp at this; omega)
    exact ⟨b, off, e, (hb.cell (p := ⟨b, off + j, none⟩) h3).trans (h4 j hj)⟩
   clear h1 h i1 i2 hlen hn hz hex hey HL hc zf scl
   show Calls _ _ _ _ _
   go_enter Tryz.func86, Tryz.ntmps86
   go_wp2_with (first
    | (go_at_call 105; refine HV.out.mono ?_; rintro e w1 ⟨rfl, hb1⟩)
    | (go_at_call 113; refine (HZ.out _ hb1).mono ?_; rintro e w2 ⟨v2, rfl, hO2, hb2⟩; have hB2 := Below.next hb1 hb2; have HR2 := hide (R0.out _ _ _ _ hO2); obtain ⟨a2, k2, rfl⟩ := own_form hO2; clear hO2)
    | (go_at_call 114; refine (HW.out _ hB2).mono ?_; rintro e w3 ⟨v3, rfl, hO3, hb3⟩; have hB3 := Below.next hB2 hb3; obtain ⟨a3, k3, rfl⟩ := own_form hO3; have HO3 := hide hO3; clear hO3))
   clear HV HZ HW R0
   have HR3 := hide (HR2.out.below hb3)
   clear HR2
   obtain ⟨m, HM⟩ : ∃ m, Hid ((zl p xs).length = m) := ⟨_, rfl⟩
   rw [HM.out] at HR3 ⊢
   go_loopw [11, 38] (fun vs vi wr => ∃ (k : Nat) (as2 : Option Addr) (cs2 : Nat), k <= n ∧ vi = .int .i64 k ∧ vs = .slice as2 (tp p xs ys k).length cs2 ∧ Hid (wr.ownsRow w.heap.size 64 1 (.slice as2 (tp p xs ys k).length cs2) (tp p xs ys k).length (vals (tp p xs ys k))) ∧ Below w3.heap.size w3 wr) (fun _ vi _ => n - (intOf vi).toNat)
   case atStart => exact ⟨0, none, 0, Nat.zero_le _, rfl, rfl, World.ownsRow_nil _ _ _ _, Below.refl _ _⟩
   case round =>
    obtain ⟨k, as2, cs2, hk, rfl, rfl, HO, hb⟩ := hrel
    have hB := Below.next hB3 hb
    by_cases hlt : k < n
    · obtain ⟨bx, ox, rfl⟩ := HXs.out k hlt
      obtain ⟨by2, oy, rfl, hcy⟩ := HCy.out wr hB k hlt
      obtain ⟨g, cg, hvg, _, _⟩ := HO3.out.form (by omega)
      injection hvg with hvg _ hcg
      subst hvg hcg
      have hcw : wr.cell? ⟨g, k, none⟩ = some (.int .u64 ((wts p xs).getD k 0)) := own_cell (own_below HO3.out hb) (by rw [HWl.out, HN.out]) hlt
      have hwe : El p ((wts p xs).getD k 0) := HWe.out.co hp0 k
      have hye : El p (ys.getD k 0) := HYe.out k
      have HTk : Hid (tr (sm p 1 (tp p xs ys k) (sc p (mul p ((wts p xs).getD k 0) (ys.getD k 0)) (zl p (xs.eraseIdx k)))) = tp p xs ys (k + 1)) := by
       show _ = _
       have e : (wts p xs).getD k 0 = wt p xs k := HWa.out k hlt
       rw [e]; rfl
      have c1 := hide (fun W (hb' : Below w.heap.size w W) => HC.out W bx ox cx k hlt rfl hb')
      have c2 := hide (fun W u1 u2 r1 r2 => HD.out W u1 u2 k hlt r1 r2)
      have c3 := hide (fun W => HT.out W _ _ hwe hye)
      have c4 := hide (fun W u r => HS.out W u k hlt (mul p ((wts p xs).getD k 0) (ys.getD k 0)) (mul_el hp0) r)
      have c5 := hide (fun W u1 u2 r1 r2 => HA.out W u1 u2 k hlt (mul p ((wts p xs).getD k 0) (ys.getD k 0)) r1 r2)
      have r1 := hide (fun W u base n' hO' => R1.out k W u base n' hO')
      have r2 := hide (fun W u base n' hO' => R2.out k hlt W u base n' hO')
      have r3 := hide (fun W u base n' hO' => R3.out k hlt (mul p ((wts p xs).getD k 0) (ys.getD k 0)) W u base n' hO')
      have r4 := hide (R4.out k (by omega) _ _ _ _ HO.out)
      have HCy2 : Hid (∀ W, Below w.heap.size w W -> W.cell? ⟨by2, oy + k, none⟩ = some (.int .u64 (ys.getD k 0))) := fun W hb' => by
       obtain ⟨b', o', e', h'⟩ := HCy.out W hb' k hlt
       cases e'; exact h'
      rw [HTk.out] at c5
      obtain ⟨T2, HT2⟩ : ∃ T2, Hid (tp p xs ys (k + 1) = T2) := ⟨_, rfl⟩
      rw [HT2.out] at c5
      obtain ⟨T1, HT1⟩ : ∃ T1, Hid (tp p xs ys k = T1) := ⟨_, rfl⟩
      rw [HT1.out] at c5 r4 ⊢
      clear HC HD HT HS HA R1 R2 R3 R4 HWe HYe HWa HXs HCy hwe hye HTk HO
      generalize sc p (mul p ((wts p xs).getD k 0) (ys.getD k 0)) (zl p (xs.eraseIdx k)) = part at *
      generalize mul p ((wts p xs).getD k 0) (ys.getD k 0) = mm at *
      generalize (wts p xs).getD k 0 = wk at *
      generalize ys.getD k 0 = yk at *
      generalize zl p (xs.eraseIdx k) = zer at *
      generalize zl p [co xs k] = fk at *
      have hRz := hide (HR3.out.below hb)
      have f1 : (k : Int) + 1 <= (cx : Int) := by omega
      have f2 : (0 : Int) <= (k : Int) := by omega
      have f3 : ¬ cx = k := by omega
      go_wp2_with (first
       | (go_at_call 113; refine (c1.out _ hB).mono ?_; rintro e w4 ⟨v4, rfl, hO4, hb4⟩; have hB4 := Below.next hB hb4; have hr4 := r1.out _ _ _ _ hO4; obtain ⟨a4, k4, rfl⟩ := own_form hO4; clear hO4; have hz4 := hRz.out.below hb4; have q4 := r4.out.below hb4)
       | (go_at_call 115; refine (c2.out _ _ _ hz4 hr4).mono ?_; rintro e w5 ⟨v5, v5r, rfl, hO5, hb5⟩; have hB5 := Below.next hB4 hb5; have hr5 := r2.out _ _ _ _ hO5; obtain ⟨a5, k5, rfl⟩ := own_form hO5; clear hO5; have q5 := q4.below hb5; have hcy5 := HCy2.out _ hB5)
       | (go_at_call 117; refine (c3.out _).mono ?_; rintro e w6 ⟨rfl, hb6⟩; have hB6 := Below.next hB5 hb6; have hr6 := hr5.below hb6; have q6 := q5.below hb6)
       | (go_at_call 116; refine (c4.out _ _ hr6).mono ?_; rintro e w7 ⟨v7, rfl, hO7, hb7⟩; have hB7 := Below.next hB6 hb7; have hr7 := r3.out _ _ _ _ hO7; obtain ⟨a7, k7, rfl⟩ := own_form hO7; clear hO7; have q7 := q6.below hb7)
       | (go_at_call 118; refine (c5.out _ _ _ q7 hr7).mono ?_; rintro e w8 ⟨v8, rfl, hO8, hb8⟩; obtain ⟨a8, k8, rfl⟩ := own_form hO8; have HO8 := hide (own_mono hO8 hB7.size); clear hO8))
      have hb9 := Below.next (Below.next (Below.next (Below.next (Below.next hb hb4) hb5) hb6) hb7) hb8
      rw [<- HT2.out] at HO8
      have e9 : T2.length = (tp p xs ys (k + 1)).length := by rw [HT2.out]
      rw [e9]
      clear e9
      go_roundw
      case rel => exact ⟨k + 1, a8, k8, by omega, by go_num, rfl, HO8, hb9⟩
      case measure => simp [intOf]; omega
    · obtain rfl : k = n := by omega
      clear HC HD HT HS HA R1 R2 R3 R4 HWe HYe HWa HXs HCy
      go_wp2
      go_ret2
      exact ⟨_, rfl, HO.out, hB⟩
 · have ht : (bad f xs ys ys.length != 0) = true := bne_iff_ne.2 hz
   have HL : Hid (thrL f xs ys = []) := by show _ = _; unfold thrL; rw [if_neg hz]
   rw [HL.out]
   obtain ⟨a1, c1, rfl, _⟩ := h1.spell
   obtain ⟨a2, c2, rfl, _⟩ := h2.spell
   clear h1 h2 hz HL
   generalize bad f xs ys ys.length = e0 at *
   generalize xs.length = n at *
   generalize ys.length = n2 at *
   apply Gives.none
   go_enter Tryz.func86, Tryz.ntmps86
   go_wp2_with (go_at_call 105; refine HV.out.mono ?_; rintro e w1 ⟨rfl, hb1⟩)
   go_ret2
   exact ⟨rfl, hb1⟩
theorem thrL_wd (f : Int) {xs ys : List Int} (hl : xs.length <= 17592186043904) : Wd (thrL f xs ys) := by
 unfold thrL
 by_cases hz : bad f xs ys ys.length = 0
 · obtain ⟨p, wd, h, _⟩ := bad_zero hz
   rw [if_pos hz, pOf_eq h]
   exact wd_els (tp_tm h.pos xs ys _).1 h.top (Nat.le_trans (tp_len h.md xs ys _ (Nat.le_refl _)) hl)
 · rw [if_neg hz]; exact wd_nil
def dcE (f : Int) (xs ys : List Int) (d w : Int) : Int := if d < -1 ∨ w < 0 then 2 else if bad f xs ys ys.length ≠ 0 then bad f xs ys ys.length else if (xs.length : Int) < d + 2 * w + 1 then 7 else 0
def ofI (p : Int) (P xs ys : List Int) : List Int := (offp p P xs ys).map (fun (i : Nat) => (i : Int))
def Dcd (f : Int) (xs ys : List Int) (d w : Int) (P at' : List Int) (ok : Bool) : Prop :=
 (dcE f xs ys d w ≠ 0 -> P = [] ∧ at' = [] ∧ ok = false) ∧
 (dcE f xs ys d w = 0 -> (ok = true ∧ Dec (pOf f) (d + 1).toNat w.toNat xs ys P ∧ at' = ofI (pOf f) P xs ys) ∨ (ok = false ∧ P = [] ∧ at' = [] ∧ ∀ R, ¬ Dec (pOf f) (d + 1).toNat w.toNat xs ys R))
theorem dcE_arg {f : Int} {xs ys : List Int} {d w : Int} (h : d < -1 ∨ w < 0) : dcE f xs ys d w = 2 := by unfold dcE; rw [if_pos h]
theorem dcE_bad {f : Int} {xs ys : List Int} {d w : Int} (h : ¬ (d < -1 ∨ w < 0)) (hb : bad f xs ys ys.length ≠ 0) : dcE f xs ys d w = bad f xs ys ys.length := by unfold dcE; rw [if_neg h, if_pos hb]
theorem dcE_short {f : Int} {xs ys : List Int} {d w : Int} (h : ¬ (d < -1 ∨ w < 0)) (hb : bad f xs ys ys.length = 0) (hs : (xs.length : Int) < d + 2 * w + 1) : dcE f xs ys d w = 7 := by unfold dcE; rw [if_neg h, if_neg (fun e => e hb), if_pos hs]
theorem dcE_ok {f : Int} {xs ys : List Int} {d w : Int} (h : ¬ (d < -1 ∨ w < 0)) (hb : bad f xs ys ys.length = 0) (hs : ¬ (xs.length : Int) < d + 2 * w + 1) : dcE f xs ys d w = 0 := by unfold dcE; rw [if_neg h, if_neg (fun e => e hb), if_neg hs]
theorem Dcd.no {f : Int} {xs ys : List Int} {d w e : Int} (h : dcE f xs ys d w = e) (he : e ≠ 0) : Dcd f xs ys d w [] [] false := ⟨fun _ => ⟨rfl, rfl, rfl⟩, fun h0 => absurd (h ▸ h0) he⟩
theorem offp_len (p : Int) (P xs ys : List Int) : (offp p P xs ys).length <= xs.length := by have := on_off p P xs ys; omega
theorem ofI_len (p : Int) (P xs ys : List Int) : (ofI p P xs ys).length = (offp p P xs ys).length := by unfold ofI; rw [List.length_map]
theorem Rw.off_ {W : World} {v : Value} {xs : List Int} {g : Nat} {cs : Array Value} {T : TypeId} (h : Rw W v xs) (hb : W.heap[g]? = some (.cells cs T (0, 0))) (hn : ∀ (i : Nat) (x : Int), cs[i]? ≠ some (Value.int .u64 x)) (j : Nat) (u : Value) : Rw (W.setCell ⟨g, j, none⟩ u) v xs := by
 obtain ⟨⟨ao, cap, h1, h2, h3, h4⟩, h5⟩ := h
 refine ⟨⟨ao, cap, h1, h2, h3, fun hne => ?_⟩, h5⟩
 obtain ⟨b, off, h6, h7, h8⟩ := h4 hne
 have hbk : b ≠ g := by
  intro e
  subst e
  have h9 := h8 0 (List.length_pos_iff.2 hne)
  rw [cell_of_row W b (off + 0) _ _ _ hb] at h9
  exact hn _ _ h9
 refine ⟨b, off, h6, by simp [World.setCell]; exact h7, fun i hi => ?_⟩
 rw [<- h8 i hi]
 exact World.cell?_of_block (Below.heap_setCell _ _ _ b (fun e => hbk e))
theorem two_sl (a b : Option Addr) (n m c d : Nat) : ∀ (i : Nat) (x : Int), (#[Value.slice a n c, Value.slice b m d] : Array Value)[i]? ≠ some (Value.int .u64 x) := fun i x => by
 rcases i with _ | _ | i <;> simp
theorem cell_two {W : World} {g : Nat} {u v : Value} {T : TypeId} (h : W.heap[g]? = some (.cells #[u, v] T (0, 0))) : W.cell? ⟨g, 0, none⟩ = some u ∧ W.cell? ⟨g, 1, none⟩ = some v ∧ W.frozen? ⟨g, 0, none⟩ = false ∧ W.frozen? ⟨g, 1, none⟩ = false := by
 refine ⟨?_, ?_, ?_, ?_⟩ <;> simp [World.cell?, World.frozen?, h]
theorem gEnough (n : Nat) (d w : Int) (W : World) (hn : n <= 1000000) (hd : -1 <= d ∧ d <= 9223372036854775807) (hw : 0 <= w ∧ w <= 9223372036854775807) :
 Calls Tryz.prog 87 #[.int .i64 n, .int .i64 d, .int .i64 w] W fun e w' => e = .returned (.bool (!decide ((n : Int) < d + 2 * w + 1))) ∧ w' = W := by
 by_cases h1 : (n : Int) - 1 - d < 0
 · have h2 : (!decide ((n : Int) < d + 2 * w + 1)) = false := by rw [decide_eq_true (by omega)]; rfl
   rw [h2]
   clear h2
   have h3 : ¬ 0 <= (n : Int) - 1 - d := by omega
   go_enter Tryz.func87, Tryz.ntmps87
   go_wp2
   go_ret
   exact ⟨rfl, rfl⟩
 · have h3 : 0 <= (n : Int) - 1 - d := by omega
   have h4 : (!decide ((n : Int) < d + 2 * w + 1)) = decide (w <= ((n : Int) - 1 - d) / 2) := by
    by_cases c : (n : Int) < d + 2 * w + 1
    · rw [decide_eq_true c, decide_eq_false (by omega)]; rfl
    · rw [decide_eq_false c, decide_eq_true (by omega)]; rfl
   have h5 : ((n : Int) - 1 - d).tdiv 2 = ((n : Int) - 1 - d) / 2 := Int.tdiv_eq_ediv_of_nonneg h3
   rw [h4]
   clear h4
   have h6 : 0 <= ((n : Int) - 1 - d) / 2 ∧ ((n : Int) - 1 - d) / 2 <= 1000000 := by omega
   generalize ((n : Int) - 1 - d) / 2 = q at *
   go_enter Tryz.func87, Tryz.ntmps87
   go_wp2
   go_ret
   exact ⟨rfl, rfl⟩
theorem gSearch (f p : Int) (wd : Bool) (v1 v2 : Value) (xs T : List Int) (d w : Int) (W : World) (h : Fi f p wd) (h1 : Rw W v1 xs) (h2 : Rw W v2 T) (hx : Els p xs) (hl : xs.length <= 512) (hT : Els p T) (lT : T.length <= 512) (hd : -1 <= d) (hw : 0 <= w) (hs : d + w + 1 <= 512) :
 Calls Tryz.prog 88 #[.int .u8 f, v1, v2, .int .i64 d, .int .i64 w] W fun e w' => ∃ c0 c2 A B, e = .returned (.agg #[c0, c2]) ∧ Rw w' c0 B.x ∧ Rw w' c2 B.v ∧ Fnd p (d + w + 1).toNat (zl p xs) T A B ∧ Below W.heap.size W w' := by
 have hz := zl_facts h.md xs
 have hk : chk f [xs] = 0 := chk_els h (fun l hl' => by rw [List.mem_singleton.1 hl']; exact ⟨hx, by omega⟩)
 have HZ := hide (fun W' (hb : Below W.heap.size W W') => tZero_any f v1 xs W' (h1.below hb))
 unfold Gives zeroL at HZ
 rw [hk, pOf_eq h] at HZ
 simp only [if_true] at HZ
 have hst : stE f (zl p xs) T (d + w + 1) = 0 := by
  unfold stE
  rw [if_neg (by omega)]
  exact chE_yes h hz.1.1 hT (by omega) (by omega)
 have HP := hide (fun W' vz (hb : Below W.heap.size W W') (hr : Rw W' vz (zl p xs)) => ePartial_any f vz v2 (zl p xs) T (d + w + 1) W' hr (h2.below hb))
 rw [hst] at HP
 have HF : Hid (∀ B, PtE f (zl p xs) T (d + w + 1) B -> ∃ A, Fnd p (d + w + 1).toNat (zl p xs) T A B) := fun B hB => by
  have := hB.2 hst
  rw [pOf_eq h] at this
  exact this
 have HW : Hid (Wd (zl p xs)) := Tm.wd hz.1 h.top (by omega)
 have e0 := heap_alloc_new W (.cells #[.slice none 0 0, .slice none 0 0] 134)
 have b0 := alloc_below W (.cells #[.slice none 0 0, .slice none 0 0] 134)
 have E0 := hide e0
 have B0 := hide b0
 clear hz hk hst h1 h2 hx hT h e0 b0 hl lT
 go_enter Tryz.func88, Tryz.ntmps88
 go_wp2_with (first
  | (go_at_call 113; refine (HZ.out _ B0.out).mono ?_; rintro e w1 ⟨vz, rfl, hO, hb1⟩; have HR := hide (HW.out.row hO); clear hO; have hB1 := Below.next B0.out hb1; have E1 := hide ((hb1.block _ (Array.getElem?_eq_some_iff.1 E0.out).1).trans E0.out))
  | (go_at_call 119; refine (HP.out _ _ hB1 HR.out).mono ?_; rintro e w2 ⟨c0, c1, c2, B, rfl, RB, hpt, hb2⟩; have hB2 := Below.next hB1 hb2; obtain ⟨x0, y0, rfl, _⟩ := RB.1.spell; obtain ⟨x2, y2, rfl, _⟩ := RB.2.2.spell; have E2 := hide ((hb2.block _ (Array.getElem?_eq_some_iff.1 E1.out).1).trans E1.out); obtain ⟨k0, k1, k2, k3⟩ := cell_two E2.out; have R0 := hide RB.1; have R2 := hide RB.2.2; have HPt := hide hpt; clear RB hpt))
 have F1 := set_blk E2.out 0 (.slice x0 B.x.length y0)
 have F2 := set_blk F1 1 (.slice x2 B.v.length y2)
 have G0 := hide ((R0.out.off_ E2.out (two_sl _ _ _ _ _ _) 0 (.slice x0 B.x.length y0)).off_ F1 (two_sl _ _ _ _ _ _) 1 (.slice x2 B.v.length y2))
 have G2 := hide ((R2.out.off_ E2.out (two_sl _ _ _ _ _ _) 0 (.slice x0 B.x.length y0)).off_ F1 (two_sl _ _ _ _ _ _) 1 (.slice x2 B.v.length y2))
 have HB : Hid (Below W.heap.size W ((w2.setCell ⟨W.heap.size, 0, none⟩ (.slice x0 B.x.length y0)).setCell ⟨W.heap.size, 1, none⟩ (.slice x2 B.v.length y2))) := (hB2.setCell (p := ⟨W.heap.size, 0, none⟩) (Nat.le_refl _) _).setCell (p := ⟨W.heap.size, 1, none⟩) (Nat.le_refl _) _
 generalize ((w2.setCell ⟨W.heap.size, 0, none⟩ (.slice x0 B.x.length y0)).setCell ⟨W.heap.size, 1, none⟩ (.slice x2 B.v.length y2)) = wF at *
 obtain ⟨g0, g1, _, _⟩ := cell_two (u := .slice x0 B.x.length y0) (v := .slice x2 B.v.length y2) F2
 obtain ⟨A, hA⟩ := HF.out B HPt.out
 refine bodyPost_ret (v := .agg #[.slice x0 B.x.length y0, .slice x2 B.v.length y2]) ?_ rfl ⟨_, _, A, B, rfl, G0.out, G2.out, hA, HB.out⟩
 simp [results, Tryz.results88, go_sem, g0, g1]
def okB (R P V : List Int) (d w : Int) : Bool := R.isEmpty && decide ((P.length : Int) - 1 <= d) && decide ((V.length : Int) - 1 <= w)
theorem okB_yes {P V : List Int} {d w : Int} (h1 : (P.length : Int) - 1 <= d) (h2 : (V.length : Int) - 1 <= w) : okB [] P V d w = true := by
 unfold okB; rw [decide_eq_true h1, decide_eq_true h2]; rfl
theorem okB_no {R P V : List Int} {d w : Int} (h : R ≠ [] ∨ ¬ (P.length : Int) - 1 <= d ∨ ¬ (V.length : Int) - 1 <= w) : okB R P V d w = false := by
 unfold okB
 rcases h with h | h | h
 · cases R with
   | nil => exact absurd rfl h
   | cons a R => rfl
 · rw [decide_eq_false h]; simp
 · rw [decide_eq_false h]; simp
theorem gDeg (v : Value) (xs : List Int) (n : Nat) (W : World) (hr : Rw W v xs) (ht : tr xs = xs) (hn : xs.length = n) : Calls Tryz.prog 120 #[v] W fun e w' => e = .returned (.int .i64 ((n : Int) - 1)) ∧ Below W.heap.size W w' := by
 have := Degree_any v xs W hr
 rwa [ht, hn] at this
theorem gPolynomial (f p : Int) (wd : Bool) (c0 c2 : Value) (X V : List Int) (d w : Int) (W : World) (h : Fi f p wd) (h1 : Rw W c0 X) (h2 : Rw W c2 V) (tX : Tm p X) (tV : Tm p V) (hV : V ≠ []) (l1 : X.length <= 4096) (l2 : V.length <= 4096) :
 Calls Tryz.prog 89 #[.agg #[c0, c2], .int .u8 f, .int .i64 d, .int .i64 w] W fun e w' => ∃ v P R, e = .returned (.tuple #[v, .bool (okB R P V d w)]) ∧ Dv p X V P R ∧ w'.ownsRow W.heap.size 64 1 v (if okB R P V d w = true then P else []).length (vals (if okB R P V d w = true then P else [])) ∧ Below W.heap.size W w' := by
 have hE : divE f X V = 0 := by rw [div_ok h tX.1 tV l1 l2, if_neg hV]
 have HD := hide (fun W' (hb : Below W.heap.size W W') => pDivMod_any f c0 c2 X V W' (h1.below hb) (h2.below hb))
 unfold Parts at HD
 rw [hE] at HD
 have HS := hide (fun A B (hs : DvE f X V A B) => DvE.dv h hE hs)
 have HWd := hide (fun A B (hv : Dv p X V A B) => dv_wd h.md h.top tV.1 hv l1 l2)
 have HL := hide (fun A B (hv : Dv p X V A B) => Dv.len h.md tV.1 hv)
 obtain ⟨x0, y0, rfl, _⟩ := h1.spell
 obtain ⟨x2, y2, rfl, _⟩ := h2.spell
 have HGV := hide (fun W' (hb : Below W.heap.size W W') => gDeg (.slice x2 V.length y2) V V.length W' (h2.below hb) tV.2 rfl)
 have E0 := hide (heap_alloc_new W (.cells #[.slice x0 X.length y0, .slice x2 V.length y2] 134))
 have B0 := hide (alloc_below W (.cells #[.slice x0 X.length y0, .slice x2 V.length y2] 134))
 obtain ⟨lv, HLV⟩ : ∃ lv, Hid (V.length = lv) := ⟨_, rfl⟩
 have hlv : lv <= 4096 := by rw [<- HLV.out]; exact l2
 rw [HLV.out] at HD HGV E0 B0
 have k0 := (cell_two E0.out).1
 have k1 := (cell_two E0.out).2.1
 clear h1 h2 hE h tX tV hV l2
 go_enter Tryz.func89, Tryz.ntmps89
 rw [HLV.out]
 go_wp2_with fail
 refine (HD.out _ B0.out).mono ?_
 rintro e w1 ⟨vq, vr, A, B, b, rfl, hS, hOq, hOr, _, hWb, hb1⟩
 have HV := hide (HS.out A B hS)
 obtain ⟨WA, WB⟩ := HWd.out A B HV.out
 have RA := hide (WA.row hOq)
 have RB := hide (WB.row hOr)
 obtain ⟨aq, cq, rfl, _⟩ := RA.out.spell
 obtain ⟨ar, cr, rfl, _⟩ := RB.out.spell
 have hB1 := Below.next B0.out hb1
 have E1 := hide ((hb1.block _ (Array.getElem?_eq_some_iff.1 E0.out).1).trans E0.out)
 have HO := hide (own_mono (base' := W.heap.size) hOq (by have := B0.out.size; omega))
 have lA : A.length <= 17592186043904 := WA.1
 have lB : B.length <= 17592186043904 := WB.1
 have HDP := hide (fun W' (hb : Below w1.heap.size w1 W') => gDeg _ A A.length W' (RA.out.below hb) HV.out.rg.1.2 rfl)
 have HDR := hide (fun W' (hb : Below w1.heap.size w1 W') => gDeg _ B B.length W' (RB.out.below hb) HV.out.rg.2.1.2 rfl)
 clear hS hOq hOr HD HS HWd k0 k1 WA WB HL
 by_cases hR : B = []
 · subst hR
   clear RB
   have HDR : Hid (∀ W', Below w1.heap.size w1 W' -> Calls Tryz.prog 120 #[.slice ar 0 cr] W' fun e w' => e = .returned (.int .i64 (-1)) ∧ Below W'.heap.size W' w') := fun W' hb => HDR.out W' hb
   rw [List.length_nil]
   by_cases hP : (A.length : Int) - 1 <= d
   · by_cases hL : (lv : Int) - 1 <= w
     · have HK : Hid (okB [] A V d w = true) := okB_yes hP (by rw [HLV.out]; exact hL)
       obtain ⟨la, HA⟩ : ∃ la, Hid (A.length = la) := ⟨_, rfl⟩
       rw [HA.out] at HDP hP lA ⊢
       have hP2 : ¬ d < (la : Int) - 1 := by omega
       have hL2 : ¬ w < (lv : Int) - 1 := by omega
       clear hP hL
       go_wp2_with (first
        | (go_at_call 120; refine (HGV.out _ hB3).mono ?_; rintro e w4 ⟨rfl, hb4⟩; have hB4 := Below.next hB3 hb4; have hb14 := Below.next hb13 hb4)
        | (go_at_call 120; refine (HDP.out _ hb12).mono ?_; rintro e w3 ⟨rfl, hb3⟩; have hB3 := Below.next hB2 hb3; have hb13 := Below.next hb12 hb3; obtain ⟨k0, k1, _, _⟩ := cell_two ((hb13.block _ (Array.getElem?_eq_some_iff.1 E1.out).1).trans E1.out))
        | (go_at_call 120; refine (HDR.out _ (Below.refl _ _)).mono ?_; rintro e w2 ⟨rfl, hb12⟩; have hB2 := Below.next hB1 hb12))
       go_ret2
       refine ⟨.slice aq la cq, A, [], by rw [HK.out]; first | done | rfl, HV.out, ?_, hB4⟩
       rw [HK.out, if_pos rfl]
       have := own_below HO.out hb14
       rwa [HA.out] at this ⊢
     · have HK : Hid (okB [] A V d w = false) := okB_no (.inr (.inr (by rw [HLV.out]; exact hL)))
       obtain ⟨la, HA⟩ : ∃ la, Hid (A.length = la) := ⟨_, rfl⟩
       rw [HA.out] at HDP hP lA ⊢
       have hP2 : ¬ d < (la : Int) - 1 := by omega
       have hL2 : w < (lv : Int) - 1 := by omega
       clear hP hL
       go_wp2_with (first
        | (go_at_call 120; refine (HGV.out _ hB3).mono ?_; rintro e w4 ⟨rfl, hb4⟩; have hB4 := Below.next hB3 hb4; have hb14 := Below.next hb13 hb4)
        | (go_at_call 120; refine (HDP.out _ hb12).mono ?_; rintro e w3 ⟨rfl, hb3⟩; have hB3 := Below.next hB2 hb3; have hb13 := Below.next hb12 hb3; obtain ⟨k0, k1, _, _⟩ := cell_two ((hb13.block _ (Array.getElem?_eq_some_iff.1 E1.out).1).trans E1.out))
        | (go_at_call 120; refine (HDR.out _ (Below.refl _ _)).mono ?_; rintro e w2 ⟨rfl, hb12⟩; have hB2 := Below.next hB1 hb12))
       go_ret2
       exact ⟨.slice none 0 0, A, [], by rw [HK.out]; first | done | rfl, HV.out, by rw [HK.out]; exact World.ownsRow_nil _ _ _ _, hB4⟩
   · have HK : Hid (okB [] A V d w = false) := okB_no (.inr (.inl hP))
     obtain ⟨la, HA⟩ : ∃ la, Hid (A.length = la) := ⟨_, rfl⟩
     rw [HA.out] at HDP hP lA ⊢
     have hP2 : d < (la : Int) - 1 := by omega
     clear hP
     go_wp2_with (first
      | (go_at_call 120; refine (HDP.out _ hb12).mono ?_; rintro e w3 ⟨rfl, hb3⟩; have hB3 := Below.next hB2 hb3)
      | (go_at_call 120; refine (HDR.out _ (Below.refl _ _)).mono ?_; rintro e w2 ⟨rfl, hb12⟩; have hB2 := Below.next hB1 hb12))
     go_ret2
     exact ⟨.slice none 0 0, A, [], by rw [HK.out]; first | done | rfl, HV.out, by rw [HK.out]; exact World.ownsRow_nil _ _ _ _, hB3⟩
 · have HK : Hid (okB B A V d w = false) := okB_no (.inl hR)
   have hl := List.length_pos_iff.2 hR
   obtain ⟨lb, HB⟩ : ∃ lb, Hid (B.length = lb) := ⟨_, rfl⟩
   rw [HB.out] at HDR hl lB ⊢
   have hP2 : (0 : Int) <= (lb : Int) - 1 := by omega
   clear hR
   go_wp2_with (go_at_call 120; refine (HDR.out _ (Below.refl _ _)).mono ?_; rintro e w2 ⟨rfl, hb12⟩; have hB2 := Below.next hB1 hb12)
   go_ret2
   exact ⟨.slice none 0 0, A, B, by rw [HK.out]; first | done | rfl, HV.out, by rw [HK.out]; exact World.ownsRow_nil _ _ _ _, hB2⟩
end Go.Proofs.YtjhididlcdepdaaGreat
