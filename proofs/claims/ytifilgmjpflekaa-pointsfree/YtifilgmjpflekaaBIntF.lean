/-
  Layer 7: the library's iterator over a list from its end on; the products of all but one.
-/
import Derived.Test.YtifilgmjpflekaaBunAE
import Derived.RangeFuncNested
import Derived.RangeFuncBound
import Derived.RangeFuncCalls
import Derived.RangeFuncLeaves
import Derived.RangeFuncBox
import Derived.Shelf.Abstract
import Derived.Shelf.RegionOpen
import Derived.WalkKit
import Derived.OwnWalkIn
import Derived.TacticsInMore
import Derived.LoopNIn
import Derived.LoopIn
namespace Go.Proofs.Ytifilgmjpflekaa
open Go.RowKit Go.Shelf Fld
set_option linter.unusedVariables false
set_option linter.unusedSimpArgs false
attribute [local go_sem] Oper.semAt_some

/-- What a round must keep: what lay before the call, and the box of the list. -/
def KpB (n0 Bs : Nat) (W W' : World) : Prop := Below n0 W W' ∧ W'.heap[Bs]? = W.heap[Bs]?
theorem KpB.refl (n0 Bs : Nat) (W : World) : KpB n0 Bs W W := ⟨Below.refl _ _, rfl⟩
theorem KpB.trans {n0 Bs : Nat} {A B C : World} (h : KpB n0 Bs A B) (k : KpB n0 Bs B C) : KpB n0 Bs A C := ⟨h.1.trans k.1, k.2.trans h.2⟩
theorem KpB.turn {n0 Bs : Nat} {w : World} (hn : n0 ≤ w.heap.size) (hB : Bs < w.heap.size) (W : World) (l : Nat) (o o' : Obj) (hl : w.heap.size ≤ l) (h : W.heap[l]? = some o) (h1 : o.isCells = false) (h2 : o.isWalk = false) : KpB n0 Bs W (W.putObj l o') :=
  ⟨belowK_b hn W l o o' hl h h1 h2, World.putObj_heap_other (by omega)⟩
theorem cell_of_heap {W W' : World} {b k : Nat} (h : W'.heap[b]? = W.heap[b]?) : W'.cell? ⟨b, k, none⟩ = W.cell? ⟨b, k, none⟩ := World.cell?_of_block h

/-- What comes at the k-th round. -/
def bkv (zs : List Int) (k : Nat) : Array Value := #[.int .i64 ((zs.length - 1 - k : Nat) : Int), .int .u64 (zs.getD (zs.length - 1 - k) 0)]

set_option maxRecDepth 100000 in
set_option maxHeartbeats 1000000 in
theorem bk1_in (F : Fence) (n : Nat) (hf : F.fn 81) (hro : F.round = none) (hn : 1 ≤ n) (l Bs n0 cap : Nat) (ao : Option Addr) (zs : List Int) (hl : zs.length ≤ 17592186043904) (J Jx : List Nat → World → Prop)
    (hY : ∀ pre x W, J pre W → pre.length < zs.length → YieldAt F (n - 1) Try.prog l (bkv zs x) W fun e W' =>
      (e = .returned (.bool true) ∧ J (pre ++ [x]) W' ∧ KpB n0 Bs W W') ∨ (e = .returned (.bool false) ∧ Jx (pre ++ [x]) W'))
    (W : World) (hBs : W.cell? ⟨Bs, 0, none⟩ = some (.slice ao zs.length cap)) (hc : ∀ j, j < zs.length → ∃ b off, ao = some ⟨b, off, none⟩ ∧ b < n0 ∧ W.cell? ⟨b, off + j, none⟩ = some (.int .u64 (zs.getD j 0))) (h0 : J [] W) :
    CallsIn F n Try.prog 81 #[.func (.yield l) #[] #[], .pointer (some ⟨Bs, 0, none⟩)] W fun e W' => (∃ v, e = .returned v) ∧
      ((∃ ys, ys = List.range zs.length ∧ J ys W') ∨ (∃ pre, True ∧ Jx pre W')) := by
  refine callsIn_of_wp Try.func81 rfl hf ?_ hro
  simp only [Try.ntmps81, List.size_toArray, List.length_cons, List.length_nil, Nat.reduceAdd, Nat.reduceSub, Array.replicate_succ, Array.replicate_zero, List.push_toArray, List.append_toArray, List.nil_append, List.cons_append]
  obtain ⟨N, HN⟩ : ∃ N, Hid (zs.length = N) := ⟨_, rfl⟩
  have HY := hide hY
  clear hY
  rw [HN.out] at hBs hc hl HY ⊢
  gi_wp2
  gi_loopw [3] (fun vi wr => ∃ k : Nat, k ≤ N ∧ vi = .int .i64 ((N : Int) - 1 - k) ∧ J (List.range k) wr ∧ KpB n0 Bs W wr) (fun vi _ => (intOf vi + 1).toNat)
  case atStart => exact ⟨0, Nat.zero_le _, by simp, h0, KpB.refl _ _ _⟩
  case round =>
    obtain ⟨k, hk, rfl, hJs, hnx⟩ := hrel
    by_cases hlt : k < N
    · have hBs2 := (cell_of_heap (k := 0) hnx.2).trans hBs
      obtain ⟨i, hi⟩ : ∃ i : Nat, i + k + 1 = N := ⟨N - 1 - k, by omega⟩
      obtain ⟨b, off, rfl, hb, hcell⟩ := hc i (by omega)
      have hck := (hnx.1.cell (p := ⟨b, off + i, none⟩) hb).trans hcell
      obtain ⟨fn, tmps, assign, body, hy, hR⟩ := HY.out (List.range k) k wr hJs (by rw [List.length_range]; exact hlt)
      have hii : zs.length - 1 - k = i := by rw [HN.out]; omega
      unfold bkv at hy
      rw [hii] at hy
      have hsi : (N : Int) - 1 - (k : Int) = (i : Int) := by omega
      rw [hsi]
      have hlti : (i : Int) < (N : Int) := by omega
      have hge : (0 : Int) ≤ (i : Int) := by omega
      generalize zs.getD i 0 = z at *
      clear hcell hsi hii hc
      gi_wp2
      refine hR.mono ?_
      rintro e W3 (⟨rfl, hJ3, hk3⟩ | ⟨rfl, hJx3⟩)
      · rw [← List.range_succ] at hJ3
        have hnx3 := hnx.trans hk3
        gi_wp2
        go_roundw
        case rel => exact ⟨k + 1, by omega, by congr 1; omega, hJ3, hnx3⟩
        case measure => simp [intOf]
      · gi_wp2
        refine bodyPost_ret (results_none rfl _ _ _) rfl ?_
        exact ⟨⟨_, rfl⟩, .inr ⟨_, trivial, hJx3⟩⟩
    · obtain rfl : k = N := by omega
      have hneg : (k : Int) - 1 - (k : Int) = -1 := by omega
      rw [hneg]
      gi_wp2
      go_end0
      exact ⟨⟨_, rfl⟩, .inl ⟨_, rfl, hJs⟩⟩

theorem bk_stops (F : Fence) (n : Nat) (hf : F.fn 81) (hro : F.round = none) (hn : 1 ≤ n) (Bs n0 cap : Nat) (ao : Option Addr) (zs : List Int) (hl : zs.length ≤ 17592186043904) (w : World) (hBl : Bs < w.heap.size) (hn0 : n0 ≤ w.heap.size)
    (hBs : w.cell? ⟨Bs, 0, none⟩ = some (.slice ao zs.length cap)) (hc : ∀ j, j < zs.length → ∃ b off, ao = some ⟨b, off, none⟩ ∧ b < n0 ∧ w.cell? ⟨b, off + j, none⟩ = some (.int .u64 (zs.getD j 0))) :
    SeqStopsK F n Try.prog 81 #[.pointer (some ⟨Bs, 0, none⟩)] (bkv zs) (KpB n0 Bs) (fun ys => ys = List.range zs.length) (fun _ => True) zs.length w := fun l J Jx W hW _ _ hY h0 =>
  bk1_in F n hf hro hn l Bs n0 cap ao zs hl J Jx hY W ((hW.cell (p := ⟨Bs, 0, none⟩) hBl).trans hBs) (fun j hj => by
    obtain ⟨b, off, e, hb, hcell⟩ := hc j hj
    exact ⟨b, off, e, hb, (hW.cell (p := ⟨b, off + j, none⟩) (by exact Nat.lt_of_lt_of_le hb hn0)).trans hcell⟩) h0

set_option maxHeartbeats 400000 in
theorem back_in (F : Fence) (n : Nat) (hf : F.fn 68) (hro : F.round = none) (ao : Option Addr) (len cap : Nat) (w : World) :
    CallsIn F n Try.prog 68 #[.slice ao len cap] w fun e w' => e = .returned (.func (.func 81) #[] #[.pointer (some ⟨w.heap.size, 0, none⟩)]) ∧ w' = w.alloc (.cells #[.slice ao len cap] 26) := by
  refine callsIn_of_wp Try.func68 rfl hf ?_ hro
  simp only [Try.ntmps68, List.size_toArray, List.length_cons, List.length_nil, Nat.reduceAdd, Nat.reduceSub, Array.replicate_succ, Array.replicate_zero, List.push_toArray, List.append_toArray, List.nil_append, List.cons_append]
  gi_wp2
  go_ret
  exact ⟨rfl, rfl⟩

/-- What the walk from the end on has made when so many rounds are over. -/
def bst (p : Int) (l : List Int) (s : List Int × Int) (k : Nat) : List Int × Int := (s.1.set (l.length - 1 - k) (mul p (co s.1 (l.length - 1 - k)) s.2), mul p s.2 (co l (l.length - 1 - k)))
def bfo (p : Int) (l A : List Int) (pre : List Nat) : List Int × Int := pre.foldl (bst p l) (A, 1)
theorem bfo_snoc (p : Int) (l A : List Int) (pre : List Nat) (k : Nat) : bfo p l A (pre ++ [k]) = bst p l (bfo p l A pre) k := by simp [bfo, List.foldl_append]
theorem bst_facts {p : Int} (hp : 0 < p) {l : List Int} : ∀ (pre : List Nat) (s : List Int × Int) (m : Nat), Els p s.1 → s.1.length = m → El p s.2 → Els p (pre.foldl (bst p l) s).1 ∧ (pre.foldl (bst p l) s).1.length = m ∧ El p (pre.foldl (bst p l) s).2 := by
  intro pre
  induction pre with
  | nil => intro s m h1 h2 h3; exact ⟨h1, h2, h3⟩
  | cons k pre ih =>
    intro s m h1 h2 h3
    refine ih _ m (fun x hx => ?_) (by show (s.1.set _ _).length = m; rw [List.length_set]; exact h2) (mul_el hp)
    rcases List.mem_or_eq_of_mem_set hx with h | h
    · exact h1 x h
    · rw [h]; exact mul_el hp
theorem bfo_facts {p : Int} {wd : Bool} (hm : Md p wd) {l A : List Int} (hA : Els p A) (pre : List Nat) : Els p (bfo p l A pre).1 ∧ (bfo p l A pre).1.length = A.length ∧ El p (bfo p l A pre).2 := by
  have hb := hm.bounds
  exact bst_facts (by omega) pre (A, 1) A.length hA rfl (show El p 1 from ⟨by decide, by omega⟩)
theorem bfo_range {p : Int} {wd : Bool} (hm : Md p wd) {l A : List Int} (hl : A.length = l.length) : ∀ k, k ≤ l.length → (bfo p l A (List.range k)).1 = mk l.length (fun j => if l.length - k ≤ j then mul p (co A j) (pd p (l.drop (j + 1))) else co A j) ∧ (bfo p l A (List.range k)).2 = pd p (l.drop (l.length - k)) := by
  intro k
  induction k with
  | zero =>
    intro _
    constructor
    · show A = _
      apply ext_co
      · rw [mk_len, hl]
      · intro i hi
        rw [co_mk, if_pos (by omega), if_neg (by omega)]
    · show (1 : Int) = _
      rw [Nat.sub_zero, List.drop_length]; rfl
  | succ k ih =>
    intro hk
    obtain ⟨h1, h2⟩ := ih (by omega)
    obtain ⟨i, hi⟩ : ∃ i, i + k + 1 = l.length := ⟨l.length - 1 - k, by omega⟩
    have e1 : l.length - 1 - k = i := by omega
    have e2 : l.length - k = i + 1 := by omega
    have e3 : l.length - (k + 1) = i := by omega
    rw [List.range_succ, bfo_snoc]
    unfold bst
    rw [e1, h2, e2, e3, h1, e2]
    constructor
    · apply ext_co
      · rw [List.length_set, mk_len, mk_len]
      · intro j hj
        rw [List.length_set, mk_len] at hj
        rw [co_set _ _ _ _ (by rw [mk_len]; omega), co_mk, co_mk, co_mk, if_pos hj, if_pos (show i < l.length by omega), if_pos hj]
        by_cases hji : j = i
        · subst hji
          rw [if_pos rfl, if_neg (by omega), if_pos (Nat.le_refl _)]
        · rw [if_neg hji]
          by_cases h : i + 1 ≤ j
          · rw [if_pos h, if_pos (by omega)]
          · rw [if_neg h, if_neg (by omega)]
    · exact (pd_behind hm (by omega)).symm
theorem bfo_end {p : Int} {wd : Bool} (hm : Md p wd) (l : List Int) : (bfo p l (mk l.length (fun j => pd p (l.take j))) (List.range l.length)).1 = mk l.length (ot p l) := by
  rw [(bfo_range hm (mk_len _ _) l.length (Nat.le_refl _)).1]
  apply ext_co
  · rw [mk_len, mk_len]
  · intro j hj
    rw [mk_len] at hj
    rw [co_mk, co_mk, co_mk, if_pos hj, if_pos hj, if_pos hj, if_pos (by omega)]
    rfl

theorem setCell_heap_far (W : World) (a : Addr) (v : Value) {b : Nat} (h : a.block ≠ b) : (W.setCell a v).heap[b]? = W.heap[b]? := by
  exact Below.heap_setCell W _ _ _ (fun e => h e.symm)
/-- A region that draws its order, in a round: as outside of one, where nothing is deferred. -/
def noDefer (ops : Array Oper) : Bool := ops.toList.all (fun o => match o.op with | .defer _ => false | _ => true)
theorem oper_round {P : Program} {l m : Nat} {o : Oper} {a : Act} {W : World} {K : Act → World → Prop} {Q : Exit → Act → World → Prop} (hd : ∀ c, o.op ≠ .defer c) (h : o.wp P a W K Q) : o.wpIn (Fence.wide.inRound l) m P a W K Q := by
  refine ⟨fun _ _ => trivial, ?_⟩
  have e : o.semAt (Fence.wide.inRound l).round a.eval = execOp a.eval o := Oper.semAt_eq _ _ _ hd
  rw [e]
  unfold Oper.wp at h
  generalize (execOp a.eval o).run P W = r at *
  cases r with
  | ok x w' =>
    cases x <;> simp only [Oper.upon] at h <;> simp only [Oper.uponIn]
    case value v => exact h
    case skip => exact h
    case defer d => exact h
    case enter f args => exact ⟨fun hc => by simp [Fence.inRound, Fence.wide] at hc, CallsIn.inRound l (callsIn_wide.2 h)⟩
    case row r args => exact ⟨fun hc => by simp [Fence.inRound, Fence.wide] at hc, fun c cs _ => let ⟨v, w2, r1, r2⟩ := h c cs; ⟨v, w2, r1, stepsIn_wide.2 r2⟩⟩
  | halt x w' => cases x <;> simp only [Oper.upon] at h <;> simp only [Oper.uponIn] <;> exact h
theorem any_round {P : Program} {l m : Nat} {md : Region.Mode} {ops : Array Oper} {Q : Exit → Act → World → Prop} (hd : noDefer ops = true) (hlo : ¬ LetsOut Q) : ∀ (fuel : Nat) (listed : Array Bool) (a : Act) (W : World), wpAny P md ops Q fuel listed a W → wpAnyIn (Fence.wide.inRound l) m P md ops Q fuel listed a W := by
  intro fuel
  induction fuel with
  | zero => intro listed a W h; exact h
  | succ fuel ih =>
    intro listed a W h
    refine ⟨h.1, fun i hi => ?_⟩
    have h2 := h.2 i hi
    unfold wpOp at h2
    unfold wpOpIn
    cases ho : ops[i]? with
    | none => rw [ho] at h2; exact ih _ _ _ h2
    | some o =>
      rw [ho] at h2
      have hno : ∀ c, o.op ≠ .defer c := fun c hc => by
        have hm : o ∈ ops.toList := by
          obtain ⟨hlt, e⟩ := Array.getElem?_eq_some_iff.1 ho
          rw [← e]; exact Array.getElem_mem_toList hlt
        have := List.all_eq_true.1 hd o hm
        rw [hc] at this; cases this
      simp only at h2 ⊢
      split
      · rename_i hw
        rw [if_pos hw] at h2
        exact Oper.wpIn_mono (fun a' w' h' => ih _ a' w' h') (oper_round hno (h2.resolve_right fun hc => hlo hc.2))
      · rename_i hw
        rw [if_neg hw] at h2
        exact ⟨fun _ _ => trivial, ih _ _ _ h2⟩
/-- Where the end is the ordinary one. -/
def onlyN (K : Act → World → Prop) : Exit → Act → World → Prop
  | .normal, a, w => K a w
  | _, _, _ => False
theorem region_round {P : Program} {l m id : Nat} {ops : Array Oper} {Q : Exit → Act → World → Prop} {a : Act} {W : World} {S : World → Prop} (hm : P.follows .mixedOrders = true) (hd : noDefer ops = true) (hS : S W.drew)
    (h : S W.drew → wpAnyH P .any ops (onlyN (Q .normal)) S ops.size (Array.replicate ops.size false) a W.drew) : (Code.region id ops true).wpIn (Fence.wide.inRound l) m P Q a W :=
  wpIn_mono (wpIn_region_any hm (any_round hd (fun ⟨_, _, hc⟩ => hc) _ _ _ _ (wpAny_of_held _ _ _ _ (h hS)))) (fun e a w h => by
    cases e <;> first | exact h | exact h.elim)

/-- What others holds in memory: the field, the list that is being filled, the product of what is behind. -/
structure Oth (w W : World) (f : Int) (n g bp bh sz : Nat) (ys : List Int) (b : Int) : Prop where
  big : sz ≤ W.heap.size
  fb : W.cell? ⟨w.heap.size, 0, none⟩ = some (.int .u8 f)
  pb : W.cell? ⟨bp, 0, none⟩ = some (.slice (some ⟨g, 0, none⟩) n n)
  bb : W.cell? ⟨bh, 0, none⟩ = some (.int .u64 b)
  bf : W.frozen? ⟨bh, 0, none⟩ = false
  row : Ow W g n ys
  below : Below w.heap.size w W
theorem cell_lt {W : World} {a : Addr} {v : Value} (h : W.cell? a = some v) : a.block < W.heap.size := by
  obtain ⟨o, ho, _⟩ := cells_of_cell h
  exact (Array.getElem?_eq_some_iff.1 ho).1
theorem Oth.after {w W W' : World} {f : Int} {n g bp bh sz : Nat} {ys : List Int} {b : Int} (h : Oth w W f n g bp bh sz ys b) (hb : Below W.heap.size W W') : Oth w W' f n g bp bh sz ys b :=
  ⟨Nat.le_trans h.big hb.size, (hb.cell (cell_lt h.fb)).trans h.fb, (hb.cell (cell_lt h.pb)).trans h.pb, (hb.cell (cell_lt h.bb)).trans h.bb, (World.frozen?_of_block (hb.block _ (cell_lt h.bb))).trans h.bf, h.row.below hb, Below.next h.below hb⟩
theorem cell_other {W : World} {b g k j : Nat} {x : Value} (h : b ≠ g) : (W.setCell ⟨g, k, none⟩ x).cell? ⟨b, j, none⟩ = W.cell? ⟨b, j, none⟩ := World.cell?_setCell_far W _ _ _ (Ne.symm h)
theorem Oth.put {w W : World} {f : Int} {n g bp bh sz : Nat} {ys : List Int} {b : Int} (h : Oth w W f n g bp bh sz ys b) (h1 : g ≠ w.heap.size) (h2 : g ≠ bp) (h3 : g ≠ bh) (h4 : w.heap.size ≤ g) (k : Nat) (x : Int) : Oth w (W.setCell ⟨g, k, none⟩ (.int .u64 x)) f n g bp bh sz (ys.set k x) b :=
  ⟨by simpa using h.big, (cell_other (Ne.symm h1)).trans h.fb, (cell_other (Ne.symm h2)).trans h.pb, (cell_other (Ne.symm h3)).trans h.bb, by rw [World.frozen?_setCell]; exact h.bf, h.row.set k x, h.below.setCell (p := ⟨g, k, none⟩) h4 _⟩
theorem Oth.putB {w W : World} {f : Int} {n g bp bh sz : Nat} {ys : List Int} {b : Int} (h : Oth w W f n g bp bh sz ys b) (h1 : bh ≠ w.heap.size) (h2 : bh ≠ bp) (h3 : g ≠ bh) (h4 : w.heap.size ≤ bh) (x : Int) : Oth w (W.setCell ⟨bh, 0, none⟩ (.int .u64 x)) f n g bp bh sz ys x :=
  ⟨by simpa using h.big, (cell_other (Ne.symm h1)).trans h.fb, (cell_other (Ne.symm h2)).trans h.pb, World.cell?_setCell_same' _ _ _ (by rw [h.bb]; rfl), by rw [World.frozen?_setCell]; exact h.bf, own_other (g := bh) (k := 0) (u := .int .u64 x) h.row (by simp [Value.ownBlock]; exact h3), h.below.setCell (p := ⟨bh, 0, none⟩) h4 _⟩
theorem oth_own {β : Type} {w : World} {f : Int} {n g bp bh sz B : Nat} (F : β → List Int) (G : β → Int) (hB : w.heap.size ≤ B) : OwnFrom B (fun (s : β) W => Oth w W f n g bp bh sz (F s) (G s)) := fun s W W' row h hg hr => by
  have hr2 : ∀ r, row = some r → ∃ o : Obj, W.heap[r]? = some o ∧ o.isCells = false := fun r e => (hr r e).2
  refine ⟨Nat.le_trans h.big hg.size, cell_kept h.fb hg hr2, cell_kept h.pb hg hr2, cell_kept h.bb hg hr2, (frozen_kept h.bb hg hr2).trans h.bf, h.row.kept hg (.inr fun e => ?_), h.below.grown hg h.below.size (fun k e => Nat.le_trans hB (hr k e).1)⟩
  obtain ⟨o, ho, hc⟩ := hr2 g (by rw [← e]; rfl)
  have := own_block h.row
  rw [this] at ho
  injection ho with ho
  rw [← ho] at hc
  cases hc

set_option maxRecDepth 100000 in
set_option maxHeartbeats 200000 in
theorem ipOthers (f p : Int) (wd : Bool) (v : Value) (l : List Int) (w : World) (h : Fi f p wd) (h1 : Rw w v l) (he : Els p l) (hl : l.length ≤ 512) :
    Calls Try.prog 57 #[.int .u8 f, v] w fun e w' => ∃ v', e = .returned v' ∧ w'.ownsRow w.heap.size 25 1 v' l.length (vals (mk l.length (ot p l))) ∧ Below w.heap.size w w' := by
  obtain ⟨i0, hi0, hz0, hz1, hz2⟩ := info_parts u64_info
  have HT := hide (fun W a b (ha : El p a) (hb : El p b) => ipTimes f p a b wd W h ha hb)
  have hp0 := h.pos
  have HE := hide he
  have HM := hide h.md
  obtain ⟨⟨ao, cap, rfl, hlen, hw, hc⟩, _⟩ := h1
  have HC : Hid (∀ W, Below w.heap.size w W → ∀ j, j < l.length → ∃ b off, ao = some ⟨b, off, none⟩ ∧ b < w.heap.size ∧ W.cell? ⟨b, off + j, none⟩ = some (.int .u64 (l.getD j 0))) := fun W hb j hj => by
    obtain ⟨b, off, e, h2, h3⟩ := hc (by intro e; rw [e] at hj; simp at hj)
    exact ⟨b, off, e, h2, (hb.cell (p := ⟨b, off + j, none⟩) h2).trans (h3 j hj)⟩
  have HA := hide (fun k (hk : k < l.length) => pd_ahead HM.out he hk)
  have HP := hide (fun k => pd_el HM.out (l.take k))
  obtain ⟨n, HN⟩ : ∃ n, Hid (l.length = n) := ⟨_, rfl⟩
  have hlen : n ≤ 512 := by rw [← HN.out]; exact hl
  clear hc hw h he hl
  refine (callsIn_wide (n := 5)).1 ?_
  refine callsIn_of_wp_marks Try.func57 rfl trivial ?_ rfl
  simp only [Try.ntmps57, List.size_toArray, List.length_cons, List.length_nil, Nat.reduceAdd, Nat.reduceSub, Array.replicate_succ, Array.replicate_zero, List.push_toArray, List.append_toArray, List.nil_append, List.cons_append]
  refine wpIn_wide.2 ?_
  rw [HN.out] at HC HA ⊢
  go_wp2_with (at_make; refine wpList_make_full _ rfl _ _ 26 rfl (w.heap.size + 1) 25 i0 (.int .u64 0) 1 Try.underlying26 hi0 hz0 hz1 .i64 .i64 _ _ n rfl rfl (by omega) (by omega) (by rw [hz2]; omega) (by unfold maxLen; omega) (by simp) ?_; intro w2 hown hgrow)
  have hsz := hgrow.size
  rw [World.size_alloc] at hsz
  have hO0 := own_made hown
  rw [World.size_alloc] at hO0
  have hgt := own_top hO0 (w.heap.size + 1) rfl
  have hB2 : Below w.heap.size w w2 := Below.next (alloc_below w _) (below_grown_none hgrow)
  have hf2 : w2.cell? ⟨w.heap.size, 0, none⟩ = some (.int .u8 f) := ((below_grown_none hgrow).cell (p := ⟨w.heap.size, 0, none⟩) (by simp)).trans (by simp [go_sem])
  obtain ⟨o2, HO2⟩ : ∃ o2, Hid (o2 = Obj.cells #[Value.slice (some ⟨w.heap.size + 1, 0, none⟩) n n] 26) := ⟨_, rfl⟩
  obtain ⟨o3, HO3⟩ : ∃ o3, Hid (o3 = Obj.cells #[Value.int .u64 1] 25) := ⟨_, rfl⟩
  rw [← HO2.out, ← HO3.out]
  have a1 := alloc_below w2 o2
  have a2 := alloc_below (w2.alloc o2) o3
  obtain ⟨g, Hg⟩ : ∃ g, Hid (w.heap.size + 1 = g) := ⟨_, rfl⟩
  obtain ⟨bp, Hbp⟩ : ∃ bp, Hid (w2.heap.size = bp) := ⟨_, rfl⟩
  have hS : Oth w ((w2.alloc o2).alloc o3) f n g bp (bp + 1) 0 (List.replicate n 0) 1 := by
    have hg := Hg.out
    have hbp := Hbp.out
    subst hg hbp
    refine ⟨Nat.zero_le _, ?_, ?_, ?_, ?_, own_below (own_below hO0 a1) a2, Below.next (Below.next hB2 a1) a2⟩
    · rw [a2.cell (p := ⟨w.heap.size, 0, none⟩) (by simp; omega), a1.cell (p := ⟨w.heap.size, 0, none⟩) (by show w.heap.size < w2.heap.size; omega)]; exact hf2
    · rw [a2.cell (p := ⟨w2.heap.size, 0, none⟩) (by simp), HO2.out]; simp [go_sem]
    · rw [HO3.out]
      have : (w2.alloc o2).heap.size = w2.heap.size + 1 := by simp
      rw [← this]; simp [go_sem]
    · rw [HO3.out]
      have : (w2.alloc o2).heap.size = w2.heap.size + 1 := by simp
      rw [← this]; simp [go_sem]
  have hgb : g < bp := by rw [← Hg.out, ← Hbp.out]; exact hgt
  have hwg : w.heap.size < g := by rw [← Hg.out]; omega
  have hs3 : bp + 1 < ((w2.alloc o2).alloc o3).heap.size := by rw [← Hbp.out]; simp
  rw [Hg.out, Hbp.out]
  have HS := hide hS
  generalize (w2.alloc o2).alloc o3 = w3 at *
  clear hown hgrow hO0 hf2 a1 a2 hS hB2 hsz hgt HO2 HO3
  go_loopw [6, 17] (fun va vi wr => ∃ (k : Nat) (ys : List Int), k ≤ n ∧ vi = .int .i64 k ∧ va = .int .u64 (pd p (l.take k)) ∧ ys.length = n ∧ Hid (∀ j, j < k → co ys j = pd p (l.take j)) ∧ Hid (Oth w wr f n g bp (bp + 1) 0 ys 1)) (fun _ vi _ => n - (intOf vi).toNat)
  case atStart => exact ⟨0, List.replicate n 0, Nat.zero_le _, rfl, rfl, by simp, fun j hj => by omega, HS⟩
  case round =>
    clear HS
    obtain ⟨k, ys, hk, rfl, rfl, hyl, HY, HS⟩ := hrel
    by_cases hlt : k < n
    · obtain ⟨b, off, rfl, hbl, hck⟩ := HC.out wr HS.out.below k hlt
      have hel : El p (l.getD k 0) := HE.out.co hp0 k
      have HA2 := hide (HA.out k hlt)
      have hpe := HP.out k
      have hfb := HS.out.fb
      have hpb := HS.out.pb
      have hrc := HS.out.row.cell k hlt
      have hrf := HS.out.row.free k
      have HS1 := hide (HS.out.put (by omega) (by omega) (by omega) (by omega) k (pd p (l.take k)))
      have hT := hide (fun W => HT.out W _ _ hpe hel)
      have HY2 := hide (fill_step (F := fun j => pd p (l.take j)) HY.out (by omega) (rfl : _ = pd p (l.take k)))
      have hfb1 := HS1.out.fb
      have HA2 : Hid (mul p (pd p (l.take k)) (l.getD k 0) = pd p (l.take (k + 1))) := HA2.out.symm
      rw [HA2.out] at hT
      obtain ⟨ah2, HAh⟩ : ∃ ah2, Hid (pd p (l.take (k + 1)) = ah2) := ⟨_, rfl⟩
      rw [HAh.out] at hT
      clear HA2 hel hpe HY HC
      generalize l.getD k 0 = a at *
      generalize pd p (l.take k) = ah at *
      go_wp2_with (go_at_call 59; refine (hT.out _).mono ?_; rintro e w4 ⟨rfl, hb4⟩)
      have HS2 := hide (HS1.out.after hb4)
      go_roundw
      case rel => exact ⟨k + 1, _, by omega, by go_num, by rw [HAh.out], by simpa using hyl, HY2, HS2⟩
      case measure => simp [intOf]; omega
    · obtain rfl : k = n := by omega
      have HYE : Hid (ys = mk k (fun j => pd p (l.take j))) := fill_end HY.out hyl
      rw [HYE.out] at HS
      have HBk := hide ((callsIn_wide (n := 1)).1 (back_in Fence.wide 1 trivial rfl ao k cap wr))
      clear HY HYE HA HP hyl
      go_wp2_with (go_at_call 68; refine HBk.out.mono ?_; rintro e w5 ⟨rfl, hw5⟩)
      have hal := alloc_below wr (.cells #[Value.slice ao k cap] 26)
      have HS5 : Hid (Oth w (wr.alloc (.cells #[Value.slice ao k cap] 26)) f k g bp (bp + 1) (wr.heap.size + 1) (mk k (fun j => pd p (l.take j))) 1) := { HS.out.after hal with big := by simp }
      have hwr := HS.out.below.size
      have hbpl := cell_lt HS.out.pb
      have hbhl := cell_lt HS.out.bb
      have hseq := bk_stops Fence.wide 4 trivial rfl (by omega) wr.heap.size w.heap.size cap ao l (by omega) (wr.alloc (.cells #[Value.slice ao k cap] 26)) (by simp) (by simp; omega) (by rw [HN.out]; simp [go_sem]) (by rw [HN.out]; exact HC.out _ HS5.out.below)
      rw [HN.out] at hseq
      have HA0 : Hid (Els p (mk k (fun j => pd p (l.take j)))) := Els.mk _ (fun j _ => pd_el HM.out _)
      refine (wpIn_wide (n := 5)).1 ?_
      refine wpIn_rangeFunc_ownG rfl (by omega) (gf := 81) (lb := #[.pointer (some ⟨wr.heap.size, 0, none⟩)]) rfl trivial (enters_of Try.func81 (by kernel_rfl) rfl)
        hseq KpB.trans (KpB.turn (by simp; omega) (by simp)) (Below.refl _ _) (fun _ => rfl)
        (fun pre W => Oth w W f k g bp (bp + 1) (wr.heap.size + 1) (bfo p l (mk k (fun j => pd p (l.take j))) pre).1 (bfo p l (mk k (fun j => pd p (l.take j))) pre).2)
        (fun _ _ _ => False)
        (oth_own (fun pre => (bfo p l (mk k (fun j => pd p (l.take j))) pre).1) (fun pre => (bfo p l (mk k (fun j => pd p (l.take j))) pre).2) (by simp; omega))
        (fun _ _ _ _ _ hs _ _ => hs)
        HS5.out
        (fun x => { tmps := #[.int .u8 f, .slice ao k cap, .pointer (some ⟨w.heap.size, 0, none⟩), undef, .slice none 0 0, .pointer (some ⟨bp, 0, none⟩), .int .u64 (pd p (l.take k)), .pointer (some ⟨bp + 1, 0, none⟩), u8, u9, .int .i64 ((l.length - 1 - x : Nat) : Int), .int .u64 (l.getD (l.length - 1 - x) 0), .slice ao k cap, .int .i64 k, .slice (some ⟨g, 0, none⟩) k k, .slice ao k cap, .int .i64 k, .int .i64 k, .bool false, u19, u20, u21, u22, u23, u24, u25, u26, u27, u28, u29, u30, .slice ao k cap, .func (.func 81) #[] #[.pointer (some ⟨wr.heap.size, 0, none⟩)], .int .i64 ((l.length - 1 - x : Nat) : Int), .int .u64 (l.getD (l.length - 1 - x) 0), undef, undef, undef, undef, undef, undef, undef, undef, undef, undef, undef, undef, undef, undef, undef], defers := [] }) ?assign ?body ?done ?stop
      case assign =>
        intro L x W K hK
        unfold bkv
        gi_wp2
        exact hK
      case body =>
        intro L pre x W hI hlt
        obtain ⟨b1, b2, b3⟩ := bfo_facts HM.out HA0.out (l := l) pre
        rw [mk_len] at b2
        rw [HN.out]
        obtain ⟨i, HI⟩ : ∃ i, Hid (k - 1 - x = i) := ⟨_, rfl⟩
        have hik : i < k := by rw [← HI.out]; omega
        have HF : Hid ((bfo p l (mk k (fun j => pd p (l.take j))) (pre ++ [x])).1 = (bfo p l (mk k (fun j => pd p (l.take j))) pre).1.set i (mul p (co (bfo p l (mk k (fun j => pd p (l.take j))) pre).1 i) (bfo p l (mk k (fun j => pd p (l.take j))) pre).2) ∧ (bfo p l (mk k (fun j => pd p (l.take j))) (pre ++ [x])).2 = mul p (bfo p l (mk k (fun j => pd p (l.take j))) pre).2 (co l i)) := by
          rw [bfo_snoc]
          unfold bst
          rw [HN.out, HI.out]
          exact ⟨rfl, rfl⟩
        have HQ : Hid (∀ W', KeepsFrom (wr.alloc (Obj.cells #[Value.slice ao k cap] 26)).heap.size W W' → KpB w.heap.size wr.heap.size W W' → Oth w W' f k g bp (bp + 1) (wr.heap.size + 1) ((bfo p l (mk k (fun j => pd p (l.take j))) pre).1.set i (mul p (co (bfo p l (mk k (fun j => pd p (l.take j))) pre).1 i) (bfo p l (mk k (fun j => pd p (l.take j))) pre).2)) (mul p (bfo p l (mk k (fun j => pd p (l.take j))) pre).2 (co l i)) → ∀ a', ownPostG (wr.alloc (Obj.cells #[Value.slice ao k cap] 26)).heap.size (KpB w.heap.size wr.heap.size) (fun pre W => Oth w W f k g bp (bp + 1) (wr.heap.size + 1) (bfo p l (mk k (fun j => pd p (l.take j))) pre).1 (bfo p l (mk k (fun j => pd p (l.take j))) pre).2) (fun _ _ _ => False) (pre ++ [x]) W .normal a' W') := fun W' k1 k2 k3 a' => ⟨k1, k2, by show Oth _ _ _ _ _ _ _ _ _ _; rw [HF.out.1, HF.out.2]; exact k3⟩
        rw [HI.out]
        have hai : El p (co l i) := HE.out.co hp0 i
        have hyi : El p (co (bfo p l (mk k (fun j => pd p (l.take j))) pre).1 i) := b1.co hp0 i
        change (_ : Code).wpIn _ _ _ _ _ _
        generalize ownPostG (wr.alloc (Obj.cells #[Value.slice ao k cap] 26)).heap.size (KpB w.heap.size wr.heap.size) (fun pre W => Oth w W f k g bp (bp + 1) (wr.heap.size + 1) (bfo p l (mk k (fun j => pd p (l.take j))) pre).1 (bfo p l (mk k (fun j => pd p (l.take j))) pre).2) (fun _ _ _ => False) (pre ++ [x]) W = QQ at HQ ⊢
        generalize (bfo p l (mk k (fun j => pd p (l.take j))) pre).1 = ys at *
        generalize (bfo p l (mk k (fun j => pd p (l.take j))) pre).2 = bh at *
        obtain ⟨y, Hy⟩ : ∃ y, Hid (co ys i = y) := ⟨_, rfl⟩
        obtain ⟨a, Ha⟩ : ∃ a, Hid (co l i = a) := ⟨_, rfl⟩
        have HS := hide hI
        have c1 := hI.fb
        have c2 := hI.pb
        have c3 := hI.bb
        have c4 : W.cell? ⟨g, i, none⟩ = some (.int .u64 y) := by rw [← Hy.out]; exact hI.row.cell i hik
        have ea : l.getD i 0 = a := Ha.out
        rw [Hy.out] at HQ hyi
        rw [Ha.out] at HQ hai
        rw [ea]
        have hT1 := hide (fun W' => HT.out W' y bh hyi b3)
        have hT2 := hide (fun W' => HT.out W' bh a b3 hai)
        obtain ⟨m1, Hm1⟩ : ∃ m1, Hid (mul p y bh = m1) := ⟨_, rfl⟩
        obtain ⟨m2, Hm2⟩ : ∃ m2, Hid (mul p bh a = m2) := ⟨_, rfl⟩
        rw [Hm1.out] at HQ hT1
        rw [Hm2.out] at HQ hT2
        dsimp only
        clear hI ea
        have hik2 : (i : Int) < (k : Int) := by omega
        have hmx : Try.prog.follows .mixedOrders = true := by kernel_rfl
        gi_wp2
        refine region_round (S := fun W' => W'.cell? ⟨bp, 0, none⟩ = some (.slice (some ⟨g, 0, none⟩) k k) ∧ W'.cell? ⟨w.heap.size, 0, none⟩ = some (.int .u8 f) ∧ W'.cell? ⟨bp + 1, 0, none⟩ = some (.int .u64 bh)) hmx (by kernel_rfl) ⟨c2, c1, c3⟩ (fun hH => ?_)
        refine wpAnyH_take (i := 0) (v := .slice (some ⟨g, 0, none⟩) k k) rfl (by kernel_rfl) (by kernel_rfl) (by kernel_rfl) (fun _ _ _ h => h) (Or.inl ⟨by rfl, fun W' hs => by obtain ⟨s1, s2, s3⟩ := hs; go_simp⟩) hH ?_
        simp only [Act.put, List.getElem_toArray, List.getElem_cons_succ, List.getElem_cons_zero, List.setIfInBounds_toArray, List.set_cons_zero, List.set_cons_succ]
        refine wpAnyH_take (i := 1) (v := .int .i64 i) rfl (by kernel_rfl) (by kernel_rfl) (by kernel_rfl) (fun _ _ _ h => h) (Or.inl ⟨by rfl, fun W' hs => by obtain ⟨s1, s2, s3⟩ := hs; go_simp⟩) hH ?_
        simp only [Act.put, List.getElem_toArray, List.getElem_cons_succ, List.getElem_cons_zero, List.setIfInBounds_toArray, List.set_cons_zero, List.set_cons_succ]
        refine wpAnyH_take (i := 2) (v := .int .u8 f) rfl (by kernel_rfl) (by kernel_rfl) (by kernel_rfl) (fun _ _ _ h => h) (Or.inl ⟨by rfl, fun W' hs => by obtain ⟨s1, s2, s3⟩ := hs; go_simp⟩) hH ?_
        simp only [Act.put, List.getElem_toArray, List.getElem_cons_succ, List.getElem_cons_zero, List.setIfInBounds_toArray, List.set_cons_zero, List.set_cons_succ]
        refine wpAnyH_take (i := 3) (v := .slice (some ⟨g, 0, none⟩) k k) rfl (by kernel_rfl) (by kernel_rfl) (by kernel_rfl) (fun _ _ _ h => h) (Or.inl ⟨by rfl, fun W' hs => by obtain ⟨s1, s2, s3⟩ := hs; go_simp⟩) hH ?_
        simp only [Act.put, List.getElem_toArray, List.getElem_cons_succ, List.getElem_cons_zero, List.setIfInBounds_toArray, List.set_cons_zero, List.set_cons_succ]
        refine wpAnyH_take (i := 4) (v := .int .i64 i) rfl (by kernel_rfl) (by kernel_rfl) (by kernel_rfl) (fun _ _ _ h => h) (Or.inl ⟨by rfl, fun W' hs => by obtain ⟨s1, s2, s3⟩ := hs; go_simp⟩) hH ?_
        simp only [Act.put, List.getElem_toArray, List.getElem_cons_succ, List.getElem_cons_zero, List.setIfInBounds_toArray, List.set_cons_zero, List.set_cons_succ]
        refine wpAnyH_take (i := 5) (v := .pointer (some ⟨g, i, none⟩)) rfl (by kernel_rfl) (by kernel_rfl) (by kernel_rfl) (fun _ _ _ h => h) (Or.inl ⟨by rfl, fun W' hs => by obtain ⟨s1, s2, s3⟩ := hs; go_simp⟩) hH ?_
        simp only [Act.put, List.getElem_toArray, List.getElem_cons_succ, List.getElem_cons_zero, List.setIfInBounds_toArray, List.set_cons_zero, List.set_cons_succ]
        refine wpAnyH_take (i := 7) (v := .int .u64 bh) rfl (by kernel_rfl) (by kernel_rfl) (by kernel_rfl) (fun _ _ _ h => h) (Or.inl ⟨by rfl, fun W' hs => by obtain ⟨s1, s2, s3⟩ := hs; go_simp⟩) hH ?_
        simp only [Act.put, List.getElem_toArray, List.getElem_cons_succ, List.getElem_cons_zero, List.setIfInBounds_toArray, List.set_cons_zero, List.set_cons_succ]
        refine wpAnyH_ready (rs := [6]) (by kernel_rfl) (by simp) ?_
        refine AllReadyH.cons rfl (fun K hK => ?_) AllReadyH.nil
        go_simp
        refine hK.out _ _ hH (fun hH => ?_)
        clear hK K
        refine wpAnyH_ready (rs := [8]) (by kernel_rfl) (by simp) ?_
        refine AllReadyH.cons rfl (fun K hK => ?_) AllReadyH.nil
        go_simp
        refine (hT1.out _).mono ?_
        rintro e W4 ⟨rfl, hb4⟩
        have hB4 := Below.next (Below.refl W.heap.size W).drew hb4
        have HS4 := hide (HS.out.after hB4)
        have d1 := HS4.out.row.cell i hik
        have d2 := HS4.out.row.free i
        dsimp only
        refine hK.out _ _ ⟨HS4.out.pb, HS4.out.fb, HS4.out.bb⟩ (fun hH => ?_)
        clear hK K
        refine wpAnyH_ready (rs := [9]) (by kernel_rfl) (by simp) ?_
        refine AllReadyH.cons rfl (fun K hK => ?_) AllReadyH.nil
        go_simp
        refine hK.out _ _ hH (fun hH => ?_)
        clear hK K
        refine wpAnyH_ready (rs := [10]) (by kernel_rfl) (by simp) ?_
        refine AllReadyH.cons rfl (fun K hK => ?_) AllReadyH.nil
        go_simp
        have HS5 := hide (HS4.out.put (by omega) (by omega) (by omega) (by omega) i m1)
        refine hK.out _ _ ⟨HS5.out.pb, HS5.out.fb, HS5.out.bb⟩ (fun hH => ?_)
        clear hK K
        refine wpAnyH_done (by kernel_rfl) ?_ _
        have hK5 : KeepsFrom (wr.alloc (Obj.cells #[Value.slice ao k cap] 26)).heap.size W (W4.setCell ⟨g, i, none⟩ (.int .u64 m1)) := by
          refine KeepsFrom.trans ⟨hB4.size, fun j o _ hj _ => (hB4.block j (Array.getElem?_eq_some_iff.1 hj).1).trans hj⟩ ((KeepsOthers.setCell _ _ _).from _)
        have hP5 : KpB w.heap.size wr.heap.size W (W4.setCell ⟨g, i, none⟩ (.int .u64 m1)) := by
          refine ⟨(hB4.mono HS.out.below.size).setCell (p := ⟨g, i, none⟩) (show w.heap.size ≤ g by omega) _, ?_⟩
          have : (W4.setCell ⟨g, i, none⟩ (.int .u64 m1)).heap[wr.heap.size]? = W4.heap[wr.heap.size]? := setCell_heap_far W4 _ _ (by show g ≠ wr.heap.size; omega)
          rw [this]
          exact hB4.block _ (by have := HS.out.big; omega)
        have e1 := HS5.out.fb
        have e2 := HS5.out.bb
        have e3 := HS5.out.bf
        unfold onlyN
        dsimp only
        clear d1 d2 c1 c2 c3 c4 hb4 HS4 HS hH hmx
        generalize W4.setCell ⟨g, i, none⟩ (.int .u64 m1) = W5 at *
        gi_wp2_with (refine ⟨trivial, ?_⟩; gi_at_call 59; refine (CallsIn.inRound L (callsIn_wide.2 (hT2.out _))).mono ?_; rintro e W6 ⟨rfl, hb6⟩; have HS6 := hide (HS5.out.after hb6); have f1 := HS6.out.bb; have f2 := HS6.out.bf)
        have h6 := HS5.out.below.size
        have h7 := HS5.out.big
        refine HQ.out _ ?_ ?_ (HS6.out.putB (by omega) (by omega) (by omega) (by omega) m2) _
        · exact hK5.trans (KeepsFrom.trans ⟨hb6.size, fun j o _ hj _ => (hb6.block j (Array.getElem?_eq_some_iff.1 hj).1).trans hj⟩ ((KeepsOthers.setCell _ _ _).from _))
        · refine hP5.trans ⟨(hb6.mono h6).setCell (p := ⟨bp + 1, 0, none⟩) (show w.heap.size ≤ bp + 1 by omega) _, ?_⟩
          rw [setCell_heap_far W6 _ _ (show bp + 1 ≠ wr.heap.size by omega)]
          exact hb6.block _ (by omega)
      case done =>
        rintro D zs W hD rfl hI hK
        have HRow := hI.row
        rw [show k = l.length from HN.out.symm, bfo_end HM.out] at HRow
        have HRw := hide HRow
        rw [HN.out] at HRw
        have c2 := hI.pb
        have hBW := hI.below
        have hD2 : wr.heap.size + 1 ≤ D := by simpa using hD
        have hDw : w.heap.size ≤ D := by omega
        clear hI HRow
        go_wp2
        refine ⟨by simp, .inl ⟨_, _, rfl, run_takeDeferred hK, ?_⟩⟩
        exact ⟨_, results_tmp rfl _ _ _, _, rfl, own_mono (ownsRow_putObj HRw.out _ hK rfl) (show w.heap.size ≤ g by omega), hBW.trans (belowK_b (w := w) (Nat.le_refl _) W D _ _ hDw hK rfl rfl)⟩
      case stop =>
        rintro D c pre W _ _ hx _
        exact hx.elim

end Go.Proofs.Ytifilgmjpflekaa
