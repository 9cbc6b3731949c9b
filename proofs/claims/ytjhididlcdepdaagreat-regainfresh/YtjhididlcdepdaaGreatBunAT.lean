import Derived.Test.YtjhididlcdepdaaGreatBunIB
import Derived.Test.YtjhididlcdepdaaGreatBunNA
import Derived.Test.YtjhididlcdepdaaGreatBRngA
import Derived.Deep.CutRange
set_option linter.unusedVariables false
set_option linter.unusedSimpArgs false
set_option maxRecDepth 100000
set_option maxHeartbeats 4000000
namespace Go.Proofs.YtjhididlcdepdaaGreat
open Go.RowKit Go.Shelf Fld
attribute [local go_sem] Oper.semAt_some
def pts (a : Int) (n : Nat) : List Int := (List.range n).map (fun (i : Nat) => a + (i : Int))
theorem pts_len (a : Int) (n : Nat) : (pts a n).length = n := by simp [pts]
theorem pts_succ (a : Int) (n : Nat) : pts a (n + 1) = pts a n ++ [a + n] := by simp [pts, List.range_succ]
theorem pts_at (a : Int) {n i : Nat} (h : i < n) : (pts a n).getD i 0 = a + i := by
 simp [pts, List.getD_eq_getElem?_getD, h]
theorem pts_mem {a x : Int} {n : Nat} : x ∈ pts a n ↔ a <= x ∧ x < a + n := by
 simp only [pts, List.mem_map, List.mem_range]
 constructor
 · rintro ⟨i, hi, rfl⟩; omega
 · rintro ⟨h1, h2⟩; exact ⟨(x - a).toNat, by omega, by omega⟩
def KpR (bf : Nat) (W W' : World) : Prop := W'.heap[bf]? = W.heap[bf]?
theorem KpR.trans {bf : Nat} {A B C : World} (h : KpR bf A B) (k : KpR bf B C) : KpR bf A C := Eq.trans k h
theorem KpR.turn {bf : Nat} {w : World} (hB : bf < w.heap.size) (W : World) (l : Nat) (o o' : Obj) (hl : w.heap.size <= l) (h : W.heap[l]? = some o) (h1 : o.isCells = false) (h2 : o.isWalk = false) : KpR bf W (W.putObj l o') :=
 World.putObj_heap_other (by omega)
def rnv (a : Int) (k : Nat) : Array Value := #[.int .u64 (a + k)]
theorem rn1_in (F : Fence) (n : Nat) (hf : F.fn 121) (hro : F.round = none) (hn : 1 <= n) (l bn bf : Nat) (a : Int) (N : Nat) (ha : 0 <= a) (haN : a + N <= 1000) (J Jx : List Nat -> World -> Prop)
 (hY : ∀ pre x W, J pre W -> pre.length < N -> YieldAt F (n - 1) Tryz.prog l (rnv a x) W fun e W' =>
  (e = .returned (.bool true) ∧ J (pre ++ [x]) W' ∧ KpR bf W W') ∨ (e = .returned (.bool false) ∧ Jx (pre ++ [x]) W'))
 (W : World) (hbn : W.cell? ⟨bn, 0, none⟩ = some (.int .i64 N)) (hbf : W.cell? ⟨bf, 0, none⟩ = some (.int .i64 a)) (h0 : J [] W) :
 CallsIn F n Tryz.prog 121 #[.func (.yield l) #[] #[], .pointer (some ⟨bn, 0, none⟩), .pointer (some ⟨bf, 0, none⟩)] W fun e W' => (∃ v, e = .returned v) ∧
  ((∃ ys, ys = List.range N ∧ J ys W') ∨ (∃ pre, True ∧ Jx pre W')) := by
 refine callsIn_of_wp Tryz.func121 rfl hf ?_ hro
 simp only [Tryz.ntmps121, List.size_toArray, List.length_cons, List.length_nil, Nat.reduceAdd, Nat.reduceSub, Array.replicate_succ, Array.replicate_zero, List.push_toArray, List.append_toArray, List.nil_append, List.cons_append]
 have HY := hide hY
 clear hY
 gi_wp2
 gi_loopw [6] (fun vi wr => ∃ k : Nat, k <= N ∧ vi = .int .i64 (k : Int) ∧ J (List.range k) wr ∧ KpR bf W wr) (fun vi _ => N - (intOf vi).toNat)
 case atStart => exact ⟨0, Nat.zero_le _, by simp, h0, rfl⟩
 case round =>
  obtain ⟨k, hk, rfl, hJs, hnx⟩ := hrel
  have hbf2 := (cell_of_heap (k := 0) hnx).trans hbf
  by_cases hlt : k < N
  · obtain ⟨fn, tmps, assign, body, hy, hR⟩ := HY.out (List.range k) k wr hJs (by rw [List.length_range]; exact hlt)
    unfold rnv at hy
    have hge : (0 : Int) <= (k : Int) := by omega
    have hltI : (k : Int) < (N : Int) := by omega
    gi_wp2
    refine hR.mono ?_
    rintro e W3 (⟨rfl, hJ3, hk3⟩ | ⟨rfl, hJx3⟩)
    · rw [<- List.range_succ] at hJ3
      have hnx3 := hnx.trans hk3
      gi_wp2
      go_roundw
      case rel => exact ⟨k + 1, by omega, by go_num, hJ3, hnx3⟩
      case measure => simp [intOf]; omega
    · gi_wp2
      refine bodyPost_ret (results_none rfl _ _ _) rfl ?_
      exact ⟨⟨_, rfl⟩, .inr ⟨_, trivial, hJx3⟩⟩
  · obtain rfl : k = N := by omega
    gi_wp2
    go_end0
    exact ⟨⟨_, rfl⟩, .inl ⟨_, rfl, hJs⟩⟩
theorem rn_stops (F : Fence) (n : Nat) (hf : F.fn 121) (hro : F.round = none) (hn : 1 <= n) (bn bf : Nat) (a : Int) (N : Nat) (ha : 0 <= a) (haN : a + N <= 1000) (w : World)
 (hbn : w.cell? ⟨bn, 0, none⟩ = some (.int .i64 N)) (hbf : w.cell? ⟨bf, 0, none⟩ = some (.int .i64 a)) :
 SeqStopsK F n Tryz.prog 121 #[.pointer (some ⟨bn, 0, none⟩), .pointer (some ⟨bf, 0, none⟩)] (rnv a) (KpR bf) (fun ys => ys = List.range N) (fun _ => True) N w := fun l J Jx W hW _ _ hY h0 =>
 rn1_in F n hf hro hn l bn bf a N ha haN J Jx hY W ((hW.cell (cell_lt hbn)).trans hbn) ((hW.cell (cell_lt hbf)).trans hbf) h0
theorem gRun (a n : Int) (w : World) : Calls Tryz.prog 91 #[.int .i64 a, .int .i64 n] w fun e w' => ∃ bn bf, e = .returned (.func (.func 121) #[] #[.pointer (some ⟨bn, 0, none⟩), .pointer (some ⟨bf, 0, none⟩)]) ∧ w'.heap[bn]? = some (.cells #[.int .i64 n] 3 (0, 0)) ∧ w'.heap[bf]? = some (.cells #[.int .i64 a] 3 (0, 0)) ∧ Below w.heap.size w w' := by
 have e1 : (w.alloc (.cells #[.int .i64 a] 3)).heap.size = w.heap.size + 1 := by simp
 have c1 := heap_alloc_last w (.cells #[.int .i64 a] 3)
 have c2 := heap_alloc_last (w.alloc (.cells #[.int .i64 a] 3)) (.cells #[.int .i64 n] 3)
 have c1 := ((alloc_below (w.alloc (.cells #[.int .i64 a] 3)) (.cells #[.int .i64 n] 3)).block _ (by omega)).trans c1
 rw [e1] at c2
 have hB := Below.next (alloc_below w (.cells #[.int .i64 a] 3)) (alloc_below (w.alloc (.cells #[.int .i64 a] 3)) (.cells #[.int .i64 n] 3))
 go_enter Tryz.func91, Tryz.ntmps91
 go_wp2
 go_ret
 exact ⟨_, _, rfl, c2, c1, hB⟩
attribute [local go_sem] Oper.semAt_some
structure Lsd (w W : World) (base B bf sz : Nat) (a : Int) (ys : List Int) : Prop where
 big : sz <= W.heap.size
 box : ∃ ao cap, W.heap[B]? = some (.cells #[.slice ao ys.length cap] 36 (0, 0)) ∧ W.ownsRow base 64 1 (.slice ao ys.length cap) ys.length (vals ys)
 fst : W.heap[bf]? = some (.cells #[.int .i64 a] 3 (0, 0))
 below : Below base w W
theorem lsd_own {β : Type} {w : World} {base B bf sz L : Nat} {a : Int} (F : β -> List Int) (hB : base <= L) (hs : base <= sz) : OwnFrom L (fun (s : β) W => Lsd w W base B bf sz a (F s)) := fun s W W' row h hg hr => by
 have hr2 : ∀ r, row = some r -> ∃ o : Obj, W.heap[r]? = some o ∧ o.isCells = false := fun r e => (hr r e).2
 obtain ⟨ao, cap, h1, h2⟩ := h.box
 exact ⟨Nat.le_trans h.big hg.size, ⟨ao, cap, blk_kept h1 hg hr2, own_left h2 hg hr2⟩, blk_kept h.fst hg hr2, h.below.grown hg (Nat.le_trans hs h.big) (fun k e => Nat.le_trans hB (hr k e).1)⟩
def mpt (a : Int) (pre : List Nat) : List Int := pre.map (fun (i : Nat) => a + (i : Int))
theorem mpt_range (a : Int) (n : Nat) : mpt a (List.range n) = pts a n := rfl
theorem mpt_snoc (a : Int) (pre : List Nat) (x : Nat) : mpt a (pre ++ [x]) = mpt a pre ++ [a + (x : Int)] := by simp [mpt]
theorem mpt_len (a : Int) (pre : List Nat) : (mpt a pre).length = pre.length := by simp [mpt]
theorem Lsd.app {w W w3 : World} {base B bf sz : Nat} {a x : Int} {ys : List Int} {ao : Option Addr} {cap : Nat} {v' : Value} (h : Lsd w W base B bf sz a ys) (hs : base <= sz) (hBb : base <= B)
 (h1 : W.heap[B]? = some (.cells #[.slice ao ys.length cap] 36 (0, 0))) (h2 : W.ownsRow base 64 1 (.slice ao ys.length cap) ys.length (vals ys))
 (hown : w3.ownsRow base 64 1 v' (ys.length + 1) (vals ys ++ [.int .u64 x])) (hg : (W.alloc (.cells #[.int .u64 x] 64)).grownBy w3 (Value.slice ao ys.length cap).ownBlock) :
 w3.heap[B]? = some (.cells #[.slice ao ys.length cap] 36 (0, 0)) ∧ Lsd w (w3.setCell ⟨B, 0, none⟩ v') base B bf sz a (ys ++ [x]) ∧ KeepsFrom sz W (w3.setCell ⟨B, 0, none⟩ v') ∧ KpR bf W (w3.setCell ⟨B, 0, none⟩ v') := by
 have hab := alloc_below W (.cells #[.int .u64 x] 64)
 have hBl := (Array.getElem?_eq_some_iff.1 h1).1
 have hFl := (Array.getElem?_eq_some_iff.1 h.fst).1
 have hO2 := own_below h2 hab
 have hB1 := (hab.block B hBl).trans h1
 have hF1 := (hab.block bf hFl).trans h.fst
 have hBne : (Value.slice ao ys.length cap).ownBlock ≠ some B := own_apart hO2 hB1 (by decide)
 have hFne : (Value.slice ao ys.length cap).ownBlock ≠ some bf := own_apart hO2 hF1 (by decide)
 have hB3 := (hg.block B (Array.getElem?_eq_some_iff.1 hB1).1 (fun e => hBne e.symm)).trans hB1
 have hF3 := (hg.block bf (Array.getElem?_eq_some_iff.1 hF1).1 (fun e => hFne e.symm)).trans hF1
 have hBF : B ≠ bf := fun e => by rw [e, hF3] at hB3; cases hB3
 have hv3 : v'.ownBlock ≠ some B := own_apart hown hB3 (by decide)
 obtain ⟨a3, c3, rfl⟩ := own_form hown
 have hl : (ys ++ [x]).length = ys.length + 1 := by simp
 have hsz3 := hg.size
 rw [World.size_alloc] at hsz3
 have hsz4 : (w3.setCell ⟨B, 0, none⟩ (.slice a3 (ys.length + 1) c3)).heap.size = w3.heap.size := by simp [World.setCell]
 have hF4 : (w3.setCell ⟨B, 0, none⟩ (.slice a3 (ys.length + 1) c3)).heap[bf]? = w3.heap[bf]? := Below.heap_setCell _ _ _ bf (fun e => hBF e.symm)
 refine ⟨hB3, ⟨?_, ⟨a3, c3, ?_, ?_⟩, hF4.trans hF3, ?_⟩, ?_, ?_⟩
 · rw [hsz4]; have := h.big; omega
 · rw [hl]
   have := set_blk hB3 0 (.slice a3 (ys.length + 1) c3)
   rw [this]; rfl
 · rw [hl, show vals (ys ++ [x]) = vals ys ++ [.int .u64 x] by simp [vals]]
   exact own_other hown hv3
 · have hb2 : Below base w (W.alloc (.cells #[.int .u64 x] 64)) := h.below.alloc (Nat.le_trans hs h.big) _
   have hb3 : Below base w w3 := hb2.grown hg (by have := h.big; simp; omega) (fun k e => own_base hO2 k e)
   exact below_set hb3 hBb
 · refine KeepsFrom.trans ((KeepsOthers.alloc W _).from _) (KeepsFrom.trans ((KeepsOthers.of_grownBy hg ?_).from _) ((KeepsOthers.setCell _ _ _).from _))
   intro j o hj ho
   rcases hO2.2 with ⟨e, _⟩ | ⟨g1, c1, u1, e, _, k1, _⟩
   · rw [e] at hj; simp [Value.ownBlock] at hj
   · rw [e] at hj; simp [Value.ownBlock] at hj
     subst hj
     rw [k1] at ho
     cases ho
     rfl
 · exact hF4.trans (hF3.trans h.fst.symm)
theorem gListed (base : Nat) (v : Value) (xs : List Int) (bn bf : Nat) (a : Int) (N : Nat) (w : World) (hO : w.ownsRow base 64 1 v xs.length (vals xs)) (hb : base <= w.heap.size) (hn : w.heap[bn]? = some (.cells #[.int .i64 N] 3 (0, 0))) (hf : w.heap[bf]? = some (.cells #[.int .i64 a] 3 (0, 0))) (ha : 0 <= a) (haN : a + N <= 1000) (hx : xs.length <= 1000) :
 Calls Tryz.prog 60 #[v, .func (.func 121) #[] #[.pointer (some ⟨bn, 0, none⟩), .pointer (some ⟨bf, 0, none⟩)]] w fun e w' => ∃ v', e = .returned v' ∧ w'.ownsRow base 64 1 v' (xs ++ pts a N).length (vals (xs ++ pts a N)) ∧ Below base w w' := by
 obtain ⟨i0, hi0, hz0, hz1, hz2⟩ := info_parts u64_info
 obtain ⟨ao, cap, rfl⟩ := own_form hO
 have al := alloc_below w (.cells #[Value.slice ao xs.length cap] 36)
 have hnl := (Array.getElem?_eq_some_iff.1 hn).1
 have hfl := (Array.getElem?_eq_some_iff.1 hf).1
 have hn1 := (al.block bn hnl).trans hn
 have hf1 := (al.block bf hfl).trans hf
 have hS : Lsd w (w.alloc (.cells #[Value.slice ao xs.length cap] 36)) base w.heap.size bf (w.heap.size + 1) a xs := ⟨by simp, ⟨ao, cap, heap_alloc_last w _, own_below hO al⟩, hf1, al.mono hb⟩
 have hseq := rn_stops Fence.wide 4 trivial rfl (by omega) bn bf a N ha haN (w.alloc (.cells #[Value.slice ao xs.length cap] 36)) (box_cell hn1).1 (box_cell hf1).1
 refine (callsIn_wide (n := 5)).1 ?_
 refine callsIn_of_wp_marks Tryz.func60 rfl trivial ?_ rfl
 simp only [Tryz.ntmps60, List.size_toArray, List.length_cons, List.length_nil, Nat.reduceAdd, Nat.reduceSub, Array.replicate_succ, Array.replicate_zero, List.push_toArray, List.append_toArray, List.nil_append, List.cons_append]
 refine wpIn_wide.2 ?_
 go_wp2
 refine (wpIn_wide (n := 5)).1 ?_
 refine wpIn_rangeFunc_ownG rfl (by omega) (gf := 121) (lb := #[.pointer (some ⟨bn, 0, none⟩), .pointer (some ⟨bf, 0, none⟩)]) rfl trivial (enters_of Tryz.func121 (by kernel_rfl) rfl)
  hseq KpR.trans (KpR.turn (by simp; omega)) (Below.refl _ _) (fun _ => rfl)
  (fun pre W => Lsd w W base w.heap.size bf (w.heap.size + 1) a (xs ++ mpt a pre))
  (fun _ _ _ => False)
  (lsd_own (fun pre => xs ++ mpt a pre) (by simp; omega) (by omega))
  (fun _ _ _ _ _ hs _ _ => hs)
  (by simpa [mpt] using hS)
  (fun x => { tmps := #[.slice ao xs.length cap, .func (.func 121) #[] #[.pointer (some ⟨bn, 0, none⟩), .pointer (some ⟨bf, 0, none⟩)], .pointer (some ⟨w.heap.size, 0, none⟩), undef, .slice none 0 0, .int .u64 (a + (x : Int)), .func (.func 121) #[] #[.pointer (some ⟨bn, 0, none⟩), .pointer (some ⟨bf, 0, none⟩)], .int .u64 (a + (x : Int)), undef, undef, undef, undef, undef], defers := [] }) ?assign ?body ?done ?stop
 case assign =>
  intro L x W K hK
  unfold rnv
  gi_wp2
  exact hK
 case body =>
  intro L pre x W hI hlt
  have HX : Hid (xs ++ mpt a (pre ++ [x]) = (xs ++ mpt a pre) ++ [a + (x : Int)]) := by show _ = _; rw [mpt_snoc, List.append_assoc]
  have hyl : (xs ++ mpt a pre).length <= 2000 := by rw [List.length_append, mpt_len]; omega
  have HQ : Hid (∀ W', KeepsFrom (w.alloc (.cells #[Value.slice ao xs.length cap] 36)).heap.size W W' -> KpR bf W W' -> Lsd w W' base w.heap.size bf (w.heap.size + 1) a ((xs ++ mpt a pre) ++ [a + (x : Int)]) -> ∀ a', ownPostG (w.alloc (.cells #[Value.slice ao xs.length cap] 36)).heap.size (KpR bf) (fun pre W => Lsd w W base w.heap.size bf (w.heap.size + 1) a (xs ++ mpt a pre)) (fun _ _ _ => False) (pre ++ [x]) W .normal a' W') := fun W' k1 k2 k3 a' => ⟨k1, k2, by show Lsd _ _ _ _ _ _ _ _; rw [HX.out]; exact k3⟩
  change (_ : Code).wpIn _ _ _ _ _ _
  generalize ownPostG (w.alloc (.cells #[Value.slice ao xs.length cap] 36)).heap.size (KpR bf) (fun pre W => Lsd w W base w.heap.size bf (w.heap.size + 1) a (xs ++ mpt a pre)) (fun _ _ _ => False) (pre ++ [x]) W = QQ at HQ ⊢
  rw [World.size_alloc] at HQ
  clear HX hseq
  generalize xs ++ mpt a pre = ys at *
  obtain ⟨ao2, cap2, h1, h2⟩ := hI.box
  obtain ⟨c1, c2⟩ := box_cell h1
  have HI := hide hI
  have hWs : base <= W.heap.size := by have := hI.big; omega
  have H1 := hide h1
  have H2 := hide h2
  generalize hy : ys.length = ly at *
  clear hI h1 h2
  gi_wp2_with (gi_at_builtin; refine wpListIn_append_own _ rfl _ _ 36 rfl base 64 i0 (.int .u64 0) 1 8 Tryz.underlying36 hi0 hz0 hz1 hz2 rfl (by decide) _ ly (vals ys) rfl (own_below H2.out (alloc_below W _)) ⟨W.heap.size, 0, none⟩ 1 1 [.int .u64 (a + (x : Int))] rfl rfl (cell_one_new _ _ _) (by simp [Value.oneCell']) (by unfold maxLen; omega) (by omega) (by simp; omega) ?_; intro v' w3 hown3 hg3 hnil3; clear hnil3; obtain ⟨hB3, hL3, hK3, hP3⟩ := HI.out.app (ao := ao2) (cap := cap2) (by omega) (by omega) (by rw [hy]; exact H1.out) (by rw [hy]; exact H2.out) (by rw [hy]; exact hown3) (by rw [hy]; exact hg3); obtain ⟨a3, k3, rfl⟩ := own_form hown3; obtain ⟨d1, d2⟩ := box_cell hB3)
  exact HQ.out _ hK3 hP3 hL3 _
 case done =>
  rintro D zs W hD rfl hI hK
  rw [mpt_range] at hI
  obtain ⟨ao2, cap2, h1, h2⟩ := hI.box
  obtain ⟨c1, c2⟩ := box_cell h1
  have hBW := hI.below
  have hD2 : w.heap.size + 1 <= D := by simpa using hD
  have hbig := hI.big
  have HO := hide h2
  clear hI h1 h2
  obtain ⟨m, HM⟩ : ∃ m, Hid ((xs ++ pts a N).length = m) := ⟨_, rfl⟩
  rw [HM.out] at c1 HO
  go_wp2
  refine ⟨by simp, .inl ⟨_, _, rfl, run_takeDeferred hK, ?_⟩⟩
  exact ⟨_, results_tmp rfl _ _ _, _, rfl, by rw [HM.out]; exact ownsRow_putObj HO.out _ hK rfl, hBW.trans (belowK_b (w := w) hb W D _ _ (by omega) hK rfl rfl)⟩
 case stop =>
  rintro D c pre W _ _ hx _
  exact hx.elim
end Go.Proofs.YtjhididlcdepdaaGreat
namespace Go.Proofs.YtjhididlcdepdaaGreat
open Go.RowKit Fld Pln
def Rnn (w : World) (v : Value) (a n : Int) : Prop := ∃ bn bf, v = .func (.func 121) #[] #[.pointer (some ⟨bn, 0, none⟩), .pointer (some ⟨bf, 0, none⟩)] ∧ w.heap[bn]? = some (.cells #[.int .i64 n] 3 (0, 0)) ∧ w.heap[bf]? = some (.cells #[.int .i64 a] 3 (0, 0))
theorem gListed_rnn (base : Nat) (v u : Value) (xs : List Int) (a n : Int) (w : World) (hr : Rnn w u a n) (hn : 0 <= n) (hO : w.ownsRow base 64 1 v xs.length (vals xs)) (hb : base <= w.heap.size) (ha : 0 <= a) (haN : a + n <= 1000) (hx : xs.length <= 1000) :
 Calls Tryz.prog 60 #[v, u] w fun e w' => ∃ v', e = .returned v' ∧ w'.ownsRow base 64 1 v' (xs ++ pts a n.toNat).length (vals (xs ++ pts a n.toNat)) ∧ Below base w w' := by
 obtain ⟨bn, bf, rfl, h1, h2⟩ := hr
 have e : ((n.toNat : Nat) : Int) = n := by omega
 exact gListed base v xs bn bf a n.toNat w hO hb (by rw [e]; exact h1) h2 ha (by rw [e]; exact haN) hx
theorem gListed_nil (u : Value) (a n : Int) (w : World) (hr : Rnn w u a n) (hn : 0 <= n) (ha : 0 <= a) (haN : a + n <= 1000) :
 Calls Tryz.prog 60 #[.slice none 0 0, u] w fun e w' => ∃ v', e = .returned v' ∧ w'.ownsRow w.heap.size 64 1 v' (pts a n.toNat).length (vals (pts a n.toNat)) ∧ Below w.heap.size w w' := by
 have := gListed_rnn w.heap.size _ u [] a n w hr hn (World.ownsRow_nil _ _ _ _) (Nat.le_refl _) ha haN (by simp)
 simpa using this
theorem gOfData (p : Pn) (w : World) : Calls Tryz.prog 61 #[plv p] w fun e w' => ∃ v, e = .returned v ∧ Rnn w' v 0 p.k ∧ Below w.heap.size w w' := by
 have HR := hide (fun W => gRun 0 p.k W)
 obtain ⟨pb, hA⟩ := pb_box (w := w) p
 obtain ⟨c0, c1, c2, c3, c4, c5, c6, c7⟩ := pb.cells
 unfold plv plw at *
 go_enter Tryz.func61, Tryz.ntmps61
 go_wp2_with (go_at_call 91; refine (HR.out _).mono ?_; rintro e w1 ⟨bn, bf, rfl, h1, h2, hb1⟩)
 go_ret
 exact ⟨_, rfl, ⟨bn, bf, rfl, h1, h2⟩, Below.next hA hb1⟩
theorem gOfWorkers (p : Pn) (w : World) (h : mayP p = true) : Calls Tryz.prog 100 #[plv p] w fun e w' => ∃ v, e = .returned v ∧ Rnn w' v (p.k + p.t) p.n ∧ Below w.heap.size w w' := by
 have HR := hide (fun W => gRun (p.k + p.t) p.n W)
 obtain ⟨_, ⟨k0, k1⟩, ⟨t0, t1⟩, _⟩ := may_facts h
 obtain ⟨pb, hA⟩ := pb_box (w := w) p
 obtain ⟨c0, c1, c2, c3, c4, c5, c6, c7⟩ := pb.cells
 unfold plv plw at *
 clear h
 go_enter Tryz.func100, Tryz.ntmps100
 go_wp2_with (go_at_call 91; refine (HR.out _).mono ?_; rintro e w1 ⟨bn, bf, rfl, h1, h2, hb1⟩)
 go_ret
 exact ⟨_, rfl, ⟨bn, bf, rfl, h1, h2⟩, Below.next hA hb1⟩
def datL (p : Pn) : List Int := if mayP p = true then pts 0 p.k.toNat else []
def wrkL (p : Pn) : List Int := if mayP p = true then pts (p.k + p.t) p.n.toNat else []
theorem gData (p : Pn) (w : World) (h : Ok8p p) : Gives 28 #[plv p] w (datL p) (erP p) := by
 have HM := hide (gMay p h)
 obtain ⟨pb, hA⟩ := pb_box (w := w) p
 have HO := hide (fun W => gOfData p W)
 cases hm : mayP p with
 | false =>
  rw [hm] at HM
  rw [show datL p = [] by unfold datL; rw [hm]; rfl, erP_no hm]
  apply Gives.none
  clear hm h HO
  unfold plv plw at *
  go_enter Tryz.func28, Tryz.ntmps28
  go_wp2_with (go_at_call 43; refine (HM.out _).mono ?_; rintro e w1 ⟨rfl, hb1⟩)
  go_ret2
  exact ⟨rfl, Below.next hA hb1⟩
 | true =>
  rw [hm] at HM
  obtain ⟨_, ⟨k0, k1⟩, ⟨t0, t1⟩, _⟩ := may_facts hm
  rw [show datL p = pts 0 p.k.toNat from if_pos hm, erP_yes hm]
  have HL := hide (fun u W hr => gListed_nil u 0 p.k W hr (by omega) (by omega) (by omega))
  show Calls _ _ _ _ _
  generalize pts 0 p.k.toNat = zs at *
  clear hm h
  unfold plv plw at *
  go_enter Tryz.func28, Tryz.ntmps28
  go_wp2_with (first
   | (go_at_call 43; refine (HM.out _).mono ?_; rintro e w1 ⟨rfl, hb1⟩; obtain ⟨c0, c1, c2, c3, c4, c5, c6, c7⟩ := (pb.below hb1).cells; have hA1 := Below.next hA hb1)
   | (go_at_call 61; refine (HO.out _).mono ?_; rintro e w2 ⟨u, rfl, hr, hb2⟩; have hA2 := Below.next hA1 hb2)
   | (go_at_call 60; refine (HL.out _ _ hr).mono ?_; rintro e w3 ⟨v3, rfl, hO3, hb3⟩))
  go_ret2
  exact ⟨_, rfl, own_mono hO3 hA2.size, Below.next hA2 hb3⟩
theorem gWorkers (p : Pn) (w : World) (h : Ok8p p) : Gives 75 #[plv p] w (wrkL p) (erP p) := by
 have HM := hide (gMay p h)
 obtain ⟨pb, hA⟩ := pb_box (w := w) p
 cases hm : mayP p with
 | false =>
  rw [hm] at HM
  rw [show wrkL p = [] by unfold wrkL; rw [hm]; rfl, erP_no hm]
  apply Gives.none
  clear hm h
  unfold plv plw at *
  go_enter Tryz.func75, Tryz.ntmps75
  go_wp2_with (go_at_call 43; refine (HM.out _).mono ?_; rintro e w1 ⟨rfl, hb1⟩)
  go_ret2
  exact ⟨rfl, Below.next hA hb1⟩
 | true =>
  rw [hm] at HM
  obtain ⟨⟨n0, n1⟩, ⟨k0, k1⟩, ⟨t0, t1⟩, _⟩ := may_facts hm
  have HO := hide (fun W => gOfWorkers p W hm)
  rw [show wrkL p = pts (p.k + p.t) p.n.toNat from if_pos hm, erP_yes hm]
  have HL := hide (fun u W hr => gListed_nil u (p.k + p.t) p.n W hr (by omega) (by omega) (by omega))
  show Calls _ _ _ _ _
  generalize pts (p.k + p.t) p.n.toNat = zs at *
  clear hm h
  unfold plv plw at *
  go_enter Tryz.func75, Tryz.ntmps75
  go_wp2_with (first
   | (go_at_call 43; refine (HM.out _).mono ?_; rintro e w1 ⟨rfl, hb1⟩; obtain ⟨c0, c1, c2, c3, c4, c5, c6, c7⟩ := (pb.below hb1).cells; have hA1 := Below.next hA hb1)
   | (go_at_call 100; refine (HO.out _).mono ?_; rintro e w2 ⟨u, rfl, hr, hb2⟩; have hA2 := Below.next hA1 hb2)
   | (go_at_call 60; refine (HL.out _ _ hr).mono ?_; rintro e w3 ⟨v3, rfl, hO3, hb3⟩))
  go_ret2
  exact ⟨_, rfl, own_mono hO3 hA2.size, Below.next hA2 hb3⟩
def innL (p : Pn) : List Int := pts 0 (p.k + p.t).toNat
def outL (p : Pn) : List Int := pts (p.k + p.t) p.n.toNat
theorem may_field {p : Pn} (h : mayP p = true) : ∃ q wd, Fi p.f q wd := by
 have := (may_iff.1 h).1
 unfold fdB at this
 rw [Bool.or_eq_true] at this
 rcases this with h1 | h1
 · exact ⟨_, _, .inl ⟨by simpa using h1, rfl, rfl⟩⟩
 · exact ⟨_, _, .inr ⟨by simpa using h1, rfl, rfl⟩⟩
theorem pts_els {f q : Int} {wd : Bool} (h : Fi f q wd) {a : Int} {n : Nat} (ha : 0 <= a) (hn : a + n <= 1000) : Els q (pts a n) := fun x hx => by
 have := pts_mem.1 hx
 have := h.big
 exact ⟨by omega, by omega⟩
structure Rp where
 w : Int
 vs : List Int
def isW (p : Pn) (i : Int) : Bool := decide (0 <= i) && decide (i < p.n)
def asB (p : Pn) (n : Int) : Bool := mayP p && (decide (0 <= n) && decide (n <= 64))
def mrB (p : Pn) (n : Int) (r : Rp) : Bool := asB p n && (isW p r.w && (decide ((r.vs.length : Int) = n) && inF p.f r.vs))
def wks (l : List Rp) : List Int := l.map Rp.w
def rvE (p : Pn) (n : Int) (l : List Rp) : Int := if (asB p n && l.all (mrB p n)) = true then (if (wks l).Nodup then (if (l.length : Int) < need p then 7 else 0) else 6) else 2
def xsR (p : Pn) (l : List Rp) : List Int := l.map (fun r => p.k + p.t + r.w)
def ysR (o : Nat) (l : List Rp) : List Int := l.map (fun r => co r.vs o)
theorem xsR_len (p : Pn) (l : List Rp) : (xsR p l).length = l.length := by unfold xsR; rw [List.length_map]
theorem ysR_len (o : Nat) (l : List Rp) : (ysR o l).length = l.length := by unfold ysR; rw [List.length_map]
def nrp : Rp := ⟨0, []⟩
theorem co_mapR {α : Type} (g : α -> Int) (d : α) {l : List α} {i : Nat} (h : i < l.length) : co (l.map g) i = g (l.getD i d) := by
 rw [co_at (by rw [List.length_map]; exact h), List.getElem_map, List.getD_eq_getElem?_getD, List.getElem?_eq_getElem h]; rfl
theorem xsR_at (p : Pn) {l : List Rp} {i : Nat} (h : i < l.length) : co (xsR p l) i = p.k + p.t + (l.getD i nrp).w := co_mapR _ nrp h
theorem ysR_at (o : Nat) {l : List Rp} {i : Nat} (h : i < l.length) : co (ysR o l) i = co (l.getD i nrp).vs o := co_mapR _ nrp h
theorem getD_inR {l : List Rp} {i : Nat} (h : i < l.length) : l.getD i nrp ∈ l := by
 rw [List.getD_eq_getElem?_getD, List.getElem?_eq_getElem h]; exact List.getElem_mem h
theorem in_atR {l : List Rp} {r : Rp} (h : r ∈ l) : ∃ i, i < l.length ∧ l.getD i nrp = r := by
 obtain ⟨i, hi, rfl⟩ := List.mem_iff_getElem.1 h
 exact ⟨i, hi, by rw [List.getD_eq_getElem?_getD, List.getElem?_eq_getElem hi]; rfl⟩
theorem asB_iff {p : Pn} {n : Int} : asB p n = true ↔ mayP p = true ∧ 0 <= n ∧ n <= 64 := by
 unfold asB; rw [Bool.and_eq_true, Bool.and_eq_true, decide_eq_true_iff, decide_eq_true_iff]
theorem isW_iff {p : Pn} {i : Int} : isW p i = true ↔ 0 <= i ∧ i < p.n := by
 unfold isW; rw [Bool.and_eq_true, decide_eq_true_iff, decide_eq_true_iff]
theorem mrB_iff {p : Pn} {n : Int} {r : Rp} : mrB p n r = true ↔ asB p n = true ∧ (0 <= r.w ∧ r.w < p.n) ∧ (r.vs.length : Int) = n ∧ inF p.f r.vs = true := by
 unfold mrB; rw [Bool.and_eq_true, Bool.and_eq_true, Bool.and_eq_true, isW_iff, decide_eq_true_iff]
theorem rvE_zero {p : Pn} {n : Int} {l : List Rp} (h : rvE p n l = 0) : asB p n = true ∧ (∀ r ∈ l, mrB p n r = true) ∧ (wks l).Nodup ∧ need p <= l.length := by
 unfold rvE at h
 by_cases h1 : (asB p n && l.all (mrB p n)) = true
 · rw [if_pos h1] at h
   rw [Bool.and_eq_true, List.all_eq_true] at h1
   by_cases h2 : (wks l).Nodup
   · rw [if_pos h2] at h
     by_cases h3 : (l.length : Int) < need p
     · rw [if_pos h3] at h; exact absurd h (by decide)
     · exact ⟨h1.1, h1.2, h2, by omega⟩
   · rw [if_neg h2] at h; exact absurd h (by decide)
 · rw [if_neg h1] at h; exact absurd h (by decide)
theorem nodup_few {l : List Int} {n : Nat} (h : l.Nodup) (hb : ∀ x ∈ l, 0 <= x ∧ x < n) : l.length <= n := by
 have h1 : (l.map Int.toNat).Nodup := by
  refine List.pairwise_map.2 (h.imp_of_mem (fun {a b} ha hb' hab e => hab ?_))
  have := hb a ha
  have := hb b hb'
  omega
 have h2 := List.Nodup.length_le_of_subset h1 (l₂ := List.range n) (fun x hx => by
  obtain ⟨y, hy, rfl⟩ := List.mem_map.1 hx
  have := hb y hy
  exact List.mem_range.2 (by omega))
 rw [List.length_map, List.length_range] at h2
 exact h2
structure Rvf (p : Pn) (n : Int) (l : List Rp) (q : Int) (wd : Bool) : Prop where
 may : mayP p = true
 fld : Fi p.f q wd
 lo : 0 <= n
 hi : n <= 64
 wk : ∀ r ∈ l, 0 <= r.w ∧ r.w < p.n
 vl : ∀ r ∈ l, (r.vs.length : Int) = n ∧ Els q r.vs
 dif : (wks l).Nodup
 few : l.length <= 64
 nd : need p <= l.length
 xe : Els q (xsR p l)
 xn : (xsR p l).Nodup
 ye : ∀ o, Els q (ysR o l)
 dc : ∀ o, dcE p.f (xsR p l) (ysR o l) (dg p) p.e = 0
theorem co_els {q : Int} (h0 : 0 < q) {xs : List Int} (h : Els q xs) (i : Nat) : El q (co xs i) := by
 by_cases hi : i < xs.length
 · rw [co_at hi]; exact h _ (List.getElem_mem hi)
 · rw [co_out xs i (by omega)]; exact ⟨by omega, h0⟩
theorem rv_facts {p : Pn} {n : Int} {l : List Rp} (hw : ∀ r ∈ l, Wd r.vs) (h : rvE p n l = 0) : ∃ q wd, Rvf p n l q wd := by
 obtain ⟨h1, h2, h3, h4⟩ := rvE_zero h
 obtain ⟨hm, n0, n1⟩ := asB_iff.1 h1
 obtain ⟨q, wd, hf⟩ := may_field hm
 obtain ⟨⟨a0, a1⟩, ⟨k0, k1⟩, ⟨t0, t1⟩, _, ⟨e0, e1⟩, _⟩ := may_facts hm
 have hd := dg_bound hm
 have hk : ∀ r ∈ l, 0 <= r.w ∧ r.w < p.n := fun r hr => (mrB_iff.1 (h2 r hr)).2.1
 have hv : ∀ r ∈ l, (r.vs.length : Int) = n ∧ Els q r.vs := fun r hr => by
  obtain ⟨_, _, g1, g2⟩ := mrB_iff.1 (h2 r hr)
  rw [inF_yes hf] at g2
  exact ⟨g1, els_of g2 (hw r hr).2⟩
 have hq : 1000 < q := by have := hf.big; omega
 have hxe : Els q (xsR p l) := fun x hx => by
  obtain ⟨r, hr, rfl⟩ := List.mem_map.1 hx
  have := hk r hr
  exact ⟨by omega, by omega⟩
 have hxn : (xsR p l).Nodup := by
  refine List.pairwise_map.2 ((List.pairwise_map.1 h3).imp (fun {a b} hab e => hab ?_))
  omega
 have hye : ∀ o, Els q (ysR o l) := fun o x hx => by
  obtain ⟨r, hr, rfl⟩ := List.mem_map.1 hx
  exact co_els (by omega) (hv r hr).2 o
 have hfew : l.length <= 64 := by
  have := nodup_few (n := 64) h3 (fun x hx => by
   obtain ⟨r, hr, rfl⟩ := List.mem_map.1 hx
   have := hk r hr
   omega)
  unfold wks at this
  rw [List.length_map] at this
  exact this
 refine ⟨q, wd, hm, hf, n0, n1, hk, hv, h3, hfew, h4, hxe, hxn, hye, fun o => ?_⟩
 refine dcE_ok (by omega) ?_ ?_
 · rw [bad_end (by rw [inF_yes hf]; exact allIn_of hxe) (by rw [inF_yes hf]; exact allIn_of (hye o)) (by rw [xsR_len, ysR_len]) (by rw [xsR_len]; omega), if_pos hxn]
 · rw [xsR_len]; unfold need at h4; omega
noncomputable def pick (D : List Int -> Prop) : Option (List Int) := by
 classical exact if h : ∃ R, D R then some h.choose else none
noncomputable def dcP (p : Pn) (l : List Rp) (o : Nat) : Option (List Int) := pick (fun R => Dec (pOf p.f) (dg p + 1).toNat p.e.toNat (xsR p l) (ysR o l) R)
noncomputable def dcL (p : Pn) (l : List Rp) (o : Nat) : List Int := (dcP p l o).getD []
theorem dcP_some {p : Pn} {l : List Rp} {o : Nat} (h : (dcP p l o).isSome = true) : Dec (pOf p.f) (dg p + 1).toNat p.e.toNat (xsR p l) (ysR o l) (dcL p l o) := by
 unfold dcL
 unfold dcP pick at h ⊢
 split at h
 · rename_i hx
   rw [dif_pos hx]
   exact hx.choose_spec
 · cases h
theorem dcP_none {p : Pn} {l : List Rp} {o : Nat} (h : (dcP p l o).isSome = false) (R : List Int) : ¬ Dec (pOf p.f) (dg p + 1).toNat p.e.toNat (xsR p l) (ysR o l) R := fun hR => by
 unfold dcP pick at h
 rw [dif_pos ⟨R, hR⟩] at h
 cases h
theorem dcL_none {p : Pn} {l : List Rp} {o : Nat} (h : (dcP p l o).isSome = false) : dcL p l o = [] := by
 unfold dcL
 cases hc : dcP p l o with
 | none => rfl
 | some x => rw [hc] at h; cases h
theorem Rvf.only {p : Pn} {n : Int} {l : List Rp} {q : Int} {wd : Bool} (h : Rvf p n l q wd) {o : Nat} {R : List Int} (hR : Dec (pOf p.f) (dg p + 1).toNat p.e.toNat (xsR p l) (ysR o l) R) : (dcP p l o).isSome = true ∧ dcL p l o = R := by
 have h1 : (dcP p l o).isSome = true := by
  cases hc : (dcP p l o).isSome with
  | true => rfl
  | false => exact absurd hR (dcP_none hc R)
 refine ⟨h1, ?_⟩
 have h2 := dcP_some h1
 obtain ⟨_, _, _, _, _, _, _⟩ := may_facts h.may
 have hd := dg_bound h.may
 have hn := h.nd
 rw [pOf_eq h.fld] at hR h2
 exact Dec.only h.fld.md h.xe h.xn (by rw [xsR_len]; unfold need at hn; omega) h2 hR
theorem Rvf.told {p : Pn} {n : Int} {l : List Rp} {q : Int} {wd : Bool} (h : Rvf p n l q wd) {o : Nat} {P a : List Int} {k : Bool} (hD : Dcd p.f (xsR p l) (ysR o l) (dg p) p.e P a k) : (k = true ∧ (dcP p l o).isSome = true ∧ P = dcL p l o ∧ a = ofI (pOf p.f) (dcL p l o) (xsR p l) (ysR o l)) ∨ (k = false ∧ (dcP p l o).isSome = false ∧ P = [] ∧ a = []) := by
 rcases hD.2 (h.dc o) with ⟨h1, h2, h3⟩ | ⟨h1, h2, h3, h4⟩
 · obtain ⟨g1, g2⟩ := h.only h2
   exact .inl ⟨h1, g1, g2.symm, by rw [g2]; exact h3⟩
 · refine .inr ⟨h1, ?_, h2, h3⟩
   cases hc : (dcP p l o).isSome with
   | false => rfl
   | true => exact absurd (dcP_some hc) (h4 _)
def Wro (p : Pn) (l : List Rp) (n : Nat) (j : Nat) : Prop := ∃ o, o < n ∧ ∃ r, r ∈ l ∧ r.w = (j : Int) ∧ vl (pOf p.f) (p.k + p.t + r.w) (dcL p l o) ≠ co r.vs o
noncomputable def wrB (p : Pn) (l : List Rp) (n : Nat) (j : Nat) : Bool := by classical exact decide (Wro p l n j)
theorem wrB_iff {p : Pn} {l : List Rp} {n j : Nat} : wrB p l n j = true ↔ Wro p l n j := by unfold wrB; exact @decide_eq_true_iff _ (Classical.propDecidable _)
def mkd (b : Nat -> Bool) : List Int := ((List.range 64).filter b).map (fun (i : Nat) => (i : Int))
noncomputable def wrL (p : Pn) (l : List Rp) (n : Nat) : List Int := mkd (wrB p l n)
theorem wrB_mono {p : Pn} {l : List Rp} {n m j : Nat} (h : wrB p l n j = true) (hm : n <= m) : wrB p l m j = true := by
 obtain ⟨o, ho, h⟩ := wrB_iff.1 h
 exact wrB_iff.2 ⟨o, by omega, h⟩
theorem filter_mono {α : Type} {a b : α -> Bool} : ∀ (l : List α), (∀ x ∈ l, a x = true -> b x = true) -> (l.filter a).length <= (l.filter b).length
 | [], _ => Nat.le_refl _
 | x :: l, h => by
  have ih := filter_mono l (fun y hy => h y (List.mem_cons_of_mem _ hy))
  have h1 := h x List.mem_cons_self
  by_cases h2 : a x = true
  · simp [h2, h1 h2]; omega
  · by_cases h3 : b x = true <;> simp [h2, h3] <;> omega
theorem wrL_mono (p : Pn) (l : List Rp) {n m : Nat} (h : n <= m) : (wrL p l n).length <= (wrL p l m).length := by
 unfold wrL mkd
 rw [List.length_map, List.length_map]
 exact filter_mono _ (fun j _ hj => wrB_mono hj h)
theorem mkd_len (b : Nat -> Bool) : (mkd b).length <= 64 := by
 unfold mkd
 rw [List.length_map]
 have := List.length_filter_le b (List.range 64)
 rw [List.length_range] at this
 exact this
theorem wrB_zero (p : Pn) (l : List Rp) (j : Nat) : wrB p l 0 j = false := by
 cases h : wrB p l 0 j with
 | false => rfl
 | true => obtain ⟨o, ho, _⟩ := wrB_iff.1 h; omega
theorem wrB_next {p : Pn} {l : List Rp} {o j : Nat} : wrB p l (o + 1) j = true ↔ wrB p l o j = true ∨ ∃ i ∈ offp (pOf p.f) (dcL p l o) (xsR p l) (ysR o l), (l.getD i nrp).w = (j : Int) := by
 rw [wrB_iff, wrB_iff]
 constructor
 · rintro ⟨o', ho, r, hr, hj, hv⟩
   by_cases e : o' < o
   · exact .inl ⟨o', e, r, hr, hj, hv⟩
   · obtain rfl : o' = o := by omega
     obtain ⟨i, hi, rfl⟩ := in_atR hr
     refine .inr ⟨i, offp_mem.2 ⟨by rw [xsR_len]; exact hi, ?_⟩, hj⟩
     rw [xsR_at p hi, ysR_at o' hi]; exact hv
 · rintro (⟨o', ho, h⟩ | ⟨i, hi, hj⟩)
   · exact ⟨o', by omega, h⟩
   · obtain ⟨h1, h2⟩ := offp_mem.1 hi
     rw [xsR_len] at h1
     rw [xsR_at p h1, ysR_at o h1] at h2
     exact ⟨o, by omega, _, getD_inR h1, hj, h2⟩
def Fine (p : Pn) (l : List Rp) (n : Nat) : Prop := (∀ o, o < n -> (dcP p l o).isSome = true) ∧ ((wrL p l n).length : Int) <= p.e
noncomputable def fnB (p : Pn) (l : List Rp) (n : Nat) : Bool := by classical exact decide (Fine p l n)
theorem fnB_iff {p : Pn} {l : List Rp} {n : Nat} : fnB p l n = true ↔ Fine p l n := by unfold fnB; exact @decide_eq_true_iff _ (Classical.propDecidable _)
theorem fnB_no {p : Pn} {l : List Rp} {n : Nat} (h : ¬ Fine p l n) : fnB p l n = false := by
 cases hc : fnB p l n with
 | false => rfl
 | true => exact absurd (fnB_iff.1 hc) h
theorem Fine.less {p : Pn} {l : List Rp} {n m : Nat} (h : Fine p l m) (hn : n <= m) : Fine p l n :=
 ⟨fun o ho => h.1 o (by omega), by have := wrL_mono p l hn; have := h.2; omega⟩
theorem fine_zero {p : Pn} {l : List Rp} (h : 0 <= p.e) : Fine p l 0 := by
 refine ⟨fun o ho => by omega, ?_⟩
 have : wrL p l 0 = [] := by
  unfold wrL mkd
  rw [List.filter_eq_nil_iff.2 (fun j _ => by rw [wrB_zero]; decide)]
  rfl
 rw [this]; exact h
noncomputable def rcE (p : Pn) (n : Int) (l : List Rp) : Int := if rvE p n l = 0 then (if fnB p l n.toNat = true then 0 else 180) else rvE p n l
noncomputable def plL (p : Pn) (l : List Rp) (n : Nat) : List (List Int) := (List.range n).map (dcL p l)
noncomputable def rcP (p : Pn) (n : Int) (l : List Rp) : List (List Int) := if rcE p n l = 0 then plL p l n.toNat else []
def rwR (q : Int) (Ps : List (List Int)) (x : Int) : List Int := Ps.map (vl q x)
noncomputable def rcR (p : Pn) (n : Int) (l : List Rp) : List (List Int) := if rcE p n l = 0 then (datL p).map (rwR (pOf p.f) (plL p l n.toNat)) else []
noncomputable def rcW (p : Pn) (n : Int) (l : List Rp) : List Int := if rcE p n l = 0 then wrL p l n.toNat else []
theorem rcE_zero {p : Pn} {n : Int} {l : List Rp} (h : rcE p n l = 0) : rvE p n l = 0 ∧ Fine p l n.toNat := by
 unfold rcE at h
 by_cases h1 : rvE p n l = 0
 · rw [if_pos h1] at h
   refine ⟨h1, ?_⟩
   cases hc : fnB p l n.toNat with
   | true => exact fnB_iff.1 hc
   | false => rw [hc] at h; exact absurd h (by decide)
 · rw [if_neg h1] at h; exact absurd h h1
theorem rc_yes {p : Pn} {n : Int} {l : List Rp} (h : rvE p n l = 0) (hf : Fine p l n.toNat) : rcE p n l = 0 ∧ rcP p n l = plL p l n.toNat ∧ rcR p n l = (datL p).map (rwR (pOf p.f) (plL p l n.toNat)) ∧ rcW p n l = wrL p l n.toNat := by
 have e : rcE p n l = 0 := by unfold rcE; rw [if_pos h, if_pos (fnB_iff.2 hf)]
 exact ⟨e, if_pos e, if_pos e, if_pos e⟩
theorem rc_err {p : Pn} {n : Int} {l : List Rp} (h : rcE p n l ≠ 0) : rcP p n l = [] ∧ rcR p n l = [] ∧ rcW p n l = [] := ⟨if_neg h, if_neg h, if_neg h⟩
theorem rc_many {p : Pn} {n : Int} {l : List Rp} (h : rvE p n l = 0) (hf : ¬ Fine p l n.toNat) : rcE p n l = 180 := by
 unfold rcE; rw [if_pos h, fnB_no hf]; rfl
theorem rc_bad {p : Pn} {n : Int} {l : List Rp} (h : rvE p n l ≠ 0) : rcE p n l = rvE p n l := if_neg h
section turn
variable {p : Pn} {n : Int} {l l' : List Rp} (h : l.Perm l')
include h
end turn
end Go.Proofs.YtjhididlcdepdaaGreat
