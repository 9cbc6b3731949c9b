/-
  Layer 13: a list put together by an iterator over points (listed).
-/
import Derived.Test.YtifilgmjpflekaaBPntA
namespace Go.Proofs.Ytifilgmjpflekaa
open Go.RowKit Go.Shelf Fld
set_option linter.unusedVariables false
set_option linter.unusedSimpArgs false
attribute [local go_sem] Oper.semAt_some

theorem own_apart {W : World} {base s n b : Nat} {T T' : TypeId} {v : Value} {xs : List Value} {cs : Array Value} {fz : Nat × Nat} (h : W.ownsRow base T s v n xs) (hb : W.heap[b]? = some (.cells cs T' fz)) (hT : T' ≠ T) : v.ownBlock ≠ some b := by
  rcases h.2 with ⟨rfl, _⟩ | ⟨g, cap, cur, rfl, _, hg, _⟩
  · simp [Value.ownBlock]
  · simp only [Value.ownBlock]
    intro e
    cases e
    rw [hg] at hb
    cases hb
    exact hT rfl
/-- What listed holds in memory: the list in its box, the first point in another one. -/
structure Lsd (w W : World) (base B bf sz : Nat) (a : Int) (ys : List Int) : Prop where
  big : sz ≤ W.heap.size
  box : ∃ ao cap, W.heap[B]? = some (.cells #[.slice ao ys.length cap] 26 (0, 0)) ∧ W.ownsRow base 25 1 (.slice ao ys.length cap) ys.length (vals ys)
  fst : W.heap[bf]? = some (.cells #[.int .i64 a] 3 (0, 0))
  below : Below base w W
theorem blk_kept {W W' : World} {row : Option Nat} {b : Nat} {cs : Array Value} {T : TypeId} {fz : Nat × Nat} (h : W.heap[b]? = some (.cells cs T fz)) (hg : W.grownBy W' row) (hr : ∀ r, row = some r → ∃ o : Obj, W.heap[r]? = some o ∧ o.isCells = false) : W'.heap[b]? = some (.cells cs T fz) :=
  (hg.block b (Array.getElem?_eq_some_iff.1 h).1 (fun e => by
    obtain ⟨o, ho, hc⟩ := hr b e.symm
    rw [h] at ho
    injection ho with ho
    rw [← ho] at hc
    cases hc)).trans h
theorem own_left {W W' : World} {row : Option Nat} {base s n : Nat} {T : TypeId} {v : Value} {xs : List Value} (h : W.ownsRow base T s v n xs) (hg : W.grownBy W' row) (hr : ∀ r, row = some r → ∃ o : Obj, W.heap[r]? = some o ∧ o.isCells = false) : W'.ownsRow base T s v n xs :=
  own_kept h hg (fun g hv e => by
    obtain ⟨o, ho, hc⟩ := hr g e
    rcases h.2 with ⟨rfl, _⟩ | ⟨g1, c1, u1, rfl, _, k1, _⟩
    · simp [Value.ownBlock] at hv
    · simp [Value.ownBlock] at hv
      subst hv
      rw [k1] at ho
      injection ho with ho
      rw [← ho] at hc
      cases hc)
theorem lsd_own {β : Type} {w : World} {base B bf sz L : Nat} {a : Int} (F : β → List Int) (hB : base ≤ L) (hs : base ≤ sz) : OwnFrom L (fun (s : β) W => Lsd w W base B bf sz a (F s)) := fun s W W' row h hg hr => by
  have hr2 : ∀ r, row = some r → ∃ o : Obj, W.heap[r]? = some o ∧ o.isCells = false := fun r e => (hr r e).2
  obtain ⟨ao, cap, h1, h2⟩ := h.box
  exact ⟨Nat.le_trans h.big hg.size, ⟨ao, cap, blk_kept h1 hg hr2, own_left h2 hg hr2⟩, blk_kept h.fst hg hr2, h.below.grown hg (Nat.le_trans hs h.big) (fun k e => Nat.le_trans hB (hr k e).1)⟩
theorem box_cell {W : World} {B : Nat} {v : Value} {t : TypeId} (h : W.heap[B]? = some (.cells #[v] t (0, 0))) : W.cell? ⟨B, 0, none⟩ = some v ∧ W.frozen? ⟨B, 0, none⟩ = false := by
  constructor <;> simp [World.cell?, World.frozen?, h]
def mpt (a : Int) (pre : List Nat) : List Int := pre.map (fun (i : Nat) => a + (i : Int))
theorem mpt_range (a : Int) (n : Nat) : mpt a (List.range n) = pts a n := rfl
theorem mpt_snoc (a : Int) (pre : List Nat) (x : Nat) : mpt a (pre ++ [x]) = mpt a pre ++ [a + (x : Int)] := by simp [mpt]
theorem mpt_len (a : Int) (pre : List Nat) : (mpt a pre).length = pre.length := by simp [mpt]
/-- One element more: appended, and the box written. -/
theorem Lsd.app {w W w3 : World} {base B bf sz : Nat} {a x : Int} {ys : List Int} {ao : Option Addr} {cap : Nat} {v' : Value} (h : Lsd w W base B bf sz a ys) (hs : base ≤ sz) (hBb : base ≤ B)
    (h1 : W.heap[B]? = some (.cells #[.slice ao ys.length cap] 26 (0, 0))) (h2 : W.ownsRow base 25 1 (.slice ao ys.length cap) ys.length (vals ys))
    (hown : w3.ownsRow base 25 1 v' (ys.length + 1) (vals ys ++ [.int .u64 x])) (hg : (W.alloc (.cells #[.int .u64 x] 25)).grownBy w3 (Value.slice ao ys.length cap).ownBlock) :
    w3.heap[B]? = some (.cells #[.slice ao ys.length cap] 26 (0, 0)) ∧ Lsd w (w3.setCell ⟨B, 0, none⟩ v') base B bf sz a (ys ++ [x]) ∧ KeepsFrom sz W (w3.setCell ⟨B, 0, none⟩ v') ∧ KpR bf W (w3.setCell ⟨B, 0, none⟩ v') := by
  have hab := alloc_below W (.cells #[.int .u64 x] 25)
  have hBl := (Array.getElem?_eq_some_iff.1 h1).1
  have hFl := (Array.getElem?_eq_some_iff.1 h.fst).1
  have hO2 := own_below h2 hab
  have hB1 := (hab.block B hBl).trans h1
  have hF1 := (hab.block bf hFl).trans h.fst
  have hBne : (Value.slice ao ys.length cap).ownBlock ≠ some B := own_apart hO2 hB1 (by decide)
  have hFne : (Value.slice ao ys.length cap).ownBlock ≠ some bf := own_apart hO2 hF1 (by decide)
  have hB3 := (hg.block B (Array.getElem?_eq_some_iff.1 hB1).1 (fun e => hBne e.symm)).trans hB1
  have hF3 := (hg.block bf (Array.getElem?_eq_some_iff.1 hF1).1 (fun e => hFne e.symm)).trans hF1
  have hBF : B ≠ bf := fun e => by rw [e, hF3] at hB3; cases hB3
  have hv3 : v'.ownBlock ≠ some B := own_apart hown hB3 (by decide)
  obtain ⟨a3, c3, rfl⟩ := own_form hown
  have hl : (ys ++ [x]).length = ys.length + 1 := by simp
  have hsz3 := hg.size
  rw [World.size_alloc] at hsz3
  have hsz4 : (w3.setCell ⟨B, 0, none⟩ (.slice a3 (ys.length + 1) c3)).heap.size = w3.heap.size := by simp [World.setCell]
  have hF4 : (w3.setCell ⟨B, 0, none⟩ (.slice a3 (ys.length + 1) c3)).heap[bf]? = w3.heap[bf]? := Below.heap_setCell _ _ _ bf (fun e => hBF e.symm)
  refine ⟨hB3, ⟨?_, ⟨a3, c3, ?_, ?_⟩, hF4.trans hF3, ?_⟩, ?_, ?_⟩
  · rw [hsz4]; have := h.big; omega
  · rw [hl]
    have := set_blk hB3 0 (.slice a3 (ys.length + 1) c3)
    rw [this]; rfl
  · rw [hl, show vals (ys ++ [x]) = vals ys ++ [.int .u64 x] by simp [vals]]
    exact own_other hown hv3
  · have hb2 : Below base w (W.alloc (.cells #[.int .u64 x] 25)) := h.below.alloc (Nat.le_trans hs h.big) _
    have hb3 : Below base w w3 := hb2.grown hg (by have := h.big; simp; omega) (fun k e => own_base hO2 k e)
    exact below_set hb3 hBb
  · refine KeepsFrom.trans ((KeepsOthers.alloc W _).from _) (KeepsFrom.trans ((KeepsOthers.of_grownBy hg ?_).from _) ((KeepsOthers.setCell _ _ _).from _))
    intro j o hj ho
    rcases hO2.2 with ⟨e, _⟩ | ⟨g1, c1, u1, e, _, k1, _⟩
    · rw [e] at hj; simp [Value.ownBlock] at hj
    · rw [e] at hj; simp [Value.ownBlock] at hj
      subst hj
      rw [k1] at ho
      cases ho
      rfl
  · exact hF4.trans (hF3.trans h.fst.symm)

set_option maxRecDepth 100000 in
set_option maxHeartbeats 400000 in
theorem gListed (base : Nat) (v : Value) (xs : List Int) (bn bf : Nat) (a : Int) (N : Nat) (w : World) (hO : w.ownsRow base 25 1 v xs.length (vals xs)) (hb : base ≤ w.heap.size) (hn : w.heap[bn]? = some (.cells #[.int .i64 N] 3 (0, 0))) (hf : w.heap[bf]? = some (.cells #[.int .i64 a] 3 (0, 0))) (ha : 0 ≤ a) (haN : a + N ≤ 1000) (hx : xs.length ≤ 1000) :
    Calls Try.prog 24 #[v, .func (.func 50) #[] #[.pointer (some ⟨bn, 0, none⟩), .pointer (some ⟨bf, 0, none⟩)]] w fun e w' => ∃ v', e = .returned v' ∧ w'.ownsRow base 25 1 v' (xs ++ pts a N).length (vals (xs ++ pts a N)) ∧ Below base w w' := by
  obtain ⟨i0, hi0, hz0, hz1, hz2⟩ := info_parts u64_info
  obtain ⟨ao, cap, rfl⟩ := own_form hO
  have al := alloc_below w (.cells #[Value.slice ao xs.length cap] 26)
  have hnl := (Array.getElem?_eq_some_iff.1 hn).1
  have hfl := (Array.getElem?_eq_some_iff.1 hf).1
  have hn1 := (al.block bn hnl).trans hn
  have hf1 := (al.block bf hfl).trans hf
  have hS : Lsd w (w.alloc (.cells #[Value.slice ao xs.length cap] 26)) base w.heap.size bf (w.heap.size + 1) a xs := ⟨by simp, ⟨ao, cap, heap_alloc_last w _, own_below hO al⟩, hf1, al.mono hb⟩
  have hseq := rn_stops Fence.wide 4 trivial rfl (by omega) bn bf a N ha haN (w.alloc (.cells #[Value.slice ao xs.length cap] 26)) (box_cell hn1).1 (box_cell hf1).1
  refine (callsIn_wide (n := 5)).1 ?_
  refine callsIn_of_wp_marks Try.func24 rfl trivial ?_ rfl
  simp only [Try.ntmps24, List.size_toArray, List.length_cons, List.length_nil, Nat.reduceAdd, Nat.reduceSub, Array.replicate_succ, Array.replicate_zero, List.push_toArray, List.append_toArray, List.nil_append, List.cons_append]
  refine wpIn_wide.2 ?_
  go_wp2
  refine (wpIn_wide (n := 5)).1 ?_
  refine wpIn_rangeFunc_ownG rfl (by omega) (gf := 50) (lb := #[.pointer (some ⟨bn, 0, none⟩), .pointer (some ⟨bf, 0, none⟩)]) rfl trivial (enters_of Try.func50 (by kernel_rfl) rfl)
    hseq KpR.trans (KpR.turn (by simp; omega)) (Below.refl _ _) (fun _ => rfl)
    (fun pre W => Lsd w W base w.heap.size bf (w.heap.size + 1) a (xs ++ mpt a pre))
    (fun _ _ _ => False)
    (lsd_own (fun pre => xs ++ mpt a pre) (by simp; omega) (by omega))
    (fun _ _ _ _ _ hs _ _ => hs)
    (by simpa [mpt] using hS)
    (fun x => { tmps := #[.slice ao xs.length cap, .func (.func 50) #[] #[.pointer (some ⟨bn, 0, none⟩), .pointer (some ⟨bf, 0, none⟩)], .pointer (some ⟨w.heap.size, 0, none⟩), undef, .slice none 0 0, .int .u64 (a + (x : Int)), .func (.func 50) #[] #[.pointer (some ⟨bn, 0, none⟩), .pointer (some ⟨bf, 0, none⟩)], .int .u64 (a + (x : Int)), undef, undef, undef, undef, undef], defers := [] }) ?assign ?body ?done ?stop
  case assign =>
    intro L x W K hK
    unfold rnv
    gi_wp2
    exact hK
  case body =>
    intro L pre x W hI hlt
    have HX : Hid (xs ++ mpt a (pre ++ [x]) = (xs ++ mpt a pre) ++ [a + (x : Int)]) := by show _ = _; rw [mpt_snoc, List.append_assoc]
    have hyl : (xs ++ mpt a pre).length ≤ 2000 := by rw [List.length_append, mpt_len]; omega
    have HQ : Hid (∀ W', KeepsFrom (w.alloc (.cells #[Value.slice ao xs.length cap] 26)).heap.size W W' → KpR bf W W' → Lsd w W' base w.heap.size bf (w.heap.size + 1) a ((xs ++ mpt a pre) ++ [a + (x : Int)]) → ∀ a', ownPostG (w.alloc (.cells #[Value.slice ao xs.length cap] 26)).heap.size (KpR bf) (fun pre W => Lsd w W base w.heap.size bf (w.heap.size + 1) a (xs ++ mpt a pre)) (fun _ _ _ => False) (pre ++ [x]) W .normal a' W') := fun W' k1 k2 k3 a' => ⟨k1, k2, by show Lsd _ _ _ _ _ _ _ _; rw [HX.out]; exact k3⟩
    change (_ : Code).wpIn _ _ _ _ _ _
    generalize ownPostG (w.alloc (.cells #[Value.slice ao xs.length cap] 26)).heap.size (KpR bf) (fun pre W => Lsd w W base w.heap.size bf (w.heap.size + 1) a (xs ++ mpt a pre)) (fun _ _ _ => False) (pre ++ [x]) W = QQ at HQ ⊢
    rw [World.size_alloc] at HQ
    clear HX hseq
    generalize xs ++ mpt a pre = ys at *
    obtain ⟨ao2, cap2, h1, h2⟩ := hI.box
    obtain ⟨c1, c2⟩ := box_cell h1
    have HI := hide hI
    have hWs : base ≤ W.heap.size := by have := hI.big; omega
    have H1 := hide h1
    have H2 := hide h2
    generalize hy : ys.length = ly at *
    clear hI h1 h2
    gi_wp2_with (gi_at_builtin; refine wpListIn_append_own _ rfl _ _ 26 rfl base 25 i0 (.int .u64 0) 1 8 Try.underlying26 hi0 hz0 hz1 hz2 rfl (by decide) _ ly (vals ys) rfl (own_below H2.out (alloc_below W _)) ⟨W.heap.size, 0, none⟩ 1 1 [.int .u64 (a + (x : Int))] rfl rfl (cell_one_new _ _ _) (by simp [Value.oneCell']) (by unfold maxLen; omega) (by omega) (by simp; omega) ?_; intro v' w3 hown3 hg3 hnil3; clear hnil3; obtain ⟨hB3, hL3, hK3, hP3⟩ := HI.out.app (ao := ao2) (cap := cap2) (by omega) (by omega) (by rw [hy]; exact H1.out) (by rw [hy]; exact H2.out) (by rw [hy]; exact hown3) (by rw [hy]; exact hg3); obtain ⟨a3, k3, rfl⟩ := own_form hown3; obtain ⟨d1, d2⟩ := box_cell hB3)
    exact HQ.out _ hK3 hP3 hL3 _
  case done =>
    rintro D zs W hD rfl hI hK
    rw [mpt_range] at hI
    obtain ⟨ao2, cap2, h1, h2⟩ := hI.box
    obtain ⟨c1, c2⟩ := box_cell h1
    have hBW := hI.below
    have hD2 : w.heap.size + 1 ≤ D := by simpa using hD
    have hbig := hI.big
    have HO := hide h2
    clear hI h1 h2
    obtain ⟨m, HM⟩ : ∃ m, Hid ((xs ++ pts a N).length = m) := ⟨_, rfl⟩
    rw [HM.out] at c1 HO
    go_wp2
    refine ⟨by simp, .inl ⟨_, _, rfl, run_takeDeferred hK, ?_⟩⟩
    exact ⟨_, results_tmp rfl _ _ _, _, rfl, by rw [HM.out]; exact ownsRow_putObj HO.out _ hK rfl, hBW.trans (belowK_b (w := w) hb W D _ _ (by omega) hK rfl rfl)⟩
  case stop =>
    rintro D c pre W _ _ hx _
    exact hx.elim

end Go.Proofs.Ytifilgmjpflekaa
