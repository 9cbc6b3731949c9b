/-
  Layer 9: the program's Read: what it defers, and the call.
-/
import Derived.Test.YtjkialmhajbcfaaDoorBSlwT
import Derived.Recover
namespace Go.Proofs.YtjkialmhajbcfaaDoor
open Go.RowKit Fld Slp
set_option linter.unusedVariables false
set_option linter.unusedSimpArgs false

/-- Read's three results. -/
structure Rs (w : World) (b : Nat) (p0 p1 p2 : Value) (ln er : Int) : Prop where
  p : w.heap[b]? = some (.cells #[p0, p1, p2] 25 (0, 0))
  l : w.heap[b + 1]? = some (.cells #[.int .i64 ln] 3 (0, 0))
  e : w.heap[b + 2]? = some (.cells #[.int .i64 er] 29 (0, 0))

theorem as_line (v : Value) (w : World) : (Instr.typeAssert (.iface 68 v) 20 68 true).run Tryd.prog w = .ok (.tuple #[v, .bool true]) w := by kernel_rfl

set_option maxRecDepth 100000 in
set_option maxHeartbeats 400000 in
theorem rCatch (n : Int) (b : Nat) (p0 p1 p2 : Value) (ln er : Int) (w : World) (h : Rs w b p0 p1 p2 ln er) :
    CallsD Tryd.prog 35 #[.pointer (some ⟨b, 0, none⟩), .pointer (some ⟨b + 1, 0, none⟩), .pointer (some ⟨b + 2, 0, none⟩)] (.panicking (pan n)) w fun e u' w' =>
      e = .returned (.tuple #[]) ∧ u' = .panicking [{ v := nln n, recovered := true }] ∧ Rs w' b (.int .i64 0) (.slice none 0 0) (.slice none 0 0) n 90 ∧ Below b w w' := by
  have c0 : w.cell? ⟨b, 0, none⟩ = some p0 := by rw [Lib.cell_of_heap h.p]; rfl
  have c1 : w.cell? ⟨b, 1, none⟩ = some p1 := by rw [Lib.cell_of_heap h.p]; rfl
  have c2 : w.cell? ⟨b, 2, none⟩ = some p2 := by rw [Lib.cell_of_heap h.p]; rfl
  have cl : w.cell? ⟨b + 1, 0, none⟩ = some (.int .i64 ln) := by rw [Lib.cell_of_heap h.l]; rfl
  have ce : w.cell? ⟨b + 2, 0, none⟩ = some (.int .i64 er) := by rw [Lib.cell_of_heap h.e]; rfl
  have f0 := fun k => Lib.frozen_of_heap h.p k
  have f1 := fun k => Lib.frozen_of_heap h.l k
  have f2 := fun k => Lib.frozen_of_heap h.e k
  have hz := (Array.getElem?_eq_some_iff.1 h.e).1
  unfold pan
  refine callsD_of_wpS Tryd.func35 rfl fun c₀ cs hu => ?_
  apply wpS_seq
  apply wpS_region
  simp [wpOpsS, go_sem, recoverD, hu, Tryd.ntmps35, Exit.thenS]
  refine wpS_of_wp ?_
  unfold nln
  simp only [List.size_toArray, List.length_cons, List.length_nil, Nat.reduceAdd, Nat.reduceSub, Array.replicate_succ, Array.replicate_zero, List.push_toArray, List.append_toArray, List.nil_append, List.cons_append, List.setIfInBounds_toArray, List.set_cons_zero, List.set_cons_succ]
  have ha := as_line
  have hal := alloc_below w (.cells #[.int .i64 0] 68)
  go_wp2
  clear ha hal c0 c1 c2 cl ce f0 f1 f2
  have hA := alloc_below w (.cells #[.int .i64 n] 68)
  have hH := hide h
  have h1 := (hA.block b (by omega)).trans h.p
  have h2 := (hA.block (b + 1) (by omega)).trans h.l
  have h3 := (hA.block (b + 2) (by omega)).trans h.e
  have h4 := heap_alloc_new w (.cells #[.int .i64 n] 68)
  have HB := hide (hA.mono (show b ≤ w.heap.size by omega))
  clear hA h
  generalize w.alloc (.cells #[.int .i64 n] 68) = W at *
  have c0 : W.cell? ⟨b, 0, none⟩ = some p0 := by rw [Lib.cell_of_heap h1]; rfl
  have c1 : W.cell? ⟨b, 1, none⟩ = some p1 := by rw [Lib.cell_of_heap h1]; rfl
  have c2 : W.cell? ⟨b, 2, none⟩ = some p2 := by rw [Lib.cell_of_heap h1]; rfl
  have cl : W.cell? ⟨b + 1, 0, none⟩ = some (.int .i64 ln) := by rw [Lib.cell_of_heap h2]; rfl
  have ce : W.cell? ⟨b + 2, 0, none⟩ = some (.int .i64 er) := by rw [Lib.cell_of_heap h3]; rfl
  have cq : W.cell? ⟨w.heap.size, 0, none⟩ = some (.int .i64 n) := by rw [Lib.cell_of_heap h4]; rfl
  have f0 := fun k => Lib.frozen_of_heap h1 k
  have f1 := fun k => Lib.frozen_of_heap h2 k
  have f2 := fun k => Lib.frozen_of_heap h3 k
  have n1 : ¬ w.heap.size = b := by omega
  have n2 : ¬ w.heap.size = b + 1 := by omega
  have n3 : ¬ w.heap.size = b + 2 := by omega
  have n4 : ¬ b = w.heap.size := by omega
  have n5 : ¬ b + 1 = w.heap.size := by omega
  have n6 : ¬ b + 2 = w.heap.size := by omega
  have HK := hide (And.intro h1 (And.intro h2 h3))
  clear h1 h2 h3 h4 hz
  generalize w.heap.size = q at *
  go_region
  obtain ⟨h1, h2, h3⟩ := HK.out
  have g1 := set_blk (set_blk (set_blk h1 0 (.int .i64 0)) 1 (.slice none 0 0)) 2 (.slice none 0 0)
  have hg1 := set3_grown W b (.int .i64 0) (.slice none 0 0) (.slice none 0 0)
  have z1 := (Array.getElem?_eq_some_iff.1 h1).1
  have z2 := (Array.getElem?_eq_some_iff.1 h2).1
  have z3 := (Array.getElem?_eq_some_iff.1 h3).1
  have g2 := (hg1.block (b + 1) z2 (fun e => by have := Option.some.inj e; omega)).trans h2
  have g3 := (hg1.block (b + 2) z3 (fun e => by have := Option.some.inj e; omega)).trans h3
  have hB1 := HB.out.grown hg1 (by omega) (fun k e => by cases e; exact Nat.le_refl _)
  generalize ((W.setCell ⟨b, 0, none⟩ (.int .i64 0)).setCell ⟨b, 1, none⟩ (.slice none 0 0)).setCell ⟨b, 2, none⟩ (.slice none 0 0) = W1 at *
  have hB2 := (hB1.setCell (p := ⟨b + 1, 0, none⟩) (show b ≤ b + 1 by omega) (.int .i64 n)).setCell (p := ⟨b + 2, 0, none⟩) (show b ≤ b + 2 by omega) (.int .i64 90)
  have hR : Rs ((W1.setCell ⟨b + 1, 0, none⟩ (.int .i64 n)).setCell ⟨b + 2, 0, none⟩ (.int .i64 90)) b (.int .i64 0) (.slice none 0 0) (.slice none 0 0) n 90 := by
    refine ⟨?_, ?_, ?_⟩
    · rw [Below.heap_setCell _ _ _ _ (show b ≠ b + 2 by omega), Below.heap_setCell _ _ _ _ (show b ≠ b + 1 by omega)]; exact g1
    · rw [Below.heap_setCell _ _ _ _ (show b + 1 ≠ b + 2 by omega)]; exact set_blk g2 0 _
    · exact set_blk ((Below.heap_setCell _ _ _ _ (show b + 2 ≠ b + 1 by omega)).trans g3) 0 _
  generalize (W1.setCell ⟨b + 1, 0, none⟩ (.int .i64 n)).setCell ⟨b + 2, 0, none⟩ (.int .i64 90) = W2 at *
  have hR2 : Rs W2.drew b (.int .i64 0) (.slice none 0 0) (.slice none 0 0) n 90 := ⟨hR.p, hR.l, hR.e⟩
  have hB3 := hB2.drew
  clear hB2 hB1 hg1 g1 g2 g3 h1 h2 h3 z1 z2 z3 HK c0 c1 c2 cl ce cq f0 f1 f2 n1 n2 n3 n4 n5 n6 hH HB hR
  generalize W2.drew = W3 at *
  exact ⟨rfl, _, rfl, _, results_none rfl _ _ _, rfl, rfl, hR2, hB3⟩

set_option maxRecDepth 100000 in
set_option maxHeartbeats 400000 in
theorem rIdle (b : Nat) (w : World) :
    CallsD Tryd.prog 35 #[.pointer (some ⟨b, 0, none⟩), .pointer (some ⟨b + 1, 0, none⟩), .pointer (some ⟨b + 2, 0, none⟩)] .returning w fun e u' w' =>
      e = .returned (.tuple #[]) ∧ u' = .returning ∧ w' = w := by
  refine callsD_of_wpS Tryd.func35 rfl fun c₀ cs hu => ?_
  apply wpS_seq
  apply wpS_region
  simp [wpOpsS, go_sem, recoverD, hu, Tryd.ntmps35, Exit.thenS]
  refine wpS_of_wp ?_
  simp only [List.size_toArray, List.length_cons, List.length_nil, Nat.reduceAdd, Nat.reduceSub, Array.replicate_succ, Array.replicate_zero, List.push_toArray, List.append_toArray, List.nil_append, List.cons_append, List.setIfInBounds_toArray, List.set_cons_zero, List.set_cons_succ]
  go_wp2
  exact ⟨rfl, .returning, by cases c₀; simp_all, _, results_none rfl _ _ _, rfl, rfl, rfl⟩

/-- What Read answers, by lines. -/
def RdOk (s : Tx) (w : World) (e : Ending) (w' : World) : Prop :=
  Below w.heap.size w w' ∧
      ((∃ st vo vu, runL (lnb s) (lnb s).length = some st ∧ st.whole = true ∧ e = .returned (.tuple #[.agg #[.int .i64 st.n, vo, vu], .int .i64 0, .int .i64 0]) ∧ w'.ownsRow w.heap.size 47 4 vo st.ops.length (st.ops.flatMap opw) ∧ w'.ownsRow w.heap.size 3 1 vu st.outs.length (st.outs.flatMap iw)) ∨
       (∃ st, runL (lnb s) (lnb s).length = some st ∧ st.whole = false ∧ e = .returned (.tuple #[.agg #[.int .i64 0, .slice none 0 0, .slice none 0 0], .int .i64 ((lnb s).length + 1), .int .i64 90])) ∨
       (∃ k, k < (lnb s).length ∧ runL (lnb s) (k + 1) = none ∧ (∃ st, runL (lnb s) k = some st) ∧ e = .returned (.tuple #[.agg #[.int .i64 0, .slice none 0 0, .slice none 0 0], .int .i64 (k + 1), .int .i64 90])))

theorem res_cell3 {P : Program} {fn : Func} {tmps : Array Value} {w : World} {a b c : Nat} {t u x : TypeId} {ad bd cd : Addr} {v1 v2 v3 : Value} (hr : fn.results = #[.cell a t, .cell b u, .cell c x]) (ha : tmps.getD a undef = .pointer (some ad)) (hb : tmps.getD b undef = .pointer (some bd)) (hc : tmps.getD c undef = .pointer (some cd)) (h1 : (loadVar t ad).run P w = .ok v1 w) (h2 : (loadVar u bd).run P w = .ok v2 w) (h3 : (loadVar x cd).run P w = .ok v3 w) :
    (results fn tmps).run P w = .ok (.tuple #[v1, v2, v3]) w := by
  have ha2 : tmps[a]?.getD undef = .pointer (some ad) := by rw [← ha]; simp
  have hb2 : tmps[b]?.getD undef = .pointer (some bd) := by rw [← hb]; simp
  have hc2 : tmps[c]?.getD undef = .pointer (some cd) := by rw [← hc]; simp
  simp [results, hr, ha2, hb2, hc2, asAddr, h1, h2, h3]
theorem load_int {w : World} {b : Nat} {k : Value} {T : TypeId} {fz : Nat × Nat} (h : w.heap[b]? = some (.cells #[k] T fz)) : (loadVar 3 ⟨b, 0, none⟩).run Tryd.prog w = .ok k w := by
  have e0 : w.cell? ⟨b, 0, none⟩ = some k := by rw [Lib.cell_of_heap h]; rfl
  simp [go_sem, e0]
theorem load_errno {w : World} {b : Nat} {k : Value} {T : TypeId} {fz : Nat × Nat} (h : w.heap[b]? = some (.cells #[k] T fz)) : (loadVar 29 ⟨b, 0, none⟩).run Tryd.prog w = .ok k w := by
  have e0 : w.cell? ⟨b, 0, none⟩ = some k := by rw [Lib.cell_of_heap h]; rfl
  simp [go_sem, e0]
theorem Rs.below {w w' : World} {b : Nat} {p0 p1 p2 : Value} {ln er : Int} (h : Rs w b p0 p1 p2 ln er) (hb : Below w.heap.size w w') : Rs w' b p0 p1 p2 ln er :=
  ⟨(hb.block _ (Array.getElem?_eq_some_iff.1 h.p).1).trans h.p, (hb.block _ (Array.getElem?_eq_some_iff.1 h.l).1).trans h.l, (hb.block _ (Array.getElem?_eq_some_iff.1 h.e).1).trans h.e⟩
theorem rs_new (w : World) : Rs (((w.alloc (.cells #[.int .i64 0, .slice none 0 0, .slice none 0 0] 25)).alloc (.cells #[.int .i64 0] 3)).alloc (.cells #[.int .i64 0] 29)) w.heap.size (.int .i64 0) (.slice none 0 0) (.slice none 0 0) 0 0 ∧ Below w.heap.size w (((w.alloc (.cells #[.int .i64 0, .slice none 0 0, .slice none 0 0] 25)).alloc (.cells #[.int .i64 0] 3)).alloc (.cells #[.int .i64 0] 29)) := by
  have b1 := alloc_below w (.cells #[.int .i64 0, .slice none 0 0, .slice none 0 0] 25)
  have n1 := heap_alloc_new w (.cells #[.int .i64 0, .slice none 0 0, .slice none 0 0] 25)
  have z1 : (w.alloc (.cells #[.int .i64 0, .slice none 0 0, .slice none 0 0] 25)).heap.size = w.heap.size + 1 := by simp
  generalize w.alloc (.cells #[.int .i64 0, .slice none 0 0, .slice none 0 0] 25) = w1 at *
  have b2 := alloc_below w1 (.cells #[.int .i64 0] 3)
  have n2 := heap_alloc_new w1 (.cells #[.int .i64 0] 3)
  have z2 : (w1.alloc (.cells #[.int .i64 0] 3)).heap.size = w1.heap.size + 1 := by simp
  generalize w1.alloc (.cells #[.int .i64 0] 3) = w2 at *
  have b3 := alloc_below w2 (.cells #[.int .i64 0] 29)
  have n3 := heap_alloc_new w2 (.cells #[.int .i64 0] 29)
  rw [z1] at n2
  rw [z2, z1] at n3
  exact ⟨⟨((b3.block _ (by omega)).trans ((b2.block _ (by omega)).trans n1)), (b3.block _ (by omega)).trans n2, n3⟩, Below.next b1 (Below.next b2 b3)⟩

/-- All five cells of the results set. -/
def set5 (w : World) (b : Nat) (p0 p1 p2 : Value) (ln er : Int) : World := ((((w.setCell ⟨b, 0, none⟩ p0).setCell ⟨b, 1, none⟩ p1).setCell ⟨b, 2, none⟩ p2).setCell ⟨b + 1, 0, none⟩ (.int .i64 ln)).setCell ⟨b + 1 + 1, 0, none⟩ (.int .i64 er)
theorem rs_set {w : World} {b : Nat} {q0 q1 q2 : Value} {ql qe : Int} (h : Rs w b q0 q1 q2 ql qe) (p0 p1 p2 : Value) (ln er : Int) : Rs (set5 w b p0 p1 p2 ln er) b p0 p1 p2 ln er ∧ Below b w (set5 w b p0 p1 p2 ln er) ∧ ∀ {base s n : Nat} {T : TypeId} {v : Value} {xs : List Value}, w.ownsRow base T s v n xs → b + 2 < base → (set5 w b p0 p1 p2 ln er).ownsRow base T s v n xs := by
  have g1 := set_blk (set_blk (set_blk h.p 0 p0) 1 p1) 2 p2
  have hg1 := set3_grown w b p0 p1 p2
  have z1 := (Array.getElem?_eq_some_iff.1 h.p).1
  have z2 := (Array.getElem?_eq_some_iff.1 h.l).1
  have z3 := (Array.getElem?_eq_some_iff.1 h.e).1
  have g2 := (hg1.block (b + 1) z2 (fun e => by have := Option.some.inj e; omega)).trans h.l
  have g3 := (hg1.block (b + 2) z3 (fun e => by have := Option.some.inj e; omega)).trans h.e
  have hB1 := (Below.refl b w).grown hg1 (by omega) (fun k e => by cases e; exact Nat.le_refl _)
  unfold set5
  generalize ((w.setCell ⟨b, 0, none⟩ p0).setCell ⟨b, 1, none⟩ p1).setCell ⟨b, 2, none⟩ p2 = W1 at *
  refine ⟨⟨?_, ?_, ?_⟩, (hB1.setCell (p := ⟨b + 1, 0, none⟩) (show b ≤ b + 1 by omega) (.int .i64 ln)).setCell (p := ⟨b + 1 + 1, 0, none⟩) (show b ≤ b + 2 by omega) (.int .i64 er), fun ho hb => ?_⟩
  · rw [Below.heap_setCell _ _ _ _ (show b ≠ b + 2 by omega), Below.heap_setCell _ _ _ _ (show b ≠ b + 1 by omega)]; exact g1
  · rw [Below.heap_setCell _ _ _ _ (show b + 1 ≠ b + 2 by omega)]; exact set_blk g2 0 _
  · exact set_blk ((Below.heap_setCell _ _ _ _ (show b + 2 ≠ b + 1 by omega)).trans g3) 0 _
  · have hs : ∀ (W : World) (q : Nat) (v : Value), W.grownBy (W.setCell ⟨q, 0, none⟩ v) (some q) := fun W q v => ⟨rfl, rfl, rfl, (KeepsWalks.setCell W _ v).size, fun j _ hj => Below.heap_setCell _ _ _ j (fun e => hj (by rw [e]))⟩
    have o1 := own_kept ho hg1 (fun g hg e => by have h1 := own_base ho g hg; have h2 := Option.some.inj e; omega)
    have o2 := own_kept o1 (hs W1 (b + 1) (.int .i64 ln)) (fun g hg e => by have h1 := own_base ho g hg; have h2 := Option.some.inj e; omega)
    exact own_kept o2 (hs _ (b + 1 + 1) (.int .i64 er)) (fun g hg e => by have h1 := own_base ho g hg; have h2 := Option.some.inj e; omega)

set_option maxRecDepth 100000 in
set_option maxHeartbeats 1000000 in
theorem sRead1 (s : Tx) (w : World) (hl : s.length ≤ 281474976710656) (hT : Tb9 w) : Calls Tryd.prog 16 #[tx s] w (RdOk s w) := by
  have HT := hide hT
  clear hT
  have hmf : ∀ (fn : Fn) (first cap : Array Value) (w : World), (Instr.makeFunc fn first cap).run Tryd.prog w = .ok (.func fn first cap) w := fun _ _ _ _ => rfl
  go_enter_defers Tryd.func16, Tryd.ntmps16
  go_wp2_with fail
  obtain ⟨hR, hB⟩ := rs_new w
  generalize ((w.alloc (.cells #[.int .i64 0, .slice none 0 0, .slice none 0 0] 25)).alloc (.cells #[.int .i64 0] 3)).alloc (.cells #[.int .i64 0] 29) = W at *
  refine (sRead0 s W hl (HT.out.below hB)).mono ?_
  rintro e w' ⟨hb, ⟨st, vo, vu, hr, hw, rfl, ho, hu⟩ | ⟨st, hr, hw, rfl⟩ | ⟨k, hk, hr, hst, rfl⟩⟩
  · have hR' := hR.below hb
    have hz := (Array.getElem?_eq_some_iff.1 hR.e).1
    have hB' := Below.next hB hb
    obtain ⟨ao, co, rfl⟩ := own_slice ho
    obtain ⟨au, cu, rfl⟩ := own_slice hu
    have c0 : w'.cell? ⟨w.heap.size, 0, none⟩ = some (.int .i64 0) := by rw [Lib.cell_of_heap hR'.p]; rfl
    have c1 : w'.cell? ⟨w.heap.size, 1, none⟩ = some (.slice none 0 0) := by rw [Lib.cell_of_heap hR'.p]; rfl
    have c2 : w'.cell? ⟨w.heap.size, 2, none⟩ = some (.slice none 0 0) := by rw [Lib.cell_of_heap hR'.p]; rfl
    have cl : w'.cell? ⟨w.heap.size + 1, 0, none⟩ = some (.int .i64 0) := by rw [Lib.cell_of_heap hR'.l]; rfl
    have ce : w'.cell? ⟨w.heap.size + 1 + 1, 0, none⟩ = some (.int .i64 0) := by rw [Lib.cell_of_heap (b := w.heap.size + 1 + 1) hR'.e]; rfl
    have f0 := fun k => Lib.frozen_of_heap hR'.p k
    have f1 := fun k => Lib.frozen_of_heap hR'.l k
    have f2 := fun k => Lib.frozen_of_heap (b := w.heap.size + 1 + 1) hR'.e k
    have HRs := hide hR'
    have HO := hide ho
    have HU := hide hu
    have HH := hide (And.intro hr hw)
    clear hR' hR ho hu hr hw hb hB
    go_wp2
    obtain ⟨hR5, hB5, hO5⟩ := rs_set HRs.out (.int .i64 st.n) (.slice ao st.ops.length co) (.slice au st.outs.length cu) 0 0
    have ho5 := hO5 HO.out hz
    have hu5 := hO5 HU.out hz
    change bodyPostD _ _ _ _ _ (set5 w' w.heap.size (.int .i64 st.n) (.slice ao st.ops.length co) (.slice au st.outs.length cu) 0 0)
    generalize set5 w' w.heap.size (.int .i64 st.n) (.slice ao st.ops.length co) (.slice au st.outs.length cu) 0 0 = W5 at *
    refine leaves_cons (f := 35) (args := #[.pointer (some ⟨w.heap.size, 0, none⟩), .pointer (some ⟨w.heap.size + 1, 0, none⟩), .pointer (some ⟨w.heap.size + 2, 0, none⟩)]) (by simp) (by simp [go_sem]) ?_
    refine (rIdle w.heap.size W5).mono ?_
    rintro e u' w'' ⟨rfl, rfl, rfl⟩
    refine ⟨_, res_cell3 rfl rfl rfl rfl (load_prog hR5.p) (load_int hR5.l) (load_errno hR5.e), hB'.trans hB5, .inl ⟨st, _, _, HH.out.1, HH.out.2, rfl, own_mono ho5 (by omega), own_mono hu5 (by omega)⟩⟩
  · refine leaves_cons (f := 35) (args := #[.pointer (some ⟨w.heap.size, 0, none⟩), .pointer (some ⟨w.heap.size + 1, 0, none⟩), .pointer (some ⟨w.heap.size + 2, 0, none⟩)]) (by simp) (by simp [go_sem]) ?_
    refine (rCatch _ w.heap.size _ _ _ _ _ w' (hR.below hb)).mono ?_
    rintro e u' w'' ⟨rfl, rfl, hR2, hB2⟩
    refine ⟨_, res_cell3 rfl rfl rfl rfl (load_prog hR2.p) (load_int hR2.l) (load_errno hR2.e), (Below.next hB hb).trans hB2, .inr (.inl ⟨st, hr, hw, rfl⟩)⟩
  · refine leaves_cons (f := 35) (args := #[.pointer (some ⟨w.heap.size, 0, none⟩), .pointer (some ⟨w.heap.size + 1, 0, none⟩), .pointer (some ⟨w.heap.size + 2, 0, none⟩)]) (by simp) (by simp [go_sem]) ?_
    refine (rCatch _ w.heap.size _ _ _ _ _ w' (hR.below hb)).mono ?_
    rintro e u' w'' ⟨rfl, rfl, hR2, hB2⟩
    refine ⟨_, res_cell3 rfl rfl rfl rfl (load_prog hR2.p) (load_int hR2.l) (load_errno hR2.e), (Below.next hB hb).trans hB2, .inr (.inr ⟨k, hk, hr, hst, rfl⟩)⟩

end Go.Proofs.YtjkialmhajbcfaaDoor
