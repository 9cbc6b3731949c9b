import Derived.Test.YtaikhiodpieghaaBCdcH
set_option linter.unusedVariables false
set_option linter.unusedSimpArgs false
set_option maxRecDepth 100000
set_option maxHeartbeats 4000000
namespace Go.Proofs.Ytaikhiodpieghaa
open Go.RowKit Fld
structure Rm (w : World) (b : Nat) (m : Mg) (s : Value) (er : Int) : Prop where
 p : Mb w b m s
 e : w.heap[b + 1]? = some (.cells #[.int .i64 er] 28 (0, 0))
theorem Rm.below {w w' : World} {b : Nat} {m : Mg} {s : Value} {er : Int} (h : Rm w b m s er) (hb : Below w.heap.size w w') : Rm w' b m s er :=
 ⟨h.p.below hb, (hb.block _ (Array.getElem?_eq_some_iff.1 h.e).1).trans h.e⟩
theorem rm_new (w : World) : Rm ((w.alloc (.cells #[.int .u8 0, .int .i64 0, .int .i64 0, .int .u8 0, .slice none 0 0] 26)).alloc (.cells #[.int .i64 0] 28)) w.heap.size mg0 (.slice none 0 0) 0 ∧ Below w.heap.size w ((w.alloc (.cells #[.int .u8 0, .int .i64 0, .int .i64 0, .int .u8 0, .slice none 0 0] 26)).alloc (.cells #[.int .i64 0] 28)) := by
 obtain ⟨n1, b1⟩ := mz_box w
 have z1 : (w.alloc (.cells #[.int .u8 0, .int .i64 0, .int .i64 0, .int .u8 0, .slice none 0 0] 26)).heap.size = w.heap.size + 1 := by simp
 generalize w.alloc (.cells #[.int .u8 0, .int .i64 0, .int .i64 0, .int .u8 0, .slice none 0 0] 26) = w1 at *
 have b2 := alloc_below w1 (.cells #[.int .i64 0] 28)
 have n2 := heap_alloc_new w1 (.cells #[.int .i64 0] 28)
 rw [z1] at n2
 exact ⟨⟨n1.below b2, n2⟩, Below.next b1 b2⟩
def set6 (w : World) (b : Nat) (k r v f : Int) (s : Value) (er : Int) : World := (((((w.setCell ⟨b, 0, none⟩ (.int .u8 k)).setCell ⟨b, 1, none⟩ (.int .i64 r)).setCell ⟨b, 2, none⟩ (.int .i64 v)).setCell ⟨b, 3, none⟩ (.int .u8 f)).setCell ⟨b, 4, none⟩ s).setCell ⟨b + 1, 0, none⟩ (.int .i64 er)
theorem rm_set {w : World} {b : Nat} {m : Mg} {s : Value} {er0 : Int} (h : Rm w b m s er0) (n : Mg) (t : Value) (er : Int) : Rm (set6 w b n.k n.r n.v n.f t er) b n t er ∧ Below b w (set6 w b n.k n.r n.v n.f t er) ∧ ∀ {base l : Nat} {T : TypeId} {v : Value} {xs : List Value}, w.ownsRow base T 1 v l xs -> b + 1 < base -> (set6 w b n.k n.r n.v n.f t er).ownsRow base T 1 v l xs := by
 unfold set6
 refine ⟨⟨?_, ?_⟩, ?_, ?_⟩
 · have h5 := ((((h.p.set (n := { m with k := n.k }) (t := s) 0 (.int .u8 n.k) rfl).set (n := { m with k := n.k, r := n.r }) (t := s) 1 (.int .i64 n.r) rfl).set (n := { m with k := n.k, r := n.r, v := n.v }) (t := s) 2 (.int .i64 n.v) rfl).set (n := { m with k := n.k, r := n.r, v := n.v, f := n.f }) (t := s) 3 (.int .u8 n.f) rfl).set (n := n) (t := t) 4 t rfl
   exact (Below.heap_setCell _ _ _ _ (show b ≠ b + 1 by omega)).trans h5
 · have hne : b + 1 ≠ b := by omega
   have h5 := (Below.heap_setCell ((((w.setCell ⟨b, 0, none⟩ (.int .u8 n.k)).setCell ⟨b, 1, none⟩ (.int .i64 n.r)).setCell ⟨b, 2, none⟩ (.int .i64 n.v)).setCell ⟨b, 3, none⟩ (.int .u8 n.f)) ⟨b, 4, none⟩ t (b + 1) hne).trans ((Below.heap_setCell _ _ _ _ hne).trans ((Below.heap_setCell _ _ _ _ hne).trans ((Below.heap_setCell _ _ _ _ hne).trans ((Below.heap_setCell _ _ _ _ hne).trans h.e))))
   exact set_blk h5 0 (.int .i64 er)
 · exact (((((((Below.refl b w).setCell (p := ⟨b, 0, none⟩) (Nat.le_refl _) _).setCell (p := ⟨b, 1, none⟩) (Nat.le_refl _) _).setCell (p := ⟨b, 2, none⟩) (Nat.le_refl _) _).setCell (p := ⟨b, 3, none⟩) (Nat.le_refl _) _).setCell (p := ⟨b, 4, none⟩) (Nat.le_refl _) _).setCell (p := ⟨b + 1, 0, none⟩) (show b <= b + 1 by omega) _)
 · intro base l T v xs ho hb
   have h0 : b < base := by omega
   exact rg_own (rg_own (rg_own (rg_own (rg_own (rg_own ho h0 0 _) h0 1 _) h0 2 _) h0 3 _) h0 4 _) hb 0 _
theorem rm_zero {w : World} {b : Nat} {m : Mg} {s : Value} {er0 : Int} (h : Rm w b m s er0) (er : Int) :
 Rm (set6 w b 0 0 0 0 (.slice none 0 0) er).drew b mg0 (.slice none 0 0) er ∧ Below b w (set6 w b 0 0 0 0 (.slice none 0 0) er).drew := by
 obtain ⟨hR, hB, _⟩ := rm_set h mg0 (.slice none 0 0) er
 have e : set6 w b mg0.k mg0.r mg0.v mg0.f (.slice none 0 0) er = set6 w b 0 0 0 0 (.slice none 0 0) er := rfl
 rw [e] at hR hB
 generalize set6 w b 0 0 0 0 (.slice none 0 0) er = X at *
 exact ⟨⟨hR.p, hR.e⟩, hB.drew⟩
theorem as_nomsg (v : Value) (w : World) : (Instr.typeAssert (.iface 54 v) 20 54 true).run Try.prog w = .ok (.tuple #[v, .bool true]) w := by kernel_rfl
theorem mCatch (n : Int) (b : Nat) (m : Mg) (s : Value) (er : Int) (w : World) (h : Rm w b m s er) :
 CallsD Try.prog 25 #[.pointer (some ⟨b, 0, none⟩), .pointer (some ⟨b + 1, 0, none⟩)] (.panicking (pan20 n)) w fun e u' w' =>
  e = .returned (.tuple #[]) ∧ u' = .panicking [{ v := nomsg n, recovered := true }] ∧ Rm w' b mg0 (.slice none 0 0) n ∧ Below b w w' := by
 have hz := (Array.getElem?_eq_some_iff.1 h.e).1
 unfold pan20
 refine callsD_of_wpS Try.func25 rfl fun c₀ cs hu => ?_
 apply wpS_seq
 apply wpS_region
 simp [wpOpsS, go_sem, recoverD, hu, Try.ntmps25, Exit.thenS]
 refine wpS_of_wp ?_
 unfold nomsg
 simp only [List.size_toArray, List.length_cons, List.length_nil, Nat.reduceAdd, Nat.reduceSub, Array.replicate_succ, Array.replicate_zero, List.push_toArray, List.append_toArray, List.nil_append, List.cons_append, List.setIfInBounds_toArray, List.set_cons_zero, List.set_cons_succ]
 have ha := as_nomsg
 have hal := alloc_below w (.cells #[.int .i64 0] 54)
 go_wp2
 clear ha hal
 have hA := alloc_below w (.cells #[.int .i64 n] 54)
 have h1 := h.below hA
 have h4 := heap_alloc_new w (.cells #[.int .i64 n] 54)
 have HB := hide (hA.mono (show b <= w.heap.size by omega))
 clear hA h
 generalize w.alloc (.cells #[.int .i64 n] 54) = W at *
 obtain ⟨c0, c1, c2, c3, c4⟩ := h1.p.cells
 have ce : W.cell? ⟨b + 1, 0, none⟩ = some (.int .i64 er) := by rw [Lib.cell_of_heap h1.e]; rfl
 have cq : W.cell? ⟨w.heap.size, 0, none⟩ = some (.int .i64 n) := by rw [Lib.cell_of_heap h4]; rfl
 have f0 := h1.p.free
 have f1 := fun k => Lib.frozen_of_heap h1.e k
 have n1 : ¬ w.heap.size = b := by omega
 have n2 : ¬ w.heap.size = b + 1 := by omega
 have n3 : ¬ b = w.heap.size := by omega
 have n4 : ¬ b + 1 = w.heap.size := by omega
 have HK := hide h1
 clear h1 h4 hz
 generalize w.heap.size = q at *
 go_region
 obtain ⟨hR, hB2⟩ := rm_zero HK.out n
 clear HK c0 c1 c2 c3 c4 ce cq f0 f1 n1 n2 n3 n4
 have hB3 := HB.out.trans hB2
 clear hB2 HB
 change Exit.inBlock 0 _ _ _ (set6 W b 0 0 0 0 (.slice none 0 0) n).drew
 generalize (set6 W b 0 0 0 0 (.slice none 0 0) n).drew = W3 at *
 exact ⟨rfl, _, rfl, _, results_none rfl _ _ _, rfl, rfl, hR, hB3⟩
theorem mIdle (b : Nat) (w : World) :
 CallsD Try.prog 25 #[.pointer (some ⟨b, 0, none⟩), .pointer (some ⟨b + 1, 0, none⟩)] .returning w fun e u' w' =>
  e = .returned (.tuple #[]) ∧ u' = .returning ∧ w' = w := by
 refine callsD_of_wpS Try.func25 rfl fun c₀ cs hu => ?_
 apply wpS_seq
 apply wpS_region
 simp [wpOpsS, go_sem, recoverD, hu, Try.ntmps25, Exit.thenS]
 refine wpS_of_wp ?_
 simp only [List.size_toArray, List.length_cons, List.length_nil, Nat.reduceAdd, Nat.reduceSub, Array.replicate_succ, Array.replicate_zero, List.push_toArray, List.append_toArray, List.nil_append, List.cons_append, List.setIfInBounds_toArray, List.set_cons_zero, List.set_cons_succ]
 go_wp2
 exact ⟨rfl, .returning, by cases c₀; simp_all, _, results_none rfl _ _ _, rfl, rfl, rfl⟩
theorem res_cell2 {P : Program} {fn : Func} {tmps : Array Value} {w : World} {a b : Nat} {t u : TypeId} {ad bd : Addr} {v1 v2 : Value} (hr : fn.results = #[.cell a t, .cell b u]) (ha : tmps.getD a undef = .pointer (some ad)) (hb : tmps.getD b undef = .pointer (some bd)) (h1 : (loadVar t ad).run P w = .ok v1 w) (h2 : (loadVar u bd).run P w = .ok v2 w) :
 (results fn tmps).run P w = .ok (.tuple #[v1, v2]) w := by
 have ha2 : tmps[a]?.getD undef = .pointer (some ad) := by rw [<- ha]; simp
 have hb2 : tmps[b]?.getD undef = .pointer (some bd) := by rw [<- hb]; simp
 simp [results, hr, ha2, hb2, asAddr, h1, h2]
theorem load_errno20 {w : World} {b : Nat} {k : Value} {T : TypeId} {fz : Nat × Nat} (h : w.heap[b]? = some (.cells #[k] T fz)) : (loadVar 28 ⟨b, 0, none⟩).run Try.prog w = .ok k w := by
 have e0 : w.cell? ⟨b, 0, none⟩ = some k := by rw [Lib.cell_of_heap h]; rfl
 simp [go_sem, e0]
def GivesMsg (N : Nat) (args : Array Value) (w : World) (m : Mg) (er : Int) : Prop :=
 Calls Try.prog N args w fun e w' => ∃ s, e = .returned (.tuple #[mgv m s, .int .i64 er]) ∧ w'.ownsRow w.heap.size 48 1 s m.l.length (vals m.l) ∧ Below w.heap.size w w'
theorem mrM_no {S : List Int -> Int} {bs : List Int} (h : mrE S bs ≠ 0) : mrM S bs = mg0 := by unfold mrM; rw [if_neg h]
theorem gReadM (v : Value) (bs : List Int) (w : World) (h : Rb w v bs) : GivesMsg 15 #[v] w (mrM sum8 bs) (mrE sum8 bs) := by
 unfold GivesMsg
 have HR := hide (fun W (hb : Below w.heap.size w W) => gRead20 v bs W (h.below hb))
 have hmf : ∀ (fn : Fn) (first cap : Array Value) (w : World), (Instr.makeFunc fn first cap).run Try.prog w = .ok (.func fn first cap) w := fun _ _ _ _ => rfl
 have hno := @mrM_no sum8 bs
 unfold RdOut at HR
 generalize mrM sum8 bs = m at *
 generalize mrE sum8 bs = er at *
 obtain ⟨ao, cap, rfl, _⟩ := h.spell
 clear h
 go_enter_defers Try.func15, Try.ntmps15
 go_wp2_with fail
 obtain ⟨hR, hB⟩ := rm_new w
 generalize (w.alloc (.cells #[.int .u8 0, .int .i64 0, .int .i64 0, .int .u8 0, .slice none 0 0] 26)).alloc (.cells #[.int .i64 0] 28) = W at *
 refine (HR.out W hB).mono ?_
 clear HR
 rintro e w' ⟨hb, ⟨he, s, rfl, ho⟩ | ⟨he, rfl⟩⟩
 · have hR' := hR.below hb
   have hz := (Array.getElem?_eq_some_iff.1 hR.e).1
   have hB' := Below.next hB hb
   subst he
   clear hno
   obtain ⟨a2, k2, rfl⟩ := own_form ho
   obtain ⟨c0, c1, c2, c3, c4⟩ := hR'.p.cells
   have ce : w'.cell? ⟨w.heap.size + 1, 0, none⟩ = some (.int .i64 0) := by rw [Lib.cell_of_heap hR'.e]; rfl
   have f0 := hR'.p.free
   have f1 := fun k => Lib.frozen_of_heap hR'.e k
   have HRs := hide hR'
   have HO := hide ho
   clear hR' hR ho hb hB
   unfold mgv mgc
   go_wp2
   obtain ⟨hR5, hB5, hO5⟩ := rm_set HRs.out m (.slice a2 m.l.length k2) 0
   have ho5 := hO5 HO.out hz
   change bodyPostD _ _ _ _ _ (set6 w' w.heap.size m.k m.r m.v m.f (.slice a2 m.l.length k2) 0)
   generalize set6 w' w.heap.size m.k m.r m.v m.f (.slice a2 m.l.length k2) 0 = W5 at *
   refine leaves_cons (f := 25) (args := #[.pointer (some ⟨w.heap.size, 0, none⟩), .pointer (some ⟨w.heap.size + 1, 0, none⟩)]) (by simp) (by simp [go_sem]) ?_
   refine (mIdle w.heap.size W5).mono ?_
   rintro e u' w'' ⟨rfl, rfl, rfl⟩
   refine ⟨_, res_cell2 rfl rfl rfl (load_msg hR5.p) (load_errno20 hR5.e), _, rfl, own_mono ho5 (by omega), hB'.trans hB5⟩
 · obtain rfl := hno he
   refine leaves_cons (f := 25) (args := #[.pointer (some ⟨w.heap.size, 0, none⟩), .pointer (some ⟨w.heap.size + 1, 0, none⟩)]) (by simp) (by simp [go_sem]) ?_
   refine (mCatch _ w.heap.size _ _ _ w' (hR.below hb)).mono ?_
   rintro e u' w'' ⟨rfl, rfl, hR2, hB2⟩
   refine ⟨_, res_cell2 rfl rfl rfl (load_msg hR2.p) (load_errno20 hR2.e), _, rfl, World.ownsRow_nil _ _ _ _, (Below.next hB hb).trans hB2⟩
end Go.Proofs.Ytaikhiodpieghaa
