import Derived.Test.YtnapbdoalfbgnaaGreatBLocJ
import Derived.Test.YtnapbdoalfbgnaaGreatBunM
set_option linter.unusedVariables false
set_option linter.unusedSimpArgs false
set_option maxRecDepth 100000
set_option maxHeartbeats 4000000
namespace Go.Proofs.YtnapbdoalfbgnaaGreat
open Go.RowKit Go.Shelf Fld
attribute [local go_sem] Oper.semAt_some
theorem okB_facts {R P V : List Int} {d w : Int} (h : okB R P V d w = true) : R = [] ∧ (P.length : Int) - 1 ≤ d ∧ (V.length : Int) - 1 ≤ w := by
 unfold okB at h
 rw [Bool.and_eq_true, Bool.and_eq_true] at h
 exact ⟨List.isEmpty_iff.1 h.1.1, of_decide_eq_true h.1.2, of_decide_eq_true h.2⟩
theorem dec_ok {p : Int} {wd : Bool} (hm : Md p wd) {xs ys P R T : List Int} {A B : R3} {d w : Int} (hx : Els p xs) (hn : xs.Nodup) (hd : -1 ≤ d) (hw : 0 ≤ w) (hs : d + 2 * w + 1 ≤ xs.length) (hT : Thr p xs ys T) (hF : Fnd p (d + w + 1).toNat (zl p xs) T A B) (hv : Dv p B.x B.v P R) (hk : okB R P B.v d w = true) :
 Dec p (d + 1).toNat w.toNat xs ys P ∧ offs (fun i => vl p (co xs i) B.v != 0) xs.length = offp p P xs ys := by
 obtain ⟨rfl, h1, h2⟩ := okB_facts hk
 have hD : Dec p (d + 1).toNat w.toNat xs ys P := Dec.of_row hm hx hn (by omega) hT hF hv (by omega) (by omega)
 refine ⟨hD, ?_⟩
 obtain ⟨_, _, h3⟩ := hD.tells hm hx hn (stop := (d + w + 1).toNat) (by omega) (by omega) hT hF
 unfold offs offp
 refine List.filter_congr (fun i hi => ?_)
 have := h3 i (List.mem_range.1 hi)
 show (!(vl p (co xs i) B.v != 0)) = _
 by_cases e : vl p (co xs i) B.v = 0
 · rw [e, decide_eq_true (this.1 e)]; rfl
 · rw [bne_iff_ne.2 e, decide_eq_false (fun c => e (this.2 c))]; rfl
theorem dec_no {p : Int} {wd : Bool} (hm : Md p wd) {xs ys P R T : List Int} {A B : R3} {d w : Int} (hx : Els p xs) (hn : xs.Nodup) (hd : -1 ≤ d) (hw : 0 ≤ w) (hs : d + 2 * w + 1 ≤ xs.length) (hT : Thr p xs ys T) (hF : Fnd p (d + w + 1).toNat (zl p xs) T A B) (hv : Dv p B.x B.v P R) (hk : okB R P B.v d w = false) (Q : List Int) : ¬ Dec p (d + 1).toNat w.toNat xs ys Q := fun hQ => by
 obtain ⟨h1, h2, _⟩ := hQ.tells hm hx hn (stop := (d + w + 1).toNat) (by omega) (by omega) hT hF
 obtain ⟨rfl, rfl⟩ := Dv.only hm (row_ne hm hx (by omega) hT hF).2.2.1.1 hv h1
 rw [okB_yes (by have := hQ.2.1; omega) (by omega)] at hk
 cases hk
def GivesD (k : FuncId) (args : Array Value) (W : World) (S : List Int → List Int → Bool → Prop) (e0 : Int) : Prop :=
 Calls Tryz.prog k args W fun e w' => ∃ vp va P at' ok, e = .returned (.tuple #[vp, va, .bool ok, .int .i64 e0]) ∧ S P at' ok ∧ w'.ownsRow W.heap.size 42 1 vp P.length (vals P) ∧ w'.ownsRow W.heap.size 3 1 va at'.length (at'.flatMap iw) ∧ Below W.heap.size W w'
theorem GivesD.none {k : FuncId} {args : Array Value} {W : World} {S : List Int → List Int → Bool → Prop} {e0 : Int} (hS : S [] [] false) (h : Calls Tryz.prog k args W fun e w' => e = .returned (.tuple #[.slice none 0 0, .slice none 0 0, .bool false, .int .i64 e0]) ∧ Below W.heap.size W w') : GivesD k args W S e0 :=
 h.mono fun e w' ⟨he, hb⟩ => ⟨_, _, [], [], false, he, hS, World.ownsRow_nil _ _ _ _, World.ownsRow_nil _ _ _ _, hb⟩
theorem box_nil {W wX : World} {g : Nat} {T : TypeId} (hg : W.heap.size ≤ g) (hB : Below W.heap.size W wX) (hx : wX.heap[g]? = some (.cells #[.slice none 0 0] T (0, 0))) : (wX.setCell ⟨g, 0, none⟩ (.slice none 0 0)).cell? ⟨g, 0, none⟩ = some (.slice none 0 0) ∧ Below W.heap.size W (wX.setCell ⟨g, 0, none⟩ (.slice none 0 0)) :=
 ⟨(box_cell (set_blk hx 0 (.slice none 0 0))).1, hB.setCell (p := ⟨g, 0, none⟩) hg _⟩
def bx3 (W : World) (f : Int) (v : Value) : World := ((W.alloc (.cells #[.int .u8 f] 29)).alloc (.cells #[v] 22)).alloc (.cells #[.slice none 0 0] 25)
theorem bx3_facts (W : World) (f : Int) (v : Value) : (bx3 W f v).heap[W.heap.size]? = some (.cells #[.int .u8 f] 29 (0, 0)) ∧ (bx3 W f v).heap[W.heap.size + 1]? = some (.cells #[v] 22 (0, 0)) ∧ (bx3 W f v).heap[W.heap.size + 1 + 1]? = some (.cells #[.slice none 0 0] 25 (0, 0)) ∧ Below W.heap.size W (bx3 W f v) ∧ (bx3 W f v).heap.size = W.heap.size + 3 := by
 have e1 : (W.alloc (.cells #[.int .u8 f] 29)).heap.size = W.heap.size + 1 := by simp
 have e2 : ((W.alloc (.cells #[.int .u8 f] 29)).alloc (.cells #[v] 22)).heap.size = W.heap.size + 1 + 1 := by simp
 have a1 := heap_alloc_new W (.cells #[.int .u8 f] 29)
 have a2 := heap_alloc_new (W.alloc (.cells #[.int .u8 f] 29)) (.cells #[v] 22)
 have a3 := heap_alloc_new ((W.alloc (.cells #[.int .u8 f] 29)).alloc (.cells #[v] 22)) (.cells #[.slice none 0 0] 25)
 have b1 := alloc_below W (.cells #[.int .u8 f] 29)
 have b2 := alloc_below (W.alloc (.cells #[.int .u8 f] 29)) (.cells #[v] 22)
 have b3 := alloc_below ((W.alloc (.cells #[.int .u8 f] 29)).alloc (.cells #[v] 22)) (.cells #[.slice none 0 0] 25)
 rw [e1] at a2 b2
 rw [e2] at a3 b3
 refine ⟨?_, ?_, a3, Below.next (Below.next b1 (by rw [e1]; exact b2)) (by rw [e2]; exact b3), by unfold bx3; simp⟩
 · exact (b3.block _ (by omega)).trans ((b2.block _ (by omega)).trans a1)
 · exact (b3.block _ (by omega)).trans a2
theorem dec_arg (f : Int) (v1 v2 : Value) (d w : Int) (W : World) (h : d < -1 ∨ w < 0) (hv : ∃ ao n cap, v1 = .slice ao n cap) :
 Calls Tryz.prog 22 #[.int .u8 f, v1, v2, .int .i64 d, .int .i64 w] W fun e w' => e = .returned (.tuple #[.slice none 0 0, .slice none 0 0, .bool false, .int .i64 2]) ∧ Below W.heap.size W w' := by
 obtain ⟨ao, n, cap, rfl⟩ := hv
 obtain ⟨q1, q2, q3, q4, _⟩ := bx3_facts W f (.slice ao n cap)
 have k3 := (box_cell q3).1
 have k4 := (box_cell q3).2
 have G2 := hide q4
 clear q1 q2 q3 q4
 unfold bx3 at *
 by_cases hd : d < -1
 · go_enter Tryz.func22, Tryz.ntmps22
   go_wp2
   refine bodyPost_ret (v := .tuple #[.slice none 0 0, .slice none 0 0, .bool false, .int .i64 2]) ?_ rfl ⟨rfl, G2.out⟩
   simp [results, Tryz.results22, go_sem, k3]
 · have hw : w < 0 := h.resolve_left hd
   go_enter Tryz.func22, Tryz.ntmps22
   go_wp2
   refine bodyPost_ret (v := .tuple #[.slice none 0 0, .slice none 0 0, .bool false, .int .i64 2]) ?_ rfl ⟨rfl, G2.out⟩
   simp [results, Tryz.results22, go_sem, k3]
theorem dec_bad (f : Int) (v1 v2 : Value) (xs ys : List Int) (d w : Int) (W : World) (h1 : Rw W v1 xs) (h2 : Rw W v2 ys) (h : ¬ (d < -1 ∨ w < 0)) (hb : bad f xs ys ys.length ≠ 0) :
 Calls Tryz.prog 22 #[.int .u8 f, v1, v2, .int .i64 d, .int .i64 w] W fun e w' => e = .returned (.tuple #[.slice none 0 0, .slice none 0 0, .bool false, .int .i64 (bad f xs ys ys.length)]) ∧ Below W.heap.size W w' := by
 have hd : ¬ d < -1 := fun e => h (.inl e)
 have hw : ¬ w < 0 := fun e => h (.inr e)
 have HT := hide (fun W' (hb : Below W.heap.size W W') => iThrough f v1 v2 xs ys W' (h1.below hb) (h2.below hb))
 unfold Gives at HT
 obtain ⟨ao, cap, rfl, _⟩ := h1.spell
 obtain ⟨q1, q2, q3, q4, _⟩ := bx3_facts W f (.slice ao xs.length cap)
 have Q4 := hide q4
 have Q3 := hide q3
 have k1 := (box_cell q1).1
 have k2 := (box_cell q2).1
 clear h1 h2 h q1 q2 q3 q4
 unfold bx3 at *
 have hne : (bad f xs ys ys.length != 0) = true := bne_iff_ne.2 hb
 generalize bad f xs ys ys.length = e0 at *
 clear hb
 go_enter Tryz.func22, Tryz.ntmps22
 go_wp2_with (go_at_call 45; refine (HT.out _ Q4.out).mono ?_; rintro e w1 ⟨vt, rfl, hO, hb1⟩; clear hO; have hB1 := Below.next Q4.out hb1; have E1 := hide ((hb1.block _ (Array.getElem?_eq_some_iff.1 Q3.out).1).trans Q3.out); have m1 := (box_cell E1.out).1; have m2 := (box_cell E1.out).2)
 obtain ⟨g1, g2⟩ := box_nil (by omega) hB1 E1.out
 refine bodyPost_ret (v := .tuple #[.slice none 0 0, .slice none 0 0, .bool false, .int .i64 e0]) ?_ rfl ⟨rfl, g2⟩
 simp [results, Tryz.results22, go_sem, g1]
theorem dec_short (f : Int) (v1 v2 : Value) (xs ys : List Int) (d w : Int) (W : World) (h1 : Rw W v1 xs) (h2 : Rw W v2 ys) (hd0 : -1 ≤ d ∧ d ≤ 9223372036854775807) (hw0 : 0 ≤ w ∧ w ≤ 9223372036854775807) (hb : bad f xs ys ys.length = 0) (hl : xs.length ≤ 512) (hs : (xs.length : Int) < d + 2 * w + 1) :
 Calls Tryz.prog 22 #[.int .u8 f, v1, v2, .int .i64 d, .int .i64 w] W fun e w' => e = .returned (.tuple #[.slice none 0 0, .slice none 0 0, .bool false, .int .i64 7]) ∧ Below W.heap.size W w' := by
 have hd : ¬ d < -1 := by omega
 have hw : ¬ w < 0 := by omega
 have HT := hide (fun W' (hb : Below W.heap.size W W') => iThrough f v1 v2 xs ys W' (h1.below hb) (h2.below hb))
 unfold Gives at HT
 rw [hb] at HT
 have HN := hide (fun W' => gEnough xs.length d w W' (by omega) hd0 hw0)
 rw [decide_eq_true hs] at HN
 obtain ⟨ao, cap, rfl, _⟩ := h1.spell
 obtain ⟨q1, q2, q3, q4, _⟩ := bx3_facts W f (.slice ao xs.length cap)
 have Q4 := hide q4
 have Q3 := hide q3
 have Q2 := hide q2
 have k1 := (box_cell q1).1
 have k2 := (box_cell q2).1
 clear h1 h2 q1 q2 q3 q4 hb hs
 unfold bx3 at *
 generalize hn : xs.length = n at *
 clear hn
 go_enter Tryz.func22, Tryz.ntmps22
 go_wp2_with (first
  | (go_at_call 46; refine (HN.out _).mono ?_; rintro e w2 ⟨rfl, hw2⟩; rw [hw2]; clear hw2; simp only [Bool.not_true])
  | (go_at_call 45; refine (HT.out _ Q4.out).mono ?_; rintro e w1 ⟨vt, rfl, hO, hb1⟩; clear hO; have hB1 := Below.next Q4.out hb1; have E1 := hide ((hb1.block _ (Array.getElem?_eq_some_iff.1 Q3.out).1).trans Q3.out); have m1 := (box_cell E1.out).1; have m2 := (box_cell E1.out).2; have E2 := hide ((hb1.block _ (Array.getElem?_eq_some_iff.1 Q2.out).1).trans Q2.out); have m3 := (box_cell E2.out).1))
 obtain ⟨g1, g2⟩ := box_nil (by omega) hB1 E1.out
 refine bodyPost_ret (v := .tuple #[.slice none 0 0, .slice none 0 0, .bool false, .int .i64 7]) ?_ rfl ⟨rfl, g2⟩
 simp [results, Tryz.results22, go_sem, g1]
end Go.Proofs.YtnapbdoalfbgnaaGreat
