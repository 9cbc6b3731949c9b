import Derived.Test.YtjhididlcdepdaaGreatBLocH
import Derived.Test.YtjhididlcdepdaaGreatBunM
set_option linter.unusedVariables false
set_option linter.unusedSimpArgs false
set_option maxRecDepth 100000
set_option maxHeartbeats 4000000
namespace Go.Proofs.YtjhididlcdepdaaGreat
open Go.RowKit Go.Shelf Fld
attribute [local go_sem] Oper.semAt_some
theorem okB_facts {R P V : List Int} {d w : Int} (h : okB R P V d w = true) : R = [] ∧ (P.length : Int) - 1 <= d ∧ (V.length : Int) - 1 <= w := by
 unfold okB at h
 rw [Bool.and_eq_true, Bool.and_eq_true] at h
 exact ⟨List.isEmpty_iff.1 h.1.1, of_decide_eq_true h.1.2, of_decide_eq_true h.2⟩
theorem dec_ok {p : Int} {wd : Bool} (hm : Md p wd) {xs ys P R T : List Int} {A B : R3} {d w : Int} (hx : Els p xs) (hn : xs.Nodup) (hd : -1 <= d) (hw : 0 <= w) (hs : d + 2 * w + 1 <= xs.length) (hT : Thr p xs ys T) (hF : Fnd p (d + w + 1).toNat (zl p xs) T A B) (hv : Dv p B.x B.v P R) (hk : okB R P B.v d w = true) :
 Dec p (d + 1).toNat w.toNat xs ys P ∧ offs (fun i => vl p (co xs i) B.v != 0) xs.length = offp p P xs ys := by
 obtain ⟨rfl, h1, h2⟩ := okB_facts hk
 have hD : Dec p (d + 1).toNat w.toNat xs ys P := Dec.of_row hm hx hn (by omega) hT hF hv (by omega) (by omega)
 refine ⟨hD, ?_⟩
 obtain ⟨_, _, h3⟩ := hD.tells hm hx hn (stop := (d + w + 1).toNat) (by omega) (by omega) hT hF
 unfold offs offp
 refine List.filter_congr (fun i hi => ?_)
 have := h3 i (List.mem_range.1 hi)
 show (!(vl p (co xs i) B.v != 0)) = _
 by_cases e : vl p (co xs i) B.v = 0
 · rw [e, decide_eq_true (this.1 e)]; rfl
 · rw [bne_iff_ne.2 e, decide_eq_false (fun c => e (this.2 c))]; rfl
theorem dec_no {p : Int} {wd : Bool} (hm : Md p wd) {xs ys P R T : List Int} {A B : R3} {d w : Int} (hx : Els p xs) (hn : xs.Nodup) (hd : -1 <= d) (hw : 0 <= w) (hs : d + 2 * w + 1 <= xs.length) (hT : Thr p xs ys T) (hF : Fnd p (d + w + 1).toNat (zl p xs) T A B) (hv : Dv p B.x B.v P R) (hk : okB R P B.v d w = false) (Q : List Int) : ¬ Dec p (d + 1).toNat w.toNat xs ys Q := fun hQ => by
 obtain ⟨h1, h2, _⟩ := hQ.tells hm hx hn (stop := (d + w + 1).toNat) (by omega) (by omega) hT hF
 obtain ⟨rfl, rfl⟩ := Dv.only hm (row_ne hm hx (by omega) hT hF).2.2.1.1 hv h1
 rw [okB_yes (by have := hQ.2.1; omega) (by omega)] at hk
 cases hk
def GivesD (k : FuncId) (args : Array Value) (W : World) (S : List Int -> List Int -> Bool -> Prop) (e0 : Int) : Prop :=
 Calls Tryz.prog k args W fun e w' => ∃ vp va P at' ok, e = .returned (.tuple #[vp, va, .bool ok, .int .i64 e0]) ∧ S P at' ok ∧ w'.ownsRow W.heap.size 64 1 vp P.length (vals P) ∧ w'.ownsRow W.heap.size 3 1 va at'.length (at'.flatMap iw) ∧ Below W.heap.size W w'
theorem GivesD.none {k : FuncId} {args : Array Value} {W : World} {S : List Int -> List Int -> Bool -> Prop} {e0 : Int} (hS : S [] [] false) (h : Calls Tryz.prog k args W fun e w' => e = .returned (.tuple #[.slice none 0 0, .slice none 0 0, .bool false, .int .i64 e0]) ∧ Below W.heap.size W w') : GivesD k args W S e0 :=
 h.mono fun e w' ⟨he, hb⟩ => ⟨_, _, [], [], false, he, hS, World.ownsRow_nil _ _ _ _, World.ownsRow_nil _ _ _ _, hb⟩
theorem box_nil {W wX : World} {g : Nat} {T : TypeId} (hg : W.heap.size <= g) (hB : Below W.heap.size W wX) (hx : wX.heap[g]? = some (.cells #[.slice none 0 0] T (0, 0))) : (wX.setCell ⟨g, 0, none⟩ (.slice none 0 0)).cell? ⟨g, 0, none⟩ = some (.slice none 0 0) ∧ Below W.heap.size W (wX.setCell ⟨g, 0, none⟩ (.slice none 0 0)) :=
 ⟨(box_cell (set_blk hx 0 (.slice none 0 0))).1, hB.setCell (p := ⟨g, 0, none⟩) hg _⟩
def bx3 (W : World) (f : Int) (v : Value) : World := ((W.alloc (.cells #[.int .u8 f] 22)).alloc (.cells #[v] 36)).alloc (.cells #[.slice none 0 0] 27)
theorem bx3_facts (W : World) (f : Int) (v : Value) : (bx3 W f v).heap[W.heap.size]? = some (.cells #[.int .u8 f] 22 (0, 0)) ∧ (bx3 W f v).heap[W.heap.size + 1]? = some (.cells #[v] 36 (0, 0)) ∧ (bx3 W f v).heap[W.heap.size + 1 + 1]? = some (.cells #[.slice none 0 0] 27 (0, 0)) ∧ Below W.heap.size W (bx3 W f v) ∧ (bx3 W f v).heap.size = W.heap.size + 3 := by
 have e1 : (W.alloc (.cells #[.int .u8 f] 22)).heap.size = W.heap.size + 1 := by simp
 have e2 : ((W.alloc (.cells #[.int .u8 f] 22)).alloc (.cells #[v] 36)).heap.size = W.heap.size + 1 + 1 := by simp
 have a1 := heap_alloc_new W (.cells #[.int .u8 f] 22)
 have a2 := heap_alloc_new (W.alloc (.cells #[.int .u8 f] 22)) (.cells #[v] 36)
 have a3 := heap_alloc_new ((W.alloc (.cells #[.int .u8 f] 22)).alloc (.cells #[v] 36)) (.cells #[.slice none 0 0] 27)
 have b1 := alloc_below W (.cells #[.int .u8 f] 22)
 have b2 := alloc_below (W.alloc (.cells #[.int .u8 f] 22)) (.cells #[v] 36)
 have b3 := alloc_below ((W.alloc (.cells #[.int .u8 f] 22)).alloc (.cells #[v] 36)) (.cells #[.slice none 0 0] 27)
 rw [e1] at a2 b2
 rw [e2] at a3 b3
 refine ⟨?_, ?_, a3, Below.next (Below.next b1 (by rw [e1]; exact b2)) (by rw [e2]; exact b3), by unfold bx3; simp⟩
 · exact (b3.block _ (by omega)).trans ((b2.block _ (by omega)).trans a1)
 · exact (b3.block _ (by omega)).trans a2
theorem dec_arg (f : Int) (v1 v2 : Value) (d w : Int) (W : World) (h : d < -1 ∨ w < 0) (hv : ∃ ao n cap, v1 = .slice ao n cap) :
 Calls Tryz.prog 58 #[.int .u8 f, v1, v2, .int .i64 d, .int .i64 w] W fun e w' => e = .returned (.tuple #[.slice none 0 0, .slice none 0 0, .bool false, .int .i64 2]) ∧ Below W.heap.size W w' := by
 obtain ⟨ao, n, cap, rfl⟩ := hv
 obtain ⟨q1, q2, q3, q4, _⟩ := bx3_facts W f (.slice ao n cap)
 have k3 := (box_cell q3).1
 have k4 := (box_cell q3).2
 have G2 := hide q4
 clear q1 q2 q3 q4
 unfold bx3 at *
 by_cases hd : d < -1
 · go_enter Tryz.func58, Tryz.ntmps58
   go_wp2
   refine bodyPost_ret (v := .tuple #[.slice none 0 0, .slice none 0 0, .bool false, .int .i64 2]) ?_ rfl ⟨rfl, G2.out⟩
   simp [results, Tryz.results58, go_sem, k3]
 · have hw : w < 0 := h.resolve_left hd
   go_enter Tryz.func58, Tryz.ntmps58
   go_wp2
   refine bodyPost_ret (v := .tuple #[.slice none 0 0, .slice none 0 0, .bool false, .int .i64 2]) ?_ rfl ⟨rfl, G2.out⟩
   simp [results, Tryz.results58, go_sem, k3]
theorem dec_bad (f : Int) (v1 v2 : Value) (xs ys : List Int) (d w : Int) (W : World) (h1 : Rw W v1 xs) (h2 : Rw W v2 ys) (h : ¬ (d < -1 ∨ w < 0)) (hb : bad f xs ys ys.length ≠ 0) :
 Calls Tryz.prog 58 #[.int .u8 f, v1, v2, .int .i64 d, .int .i64 w] W fun e w' => e = .returned (.tuple #[.slice none 0 0, .slice none 0 0, .bool false, .int .i64 (bad f xs ys ys.length)]) ∧ Below W.heap.size W w' := by
 have hd : ¬ d < -1 := fun e => h (.inl e)
 have hw : ¬ w < 0 := fun e => h (.inr e)
 have HT := hide (fun W' (hb : Below W.heap.size W W') => iThrough f v1 v2 xs ys W' (h1.below hb) (h2.below hb))
 unfold Gives at HT
 obtain ⟨ao, cap, rfl, _⟩ := h1.spell
 obtain ⟨q1, q2, q3, q4, _⟩ := bx3_facts W f (.slice ao xs.length cap)
 have Q4 := hide q4
 have Q3 := hide q3
 have k1 := (box_cell q1).1
 have k2 := (box_cell q2).1
 clear h1 h2 h q1 q2 q3 q4
 unfold bx3 at *
 have hne : (bad f xs ys ys.length != 0) = true := bne_iff_ne.2 hb
 generalize bad f xs ys ys.length = e0 at *
 clear hb
 go_enter Tryz.func58, Tryz.ntmps58
 go_wp2_with (go_at_call 86; refine (HT.out _ Q4.out).mono ?_; rintro e w1 ⟨vt, rfl, hO, hb1⟩; clear hO; have hB1 := Below.next Q4.out hb1; have E1 := hide ((hb1.block _ (Array.getElem?_eq_some_iff.1 Q3.out).1).trans Q3.out); have m1 := (box_cell E1.out).1; have m2 := (box_cell E1.out).2)
 obtain ⟨g1, g2⟩ := box_nil (by omega) hB1 E1.out
 refine bodyPost_ret (v := .tuple #[.slice none 0 0, .slice none 0 0, .bool false, .int .i64 e0]) ?_ rfl ⟨rfl, g2⟩
 simp [results, Tryz.results58, go_sem, g1]
theorem dec_short (f : Int) (v1 v2 : Value) (xs ys : List Int) (d w : Int) (W : World) (h1 : Rw W v1 xs) (h2 : Rw W v2 ys) (hd0 : -1 <= d ∧ d <= 9223372036854775807) (hw0 : 0 <= w ∧ w <= 9223372036854775807) (hb : bad f xs ys ys.length = 0) (hl : xs.length <= 512) (hs : (xs.length : Int) < d + 2 * w + 1) :
 Calls Tryz.prog 58 #[.int .u8 f, v1, v2, .int .i64 d, .int .i64 w] W fun e w' => e = .returned (.tuple #[.slice none 0 0, .slice none 0 0, .bool false, .int .i64 7]) ∧ Below W.heap.size W w' := by
 have hd : ¬ d < -1 := by omega
 have hw : ¬ w < 0 := by omega
 have HT := hide (fun W' (hb : Below W.heap.size W W') => iThrough f v1 v2 xs ys W' (h1.below hb) (h2.below hb))
 unfold Gives at HT
 rw [hb] at HT
 have HN := hide (fun W' => gEnough xs.length d w W' (by omega) hd0 hw0)
 rw [decide_eq_true hs] at HN
 obtain ⟨ao, cap, rfl, _⟩ := h1.spell
 obtain ⟨q1, q2, q3, q4, _⟩ := bx3_facts W f (.slice ao xs.length cap)
 have Q4 := hide q4
 have Q3 := hide q3
 have Q2 := hide q2
 have k1 := (box_cell q1).1
 have k2 := (box_cell q2).1
 clear h1 h2 q1 q2 q3 q4 hb hs
 unfold bx3 at *
 generalize hn : xs.length = n at *
 clear hn
 go_enter Tryz.func58, Tryz.ntmps58
 go_wp2_with (first
  | (go_at_call 87; refine (HN.out _).mono ?_; rintro e w2 ⟨rfl, hw2⟩; rw [hw2]; clear hw2; simp only [Bool.not_true])
  | (go_at_call 86; refine (HT.out _ Q4.out).mono ?_; rintro e w1 ⟨vt, rfl, hO, hb1⟩; clear hO; have hB1 := Below.next Q4.out hb1; have E1 := hide ((hb1.block _ (Array.getElem?_eq_some_iff.1 Q3.out).1).trans Q3.out); have m1 := (box_cell E1.out).1; have m2 := (box_cell E1.out).2; have E2 := hide ((hb1.block _ (Array.getElem?_eq_some_iff.1 Q2.out).1).trans Q2.out); have m3 := (box_cell E2.out).1))
 obtain ⟨g1, g2⟩ := box_nil (by omega) hB1 E1.out
 refine bodyPost_ret (v := .tuple #[.slice none 0 0, .slice none 0 0, .bool false, .int .i64 7]) ?_ rfl ⟨rfl, g2⟩
 simp [results, Tryz.results58, go_sem, g1]
attribute [local go_sem] Oper.semAt_some
theorem one_sl (a : Option Addr) (n c : Nat) : ∀ (i : Nat) (x : Int), (#[Value.slice a n c] : Array Value)[i]? ≠ some (Value.int .u64 x) := fun i x => by
 rcases i with _ | i <;> simp
theorem nms_iw (l : List Nat) : (l.map (fun (i : Nat) => (i : Int))).flatMap iw = nms l := by
 induction l with
 | nil => rfl
 | cons a l ih => simp [iw, nms] at ih ⊢; exact ih
theorem ofI_iw (p : Int) (P xs ys : List Int) : (ofI p P xs ys).flatMap iw = nms (offp p P xs ys) := nms_iw _
theorem dec_end {W W6 W7 : World} {D B m cap2 : Nat} {vp : Value} {P : List Int} {ao2 : Option Addr} {us : List Value} (hB : Below W.heap.size W W7) (h1 : W7.ownsRow W.heap.size 64 1 vp P.length (vals P)) (h2 : W7.ownsRow W6.heap.size 3 1 (.slice ao2 m cap2) m us) (h3 : W7.heap[B]? = some (.cells #[.slice ao2 m cap2] 27 (0, 0))) (hK : W7.heap[D]? = some (.deferred (some []))) (hD : D ≠ B) (hB2 : B < W6.heap.size) (hW : W.heap.size <= B := by omega) :
 (W7.setCell ⟨B, 0, none⟩ (.slice ao2 m cap2)).drew.heap[D]? = some (.deferred (some [])) ∧ (W7.setCell ⟨B, 0, none⟩ (.slice ao2 m cap2)).drew.cell? ⟨B, 0, none⟩ = some (.slice ao2 m cap2) ∧ (W7.setCell ⟨B, 0, none⟩ (.slice ao2 m cap2)).drew.ownsRow W.heap.size 64 1 vp P.length (vals P) ∧ (W7.setCell ⟨B, 0, none⟩ (.slice ao2 m cap2)).drew.ownsRow W.heap.size 3 1 (.slice ao2 m cap2) m us ∧ Below W.heap.size W (W7.setCell ⟨B, 0, none⟩ (.slice ao2 m cap2)).drew := by
 have hdr := (Below.refl (W7.setCell ⟨B, 0, none⟩ (.slice ao2 m cap2)).heap.size (W7.setCell ⟨B, 0, none⟩ (.slice ao2 m cap2))).drew
 refine ⟨(Below.heap_setCell _ _ _ D hD).trans hK, (box_cell (set_blk h3 0 (.slice ao2 m cap2))).1, own_below (own_other h1 (own_apart h1 h3 (by decide))) hdr, own_below (own_other (own_mono h2 (by omega)) (own_apart h2 h3 (by decide))) hdr, (hB.setCell (p := ⟨B, 0, none⟩) hW _).drew⟩
theorem dec_main (f p : Int) (wd : Bool) (v1 v2 : Value) (xs ys : List Int) (d w : Int) (W : World) (h1 : Rw W v1 xs) (h2 : Rw W v2 ys) (hf : Fi f p wd) (hx : Els p xs) (hy : Els p ys) (hl : xs.length <= 512) (hn : xs.Nodup) (hd0 : -1 <= d) (hw0 : 0 <= w) (hb : bad f xs ys ys.length = 0) (hs : d + 2 * w + 1 <= xs.length) :
 GivesD 58 #[.int .u8 f, v1, v2, .int .i64 d, .int .i64 w] W (fun P at' ok => (ok = true ∧ Dec p (d + 1).toNat w.toNat xs ys P ∧ at' = ofI p P xs ys) ∨ (ok = false ∧ P = [] ∧ at' = [] ∧ ∀ R, ¬ Dec p (d + 1).toNat w.toNat xs ys R)) 0 := by
 unfold GivesD
 have hd : ¬ d < -1 := by omega
 have hw : ¬ w < 0 := by omega
 have HT := hide (fun W' (hb : Below W.heap.size W W') => iThrough f v1 v2 xs ys W' (h1.below hb) (h2.below hb))
 unfold Gives at HT
 rw [hb] at HT
 have hTh : Thr p xs ys (thrL f xs ys) := by
  unfold thrL
  rw [if_pos hb, pOf_eq hf]
  exact tp_thr hf.md hx hy hn
 have HTh := hide hTh
 have HTw := hide (thrL_wd f (xs := xs) (ys := ys) (by omega))
 have hTl := hTh.2.1
 have hTe := hTh.1.1
 generalize thrL f xs ys = T at *
 have HN := hide (fun W' => gEnough xs.length d w W' (by omega) ⟨hd0, by omega⟩ ⟨hw0, by omega⟩)
 rw [decide_eq_false (by omega)] at HN
 have HS := hide (fun W' vt (hb : Below W.heap.size W W') (hr : Rw W' vt T) => gSearch f p wd v1 vt xs T d w W' hf (h1.below hb) hr hx hl hTe (by omega) hd0 hw0 (by omega))
 have HP := hide (fun W' c0 c2 A B (r0 : Rw W' c0 B.x) (r2 : Rw W' c2 B.v) (hF : Fnd p (d + w + 1).toNat (zl p xs) T A B) => gPolynomial f p wd c0 c2 B.x B.v d w W' hf r0 r2 (row_ne hf.md hx (by omega) hTh hF).2.1 (row_ne hf.md hx (by omega) hTh hF).2.2.1 (row_ne hf.md hx (by omega) hTh hF).1 (by have := (row_ne hf.md hx (by omega) hTh hF).2.2.2.1; omega) (by have := (row_ne hf.md hx (by omega) hTh hF).2.2.2.2.1; omega))
 have HV := hide (fun A B (hF : Fnd p (d + w + 1).toNat (zl p xs) T A B) => (row_ne hf.md hx (by omega) hTh hF))
 have HOK := hide (fun A B P R (hF : Fnd p (d + w + 1).toNat (zl p xs) T A B) (hv : Dv p B.x B.v P R) => And.intro (fun hk => dec_ok hf.md hx hn hd0 hw0 hs hTh hF hv hk) (fun hk => dec_no hf.md hx hn hd0 hw0 hs hTh hF hv hk))
 have HR1 := hide (fun W' (hb : Below W.heap.size W W') => h1.below hb)
 have HF := hide hf
 have HX := hide hx
 obtain ⟨ao, cap, rfl, _⟩ := h1.spell
 obtain ⟨q1, q2, q3, q4, _⟩ := bx3_facts W f (.slice ao xs.length cap)
 have Q4 := hide q4
 have Q3 := hide q3
 have Q2 := hide q2
 have Q1 := hide q1
 have k1 := (box_cell q1).1
 have k2 := (box_cell q2).1
 clear h1 h2 q1 q2 q3 q4 hb hTh hTe hf hx hy hn hs hd0 hw0 hTl
 unfold bx3 at *
 obtain ⟨n, Hn⟩ : ∃ n, Hid (xs.length = n) := ⟨_, rfl⟩
 rw [Hn.out] at HT HN HS HR1 Q1 Q2 Q3 Q4 k1 k2 hl ⊢
 refine (callsIn_wide (n := 5)).1 ?_
 refine callsIn_of_wp_marks Tryz.func58 rfl trivial ?_ rfl
 simp only [Tryz.ntmps58, List.size_toArray, List.length_cons, List.length_nil, Nat.reduceAdd, Nat.reduceSub, Array.replicate_succ, Array.replicate_zero, List.push_toArray, List.append_toArray, List.nil_append, List.cons_append]
 refine wpIn_wide.2 ?_
 go_wp2_with (first
  | (go_at_call 88; refine (HS.out _ _ hB1 HRt.out).mono ?_; rintro e w3 ⟨c0, c2, A, B, rfl, r0, r2, hF, hb3⟩; obtain ⟨x0, y0, rfl, _⟩ := r0.spell; obtain ⟨x2, y2, rfl, _⟩ := r2.spell; have R0 := hide r0; have R2 := hide r2; have HFn := hide hF; clear r0 r2 hF; have hB3 := Below.next hB1 hb3; have F1 := hide ((hb3.block _ (Array.getElem?_eq_some_iff.1 E1.out).1).trans E1.out); have F2 := hide ((hb3.block _ (Array.getElem?_eq_some_iff.1 E2.out).1).trans E2.out); have F3 := hide ((hb3.block _ (Array.getElem?_eq_some_iff.1 E3.out).1).trans E3.out); clear E1 E2 E3 m3 m4; have ab := alloc_below w3 (.cells #[.slice x0 B.x.length y0, .slice x2 B.v.length y2] 134); have E1 := hide ((ab.block _ (Array.getElem?_eq_some_iff.1 F1.out).1).trans F1.out); have E2 := hide ((ab.block _ (Array.getElem?_eq_some_iff.1 F2.out).1).trans F2.out); have E3 := hide ((ab.block _ (Array.getElem?_eq_some_iff.1 F3.out).1).trans F3.out); have E4 := hide (heap_alloc_new w3 (.cells #[.slice x0 B.x.length y0, .slice x2 B.v.length y2] 134)); have hB4 := hide (Below.next hB3 ab); have m5 := (box_cell E1.out).1; have m6 := (cell_two E4.out).1; have m7 := (cell_two E4.out).2.1; have R04 := hide (R0.out.below ab); have R24 := hide (R2.out.below ab); clear F1 F2 F3 ab R0 R2)
  | (go_at_call 87; refine (HN.out _).mono ?_; rintro e w2 ⟨rfl, hw2⟩; rw [hw2]; clear hw2; simp only [Bool.not_false])
  | (go_at_call 86; refine (HT.out _ Q4.out).mono ?_; rintro e w1 ⟨vt, rfl, hO, hb1⟩; have HRt := hide (HTw.out.row hO); obtain ⟨at1, ct1, rfl, _⟩ := HRt.out.spell; clear hO; have hB1 := Below.next Q4.out hb1; have E3 := hide ((hb1.block _ (Array.getElem?_eq_some_iff.1 Q3.out).1).trans Q3.out); have E2 := hide ((hb1.block _ (Array.getElem?_eq_some_iff.1 Q2.out).1).trans Q2.out); have E1 := hide ((hb1.block _ (Array.getElem?_eq_some_iff.1 Q1.out).1).trans Q1.out); have m3 := (box_cell E2.out).1; have m4 := (box_cell E1.out).1))
 generalize (w3.alloc (.cells #[.slice x0 B.x.length y0, .slice x2 B.v.length y2] 134)) = w4 at *
 refine (HP.out _ _ _ A B R04.out R24.out HFn.out).mono ?_
 rintro e w5 ⟨vp, P, R, rfl, hv, hO, hb5⟩
 have hB5 := Below.next hB4.out hb5
 have G1 := hide ((hb5.block _ (Array.getElem?_eq_some_iff.1 E1.out).1).trans E1.out)
 have G2 := hide ((hb5.block _ (Array.getElem?_eq_some_iff.1 E2.out).1).trans E2.out)
 have G3 := hide ((hb5.block _ (Array.getElem?_eq_some_iff.1 E3.out).1).trans E3.out)
 have G4 := hide ((hb5.block _ (Array.getElem?_eq_some_iff.1 E4.out).1).trans E4.out)
 have R25 := hide (R24.out.below hb5)
 have HOK2 := hide (HOK.out A B P R HFn.out hv)
 have hs4 := hB4.out.size
 have HO := hide hO
 obtain ⟨ap, cp, rfl⟩ := own_form hO
 clear hO hv E1 E2 E3 E4 HP HS HT HN R04 R24 HRt m5 m6 m7 Q1 Q2 Q3 Q4 k1 k2
 cases hk : okB R P B.v d w with
 | false =>
  rw [hk] at HO HOK2
  have e9 : (if false = true then P else ([] : List Int)) = [] := rfl
  rw [e9] at HO ⊢
  clear e9
  rw [List.length_nil] at HO ⊢
  have HN2 := hide (HOK2.out.2 rfl)
  have m1 := (box_cell G3.out).1
  have m2 := (box_cell G3.out).2
  clear hk HOK HOK2 HO
  go_wp2
  obtain ⟨g1, g2⟩ := box_nil (by omega) hB5 G3.out
  refine ⟨.tuple #[.slice none 0 0, .slice none 0 0, .bool false, .int .i64 0], ?_, ⟨_, _, [], [], false, rfl, .inr ⟨rfl, rfl, rfl, HN2.out⟩, World.ownsRow_nil _ _ _ _, World.ownsRow_nil _ _ _ _, g2⟩⟩
  simp [results, Tryz.results58, go_sem, g1]
 | true =>
  rw [hk] at HO HOK2
  have e9 : (if true = true then P else ([] : List Int)) = P := rfl
  rw [e9] at HO ⊢
  clear e9
  have HD2 := hide (HOK2.out.1 rfl)
  have m2 := (box_cell G2.out).1
  have HG := hide (fun g lb W' => gOff (n : Int) g lb W')
  clear hk HOK HOK2
  go_wp2_with (go_at_call 80; refine (HG.out _ _ _).mono ?_; rintro e w6 ⟨bn, bl, rfl, j1, j2, j3, j4, j5, j6, hb6⟩)
  have hB6 := Below.next hB5 hb6
  have K1 := (hb6.block _ (Array.getElem?_eq_some_iff.1 G1.out).1).trans G1.out
  have K2 := (hb6.block _ (Array.getElem?_eq_some_iff.1 G2.out).1).trans G2.out
  have K3 := (hb6.block _ (Array.getElem?_eq_some_iff.1 G3.out).1).trans G3.out
  have K4 := (hb6.block _ (Array.getElem?_eq_some_iff.1 G4.out).1).trans G4.out
  have R26 := R25.out.below hb6
  have R16 := HR1.out _ hB6
  have ho6 := own_mono (base' := W.heap.size) (own_below HO.out hb6) hs4
  have HO6 := hide ho6
  have HOS : Hid (∀ g, (Value.slice ap P.length cp).ownBlock = some g -> Sx w6.heap.size (W.heap.size + 1 + 1) g) := fun g hg => ⟨own_top ho6 g hg, fun e => own_apart ho6 K3 (by decide) (by rw [hg, e])⟩
  clear ho6
  have hs6 := hb6.size
  have l1 := (Array.getElem?_eq_some_iff.1 K1).1
  have l2 := (Array.getElem?_eq_some_iff.1 K2).1
  have l3 := (Array.getElem?_eq_some_iff.1 K3).1
  have l4 := (Array.getElem?_eq_some_iff.1 K4).1
  have hw3 : w3.heap.size ≠ W.heap.size + 1 + 1 := fun e => by rw [e, K3] at K4; simp at K4
  have hLi : Lies (Sx w6.heap.size (W.heap.size + 1 + 1)) 90 #[.pointer (some ⟨W.heap.size, 0, none⟩), .pointer (some ⟨w3.heap.size, 0, none⟩), .pointer (some ⟨W.heap.size + 1, 0, none⟩)] (fun i => vl p (co xs i) B.v != 0) n w6 := ⟨enters_of Tryz.func90 (by kernel_rfl) rfl, fun W' i hk hi => gLies f p wd W.heap.size w3.heap.size (W.heap.size + 1) _ _ B.v xs i W' HF.out ((hk.cell (a := ⟨W.heap.size, 0, none⟩) ⟨l1, by simp; omega⟩).trans (box_cell K1).1) ((hk.cell (a := ⟨w3.heap.size, 1, none⟩) ⟨l4, hw3⟩).trans (cell_two K4).2.1) ((hk.cell (a := ⟨W.heap.size + 1, 0, none⟩) ⟨l2, by simp⟩).trans (box_cell K2).1) (R26.kq K3 (one_sl _ _ _) hk) (R16.kq K3 (one_sl _ _ _) hk) (HV.out A B HFn.out).2.2.1.1 (by have := (HV.out A B HFn.out).2.2.2.2.1; have := Hn.out; omega) HX.out (by rw [Hn.out]; exact hi)⟩
  have hseq := off_stops 4 (by omega) bn bl _ _ n (by omega) _ (Sx w6.heap.size (W.heap.size + 1 + 1)) w6 ⟨j6, by have := (Array.getElem?_eq_some_iff.1 G3.out).1; omega⟩ (fun j hj => hj.1) hLi j1 j2
  have hA0 : Atb w6 w6 (W.heap.size + 1 + 1) [] := ⟨⟨none, 0, K3, World.ownsRow_nil _ _ _ _⟩, Kq.refl _ _⟩
  have HSQ := hide hseq
  have HA0 := hide hA0
  have hB2 : W.heap.size + 1 + 1 < w6.heap.size := l3
  clear hLi hseq hA0 K1 K2 K3 K4 R26 R16 l1 l2 l3 l4 hw3 G1 G2 G3 G4 R25 HO m2 HG HR1 HX HF HV j1 j2 j3 j4 j5 j6 hb6 hB5 hb5 hB4 hB3 hb3 HTw HTh hs6 hs4 hB1 hb1 hd hw
  refine (wpIn_wide (n := 5)).1 ?_
  refine wpIn_rangeFunc_ownG rfl (by omega) (gf := 107) (lb := #[.pointer (some ⟨bn, 0, none⟩), .pointer (some ⟨bl, 0, none⟩)]) rfl trivial (enters_of Tryz.func107 (by kernel_rfl) rfl)
   HSQ.out (fun h k => Kq.trans h k) (fun W' l o o' hl _ _ _ => Kq.put W' l o o' hl) (Below.refl _ _) (fun _ => rfl)
   (fun pre W' => Atb w6 W' (W.heap.size + 1 + 1) pre)
   (fun _ _ _ => False)
   (Atb.own (Nat.le_refl _))
   (fun _ _ _ _ _ hs _ _ => hs)
   HA0.out
   (fun x => { tmps := #[.int .u8 f, .slice ao n cap, v2, .int .i64 d, .int .i64 w, .pointer (some ⟨W.heap.size, 0, none⟩), .pointer (some ⟨W.heap.size + 1, 0, none⟩), undef, undef, undef, .slice ap P.length cp, .pointer (some ⟨W.heap.size + 1 + 1, 0, none⟩), .bool true, .int .i64 0, .slice at1 T.length ct1, .pointer (some ⟨w3.heap.size, 0, none⟩), .func (.func 90) #[] #[.pointer (some ⟨W.heap.size, 0, none⟩), .pointer (some ⟨w3.heap.size, 0, none⟩), .pointer (some ⟨W.heap.size + 1, 0, none⟩)], .int .i64 (x : Int), .int .i64 d, .bool false, .bool false, .int .i64 w, .bool false, .bool false, .tuple #[.slice at1 T.length ct1, .int .i64 0], .int .u8 f, .slice ao n cap, v2, .tuple #[.slice at1 T.length ct1, .int .i64 0], .slice at1 T.length ct1, .int .i64 0, .int .i64 0, .bool false, undef, .slice ao n cap, .int .i64 (n : Int), .int .i64 d, .int .i64 w, .bool true, .bool false, .int .u8 f, .slice ao n cap, .slice at1 T.length ct1, .int .i64 d, .int .i64 w, .agg #[.slice x0 B.x.length y0, .slice x2 B.v.length y2], .tuple #[.slice ap P.length cp, .bool true], .agg #[.slice x0 B.x.length y0, .slice x2 B.v.length y2], .int .u8 f, .int .i64 d, .int .i64 w, .tuple #[.slice ap P.length cp, .bool true], .slice ap P.length cp, .bool true, .bool true, .bool false, .func (.func 90) #[] #[.pointer (some ⟨W.heap.size, 0, none⟩), .pointer (some ⟨w3.heap.size, 0, none⟩), .pointer (some ⟨W.heap.size + 1, 0, none⟩)], .slice ao n cap, .int .i64 (n : Int), .func (.func 90) #[] #[.pointer (some ⟨W.heap.size, 0, none⟩), .pointer (some ⟨w3.heap.size, 0, none⟩), .pointer (some ⟨W.heap.size + 1, 0, none⟩)], .func (.func 107) #[] #[.pointer (some ⟨bn, 0, none⟩), .pointer (some ⟨bl, 0, none⟩)], .int .i64 (x : Int), undef, undef, undef, undef, undef, undef], defers := [] }) ?assign ?body ?done ?stop
  case assign =>
   intro L x W' K hK
   unfold nmv
   gi_wp2
   exact hK
  case body =>
   obtain ⟨i0, hi0, hz0, hz1, hz2⟩ := info_parts int_info
   intro L pre x W' hI hlt
   have HQ : Hid (∀ W8, KeepsFrom w6.heap.size W' W8 -> Kq (Sx w6.heap.size (W.heap.size + 1 + 1)) W' W8 -> Atb w6 W8 (W.heap.size + 1 + 1) (pre ++ [x]) -> ∀ a', ownPostG w6.heap.size (Kq (Sx w6.heap.size (W.heap.size + 1 + 1))) (fun pre W' => Atb w6 W' (W.heap.size + 1 + 1) pre) (fun _ _ _ => False) (pre ++ [x]) W' .normal a' W8) := fun W8 k1 k2 k3 a' => ⟨k1, k2, k3⟩
   change (_ : Code).wpIn _ _ _ _ _ _
   generalize ownPostG w6.heap.size (Kq (Sx w6.heap.size (W.heap.size + 1 + 1))) (fun pre W' => Atb w6 W' (W.heap.size + 1 + 1) pre) (fun _ _ _ => False) (pre ++ [x]) W' = QQ at HQ ⊢
   obtain ⟨ao2, cap2, h1, h2⟩ := hI.box
   obtain ⟨c1, c2⟩ := box_cell h1
   have HI := hide hI
   have hWs : w6.heap.size <= W'.heap.size := hI.kq.size
   have H1 := hide h1
   have H2 := hide h2
   have hpl : pre.length <= 512 := by omega
   generalize hy : pre.length = ly at *
   clear hI h1 h2 HA0 HSQ
   gi_wp2_with (gi_at_builtin; refine wpListIn_append_own _ rfl _ _ 27 rfl w6.heap.size 3 i0 (.int .i64 0) 1 8 Tryz.underlying27 hi0 hz0 hz1 hz2 rfl (by decide) _ ly (nms pre) rfl (own_below H2.out (alloc_below W' _)) ⟨W'.heap.size, 0, none⟩ 1 1 [.int .i64 (x : Int)] rfl rfl (cell_one_new _ _ _) (by simp [Value.oneCell']) (by unfold maxLen; omega) (by omega) (by simp; omega) ?_; intro v' w8 hown3 hg3 hnil3; clear hnil3; obtain ⟨hB3, hL3, hK3, hP3⟩ := HI.out.app (ao := ao2) (cap := cap2) hB2 (by rw [hy]; exact H1.out) (by rw [hy]; exact H2.out) (by rw [hy]; exact hown3) (by rw [hy]; exact hg3); obtain ⟨a3, k3, rfl⟩ := own_form hown3; obtain ⟨d1, d2⟩ := box_cell hB3)
   exact HQ.out _ hK3 hP3 hL3 _
  case done =>
   rintro D zs W7 hD rfl hI hK
   obtain ⟨ao2, cap2, h1, h2⟩ := hI.box
   obtain ⟨c1, c2⟩ := box_cell h1
   have hkq := hI.kq
   have HO7 := hide h2
   have H1 := hide h1
   have HI := hide hI
   clear hI h1 h2 HA0 HSQ
   obtain ⟨m, HM⟩ : ∃ m, Hid ((offs (fun i => vl p (co xs i) B.v != 0) n).length = m) := ⟨_, rfl⟩
   rw [HM.out] at c1 HO7 H1
   have HO9 := hide (hkq.own HO6.out HOS.out)
   have hB7 : Below W.heap.size W W7 := hB6.trans (hkq.below (fun j hj => ⟨by have := hB6.size; omega, by omega⟩))
   have HB7 := hide hB7
   have hD2 : D ≠ W.heap.size + 1 + 1 := by omega
   clear hB6 HO6 HOS hkq HI hB7
   have HF9 := hide (dec_end HB7.out HO9.out HO7.out H1.out hK hD2 hB2)
   clear HO9 HO7 HB7
   go_wp2
   go_region
   go_wp2
   generalize (W7.setCell ⟨W.heap.size + 1 + 1, 0, none⟩ (.slice ao2 m cap2)).drew = W9 at HF9 ⊢
   obtain ⟨f1, f2, f3, f4, f5⟩ := HF9.out
   clear HF9
   refine ⟨by simp, .inl ⟨_, _, rfl, run_takeDeferred f1, ?_⟩⟩
   have g1 : (W9.putObj D (.deferred none)).cell? ⟨W.heap.size + 1 + 1, 0, none⟩ = some (.slice ao2 m cap2) := (World.cell?_of_block (World.putObj_heap_other (show W.heap.size + 1 + 1 ≠ D from fun e => hD2 e.symm))).trans f2
   refine ⟨.tuple #[.slice ap P.length cp, .slice ao2 m cap2, .bool true, .int .i64 0], ?_, ⟨_, _, P, ofI p P xs ys, true, rfl, .inl ⟨rfl, HD2.out.1, rfl⟩, ownsRow_putObj f3 _ f1 rfl, ?_, f5.trans (belowK_b (w := W) (Nat.le_refl _) W9 D _ _ (by omega) f1 rfl rfl)⟩⟩
   · simp [results, Tryz.results58, go_sem, g1]
   · have e := HD2.out.2
     rw [Hn.out] at e
     have f4 := ownsRow_putObj f4 (.deferred none) f1 rfl
     rw [e, <- HM.out, e] at f4
     rw [ofI_len, ofI_iw]
     rw [<- HM.out, e]
     exact f4
  case stop =>
   rintro D c pre W _ _ hx _
   exact hx.elim
theorem gDecode (f : Int) (v1 v2 : Value) (xs ys : List Int) (d w : Int) (W : World) (h1 : Rw W v1 xs) (h2 : Rw W v2 ys) (hd : -9223372036854775808 <= d ∧ d <= 9223372036854775807) (hw : -9223372036854775808 <= w ∧ w <= 9223372036854775807) :
 GivesD 58 #[.int .u8 f, v1, v2, .int .i64 d, .int .i64 w] W (Dcd f xs ys d w) (dcE f xs ys d w) := by
 by_cases h0 : d < -1 ∨ w < 0
 · have e := dcE_arg (f := f) (xs := xs) (ys := ys) h0
   rw [e]
   obtain ⟨ao, cap, hv, _⟩ := h1.spell
   exact GivesD.none (Dcd.no e (by decide)) (dec_arg f v1 v2 d w W h0 ⟨_, _, _, hv⟩)
 · by_cases hb : bad f xs ys ys.length = 0
   · obtain ⟨p, wd, hf, i1, i2, l1, l2, hn⟩ := bad_zero hb
     by_cases hs : (xs.length : Int) < d + 2 * w + 1
     · have e := dcE_short h0 hb hs
       rw [e]
       exact GivesD.none (Dcd.no e (by decide)) (dec_short f v1 v2 xs ys d w W h1 h2 ⟨by omega, hd.2⟩ ⟨by omega, hw.2⟩ hb l2 hs)
     · have e := dcE_ok h0 hb hs
       rw [e]
       have := dec_main f p wd v1 v2 xs ys d w W h1 h2 hf (els_of i1 h1.words) (els_of i2 h2.words) l2 hn (by omega) (by omega) hb (by omega)
       unfold GivesD at this ⊢
       refine this.mono ?_
       rintro e' w' ⟨vp, va, P, a, ok, he, hS, hO⟩
       exact ⟨vp, va, P, a, ok, he, ⟨fun c => absurd e c, fun _ => by rw [pOf_eq hf]; exact hS⟩, hO⟩
   · have e := dcE_bad h0 hb
     rw [e]
     exact GivesD.none (Dcd.no e hb) (dec_bad f v1 v2 xs ys d w W h1 h2 h0 hb)
end Go.Proofs.YtjhididlcdepdaaGreat
