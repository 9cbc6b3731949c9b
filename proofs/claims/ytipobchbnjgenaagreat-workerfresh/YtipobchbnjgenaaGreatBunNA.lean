import Derived.Lib.SmallJoins
import Derived.Test.YtipobchbnjgenaaGreatBBas
import Derived.Deep.WholeRow
set_option linter.unusedVariables false
set_option linter.unusedSimpArgs false
set_option maxRecDepth 100000
set_option maxHeartbeats 4000000
namespace Go.Proofs.YtipobchbnjgenaaGreat.Pln
structure Pn where
 f : Int
 n : Int
 k : Int
 t : Int
 s : Int
 e : Int
 w : Int
 d : Int
def may (fd : Int -> Bool) (p : Pn) : Bool := fd p.f && decide (1 <= p.n ∧ p.n <= 64 ∧ 1 <= p.k ∧ p.k <= 64 ∧ 1 <= p.w ∧ p.w <= 64 ∧ 0 <= p.t ∧ p.k + p.t <= 64 ∧ 0 <= p.s ∧ p.s <= 64 ∧ 0 <= p.e ∧ p.e <= 64 ∧ 0 <= p.d ∧ p.d <= 1024)
theorem may_iff {fd : Int -> Bool} {p : Pn} : may fd p = true ↔ fd p.f = true ∧ (1 <= p.n ∧ p.n <= 64 ∧ 1 <= p.k ∧ p.k <= 64 ∧ 1 <= p.w ∧ p.w <= 64 ∧ 0 <= p.t ∧ p.k + p.t <= 64 ∧ 0 <= p.s ∧ p.s <= 64 ∧ 0 <= p.e ∧ p.e <= 64 ∧ 0 <= p.d ∧ p.d <= 1024) := by
 unfold may; rw [Bool.and_eq_true, decide_eq_true_iff]
def dg (p : Pn) : Int := p.d * (p.k + p.t - 1)
def need (p : Pn) : Int := dg p + 2 * p.e + 1
def spare (p : Pn) : Int := p.n - (dg p + p.s + 2 * p.e + 1)
theorem dg_bound {fd : Int -> Bool} {p : Pn} (h : may fd p = true) : 0 <= dg p ∧ dg p <= 64512 := by
 have := (may_iff.1 h).2
 refine ⟨Int.mul_nonneg (by omega) (by omega), ?_⟩
 have h1 : p.d * (p.k + p.t - 1) <= 1024 * (p.k + p.t - 1) := Int.mul_le_mul_of_nonneg_right (by omega) (by omega)
 unfold dg
 omega
def wide (p : Pn) : Nat -> Nat
 | 0 => 0
 | k + 1 => if dg { p with k := ((k + 1 : Nat) : Int) } + p.s + 2 * p.e + 1 <= p.n then k + 1 else wide p k
end Go.Proofs.YtipobchbnjgenaaGreat.Pln
namespace Go.Proofs.YtipobchbnjgenaaGreat
open Go.ChangeShapes Go.WideShapes Go.ChangeAt Go.RowKit Pln
def plw (p : Pn) : Array Value := #[.int .u8 p.f, .int .i64 p.n, .int .i64 p.k, .int .i64 p.t, .int .i64 p.s, .int .i64 p.e, .int .i64 p.d, .int .i64 p.w]
def plv (p : Pn) : Value := .agg (plw p)
def I64 (x : Int) : Prop := -9223372036854775808 <= x ∧ x <= 9223372036854775807
def Ok8p (p : Pn) : Prop := (0 <= p.f ∧ p.f <= 255) ∧ I64 p.n ∧ I64 p.k ∧ I64 p.t ∧ I64 p.s ∧ I64 p.e ∧ I64 p.d ∧ I64 p.w
theorem list_eight {α : Type} {cs : List α} (h : cs.length = 8) : ∃ c0 c1 c2 c3 c4 c5 c6 c7, cs = [c0, c1, c2, c3, c4, c5, c6, c7] := by
 match cs, h with
 | [c0, c1, c2, c3, c4, c5, c6, c7], _ => exact ⟨c0, c1, c2, c3, c4, c5, c6, c7, rfl⟩
theorem pl_cells {H : Type} {enc : TypeId × Value -> H} {W : World} {base fuel : Nat} {spare : Nat -> Bool} {held : Bool} {cs : List Value} {x : DataW H × List MemPlace} (h : DataW.trod enc Tryz.prog W base spare held fuel 24 cs = some x) (hl : cs.length = 8) : ∃ q, cs = (plw q).toList ∧ Ok8p q := by
 obtain ⟨c0, c1, c2, c3, c4, c5, c6, c7, rfl⟩ := list_eight hl
 obtain ⟨xs, n, _, _, _, hlen, hf⟩ := DataW.trod_struct Tryz.underlying24 h
 have h8 : xs.length = 8 := hlen
 obtain ⟨y0, y1, y2, y3, y4, y5, y6, y7, rfl⟩ := list_eight h8
 have k1 : Tryz.prog.cellsOf 22 = 1 := by kernel_rfl
 have k2 : Tryz.prog.cellsOf 3 = 1 := by kernel_rfl
 have h0 := hf 0 _ rfl
 have h1 := hf 1 _ rfl
 have h2 := hf 2 _ rfl
 have h3 := hf 3 _ rfl
 have h4 := hf 4 _ rfl
 have h5 := hf 5 _ rfl
 have h6 := hf 6 _ rfl
 have h7 := hf 7 _ rfl
 simp [k1, k2] at h0 h1 h2 h3 h4 h5 h6 h7
 obtain ⟨n0, e0, _, w0⟩ := DataW.trod_int Tryz.underlying22 h0
 obtain ⟨n1, e1, _, w1⟩ := DataW.trod_int Tryz.underlying3 h1
 obtain ⟨n2, e2, _, w2⟩ := DataW.trod_int Tryz.underlying3 h2
 obtain ⟨n3, e3, _, w3⟩ := DataW.trod_int Tryz.underlying3 h3
 obtain ⟨n4, e4, _, w4⟩ := DataW.trod_int Tryz.underlying3 h4
 obtain ⟨n5, e5, _, w5⟩ := DataW.trod_int Tryz.underlying3 h5
 obtain ⟨n6, e6, _, w6⟩ := DataW.trod_int Tryz.underlying3 h6
 obtain ⟨n7, e7, _, w7⟩ := DataW.trod_int Tryz.underlying3 h7
 simp at e0 e1 e2 e3 e4 e5 e6 e7
 subst e0 e1 e2 e3 e4 e5 e6 e7
 exact ⟨⟨n0, n1, n2, n3, n4, n5, n7, n6⟩, rfl, bounds_u8 w0, bounds_i64 w1, bounds_i64 w2, bounds_i64 w3, bounds_i64 w4, bounds_i64 w5, bounds_i64 w6, bounds_i64 w7⟩
theorem open_pl {H : Type} {enc : TypeId × Value -> H} {W : World} {v : Value} {d : DataW H} {p : List MemPlace} {r : Reach} {b0 : Nat} (hv : Value.okWide Tryz.prog W r b0 24 v) (h : DataW.Trod enc Tryz.prog W 0 (fun _ => true) true 24 v d p) : ∃ q, v = plv q ∧ Ok8p q := by
 have hC : Tryz.prog.cellsOf 24 = 8 := by kernel_rfl
 obtain ⟨cs, rfl, hsz⟩ := okWide_struct Tryz.underlying24 hv
 obtain ⟨fuel, hf⟩ := h
 obtain ⟨q, h1, h2⟩ := pl_cells hf (by show cs.toList.length = 8; rw [Array.length_toList]; exact hsz.trans hC)
 refine ⟨q, ?_, h2⟩
 unfold plv
 have h3 : cs.toList = (plw q).toList := h1
 rw [show cs = plw q from Array.toList_inj.1 h3]
end Go.Proofs.YtipobchbnjgenaaGreat
namespace Go.Proofs.YtipobchbnjgenaaGreat
open Go.RowKit Pln
def fdB (f : Int) : Bool := f == 1 || f == 2
def mayP (p : Pn) : Bool := may fdB p
def btw (n a b : Int) : Bool := decide (a <= n ∧ n <= b)
theorem mayP_all (p : Pn) : mayP p = (fdB p.f && btw p.n 1 64 && btw p.k 1 64 && btw p.w 1 64 && btw p.t 0 (64 - p.k) && btw p.s 0 64 && btw p.e 0 64 && btw p.d 0 1024) := by
 unfold mayP
 rw [Bool.eq_iff_iff, may_iff]
 simp only [btw, Bool.and_eq_true, decide_eq_true_iff]
 constructor
 · rintro ⟨h, h2⟩
   refine ⟨⟨⟨⟨⟨⟨⟨h, ?_⟩, ?_⟩, ?_⟩, ?_⟩, ?_⟩, ?_⟩, ?_⟩ <;> omega
 · rintro ⟨⟨⟨⟨⟨⟨⟨h, _⟩, _⟩, _⟩, _⟩, _⟩, _⟩, _⟩
   exact ⟨h, by omega⟩
def Pb (w : World) (g : Nat) (p : Pn) : Prop := w.heap[g]? = some (.cells (plw p) 24 (0, 0))
theorem Pb.lt {w : World} {g : Nat} {p : Pn} (h : Pb w g p) : g < w.heap.size := (Array.getElem?_eq_some_iff.1 h).1
theorem Pb.below {w w' : World} {g : Nat} {p : Pn} (h : Pb w g p) (hb : Below w.heap.size w w') : Pb w' g p := (hb.block g h.lt).trans h
theorem Pb.cells {w : World} {g : Nat} {p : Pn} (h : Pb w g p) : w.cell? ⟨g, 0, none⟩ = some (.int .u8 p.f) ∧ w.cell? ⟨g, 1, none⟩ = some (.int .i64 p.n) ∧ w.cell? ⟨g, 2, none⟩ = some (.int .i64 p.k) ∧ w.cell? ⟨g, 3, none⟩ = some (.int .i64 p.t) ∧ w.cell? ⟨g, 4, none⟩ = some (.int .i64 p.s) ∧ w.cell? ⟨g, 5, none⟩ = some (.int .i64 p.e) ∧ w.cell? ⟨g, 6, none⟩ = some (.int .i64 p.d) ∧ w.cell? ⟨g, 7, none⟩ = some (.int .i64 p.w) := by
 have h' : w.heap[g]? = some (.cells (plw p) 24 (0, 0)) := h
 refine ⟨?_, ?_, ?_, ?_, ?_, ?_, ?_, ?_⟩ <;> simp [World.cell?, h', plw]
theorem pb_new (w : World) (p : Pn) : Pb (w.alloc (.cells (plw p) 24)) w.heap.size p := heap_alloc_last w _
theorem pb_box {w : World} (p : Pn) : Pb (w.alloc (.cells #[.int .u8 p.f, .int .i64 p.n, .int .i64 p.k, .int .i64 p.t, .int .i64 p.s, .int .i64 p.e, .int .i64 p.d, .int .i64 p.w] 24)) w.heap.size p ∧ Below w.heap.size w (w.alloc (.cells #[.int .u8 p.f, .int .i64 p.n, .int .i64 p.k, .int .i64 p.t, .int .i64 p.s, .int .i64 p.e, .int .i64 p.d, .int .i64 p.w] 24)) := ⟨pb_new w p, alloc_below _ _⟩
theorem gField (f : Int) (w : World) : Calls Tryz.prog 158 #[.int .u8 f] w fun e w' => e = .returned (.bool (fdB f)) ∧ w' = w := by
 by_cases h1 : f = 1 <;> by_cases h2 : f = 2
 all_goals
  go_enter Tryz.func158, Tryz.ntmps158
  go_wp2
  all_goals
   go_ret
   refine ⟨?_, rfl⟩
   simp_all [fdB]
theorem gWithin (n a b : Int) (w : World) : Calls Tryz.prog 159 #[.int .i64 n, .int .i64 a, .int .i64 b] w fun e w' => e = .returned (.bool (btw n a b)) ∧ w' = w := by
 by_cases h1 : a <= n <;> by_cases h2 : n <= b
 all_goals
  go_enter Tryz.func159, Tryz.ntmps159
  go_wp2
  all_goals
   go_ret
   refine ⟨?_, rfl⟩
   simp_all [btw]
   try omega
theorem gMay (p : Pn) (h : Ok8p p) : Ans 121 #[plv p] (.bool (mayP p)) := by
 intro w
 rw [mayP_all]
 obtain ⟨_, _, hk, _⟩ := h
 unfold I64 at hk
 have HF := hide (gField p.f)
 have H1 := hide (gWithin p.n 1 64)
 have H2 := hide (gWithin p.k 1 64)
 have H3 := hide (gWithin p.w 1 64)
 have H4 := hide (gWithin p.t 0 (64 - p.k))
 have H5 := hide (gWithin p.s 0 64)
 have H6 := hide (gWithin p.e 0 64)
 have H7 := hide (gWithin p.d 0 1024)
 have hkb : btw p.k 1 64 = true -> 1 <= p.k ∧ p.k <= 64 := fun h => of_decide_eq_true h
 have HK := hide hkb
 clear hkb
 generalize fdB p.f = b0 at *
 generalize btw p.n 1 64 = b1 at *
 generalize btw p.k 1 64 = b2 at *
 generalize btw p.w 1 64 = b3 at *
 generalize btw p.t 0 (64 - p.k) = b4 at *
 generalize btw p.s 0 64 = b5 at *
 generalize btw p.e 0 64 = b6 at *
 generalize btw p.d 0 1024 = b7 at *
 unfold plv plw
 have hcs : b0 = false ∨ (b0 = true ∧ b1 = false) ∨ (b0 = true ∧ b1 = true ∧ b2 = false) ∨ (b0 = true ∧ b1 = true ∧ b2 = true ∧ b3 = false) ∨ (b0 = true ∧ b1 = true ∧ b2 = true ∧ b3 = true ∧ b4 = false) ∨ (b0 = true ∧ b1 = true ∧ b2 = true ∧ b3 = true ∧ b4 = true ∧ b5 = false) ∨ (b0 = true ∧ b1 = true ∧ b2 = true ∧ b3 = true ∧ b4 = true ∧ b5 = true ∧ b6 = false) ∨ (b0 = true ∧ b1 = true ∧ b2 = true ∧ b3 = true ∧ b4 = true ∧ b5 = true ∧ b6 = true) := by
  cases b0 <;> cases b1 <;> cases b2 <;> cases b3 <;> cases b4 <;> cases b5 <;> cases b6 <;> decide
 rcases hcs with rfl | ⟨rfl, rfl⟩ | ⟨rfl, rfl, rfl⟩ | ⟨rfl, rfl, rfl, rfl⟩ | ⟨rfl, rfl, rfl, rfl, rfl⟩ | ⟨rfl, rfl, rfl, rfl, rfl, rfl⟩ | ⟨rfl, rfl, rfl, rfl, rfl, rfl, rfl⟩ | ⟨rfl, rfl, rfl, rfl, rfl, rfl, rfl⟩
 all_goals
  try have hk2 := HK.out rfl
  go_enter Tryz.func121, Tryz.ntmps121
  go_wp2_with (first
   | (go_at_call 158; refine (HF.out _).mono ?_; rintro e w1 ⟨rfl, hw⟩; rw [hw]; clear hw)
   | (go_at_call 159; with_reducible refine (H1.out _).mono ?_; rintro e w1 ⟨rfl, hw⟩; rw [hw]; clear hw)
   | (go_at_call 159; with_reducible refine (H2.out _).mono ?_; rintro e w1 ⟨rfl, hw⟩; rw [hw]; clear hw)
   | (go_at_call 159; with_reducible refine (H3.out _).mono ?_; rintro e w1 ⟨rfl, hw⟩; rw [hw]; clear hw)
   | (go_at_call 159; with_reducible refine (H4.out _).mono ?_; rintro e w1 ⟨rfl, hw⟩; rw [hw]; clear hw)
   | (go_at_call 159; with_reducible refine (H5.out _).mono ?_; rintro e w1 ⟨rfl, hw⟩; rw [hw]; clear hw)
   | (go_at_call 159; with_reducible refine (H6.out _).mono ?_; rintro e w1 ⟨rfl, hw⟩; rw [hw]; clear hw)
   | (go_at_call 159; with_reducible refine (H7.out _).mono ?_; rintro e w1 ⟨rfl, hw⟩; rw [hw]; clear hw))
  go_ret
  refine ⟨?_, alloc_below _ _⟩
  simp
def erP (p : Pn) : Int := if mayP p = true then 0 else 2
def dgV (p : Pn) : Int := if mayP p = true then dg p else 0
def ndV (p : Pn) : Int := if mayP p = true then need p else 0
def spV (p : Pn) : Int := if mayP p = true then spare p else 0
def acE (p : Pn) : Int := if mayP p = true then (if spare p < 0 then 120 else 0) else 2
theorem may_facts {p : Pn} (h : mayP p = true) : (1 <= p.n ∧ p.n <= 64) ∧ (1 <= p.k ∧ p.k <= 64) ∧ (0 <= p.t ∧ p.k + p.t <= 64) ∧ (0 <= p.s ∧ p.s <= 64) ∧ (0 <= p.e ∧ p.e <= 64) ∧ (0 <= p.d ∧ p.d <= 1024) ∧ (1 <= p.w ∧ p.w <= 64) := by
 have := (may_iff.1 h).2
 omega
theorem erP_yes {p : Pn} (h : mayP p = true) : erP p = 0 := if_pos h
theorem erP_no {p : Pn} (h : mayP p = false) : erP p = 2 := by unfold erP; rw [h]; rfl
theorem dgV_yes {p : Pn} (h : mayP p = true) : dgV p = dg p := if_pos h
theorem dgV_no {p : Pn} (h : mayP p = false) : dgV p = 0 := by unfold dgV; rw [h]; rfl
theorem ndV_yes {p : Pn} (h : mayP p = true) : ndV p = need p := if_pos h
theorem ndV_no {p : Pn} (h : mayP p = false) : ndV p = 0 := by unfold ndV; rw [h]; rfl
theorem spV_yes {p : Pn} (h : mayP p = true) : spV p = spare p := if_pos h
theorem spV_no {p : Pn} (h : mayP p = false) : spV p = 0 := by unfold spV; rw [h]; rfl
theorem acE_no {p : Pn} (h : mayP p = false) : acE p = 2 := by unfold acE; rw [h]; rfl
theorem acE_yes {p : Pn} (h : mayP p = true) : acE p = if spare p < 0 then 120 else 0 := if_pos h
theorem gDegree (p : Pn) (h : Ok8p p) : Ans 157 #[plv p] (.tuple #[.int .i64 (dgV p), .int .i64 (erP p)]) := by
 intro w
 have HM := hide (gMay p h)
 obtain ⟨pb, hA⟩ := pb_box (w := w) p
 cases hm : mayP p with
 | false =>
  rw [hm] at HM
  rw [dgV_no hm, erP_no hm]
  clear hm h
  unfold plv plw at *
  go_enter Tryz.func157, Tryz.ntmps157
  go_wp2_with (go_at_call 121; refine (HM.out _).mono ?_; rintro e w1 ⟨rfl, hb1⟩)
  go_ret2
  exact ⟨rfl, Below.next hA hb1⟩
 | true =>
  rw [hm] at HM
  obtain ⟨_, ⟨k0, k1⟩, ⟨t0, t1⟩, _, _, ⟨d0, d1⟩, _⟩ := may_facts hm
  obtain ⟨g0, g1⟩ := dg_bound hm
  obtain ⟨D, hD⟩ : ∃ D, p.d * (p.k + p.t - 1) = D := ⟨_, rfl⟩
  rw [show dg p = D from hD] at g0 g1
  rw [dgV_yes hm, erP_yes hm, show dg p = D from hD]
  clear hm h
  unfold plv plw at *
  go_enter Tryz.func157, Tryz.ntmps157
  go_wp2_with (go_at_call 121; refine (HM.out _).mono ?_; rintro e w1 ⟨rfl, hb1⟩; obtain ⟨_, _, c2, c3, _, _, c6, _⟩ := (pb.below hb1).cells)
  go_ret2
  exact ⟨rfl, Below.next hA hb1⟩
theorem gNeeded (p : Pn) (h : Ok8p p) : Ans 120 #[plv p] (.tuple #[.int .i64 (ndV p), .int .i64 (erP p)]) := by
 intro w
 have HM := hide (gDegree p h)
 obtain ⟨pb, hA⟩ := pb_box (w := w) p
 cases hm : mayP p with
 | false =>
  rw [dgV_no hm, erP_no hm] at HM
  rw [ndV_no hm, erP_no hm]
  clear hm h
  unfold plv plw at *
  go_enter Tryz.func120, Tryz.ntmps120
  go_wp2_with (go_at_call 157; refine (HM.out _).mono ?_; rintro e w1 ⟨rfl, hb1⟩)
  go_ret2
  exact ⟨rfl, Below.next hA hb1⟩
 | true =>
  rw [dgV_yes hm, erP_yes hm] at HM
  obtain ⟨_, _, _, _, ⟨e0, e1⟩, _, _⟩ := may_facts hm
  obtain ⟨g0, g1⟩ := dg_bound hm
  rw [ndV_yes hm, erP_yes hm]
  unfold need
  generalize dg p = D at *
  clear hm h
  unfold plv plw at *
  go_enter Tryz.func120, Tryz.ntmps120
  go_wp2_with (go_at_call 157; refine (HM.out _).mono ?_; rintro e w1 ⟨rfl, hb1⟩; obtain ⟨_, _, _, _, _, c5, _, _⟩ := (pb.below hb1).cells)
  go_ret2
  exact ⟨rfl, Below.next hA hb1⟩
theorem gSpare (p : Pn) (h : Ok8p p) : Ans 97 #[plv p] (.tuple #[.int .i64 (spV p), .int .i64 (erP p)]) := by
 intro w
 have HM := hide (gNeeded p h)
 obtain ⟨pb, hA⟩ := pb_box (w := w) p
 cases hm : mayP p with
 | false =>
  rw [ndV_no hm, erP_no hm] at HM
  rw [spV_no hm, erP_no hm]
  clear hm h
  unfold plv plw at *
  go_enter Tryz.func97, Tryz.ntmps97
  go_wp2_with (go_at_call 120; refine (HM.out _).mono ?_; rintro e w1 ⟨rfl, hb1⟩)
  go_ret2
  exact ⟨rfl, Below.next hA hb1⟩
 | true =>
  rw [ndV_yes hm, erP_yes hm] at HM
  obtain ⟨⟨n0, n1⟩, _, _, ⟨s0, s1⟩, ⟨e0, e1⟩, _, _⟩ := may_facts hm
  obtain ⟨g0, g1⟩ := dg_bound hm
  have hs : spare p = p.n - (need p + p.s) := by unfold spare need; omega
  have h0 : 0 <= need p ∧ need p <= 65000 := by unfold need; omega
  obtain ⟨h0, h1⟩ := h0
  rw [spV_yes hm, erP_yes hm, hs]
  generalize need p = D at *
  clear hm h hs g0 g1
  unfold plv plw at *
  go_enter Tryz.func97, Tryz.ntmps97
  go_wp2_with (go_at_call 120; refine (HM.out _).mono ?_; rintro e w1 ⟨rfl, hb1⟩; obtain ⟨_, c1, _, _, c4, _, _, _⟩ := (pb.below hb1).cells)
  go_ret2
  exact ⟨rfl, Below.next hA hb1⟩
theorem gAccept (p : Pn) (h : Ok8p p) : Ans 72 #[plv p] (.int .i64 (acE p)) := by
 intro w
 have HM := hide (gSpare p h)
 obtain ⟨pb, hA⟩ := pb_box (w := w) p
 cases hm : mayP p with
 | false =>
  rw [spV_no hm, erP_no hm] at HM
  rw [acE_no hm]
  clear hm h
  unfold plv plw at *
  go_enter Tryz.func72, Tryz.ntmps72
  go_wp2_with (go_at_call 97; refine (HM.out _).mono ?_; rintro e w1 ⟨rfl, hb1⟩)
  go_ret
  exact ⟨rfl, Below.next hA hb1⟩
 | true =>
  rw [spV_yes hm, erP_yes hm] at HM
  rw [acE_yes hm]
  clear hm h
  unfold plv plw at *
  generalize spare p = D at *
  by_cases hD : D < 0
  · rw [if_pos hD]
    go_enter Tryz.func72, Tryz.ntmps72
    go_wp2_with (go_at_call 97; refine (HM.out _).mono ?_; rintro e w1 ⟨rfl, hb1⟩)
    go_ret
    exact ⟨rfl, Below.next hA hb1⟩
  · rw [if_neg hD]
    go_enter Tryz.func72, Tryz.ntmps72
    go_wp2_with (go_at_call 97; refine (HM.out _).mono ?_; rintro e w1 ⟨rfl, hb1⟩)
    go_ret
    exact ⟨rfl, Below.next hA hb1⟩
end Go.Proofs.YtipobchbnjgenaaGreat
