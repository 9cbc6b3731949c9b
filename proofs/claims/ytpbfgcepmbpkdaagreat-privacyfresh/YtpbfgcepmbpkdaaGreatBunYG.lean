/- Texts laid together: PntF, PlpC, PrvI, PrvJ. -/
import Derived.Test.YtpbfgcepmbpkdaaGreatBunAT
import Derived.Test.YtpbfgcepmbpkdaaGreatBunAB
import Derived.Test.YtpbfgcepmbpkdaaGreatBunNA
import Derived.Deep.CutRange
import Derived.Deep.CutBlock
import Derived.Laws.StructEq
import Derived.Test.YtpbfgcepmbpkdaaGreatBunHD
import Derived.Test.YtpbfgcepmbpkdaaGreatBunYB
import Derived.Test.YtpbfgcepmbpkdaaGreatBPntM
namespace Go.Proofs.YtpbfgcepmbpkdaaGreat
open Go.RowKit Fld Pln Rnk
set_option linter.unusedVariables false

theorem co_dropR (xs : List Int) (a m : Nat) : co (xs.drop a) m = co xs (a + m) := by
  unfold co
  rw [List.getD_eq_getElem?_getD, List.getElem?_drop, List.getD_eq_getElem?_getD]
theorem map_row {g : Int → List Int} {ws : List Int} {k : Nat} (hk : k < ws.length) : (ws.map g).getD k [] = g (co ws k) := by
  rw [List.getD_eq_getElem?_getD, List.getElem?_map, List.getElem?_eq_getElem hk, co_at hk]; rfl

/-- The rows of a plan, as Lagrange's. -/
theorem rwsL_map {p : Pn} {q : Int} {wd : Bool} (h : mayP p = true) (hf : Fi p.f q wd) : rwsL p = (outL p).map (fun z => bsl q (innL p) z) := by
  unfold rwsL chgL
  rw [if_pos h, if_pos (row_bac h), pOf_eq hf]
/-- What is known of the workers' points in another order. -/
structure Wrk (p : Pn) (q : Int) (ws : List Int) : Prop where
  els : Els q ws
  nd : ws.Nodup
  len : ws.length = p.n.toNat
  far : ∀ z ∈ ws, p.k + p.t ≤ z
theorem Wrk.first {p : Pn} {q : Int} {wd : Bool} (h : mayP p = true) (hf : Fi p.f q wd) : Wrk p q (outL p) := by
  obtain ⟨⟨n0, n1⟩, ⟨k0, k1⟩, ⟨t0, t1⟩, _⟩ := may_facts h
  exact ⟨pts_els hf (by omega) (by omega), pts_nodup _ _, pts_len _ _, fun z hz => (pts_mem.1 hz).1⟩
theorem Wrk.take {p : Pn} {q : Int} {ws : List Int} (h : Wrk p q ws) (n : Nat) : Els q (ws.take n) ∧ (ws.take n).Nodup ∧ ∀ z ∈ ws.take n, p.k + p.t ≤ z :=
  ⟨fun z hz => h.els z (List.mem_of_mem_take hz), h.nd.sublist (List.take_sublist n ws), fun z hz => h.far z (List.mem_of_mem_take hz)⟩
end Go.Proofs.YtpbfgcepmbpkdaaGreat

namespace Go.Proofs.YtpbfgcepmbpkdaaGreat
open Go.RowKit Pln
set_option linter.unusedVariables false
set_option linter.unusedSimpArgs false

/-- The plan with another K. -/
def kp (p : Pn) (k : Nat) : Pn := { p with k := (k : Int) }
/-- The greatest K that may be. -/
def tpK (p : Pn) : Nat := (64 - p.t).toNat
def wdP (p : Pn) (n : Nat) : Pn := if wide p n = 0 then zP else kp p (wide p n)
/-- What Widest and Without answer. -/
def wiE (p : Pn) : Int := if mayP p = true then (if wide p (tpK p) = 0 then 120 else 0) else 2
def wiP (p : Pn) : Pn := if mayP p = true then wdP p (tpK p) else zP
def woE (p : Pn) (c : Int) : Int := if mayP p = true ∧ 0 ≤ c ∧ c < p.n then 0 else 2
def woP (p : Pn) (c : Int) : Pn := if mayP p = true ∧ 0 ≤ c ∧ c < p.n then { p with n := p.n - c, e := if p.e - c < 0 then 0 else p.e - c } else zP

end Go.Proofs.YtpbfgcepmbpkdaaGreat

namespace Go.Proofs.YtpbfgcepmbpkdaaGreat
open Go.RowKit Fld Pln Shr
set_option linter.unusedVariables false
set_option linter.unusedSimpArgs false

/-- What stands in the boxes of the closure. -/
structure See (w : World) (b1 b2 b3 : Nat) (p : Pn) (vd vp : Value) : Prop where
  pb : Pb w b1 p
  d : Bx1 w b2 26 vd
  t : Bx1 w b3 26 vp
theorem See.below {w w' : World} {b1 b2 b3 : Nat} {p : Pn} {vd vp : Value} (h : See w b1 b2 b3 p vd vp) (hb : Below w.heap.size w w') : See w' b1 b2 b3 p vd vp := ⟨h.pb.below hb, h.d.below hb, h.t.below hb⟩

set_option maxRecDepth 100000 in
set_option maxHeartbeats 400000 in
theorem gSees (p : Pn) (vd vp : Value) (dl pl : List (List Int)) (w : World) (h1 : Rws w vd dl) (h2 : Rws w vp pl) : Calls Tryz.prog 34 #[plv p, vd, vp] w fun e w' => ∃ b1 b2 b3, e = .returned (.func (.func 65) #[] #[.pointer (some ⟨b1, 0, none⟩), .pointer (some ⟨b2, 0, none⟩), .pointer (some ⟨b3, 0, none⟩)]) ∧ See w' b1 b2 b3 p vd vp ∧ Below w.heap.size w w' := by
  obtain ⟨a1, c1, rfl, _⟩ := h1
  obtain ⟨a2, c2, rfl, _⟩ := h2
  obtain ⟨pb, hA⟩ := pb_box (w := w) p
  generalize dl.length = n1 at *
  generalize pl.length = n2 at *
  have HQ := hide (And.intro pb hA)
  clear pb hA
  unfold plv plw at *
  go_enter Tryz.func34, Tryz.ntmps34
  go_wp2
  go_ret
  have e : (w.alloc (.cells #[.int .u8 p.f, .int .i64 p.n, .int .i64 p.k, .int .i64 p.t, .int .i64 p.s, .int .i64 p.e, .int .i64 p.d, .int .i64 p.w] 24)).heap.size = w.heap.size + 1 := by simp
  obtain ⟨hp, hA⟩ := HQ.out
  generalize w.alloc (.cells #[.int .u8 p.f, .int .i64 p.n, .int .i64 p.k, .int .i64 p.t, .int .i64 p.s, .int .i64 p.e, .int .i64 p.d, .int .i64 p.w] 24) = W1 at *
  have hal := alloc_below W1 (.cells #[.slice a1 n1 c1] 26)
  have hB : Bx1 (W1.alloc (.cells #[.slice a1 n1 c1] 26)) W1.heap.size 26 (.slice a1 n1 c1) := heap_alloc_last _ _
  have e2 : (W1.alloc (.cells #[.slice a1 n1 c1] 26)).heap.size = W1.heap.size + 1 := by simp
  generalize W1.alloc (.cells #[.slice a1 n1 c1] 26) = W2 at *
  have hal2 := alloc_below W2 (.cells #[.slice a2 n2 c2] 26)
  have hB2 : Bx1 (W2.alloc (.cells #[.slice a2 n2 c2] 26)) W2.heap.size 26 (.slice a2 n2 c2) := heap_alloc_last _ _
  refine ⟨_, _, _, rfl, ⟨(hp.below hal).below hal2, ?_, ?_⟩, Below.next (Below.next hA hal) hal2⟩
  · rw [← e]; exact hB.below hal2
  · rw [show w.heap.size + 2 = W2.heap.size by omega]; exact hB2

set_option maxRecDepth 100000 in
set_option maxHeartbeats 400000 in
theorem gSees1 (p : Pn) (vd vp : Value) (dl pl : List (List Int)) (i : Int) (b1 b2 b3 : Nat) (W : World) (hp : Ok8p p) (h1 : Rws W vd dl) (h2 : Rws W vp pl) (hS : See W b1 b2 b3 p vd vp) :
    Calls Tryz.prog 65 #[.int .i64 i, .pointer (some ⟨b1, 0, none⟩), .pointer (some ⟨b2, 0, none⟩), .pointer (some ⟨b3, 0, none⟩)] W fun e w' => ∃ v', e = .returned v' ∧ w'.ownsRow W.heap.size 50 1 v' (shaL p dl pl i).length (vals (shaL p dl pl i)) ∧ Below W.heap.size W w' := by
  have HT := hide (gShare p vd vp dl pl i W hp h1 h2)
  unfold Gives at HT
  obtain ⟨c0, c1, c2, c3, c4, c5, c6, c7⟩ := hS.pb.cells
  have d := hS.d.cell
  have d2 := hS.t.cell
  obtain ⟨a1, q1, rfl, _⟩ := h1
  obtain ⟨a2, q2, rfl, _⟩ := h2
  clear hS hp
  generalize shaL p dl pl i = zs at *
  generalize bkE p dl pl [i] = e0 at *
  generalize dl.length = n1 at *
  generalize pl.length = n2 at *
  rw [plan_eq] at *
  go_enter Tryz.func65, Tryz.ntmps65
  go_wp2_with (go_at_call 66; refine HT.out.mono ?_; rintro e w1 ⟨v1, rfl, hO1, hb1⟩; obtain ⟨a3, q3, rfl⟩ := own_form hO1; have HO1 := hide hO1; clear hO1)
  go_ret
  exact ⟨_, rfl, HO1.out, hb1⟩

/-- So many of them asked. -/
def askK (F : Int → List Int) (who : List Int) (k : Nat) : List (List Int) := mkl who.length (fun r => if r < k then F (who.getD r 0) else [])
theorem askK_len (F : Int → List Int) (who : List Int) (k : Nat) : (askK F who k).length = who.length := mkl_len _ _
theorem askK_set (F : Int → List Int) {who : List Int} {k : Nat} (hk : k < who.length) : (askK F who k).set k (F (who.getD k 0)) = askK F who (k + 1) := by
  unfold askK
  rw [mkl_set _ hk]
  refine mkl_congr (fun r hr => ?_)
  by_cases e : r = k
  · rw [if_pos e, if_pos (by omega), e]
  · rw [if_neg e]
    by_cases e2 : r < k
    · rw [if_pos e2, if_pos (by omega)]
    · rw [if_neg e2, if_neg (by omega)]
theorem askK_all (F : Int → List Int) (who : List Int) : askK F who who.length = who.map F := by
  refine ext_l (by rw [askK_len, List.length_map]) (fun i hi => ?_)
  rw [askK_len] at hi
  unfold askK
  rw [mkl_at _ hi, if_pos hi, List.getD_eq_getElem?_getD, List.getD_eq_getElem?_getD, List.getElem?_map, List.getElem?_eq_getElem hi]; rfl

set_option maxRecDepth 100000 in
set_option maxHeartbeats 800000 in
theorem gEachP (p : Pn) (vw vd vp : Value) (dl pl : List (List Int)) (who : List Int) (b1 b2 b3 : Nat) (w : World) (hp : Ok8p p) (h1 : Rws w vd dl) (h2 : Rws w vp pl) (h3 : Lm iw 1 w vw who) (hS : See w b1 b2 b3 p vd vp) (hn : who.length ≤ 1000) :
    Calls Tryz.prog 33 #[vw, .func (.func 65) #[] #[.pointer (some ⟨b1, 0, none⟩), .pointer (some ⟨b2, 0, none⟩), .pointer (some ⟨b3, 0, none⟩)]] w fun e w' => ∃ v' us, e = .returned v' ∧ Mtx w' w.heap.size v' us (who.map (shaL p dl pl)) ∧ Below w.heap.size w w' := by
  have HWk := hide (fun k W (hb : Below w.heap.size w W) => gSees1 p vd vp dl pl (who.getD k 0) b1 b2 b3 W hp (h1.below hb) (h2.below hb) (hS.below hb))
  have HE := hide (askK_all (shaL p dl pl) who)
  have HSt := hide (fun k hk => askK_set (shaL p dl pl) (who := who) (k := k) hk)
  have hmk := makeN who.length hn
  have HM0 := hide (mtx_new w (lo := w.heap.size) (n := who.length) (Nat.le_refl _) hn (fun r => if r < 0 then shaL p dl pl (who.getD r 0) else []) (fun t ht => if_neg (by omega)))
  rw [show mkl who.length (fun r => if r < 0 then shaL p dl pl (who.getD r 0) else []) = askK (shaL p dl pl) who 0 from rfl] at HM0
  have hA := alloc_below w (.cells (nvs who.length).toArray 45)
  have HL := hide h3
  obtain ⟨ao, cap, rfl, hcap⟩ := h3.spell
  clear h1 h2 h3 hS hp
  generalize shaL p dl pl = F at *
  go_enter Tryz.func33, Tryz.ntmps33
  go_wp2_with fail
  generalize w.alloc (.cells (nvs who.length).toArray 45) = W0 at *
  clear hmk
  obtain ⟨G, HG⟩ : ∃ G, Hid (w.heap.size = G) := ⟨_, rfl⟩
  go_loopw [13] (fun vi wr => ∃ (k : Nat) (us : List Value), k ≤ who.length ∧ vi = .int .i64 k ∧ Hid (Mtx wr w.heap.size (.slice (some ⟨w.heap.size, 0, none⟩) who.length who.length) us (askK F who k)) ∧ Below w.heap.size w wr) (fun vi _ => who.length - (intOf vi).toNat)
  case atStart => exact ⟨0, _, Nat.zero_le _, rfl, HM0, hA⟩
  case round =>
    clear HM0 hA
    obtain ⟨k, us, hk, rfl, HM, hB⟩ := hrel
    by_cases hlt : k < who.length
    · obtain ⟨b, off, cp, heq, _, _⟩ := HL.out.form (by omega)
      cases heq
      have hck := (lmi_cell HL.out hB hlt).2
      have k0 : (0 : Int) ≤ (k : Int) := by omega
      have k1 : (k : Int) < (who.length : Int) := by omega
      have hC := hide (HWk.out k wr hB)
      have hSt := HSt.out k hlt
      have HLay : Hid (∀ V v', Below wr.heap.size wr V → V.ownsRow wr.heap.size 50 1 v' (F (who.getD k 0)).length (vals (F (who.getD k 0))) → V.cell? ⟨w.heap.size, k, none⟩ = some (us.getD k nov) ∧ V.frozen? ⟨w.heap.size, k, none⟩ = false ∧ Mtx (V.setCell ⟨w.heap.size, k, none⟩ v') w.heap.size (.slice (some ⟨w.heap.size, 0, none⟩) who.length who.length) (us.set k v') (askK F who (k + 1))) := fun V v' hb hO => by
        have hMV := HM.out.below hb
        have hml := askK_len F who k
        refine ⟨hMV.cell (i := k) (by rw [hml]; exact hlt), free_own (by have := hMV.row; rw [hml] at this; exact this) k, ?_⟩
        have := hMV.lay hml.symm (k := k) (by rw [hml]; exact hlt) (own_mono hO hB.size) (fun i g hi hne hg e => by
          have h1 := HM.out.tops hi hg
          have h2 := own_base hO g e
          omega)
        rw [hSt] at this
        exact this
      clear HM HWk HSt HE HL hSt
      generalize who.getD k 0 = x at *
      generalize F x = fx at *
      generalize us.getD k nov = u0 at *
      go_wp2_with (refine hC.out.mono ?_; rintro e w2 ⟨v2, rfl, hO2, hb2⟩; obtain ⟨a5, c5, rfl⟩ := own_form hO2; obtain ⟨d1, d2, HM2⟩ := HLay.out _ _ hb2 hO2; have HM2 := hide HM2; clear HLay)
      have hB2 := (Below.next hB hb2).setCell (p := ⟨w.heap.size, k, none⟩) (Nat.le_refl _) (.slice a5 fx.length c5)
      go_roundw
      case rel => exact ⟨k + 1, _, by omega, by go_num, HM2, hB2⟩
      case measure => simp [intOf]; omega
    · obtain rfl : k = who.length := by omega
      have HM2 := HM
      rw [HE.out] at HM2
      clear HM HWk HSt HE HL
      go_wp2
      go_ret
      exact ⟨_, us, rfl, HM2.out, hB⟩

end Go.Proofs.YtpbfgcepmbpkdaaGreat

namespace Go.Proofs.YtpbfgcepmbpkdaaGreat
open Go.RowKit Fld Pln Rnk
set_option linter.unusedVariables false
set_option linter.unusedSimpArgs false

/-- What of the first of two data blocks comes to the first worker, with no pad. -/
theorem bs_two {q : Int} {wd : Bool} (hm : Md q wd) : bs q [0, 1] 2 0 = q - 1 := by
  have hb := hm.bounds
  have hq : 0 < q := by omega
  have hb3 : 3 < q := by rcases hm with ⟨h, _⟩ | ⟨h, _⟩ <;> omega
  have hx : Els q [0, 1] := fun x hx => by
    rcases List.mem_cons.1 hx with rfl | hx
    · exact ⟨by omega, by omega⟩
    · rw [List.mem_singleton.1 hx]; exact ⟨by omega, by omega⟩
  have hy : Els q [1, 0] := fun x hx => by
    rcases List.mem_cons.1 hx with rfl | hx
    · exact ⟨by omega, by omega⟩
    · rw [List.mem_singleton.1 hx]; exact ⟨by omega, by omega⟩
  have hn : ([0, 1] : List Int).Nodup := by decide
  have vl2 : ∀ t : Int, vl q t [1, q - 1] = (1 + t * (q - 1)) % q := fun t => by
    unfold vl
    show (1 + t * ((q - 1) + t * 0)) % q = _
    rw [Int.mul_zero, Int.add_zero]
  have hT : Thr q [0, 1] [1, 0] [1, q - 1] := by
    refine ⟨⟨fun x hx => ?_, ?_⟩, Nat.le_refl _, fun i hi => ?_⟩
    · rcases List.mem_cons.1 hx with rfl | hx
      · exact ⟨by omega, by omega⟩
      · rw [List.mem_singleton.1 hx]; exact ⟨by omega, by omega⟩
    · refine tr_full (.inr ?_)
      show co [1, q - 1] 1 ≠ 0
      show q - 1 ≠ 0
      omega
    · have : i = 0 ∨ i = 1 := by simp at hi; omega
      rcases this with rfl | rfl
      · rw [vl2]; show (1 + 0 * (q - 1)) % q = 1
        rw [Int.zero_mul, Int.add_zero, Int.emod_eq_of_lt (by omega) (by omega)]
      · rw [vl2]; show (1 + 1 * (q - 1)) % q = 0
        rw [Int.one_mul, show 1 + (q - 1) = q by omega, Int.emod_self]
  have := Thr.value hm hx hy hn hT 2
  rw [vl2] at this
  have e : ds q (bs q [0, 1] 2) (co [1, 0]) [0, 1].length = bs q [0, 1] 2 0 := by
    show add q (add q 0 (mul q (bs q [0, 1] 2 0) 1)) (mul q (bs q [0, 1] 2 1) 0) = _
    obtain ⟨b1, b2⟩ := bs_el hq [0, 1] 2 0
    unfold add mul
    rw [Int.mul_one, Int.mul_zero, Int.zero_add, Int.zero_emod, Int.add_zero, Int.emod_eq_of_lt b1 b2, Int.emod_eq_of_lt b1 b2, Int.emod_eq_of_lt b1 b2]
  have this := this.trans e
  rw [← this, show 1 + 2 * (q - 1) = (q - 1) + q by omega, Int.add_emod_right, Int.emod_eq_of_lt (by omega) (by omega)]
def moP (f : Int) : Pn := { f := f, n := 1, k := 2, t := 0, s := 0, e := 0, d := 0, w := 1 }
theorem mo_i64 (n : Int) (h0 : 0 ≤ n) (h1 : n ≤ 2) : I64 n := by unfold I64; omega
theorem mo_rows {f q : Int} {wd : Bool} (hf : Fi f q wd) : mayP (moP f) = true ∧ rwsL (moP f) = [bsl q [0, 1] 2] := by
  have hm : mayP (moP f) = true := by rcases hf with ⟨rfl, _⟩ | ⟨rfl, _⟩ <;> decide
  refine ⟨hm, ?_⟩
  rw [rwsL_map hm (p := moP f) hf]
  rfl

set_option maxRecDepth 100000 in
set_option maxHeartbeats 400000 in
theorem gModulusOf (f q : Int) (wd : Bool) (w : World) (hf : Fi f q wd) : Calls Tryz.prog 41 #[.int .u8 f] w fun e w' => e = .returned (.int .u64 q) ∧ Below w.heap.size w w' := by
  obtain ⟨hm, hr⟩ := mo_rows hf
  have hb := hf.md.bounds
  have hfb : 0 ≤ f ∧ f ≤ 255 := by rcases hf with ⟨rfl, _⟩ | ⟨rfl, _⟩ <;> decide
  have HR := hide (gRows (moP f) w ⟨hfb, mo_i64 1 (by decide) (by decide), mo_i64 2 (by decide) (by decide), mo_i64 0 (by decide) (by decide), mo_i64 0 (by decide) (by decide), mo_i64 0 (by decide) (by decide), mo_i64 0 (by decide) (by decide), mo_i64 1 (by decide) (by decide)⟩)
  unfold GivesL at HR
  rw [hr, erP_yes hm] at HR
  have HC : Hid (∀ W lo hi v us, Lss W lo hi v us [bsl q [0, 1] 2] → ∃ G c g c2, v = .slice (some ⟨G, 0, none⟩) 1 c ∧ 1 ≤ c ∧ W.cell? ⟨G, 0, none⟩ = some (.slice (some ⟨g, 0, none⟩) 2 c2) ∧ 2 ≤ c2 ∧ W.cell? ⟨g, 0, none⟩ = some (.int .u64 (q - 1))) := fun W lo hi v us hL => by
    have hM := hL.mtx
    obtain ⟨G, c, rfl, _, _, h1⟩ := hM.spell (by simp)
    obtain ⟨g, c2, e, _, _, h2, h3⟩ := hM.one (i := 0) (by simp) (by show 0 < (bsl q [0, 1] 2).length; rw [bsl_len]; decide)
    have hc := hM.cell (i := 0) (by simp)
    have el : ([bsl q [0, 1] 2].getD 0 []).length = 2 := by show (bsl q [0, 1] 2).length = 2; rw [bsl_len]; rfl
    rw [el] at e h2 h3
    rw [e] at hc
    refine ⟨G, c, g, c2, rfl, h1, hc, h2, ?_⟩
    rw [h3 0 (by omega)]
    show some (Value.int .u64 (co (bsl q [0, 1] 2) 0)) = _
    rw [bsl_at (by decide), bs_two hf.md]
  clear hf hm hr
  unfold moP at HR
  rw [show plv { f := f, n := 1, k := 2, t := 0, s := 0, e := 0, d := 0, w := 1 } = .agg #[.int .u8 f, .int .i64 1, .int .i64 2, .int .i64 0, .int .i64 0, .int .i64 0, .int .i64 0, .int .i64 1] from rfl] at HR
  generalize [bsl q [0, 1] 2] = rows at *
  have e1 : q - 1 + 1 = q := by omega
  go_enter Tryz.func41, Tryz.ntmps41
  go_wp2_with (go_at_call 44; refine HR.out.mono ?_; rintro e w1 ⟨v1, us, rfl, hL1, hb1⟩; obtain ⟨G, c, g, c2, rfl, x1, x2, x3, x4⟩ := HC.out _ _ _ _ _ hL1; clear hL1)
  go_ret
  exact ⟨rfl, hb1⟩

/-- A plan with at least T workers. -/
def stf (p : Pn) : Pn := { p with n := if p.n < p.t then p.t else p.n }
set_option maxRecDepth 100000 in
set_option maxHeartbeats 400000 in
theorem gStaffed (p : Pn) (w : World) : Calls Tryz.prog 22 #[plv p] w fun e w' => e = .returned (plv (stf p)) ∧ Below w.heap.size w w' := by
  obtain ⟨A, HR⟩ : ∃ A, Hid (plv (stf p) = A) := ⟨_, rfl⟩
  rw [HR.out]
  by_cases hlt : p.n < p.t
  · have HE : Hid (stf p = { p with n := p.t }) := by show _ = _; unfold stf; rw [if_pos hlt]
    unfold plv plw
    go_enter Tryz.func22, Tryz.ntmps22
    go_upto_region 1 with fail
    generalize hW : World.alloc (World.alloc w _) _ = W
    obtain ⟨p2, p3, hB⟩ := pb_two p hW
    clear hW
    have R1 := hide (p2.set (q := { p with n := p.t }) 1 (.int .i64 p.t) rfl)
    have R3 := hide (p3.other (g' := w.heap.size) (by omega) 1 (.int .i64 p.t))
    have hB1 := below_set (k := 1) (v := .int .i64 p.t) hB (Nat.le_refl _)
    have fz := p2.free
    obtain ⟨c0, c1, c2, c3, c4, c5, c6, c7⟩ := p2.cells
    clear p2 p3
    go_upto_region 2 with fail
    clear c0 c1 c2 c3 c4 c5 c6 c7 fz
    generalize W.setCell ⟨w.heap.size, 1, none⟩ (.int .i64 p.t) = W2 at *
    obtain ⟨c0, c1, c2, c3, c4, c5, c6, c7⟩ := R1.out.cells
    obtain ⟨d0, d1, d2, d3, d4, d5, d6, d7⟩ := R3.out.cells
    have fz := R3.out.free
    dsimp only at c0 c1 c2 c3 c4 c5 c6 c7
    go_wp2_with fail
    refine bodyPost_ret (v := plv { p with n := p.t }) (resCell1 (a := 2) (t := 24) (ad := ⟨w.heap.size + 1, 0, none⟩) rfl rfl (load_plan (R3.out.set8 (q := { p with n := p.t })))) rfl ?_
    refine ⟨by rw [← HR.out, HE.out], below_set8 (p := { p with n := p.t }) hB1 (by omega)⟩
  · have HE : Hid (stf p = p) := by show _ = _; unfold stf; rw [if_neg hlt]
    unfold plv plw
    go_enter Tryz.func22, Tryz.ntmps22
    go_upto_region 1 with fail
    generalize hW : World.alloc (World.alloc w _) _ = W
    obtain ⟨p2, p3, hB⟩ := pb_two p hW
    clear hW
    have R1 := hide (p2.set (q := p) 1 (.int .i64 p.n) rfl)
    have R3 := hide (p3.other (g' := w.heap.size) (by omega) 1 (.int .i64 p.n))
    have hB1 := below_set (k := 1) (v := .int .i64 p.n) hB (Nat.le_refl _)
    have fz := p2.free
    obtain ⟨c0, c1, c2, c3, c4, c5, c6, c7⟩ := p2.cells
    clear p2 p3
    go_upto_region 2 with fail
    clear c0 c1 c2 c3 c4 c5 c6 c7 fz
    generalize W.setCell ⟨w.heap.size, 1, none⟩ (.int .i64 p.n) = W2 at *
    obtain ⟨c0, c1, c2, c3, c4, c5, c6, c7⟩ := R1.out.cells
    obtain ⟨d0, d1, d2, d3, d4, d5, d6, d7⟩ := R3.out.cells
    have fz := R3.out.free
    go_wp2_with fail
    refine bodyPost_ret (v := plv p) (resCell1 (a := 2) (t := 24) (ad := ⟨w.heap.size + 1, 0, none⟩) rfl rfl (load_plan (R3.out.set8 (q := p)))) rfl ?_
    refine ⟨by rw [← HR.out, HE.out], below_set8 (p := p) hB1 (by omega)⟩

end Go.Proofs.YtpbfgcepmbpkdaaGreat

