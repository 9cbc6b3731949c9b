import Derived.Test.YtnakbpaiidolbaaGreatBunHA
import Derived.Test.YtnakbpaiidolbaaGreatBQMute
import Derived.Test.YtnakbpaiidolbaaGreatBTkA
namespace Go.Proofs.YtnakbpaiidolbaaGreat
open Go.RowKit Fld Pln Shr
set_option linter.unusedVariables false
set_option linter.unusedSimpArgs false
def Bx1 (w : World) (b : Nat) (T : TypeId) (v : Value) : Prop := w.heap[b]? = some (.cells #[v] T (0, 0))
theorem Bx1.lt {w : World} {b : Nat} {T : TypeId} {v : Value} (h : Bx1 w b T v) : b < w.heap.size := (Array.getElem?_eq_some_iff.1 h).1
theorem Bx1.below {w w' : World} {b : Nat} {T : TypeId} {v : Value} (h : Bx1 w b T v) (hb : Below w.heap.size w w') : Bx1 w' b T v := (hb.block b h.lt).trans h
theorem Bx1.cell {w : World} {b : Nat} {T : TypeId} {v : Value} (h : Bx1 w b T v) : w.cell? ⟨b, 0, none⟩ = some v := by
 have h' : w.heap[b]? = some (.cells #[v] T (0, 0)) := h
 unfold World.cell?; simp [h']
set_option maxRecDepth 100000 in
set_option maxHeartbeats 400000 in
theorem gThrough (p : Pn) (vx : Value) (xs : List Int) (w : World) (h : Rw w vx xs) : Calls Tryz.prog 69 #[plv p, vx] w fun e w' => ∃ b1 b2, e = .returned (.func (.func 100) #[] #[.pointer (some ⟨b1, 0, none⟩), .pointer (some ⟨b2, 0, none⟩)]) ∧ Pb w' b1 p ∧ Bx1 w' b2 30 vx ∧ Below w.heap.size w w' := by
 obtain ⟨a1, c1, rfl, _⟩ := h.spell
 obtain ⟨pb, hA⟩ := pb_box (w := w) p
 clear h
 generalize xs.length = n at *
 have HQ := hide (And.intro pb hA)
 clear pb hA
 unfold plv plw at *
 go_enter Tryz.func69, Tryz.ntmps69
 go_wp2
 go_ret
 have hal := alloc_below (w.alloc (.cells #[.int .u8 p.f, .int .i64 p.n, .int .i64 p.k, .int .i64 p.t, .int .i64 p.s, .int .i64 p.e, .int .i64 p.d, .int .i64 p.w] 24)) (.cells #[.slice a1 n c1] 30)
 refine ⟨_, _, rfl, HQ.out.1.below hal, ?_, Below.next HQ.out.2 hal⟩
 have e : (w.alloc (.cells #[.int .u8 p.f, .int .i64 p.n, .int .i64 p.k, .int .i64 p.t, .int .i64 p.s, .int .i64 p.e, .int .i64 p.d, .int .i64 p.w] 24)).heap.size = w.heap.size + 1 := by simp
 rw [← e]
 exact heap_alloc_last _ _
set_option maxRecDepth 100000 in
set_option maxHeartbeats 400000 in
theorem gThrough1 (p : Pn) (vx vy : Value) (xs ys : List Int) (W : World) (b1 b2 : Nat) (h1 : Pb W b1 p) (h2 : Bx1 W b2 30 vx) (hx : Rw W vx xs) (hy : Rw W vy ys) :
 Calls Tryz.prog 100 #[vy, .pointer (some ⟨b1, 0, none⟩), .pointer (some ⟨b2, 0, none⟩)] W fun e w' => ∃ v', e = .returned v' ∧ w'.ownsRow W.heap.size 58 1 v' (thrL p.f xs ys).length (vals (thrL p.f xs ys)) ∧ Below W.heap.size W w' := by
 have HT := hide (iThrough p.f vx vy xs ys W hx hy)
 unfold Gives at HT
 obtain ⟨c0, c1, c2, c3, c4, c5, c6, c7⟩ := h1.cells
 have d := h2.cell
 obtain ⟨a1, q1, rfl, _⟩ := hx.spell
 obtain ⟨a2, q2, rfl, _⟩ := hy.spell
 clear h1 h2 hx hy
 generalize thrL p.f xs ys = zs at *
 generalize bad p.f xs ys ys.length = e0 at *
 generalize xs.length = n1 at *
 generalize ys.length = n2 at *
 go_enter Tryz.func100, Tryz.ntmps100
 go_wp2_with (go_at_call 101; refine HT.out.mono ?_; rintro e w1 ⟨v1, rfl, hO1, hb1⟩; obtain ⟨a3, q3, rfl⟩ := own_form hO1; have HO1 := hide hO1; clear hO1)
 go_ret
 exact ⟨_, rfl, HO1.out, hb1⟩
set_option maxRecDepth 100000 in
set_option maxHeartbeats 400000 in
theorem gValues (p : Pn) (vx vz : Value) (xs zs : List Int) (w : World) (hx : Rw w vx xs) (hz : Rw w vz zs) : Calls Tryz.prog 112 #[plv p, vx, vz] w fun e w' => ∃ b1 b2 vr, e = .returned (.func (.func 136) #[] #[.pointer (some ⟨b1, 0, none⟩), .pointer (some ⟨b2, 0, none⟩)]) ∧ Bx1 w' b1 29 vr ∧ Pb w' b2 p ∧ (∃ us, Lss w' w.heap.size w'.heap.size vr us (chgL p.f xs zs)) ∧ Below w.heap.size w w' := by
 obtain ⟨pb, hA⟩ := pb_box (w := w) p
 have HC := hide (fun W (hb : Below w.heap.size w W) => iChange p.f vx vz xs zs W (hx.below hb) (hz.below hb))
 unfold GivesL at HC
 obtain ⟨a1, q1, rfl, _⟩ := hx.spell
 obtain ⟨a2, q2, rfl, _⟩ := hz.spell
 clear hx hz
 generalize chgL p.f xs zs = rs at *
 generalize bac p.f xs zs = e0 at *
 generalize xs.length = n1 at *
 generalize zs.length = n2 at *
 obtain ⟨c0, c1, c2, c3, c4, c5, c6, c7⟩ := pb.cells
 have HPb := hide pb
 clear pb
 unfold plv plw at *
 go_enter Tryz.func112, Tryz.ntmps112
 go_wp2_with (go_at_call 135; refine (HC.out _ hA).mono ?_; rintro e w1 ⟨v1, us, rfl, hL1, hb1⟩; obtain ⟨a3, q3, rfl⟩ := own_form hL1.row; have HL1 := hide hL1; have HP1 := hide (HPb.out.below hb1); have hB1 := Below.next hA hb1; clear hL1)
 go_ret
 have hal := alloc_below w1 (.cells #[.slice a3 rs.length q3] 29)
 refine ⟨_, _, _, rfl, heap_alloc_last _ _, HP1.out.below hal, ⟨us, ?_⟩, Below.next hB1 hal⟩
 have := (HL1.out.below hal).low hA.size
 exact ⟨this.row, this.each, this.from_, fun i g hg => Nat.lt_of_lt_of_le (this.top i g hg) hal.size, this.up⟩
def dkj (q : Int) (xs zs ys : List Int) (i j : Nat) : Int := ds q (bs q xs (co zs i)) (co ys) j
def vlj (q : Int) (xs zs ys : List Int) (k j : Nat) : List Int := mk zs.length (fun i => if i < k then dkj q xs zs ys i xs.length else if i = k then dkj q xs zs ys k j else 0)
theorem vlj_len (q : Int) (xs zs ys : List Int) (k j : Nat) : (vlj q xs zs ys k j).length = zs.length := mk_len _ _
theorem vlj_zero (q : Int) (xs zs ys : List Int) : vlj q xs zs ys 0 0 = List.replicate zs.length 0 := by
 refine ext_co (by rw [vlj_len]; simp) (fun i hi => ?_)
 rw [vlj_len] at hi
 unfold vlj
 rw [co_mk, if_pos hi, if_neg (by omega)]
 have : co (List.replicate zs.length 0) i = 0 := by
  unfold co
  rw [List.getD_eq_getElem?_getD, List.getElem?_replicate, if_pos hi]; rfl
 rw [this]
 split
 · rfl
 · rfl
theorem vlj_here {q : Int} {xs zs ys : List Int} {k j : Nat} (hk : k < zs.length) : (vlj q xs zs ys k j).getD k 0 = dkj q xs zs ys k j := by
 show co (mk _ _) k = _
 rw [co_mk, if_pos hk, if_neg (by omega), if_pos rfl]
theorem vlj_set {q : Int} {xs zs ys : List Int} {k j : Nat} (hk : k < zs.length) : (vlj q xs zs ys k j).set k (dkj q xs zs ys k (j + 1)) = vlj q xs zs ys k (j + 1) := by
 refine ext_co (by rw [List.length_set, vlj_len, vlj_len]) (fun i hi => ?_)
 rw [List.length_set, vlj_len] at hi
 show ((vlj q xs zs ys k j).set k _).getD i 0 = _
 rw [Rnk.getD_set _ _ _ (by rw [vlj_len]; exact hk)]
 unfold vlj
 show (if i = k then _ else co (mk _ _) i) = _
 rw [co_mk, co_mk, if_pos hi, if_pos hi]
 by_cases e : i = k
 · rw [if_pos e, if_neg (by omega), if_pos e]
 · rw [if_neg e, if_neg e, if_neg e]
theorem vlj_next {q : Int} {xs zs ys : List Int} {k : Nat} (hk : k < zs.length) : vlj q xs zs ys k xs.length = vlj q xs zs ys (k + 1) 0 := by
 refine ext_co (by rw [vlj_len, vlj_len]) (fun i hi => ?_)
 rw [vlj_len] at hi
 unfold vlj
 rw [co_mk, co_mk, if_pos hi, if_pos hi]
 by_cases e : i < k
 · rw [if_pos e, if_pos (by omega)]
 · by_cases e2 : i = k
   · rw [if_neg e, if_pos e2, if_pos (by omega), e2]
   · rw [if_neg e, if_neg e2, if_neg (by omega)]
     split
     · rfl
     · rfl
theorem vlj_all (q : Int) (xs zs ys : List Int) : vlj q xs zs ys zs.length 0 = vls q xs zs ys := by
 refine ext_co (by rw [vlj_len, vls_len]) (fun i hi => ?_)
 rw [vlj_len] at hi
 unfold vlj vls dkj
 rw [co_mk, if_pos hi, if_pos hi, co_at hi, co_at (xs := List.map _ zs) (by simpa using hi), List.getElem_map]
theorem cell_far {W : World} {g k b off : Nat} {v : Value} (h : b ≠ g) : (W.setCell ⟨g, k, none⟩ v).cell? ⟨b, off, none⟩ = W.cell? ⟨b, off, none⟩ := World.cell?_of_block (Below.heap_setCell W ⟨g, k, none⟩ v b h)
theorem rw_two (W : World) (a b : Int) (ha : 0 ≤ a ∧ a ≤ 18446744073709551615) (hb : 0 ≤ b ∧ b ≤ 18446744073709551615) (T : TypeId) : Rw (W.alloc (.cells #[.int .u64 a, .int .u64 b] T)) (.slice (some ⟨W.heap.size, 0, none⟩) 2 2) [a, b] :=
 ⟨⟨_, _, rfl, by simp, by simp [ha, hb], fun _ => ⟨_, _, rfl, by simp, fun i hi => by
  have : i = 0 ∨ i = 1 := by simp at hi; omega
  rcases this with rfl | rfl <;> simp [go_sem]⟩⟩, _, _, _, rfl, Nat.le_refl _⟩
theorem map_bsl {q : Int} {xs zs : List Int} {k : Nat} (hk : k < zs.length) : (zs.map (fun z => bsl q xs z)).getD k [] = bsl q xs (co zs k) := by
 rw [List.getD_eq_getElem?_getD, List.getElem?_map, List.getElem?_eq_getElem hk, co_at hk]; rfl
set_option maxRecDepth 100000 in
set_option maxHeartbeats 1000000 in
theorem gValues1 (p : Pn) (q : Int) (wd : Bool) (vr vy : Value) (xs zs ys : List Int) (W : World) (b1 b2 : Nat) (hf : Fi p.f q wd) (h1 : Bx1 W b1 29 vr) (h2 : Pb W b2 p) (hr : Rws W vr (zs.map (fun z => bsl q xs z))) (hy : Rw W vy ys) (he : Els q ys) (hl : ys.length = xs.length) (hx : xs.length ≤ 64) (hz : zs.length ≤ 64) :
 Calls Tryz.prog 136 #[vy, .pointer (some ⟨b1, 0, none⟩), .pointer (some ⟨b2, 0, none⟩)] W fun e w' => ∃ v', e = .returned v' ∧ w'.ownsRow W.heap.size 58 1 v' (vls q xs zs ys).length (vals (vls q xs zs ys)) ∧ Below W.heap.size W w' := by
 have hq0 := hf.pos
 have HE : Hid (∀ V v a y b, El q a → El q y → El q b → Rw V v [a, y] → Calls Tryz.prog 120 #[.int .u8 p.f, v, .int .u64 b] V fun e w' => e = .returned (.tuple #[.int .u64 (add q a (mul q b y)), .int .i64 0]) ∧ Below V.heap.size V w') := fun V v a y b ha hy' hb hR => by
  have := pEval_any p.f b v [a, y] V (elWord hb hf.top) hR
  have e0 : er p.f [a, y] [b] = 0 := er_yes hf (allIn_of (fun x hx => by
   rcases List.mem_cons.1 hx with rfl | hx
   · exact ha
   · rw [List.mem_singleton.1 hx]; exact hy')) (allIn_of (fun x hx => by rw [List.mem_singleton.1 hx]; exact hb)) (by simp) (by simp)
  unfold valE at this
  rw [e0, if_pos rfl, pOf_eq hf, vl_two] at this
  exact this
 have HD : Hid (∀ k j, El q (dkj q xs zs ys k j)) := fun k j => ds_el hq0 _ _ _
 have HDs : Hid (∀ k j, add q (dkj q xs zs ys k j) (mul q (bs q xs (co zs k) j) (co ys j)) = dkj q xs zs ys k (j + 1)) := fun k j => rfl
 have HB : Hid (∀ k j, El q (bs q xs (co zs k) j)) := fun k j => bs_el hq0 _ _ _
 have HYe : Hid (∀ j, El q (co ys j)) := fun j => he.co hq0 j
 have HWd : Hid (∀ x, El q x → 0 ≤ x ∧ x ≤ 18446744073709551615) := fun x hx => elWord hx hf.top
 have hzl : (zs.map (fun z => bsl q xs z)).length = zs.length := List.length_map ..
 have HRow : Hid (∀ k, k < zs.length → (zs.map (fun z => bsl q xs z)).getD k [] = bsl q xs (co zs k)) := fun k hk => map_bsl hk
 have HBa : Hid (∀ k j, j < xs.length → co (bsl q xs (co zs k)) j = bs q xs (co zs k) j) := fun k j hj => bsl_at hj
 have HBl : Hid (∀ k, (bsl q xs (co zs k)).length = xs.length) := fun k => bsl_len _ _ _
 have HR := hide hr
 obtain ⟨ar, cr, rfl, _, hcr, hcell⟩ := hr
 rw [hzl] at hcell hcr HR h1
 have HS : Hid (∀ V, Below W.heap.size W V → V.cell? ⟨b1, 0, none⟩ = some (.slice ar zs.length cr) ∧ V.cell? ⟨b2, 0, none⟩ = some (.int .u8 p.f)) := fun V hb => ⟨(h1.below hb).cell, (h2.below hb).cells.1⟩
 have HY : Hid (∀ V, Below W.heap.size W V → ∀ j, j < ys.length → ∃ b off c, vy = .slice (some ⟨b, off, none⟩) ys.length c ∧ V.cell? ⟨b, off + j, none⟩ = some (.int .u64 (co ys j))) := fun V hb j hj => by
  obtain ⟨⟨a, c, e, _, _, hc⟩, _⟩ := hy
  obtain ⟨b, off, e2, hbl, hcx⟩ := hc (by intro h; rw [h] at hj; simp at hj)
  subst e2
  exact ⟨b, off, c, e, (hb.cell (p := ⟨b, off + j, none⟩) hbl).trans (hcx j hj)⟩
 obtain ⟨ay, cy, rfl, hcy⟩ := hy.spell
 have HV0 := hide (vlj_zero q xs zs ys)
 have HVa := hide (vlj_all q xs zs ys)
 have HVl := hide (vls_len q xs zs ys)
 have hmk := makeW zs.length (by omega)
 obtain ⟨s1, s2⟩ := HS.out W (Below.refl _ _)
 have HO0 := hide (own_new (W := W) (base := W.heap.size) (T := 58) (Nat.le_refl _) (zrs_len zs.length) (by omega))
 have hB0 := alloc_below W (.cells (zrs zs.length).toArray 58)
 rw [show zrs zs.length = vals (vlj q xs zs ys 0 0) by rw [HV0.out]; rfl] at HO0
 obtain ⟨s3, s4⟩ := HS.out _ hB0
 have hb2 := h2.lt
 have Hl := hide hl
 clear hy he hf h1 h2 hcell hl
 go_enter Tryz.func136, Tryz.ntmps136
 go_wp2_with fail
 rw [show zrs zs.length = vals (vlj q xs zs ys 0 0) by rw [HV0.out]; rfl] at hmk hB0 s3 s4 ⊢
 generalize W.alloc (.cells (vals (vlj q xs zs ys 0 0)).toArray 58) = W0 at *
 clear hmk s1 s2 s3 s4 HV0
 go_loopw [15] (fun vi wr => ∃ (k : Nat), k ≤ zs.length ∧ vi = .int .i64 k ∧ Hid (wr.ownsRow W.heap.size 58 1 (.slice (some ⟨W.heap.size, 0, none⟩) zs.length zs.length) zs.length (vals (vlj q xs zs ys k 0))) ∧ Below W.heap.size W wr) (fun vi _ => zs.length - (intOf vi).toNat)
 case atStart => exact ⟨0, Nat.zero_le _, rfl, HO0, hB0⟩
 case round =>
  clear HO0 hB0
  obtain ⟨k, hk, rfl, HO, hB⟩ := hrel
  by_cases hlt : k < zs.length
  · obtain ⟨b, off, cp, hv, _⟩ := HR.out.some_ (by rw [hzl]; omega)
    rw [hzl] at hv
    injection hv with hv _ hcv
    subst hv hcv
    have hrk := HRow.out k hlt
    have hblk := HBl.out k
    have k0 : (0 : Int) ≤ (k : Int) := by omega
    have k1 : (k : Int) < (zs.length : Int) := by omega
    obtain ⟨ao', cap', e', _, _, hcc⟩ := HR.out
    injection e' with e1 e2 e3
    subst e1
    obtain ⟨b', off', e4, hbl, hcell⟩ := hcc (by intro h; rw [h] at hzl; simp at hzl; omega)
    cases e4
    obtain ⟨u, hu, hRu⟩ := hcell k (by rw [hzl]; exact hlt)
    rw [hrk] at hRu
    have hck := (hB.cell (p := ⟨b, off + k, none⟩) hbl).trans hu
    have HRu := hide hRu
    obtain ⟨au, cu, rfl, _⟩ := hRu.spell
    rw [hblk] at hck HRu
    clear hcc hcell hu hRu hrk e2 e3
    obtain ⟨w1, hw1⟩ : ∃ w1, w1 = wr := ⟨wr, rfl⟩
    go_wp2_with fail
    go_loopw [22] (fun vj wq => ∃ (j : Nat), j ≤ xs.length ∧ vj = .int .i64 j ∧ Hid (wq.ownsRow W.heap.size 58 1 (.slice (some ⟨W.heap.size, 0, none⟩) zs.length zs.length) zs.length (vals (vlj q xs zs ys k j))) ∧ Below W.heap.size W wq) (fun vj _ => xs.length - (intOf vj).toNat)
    case atStart => exact ⟨0, Nat.zero_le _, rfl, HO, hB⟩
    case round =>
     clear HO hB hck
     obtain ⟨j, hj, rfl, HO, hB⟩ := hrel
     by_cases hjl : j < xs.length
     · obtain ⟨by2, oy, cy2, hvy, _⟩ := HY.out wr hB j (by rw [Hl.out]; exact hjl)
       injection hvy with hvy _ hcvy
       subst hvy hcvy
       have HYc : Hid (∀ V, Below W.heap.size W V → V.cell? ⟨by2, oy + j, none⟩ = some (.int .u64 (co ys j))) := fun V hb => by
        obtain ⟨b9, o9, c9, e9, h9⟩ := HY.out V hb j (by rw [Hl.out]; exact hjl)
        injection e9 with e9 _ _
        injection e9 with e9
        cases e9
        exact h9
       have hcb : ∃ br or, au = some ⟨br, or, none⟩ ∧ wr.cell? ⟨br, or + j, none⟩ = some (.int .u64 (bs q xs (co zs k) j)) := by
        obtain ⟨⟨a9, c9, e9, _, _, hx9⟩, _⟩ := HRu.out
        injection e9 with e9 _ _
        subst e9
        obtain ⟨br, or, e8, hbr, hcx⟩ := hx9 (by intro h; rw [h] at hblk; simp at hblk; omega)
        refine ⟨br, or, e8, ?_⟩
        have h8 : W.cell? ⟨br, or + j, none⟩ = some (.int .u64 (co (bsl q xs (co zs k)) j)) := hcx j (by rw [hblk]; exact hjl)
        rw [HBa.out k j hjl] at h8
        exact (hB.cell (p := ⟨br, or + j, none⟩) hbr).trans h8
       obtain ⟨br, or, rfl, d1⟩ := hcb
       have hcl := own_cell HO.out (by rw [vlj_len]) hlt
       rw [vlj_here hlt] at hcl
       have hfr := free_own HO.out k
       have hlW := own_top HO.out W.heap.size rfl
       have HO2 := hide (fun V (hb : Below wr.heap.size wr V) => own_here (k := k) (z := dkj q xs zs ys k (j + 1)) (own_below HO.out hb))
       have hby : by2 < W.heap.size := cell_in (HYc.out W (Below.refl _ _))
       have HSV : Hid (∀ V, Below wr.heap.size wr V → V.cell? ⟨b2, 0, none⟩ = some (.int .u8 p.f) ∧ V.cell? ⟨by2, oy + j, none⟩ = some (.int .u64 (co ys j))) := fun V hb => ⟨(HS.out V (Below.next hB hb)).2, HYc.out V (Below.next hB hb)⟩
       have HCl : Hid (∀ V, Below wr.heap.size wr V → V.cell? ⟨W.heap.size, k, none⟩ = some (.int .u64 (dkj q xs zs ys k j))) := fun V hb => (hb.cell (p := ⟨W.heap.size, k, none⟩) hlW).trans hcl
       have HFr : Hid (∀ V, Below wr.heap.size wr V → V.frozen? ⟨W.heap.size, k, none⟩ = false) := fun V hb => free_own (own_below HO.out hb) k
       have HC := hide (fun V v hR => HE.out V v _ _ _ (HD.out k j) (HYe.out j) (HB.out k j) hR)
       rw [HDs.out k j] at HC
       have HR2 := hide (fun V T => rw_two V _ _ (HWd.out _ (HD.out k j)) (HWd.out _ (HYe.out j)) T)
       have j0 : (0 : Int) ≤ (j : Int) := by omega
       have j1 : (j : Int) < (xs.length : Int) := by omega
       have j2 : (j : Int) < (ys.length : Int) := by rw [Hl.out]; exact j1
       have hVs := vlj_set (q := q) (xs := xs) (zs := zs) (ys := ys) (k := k) (j := j) hlt
       rw [hVs] at HO2
       clear HE HD HDs HB HYe HWd HRow HBa HBl HR HRu HS HY HYc HVa HVl HO hVs hblk hcl hfr
       generalize dkj q xs zs ys k (j + 1) = dn at *
       generalize dkj q xs zs ys k j = dc at *
       generalize co ys j = yj at *
       generalize bs q xs (co zs k) j = bj at *
       go_upto_region 8 with fail
       have hS0 := HSV.out _ (Below.refl _ wr).drew
       have hS1 := fun ob => HSV.out (wr.alloc ob).drew (alloc_below wr ob).drew
       have hcl0 := HCl.out _ (Below.refl _ wr)
       refine wp_region_held_drew (S := (fun V => V.cell? ⟨b2, 0, none⟩ = some (.int .u8 p.f) ∧ V.cell? ⟨by2, oy + j, none⟩ = some (.int .u64 yj))) (by kernel_rfl) (by ((try dsimp only) <;> (first | with_reducible exact hS3 | with_reducible exact hS2 | with_reducible exact hS1 _ | with_reducible exact hS0))) (fun hHeld => ?_)
       (refine tkY 0 ?_; (try simp only [ly0, ly1, ly2, ly3, ly4, ly5, ly6, ly7]))
       (refine tkY 1 ?_; (try simp only [ly0, ly1, ly2, ly3, ly4, ly5, ly6, ly7]))
       (refine tkY 2 ?_; (try simp only [ly0, ly1, ly2, ly3, ly4, ly5, ly6, ly7]))
       (refine tkY 3 ?_; (try simp only [ly0, ly1, ly2, ly3, ly4, ly5, ly6, ly7]))
       (refine tkY 4 ?_; (try simp only [ly0, ly1, ly2, ly3, ly4, ly5, ly6, ly7]))
       (refine tkY 5 ?_; (try simp only [ly0, ly1, ly2, ly3, ly4, ly5, ly6, ly7]))
       (refine tkY 6 ?_; (try simp only [ly0, ly1, ly2, ly3, ly4, ly5, ly6, ly7]))
       (refine tkY 8 ?_; (try simp only [ly0, ly1, ly2, ly3, ly4, ly5, ly6, ly7]))
       (refine tkY 9 ?_; (try simp only [ly0, ly1, ly2, ly3, ly4, ly5, ly6, ly7]))
       (refine tkY 10 ?_; (try simp only [ly0, ly1, ly2, ly3, ly4, ly5, ly6, ly7]))
       (refine tkY 11 ?_; (try simp only [ly0, ly1, ly2, ly3, ly4, ly5, ly6, ly7]))
       (refine tkY 13 ?_; (try simp only [ly0, ly1, ly2, ly3, ly4, ly5, ly6, ly7]))
       refine rd1 7 (fun K hK => ?_)
       (try simp only [ly0, ly1, ly2, ly3, ly4, ly5, ly6, ly7])
       go_simp
       refine hK.out _ _ (by ((try dsimp only) <;> (first | with_reducible exact hS3 | with_reducible exact hS2 | with_reducible exact hS1 _ | with_reducible exact hS0))) (fun hHeld => ?_)
       clear hK K
       (try simp only [ly0, ly1, ly2, ly3, ly4, ly5, ly6, ly7])
       refine rd1 12 (fun K hK => ?_)
       (try simp only [ly0, ly1, ly2, ly3, ly4, ly5, ly6, ly7])
       go_simp
       refine hK.out _ _ (by ((try dsimp only) <;> (first | with_reducible exact hS3 | with_reducible exact hS2 | with_reducible exact hS1 _ | with_reducible exact hS0))) (fun hHeld => ?_)
       clear hK K
       (try simp only [ly0, ly1, ly2, ly3, ly4, ly5, ly6, ly7])
       refine rd1 14 (fun K hK => ?_)
       (try simp only [ly0, ly1, ly2, ly3, ly4, ly5, ly6, ly7])
       go_simp
       (go_at_call 120; refine (HC.out _ _ ((HR2.out _ _).below (Below.refl _ _).drew)).mono ?_; rintro e w3 ⟨rfl, hb3⟩; have hb3' : Below wr.heap.size wr w3 := Below.next ((alloc_below wr _).drew) hb3; have hS2 := HSV.out _ hb3'; have hcl := HCl.out _ hb3'; have hfr := HFr.out _ hb3'; have hS3 : (w3.setCell ⟨W.heap.size, k, none⟩ (.int .u64 dn)).cell? ⟨b2, 0, none⟩ = some (.int .u8 p.f) ∧ (w3.setCell ⟨W.heap.size, k, none⟩ (.int .u64 dn)).cell? ⟨by2, oy + j, none⟩ = some (.int .u64 yj) := ⟨(cell_far (by omega)).trans hS2.1, (cell_far (by omega)).trans hS2.2⟩)
       first | (refine hK.out _ _ (by ((try dsimp only) <;> (first | with_reducible exact hS3 | with_reducible exact hS2 | with_reducible exact hS1 _ | with_reducible exact hS0))) (fun hHeld => ?_)) | (go_wp2_with fail; refine hK.out _ _ (by ((try dsimp only) <;> (first | with_reducible exact hS3 | with_reducible exact hS2 | with_reducible exact hS1 _ | with_reducible exact hS0))) (fun hHeld => ?_))
       clear hK K
       (try simp only [ly0, ly1, ly2, ly3, ly4, ly5, ly6, ly7])
       (refine tkY 15 ?_; (try simp only [ly0, ly1, ly2, ly3, ly4, ly5, ly6, ly7]))
       (refine tkY 16 ?_; (try simp only [ly0, ly1, ly2, ly3, ly4, ly5, ly6, ly7]))
       (refine tkY 17 ?_; (try simp only [ly0, ly1, ly2, ly3, ly4, ly5, ly6, ly7]))
       (refine tkY 18 ?_; (try simp only [ly0, ly1, ly2, ly3, ly4, ly5, ly6, ly7]))
       refine rd1 19 (fun K hK => ?_)
       (try simp only [ly0, ly1, ly2, ly3, ly4, ly5, ly6, ly7])
       go_simp
       refine hK.out _ _ (by ((try dsimp only) <;> (first | with_reducible exact hS3 | with_reducible exact hS2 | with_reducible exact hS1 _ | with_reducible exact hS0))) (fun hHeld => ?_)
       clear hK K
       (try simp only [ly0, ly1, ly2, ly3, ly4, ly5, ly6, ly7])
       refine wpAnyH_done (by kernel_rfl) ?_ _
       have HO3 := hide (HO2.out _ hb3')
       have hB3 : Below W.heap.size W (w3.setCell ⟨W.heap.size, k, none⟩ (.int .u64 dn)) := (Below.next hB hb3').setCell (p := ⟨W.heap.size, k, none⟩) (Nat.le_refl _) _
       clear hS0 hS1 hS2 hS3 HSV HFr HC HR2 HO2 HCl hcl0 hcl hfr
       go_wp2
       go_roundw
       case rel => exact ⟨j + 1, by omega, by go_num, HO3, hB3⟩
       case measure => simp [intOf]; omega
     · obtain rfl : j = xs.length := by omega
       have HO2 := HO
       rw [vlj_next hlt] at HO2
       clear HE HD HDs HB HYe HWd HRow HBa HBl HR HRu HS HY HVa HVl HO
       go_wp2
       go_roundw
       case rel => exact ⟨k + 1, by omega, by go_num, HO2, hB⟩
       case measure => simp [intOf]; omega
  · obtain rfl : k = zs.length := by omega
    have HO2 := HO
    rw [HVa.out] at HO2
    clear HE HD HDs HB HYe HWd HRow HBa HBl HR HS HY HVa HO
    go_wp2
    go_ret
    exact ⟨_, rfl, by rw [HVl.out]; exact HO2.out, hB⟩
end Go.Proofs.YtnakbpaiidolbaaGreat
namespace Go.Proofs.YtnakbpaiidolbaaGreat
open Go.RowKit Fld Pln Shr
set_option linter.unusedVariables false
set_option linter.unusedSimpArgs false
theorem Rws.wordsH {w : World} {v : Value} {xss : List (List Int)} (h : Rws w v xss) : ∀ xs ∈ xss, Wd xs := fun xs hx => by
 obtain ⟨ao, cap, rfl, _, _, hc⟩ := h
 obtain ⟨i, hi, rfl⟩ := List.mem_iff_getElem.1 hx
 obtain ⟨b, off, _, _, hcell⟩ := hc (by intro e; rw [e] at hi; simp at hi)
 obtain ⟨u, _, hR⟩ := hcell i hi
 rw [List.getD_eq_getElem?_getD, List.getElem?_eq_getElem hi] at hR
 exact ⟨hR.len, hR.words⟩
theorem col_wd {bl : List (List Int)} (h : ∀ b ∈ bl, Wd b) (hl : bl.length ≤ 1000) (t : Nat) : Wd (col bl t) := by
 refine ⟨by rw [col_len]; omega, fun x hx => ?_⟩
 obtain ⟨b, hb, rfl⟩ := List.mem_map.1 hx
 by_cases ht : t < b.length
 · rw [co_at ht]; exact (h b hb).2 _ (List.getElem_mem ht)
 · rw [co_out b t (by omega)]; omega
set_option maxRecDepth 100000 in
set_option maxHeartbeats 800000 in
theorem gEach (p : Pn) (v : Value) (bl : List (List Int)) (F : List Int → List Int) (fn : FuncId) (A1 A2 : Addr) (w : World) (hm : mayP p = true) (h : Rws w v bl) (hw : ∀ b ∈ bl, p.w.toNat ≤ b.length) (hbn : bl.length ≤ 1000)
 (hcf : ∀ args W, (callFunc fn args).run Tryz.prog W = .ok (.enter fn args) W)
 (hwk : ∀ t W u, t < p.w.toNat → Below w.heap.size w W → Rw W u (col bl t) → Calls Tryz.prog fn #[u, .pointer (some A1), .pointer (some A2)] W fun e w' => ∃ v', e = .returned v' ∧ w'.ownsRow W.heap.size 58 1 v' (F (col bl t)).length (vals (F (col bl t))) ∧ Below W.heap.size W w') :
 Calls Tryz.prog 67 #[plv p, v, .func (.func fn) #[] #[.pointer (some A1), .pointer (some A2)]] w fun e w' => ∃ v' us, e = .returned v' ∧ Mtx w' w.heap.size v' us ((List.range p.w.toNat).map (fun t => F (col bl t))) ∧ Below w.heap.size w w' := by
 obtain ⟨_, _, _, _, _, _, w0, w1⟩ := may_facts hm
 have HT : Hid (∀ W (hb : Below w.heap.size w W), Calls Tryz.prog 98 #[v, .int .i64 p.w] W fun e w' => ∃ v' us, e = .returned v' ∧ Mtx w' W.heap.size v' us (trn bl p.w.toNat) ∧ Below W.heap.size W w') := fun W hb => by
  have := gTurned v bl p.w.toNat W (h.below hb) hw hbn (by omega)
  rw [show ((p.w.toNat : Nat) : Int) = p.w by omega] at this
  exact this
 have HWk := hide hwk
 have HWd : Hid (∀ t W u base m, World.ownsRow W base 58 1 u m (vals (col bl t)) → Rw W u (col bl t)) := fun t W u base m hO => (col_wd h.wordsH hbn t).row hO
 have HE0 := hide (ech_zero F bl p.w.toNat)
 have HEa := hide (ech_all F bl p.w.toNat)
 obtain ⟨n, Hn⟩ : ∃ n : Nat, Hid (p.w.toNat = n) := ⟨_, rfl⟩
 have hpw : p.w = (n : Int) := by have := Hn.out; omega
 have hn0 : 0 < n := by omega
 have hn64 : n ≤ 64 := by omega
 rw [Hn.out] at HT HWk HE0 HEa ⊢
 obtain ⟨pb, hA⟩ := pb_box (w := w) p
 have HPb := hide pb
 obtain ⟨ao, cap, rfl, _, hcap, _⟩ := h
 obtain ⟨c0, c1, c2, c3, c4, c5, c6, c7⟩ := pb.cells
 clear pb hw hwk hm w0 w1
 obtain ⟨pf, pn, pk, pt, ps, pe, pd, pw⟩ := p
 dsimp only at *
 subst hpw
 unfold plv plw at *
 dsimp only at *
 go_enter Tryz.func67, Tryz.ntmps67
 go_wp2_with (go_at_call 98; refine (HT.out _ hA).mono ?_; rintro e w1 ⟨v1, us1, rfl, hM1, hb1⟩; clear c0 c1 c2 c3 c4 c5 c6 c7; obtain ⟨c0, c1, c2, c3, c4, c5, c6, c7⟩ := (HPb.out.below hb1).cells; have hB1 := Below.next hA hb1; obtain ⟨G, cg, rfl, hG0, _, hcg⟩ := hM1.spell (by rw [trn_len]; exact hn0); rw [trn_len] at hcg; have HM1 := hide (hM1.low hA.size); rw [trn_len] at HM1; clear hM1)
 rw [← HE0.out] at HM1
 have hG : w.heap.size ≤ G := Nat.le_trans hA.size hG0
 rw [trn_len]
 clear c0 c1 c2 c3 c4 c5 c6 c7 HT HPb
 go_loopw [15] (fun vi wr => ∃ (k : Nat) (us : List Value), k ≤ n ∧ vi = .int .i64 k ∧ Hid (Mtx wr w.heap.size (.slice (some ⟨G, 0, none⟩) n cg) us (ech F bl n k)) ∧ Below w.heap.size w wr) (fun vi _ => n - (intOf vi).toNat)
 case atStart => exact ⟨0, us1, Nat.zero_le _, rfl, HM1, hB1⟩
 case round =>
  clear HM1 hB1 hb1
  obtain ⟨k, us, hk, rfl, HM, hB⟩ := hrel
  by_cases hlt : k < n
  · have hcG := HM.out.cell (i := k) (by rw [ech_len]; exact hlt)
    have hGt := cell_in hcG
    have hEk := HM.out.each k (by rw [ech_len]; exact hlt)
    rw [ech_here F bl hlt] at hEk
    obtain ⟨a4, c4, hu⟩ := own_form hEk
    have hR := HWd.out k wr _ _ _ hEk
    have hC := hide (HWk.out k wr _ hlt hB hR)
    rw [hu] at hcG hC
    have hml : (ech F bl n k).length = n := ech_len _ _ _ _
    have HLay : Hid (∀ V v' , Below wr.heap.size wr V → V.ownsRow wr.heap.size 58 1 v' (F (col bl k)).length (vals (F (col bl k))) → V.cell? ⟨G, k, none⟩ = some (.slice a4 (col bl k).length c4) ∧ V.frozen? ⟨G, k, none⟩ = false ∧ Mtx (V.setCell ⟨G, k, none⟩ v') w.heap.size (.slice (some ⟨G, 0, none⟩) n cg) (us.set k v') (ech F bl n (k + 1))) := fun V v' hb hO => by
     have hMV := HM.out.below hb
     refine ⟨(hb.cell (p := ⟨G, k, none⟩) hGt).trans hcG, free_own (by have := hMV.row; rw [hml] at this; exact this) k, ?_⟩
     have := hMV.lay hml.symm (k := k) (by rw [hml]; exact hlt) (own_mono hO hB.size) (fun i g hi hne hg e => by
      have h1 := HM.out.tops hi hg
      have h2 := own_base hO g e
      omega)
     rw [ech_set F bl hlt] at this
     exact this
    have k0 : (0 : Int) ≤ (k : Int) := by omega
    have k1 : (k : Int) < (n : Int) := by omega
    clear HM HWk HWd hEk hR hu HE0 HEa hml
    generalize F (col bl k) = fx at *
    generalize (col bl k).length = m at *
    go_wp2_with (refine hC.out.mono ?_; rintro e w2 ⟨v2, rfl, hO2, hb2⟩; obtain ⟨a5, c5, rfl⟩ := own_form hO2; obtain ⟨d1, d2, HM2⟩ := HLay.out _ _ hb2 hO2; have HM2 := hide HM2; clear HLay)
    have hB2 := (Below.next hB hb2).setCell (p := ⟨G, k, none⟩) hG (.slice a5 fx.length c5)
    go_roundw
    case rel => exact ⟨k + 1, _, by omega, by go_num, HM2, hB2⟩
    case measure => simp [intOf]; omega
  · obtain rfl : k = n := by omega
    have HM2 := HM
    rw [HEa.out] at HM2
    clear HM HWk HWd HE0 HEa
    go_wp2
    go_ret
    exact ⟨_, us, rfl, HM2.out, hB⟩
theorem chg_zero {f q : Int} {wd : Bool} (hf : Fi f q wd) {xs zs : List Int} (hx : Els q xs) (hn : xs.Nodup) (hz : Els q zs) (lx : xs.length ≤ 512) (lz : zs.length ≤ 512) : chgL f xs zs = zs.map (fun z => bsl q xs z) := by
 have e1 : inF f xs = true := by rw [inF_yes hf]; exact allIn_of hx
 have e2 : inF f zs = true := by rw [inF_yes hf]; exact allIn_of hz
 have hb : bad f xs zs xs.length = 0 := by rw [bad_end e1 e2 rfl (by omega), if_pos hn]
 have h0 : bac f xs zs = 0 := by
  unfold bac
  rw [if_neg (by omega), hb]
 unfold chgL
 rw [if_pos h0, pOf_eq hf]
theorem plan_eq (p : Pn) : plv p = .agg #[.int .u8 p.f, .int .i64 p.n, .int .i64 p.k, .int .i64 p.t, .int .i64 p.s, .int .i64 p.e, .int .i64 p.d, .int .i64 p.w] := rfl
set_option maxRecDepth 100000 in
set_option maxHeartbeats 800000 in
theorem gMoved (p : Pn) (q : Int) (wd : Bool) (vb vx vz : Value) (bl : List (List Int)) (xs zs : List Int) (w : World) (hm : mayP p = true) (hf : Fi p.f q wd) (hb : Rws w vb bl) (hx : Rw w vx xs) (hz : Rw w vz zs) (hbw : ∀ b ∈ bl, b.length = p.w.toNat) (hbe : ∀ b ∈ bl, Els q b) (hbl : bl.length = xs.length) (hxe : Els q xs) (hxn : xs.Nodup) (hx64 : xs.length ≤ 64) (hze : Els q zs) (hz64 : zs.length ≤ 64) :
 Calls Tryz.prog 79 #[plv p, vb, vx, vz] w fun e w' => ∃ v' us, e = .returned v' ∧ Mtx w' w.heap.size v' us (zs.map (shr q xs p.w.toNat bl)) ∧ Below w.heap.size w w' := by
 obtain ⟨_, _, _, _, _, _, w0, w1⟩ := may_facts hm
 have HV := hide (fun W (h : Below w.heap.size w W) => gValues p vx vz xs zs W (hx.below h) (hz.below h))
 rw [chg_zero hf hxe hxn hze (by omega) (by omega)] at HV
 have HLw : Hid (∀ W lo hi v us, Lss W lo hi v us (zs.map (fun z => bsl q xs z)) → Rws W v (zs.map (fun z => bsl q xs z))) := fun W lo hi v us h => h.rws (fun i => by
  by_cases hi : i < zs.length
  · rw [map_bsl hi]; exact wd_els (bsl_els hf.pos _ _) hf.top (by rw [bsl_len]; omega)
  · rw [List.getD_eq_getElem?_getD, List.getElem?_eq_none (by rw [List.length_map]; omega)]; exact wd_nil) (by rw [List.length_map]; omega)
 have HE : Hid (∀ W b1 b2 vr us lo hi, Below w.heap.size w W → Bx1 W b1 29 vr → Pb W b2 p → Lss W lo hi vr us (zs.map (fun z => bsl q xs z)) → Calls Tryz.prog 67 #[plv p, vb, .func (.func 136) #[] #[.pointer (some ⟨b1, 0, none⟩), .pointer (some ⟨b2, 0, none⟩)]] W fun e w' => ∃ v' us, e = .returned v' ∧ Mtx w' W.heap.size v' us ((List.range p.w.toNat).map (fun t => vls q xs zs (col bl t))) ∧ Below W.heap.size W w') := fun W b1 b2 vr us lo hi hB h1 h2 hL =>
  gEach p vb bl (vls q xs zs) _ ⟨b1, 0, none⟩ ⟨b2, 0, none⟩ W hm (hb.below hB) (fun b h => Nat.le_of_eq (hbw b h).symm) (by omega) (by intro args W; simp [go_sem]) (fun t V u ht hV hR => gValues1 p q wd vr u xs zs (col bl t) V b1 b2 hf (h1.below hV) (h2.below hV) ((HLw.out _ _ _ _ _ hL).below hV) hR (col_els hf.pos hbe t) (by rw [col_len]; exact hbl) hx64 hz64)
 have HT : Hid (∀ W lo v us, Mtx W lo v us ((List.range p.w.toNat).map (fun t => vls q xs zs (col bl t))) → Calls Tryz.prog 98 #[v, .int .i64 (zs.length : Int)] W fun e w' => ∃ v' us, e = .returned v' ∧ Mtx w' W.heap.size v' us (zs.map (shr q xs p.w.toNat bl)) ∧ Below W.heap.size W w') := fun W lo v us hM => by
  have hr := hM.rws (fun i => by
   by_cases hi : i < p.w.toNat
   · have e : ((List.range p.w.toNat).map (fun t => vls q xs zs (col bl t))).getD i [] = vls q xs zs (col bl i) := by simp [List.getD_eq_getElem?_getD, hi]
     rw [e]; exact wd_els (vls_els hf.pos _ _ _) hf.top (by rw [vls_len]; omega)
   · have e : ((List.range p.w.toNat).map (fun t => vls q xs zs (col bl t))).getD i [] = [] := by simp [List.getD_eq_getElem?_getD, hi]
     rw [e]; exact wd_nil) (by simp; omega)
  have := gTurned v _ zs.length W hr (fun b hb' => by
   obtain ⟨t, _, rfl⟩ := List.mem_map.1 hb'
   rw [vls_len]; exact Nat.le_refl _) (by simp; omega) (by omega)
  rw [moved_eq hf.md hxe hxn hbe] at this
  exact this
 obtain ⟨pb, hA⟩ := pb_box (w := w) p
 have HS := hide (fun W' (hb : Below (w.alloc (.cells #[.int .u8 p.f, .int .i64 p.n, .int .i64 p.k, .int .i64 p.t, .int .i64 p.s, .int .i64 p.e, .int .i64 p.d, .int .i64 p.w] 24)).heap.size _ W') => (pb.below hb).cells)
 obtain ⟨ab, cb, rfl, _, _, _⟩ := hb
 obtain ⟨ax, cx, rfl, _⟩ := hx.spell
 obtain ⟨az, cz, rfl, _⟩ := hz.spell
 clear hx hz hbw hbe hxe hxn hze pb hm hf HLw hbl
 generalize zs.map (shr q xs p.w.toNat bl) = res at *
 generalize (List.range p.w.toNat).map (fun t => vls q xs zs (col bl t)) = mid at *
 generalize zs.map (fun z => bsl q xs z) = rows at *
 rw [plan_eq] at *
 generalize bl.length = nb at *
 generalize xs.length = nx at *
 generalize zs.length = nz at *
 go_enter Tryz.func79, Tryz.ntmps79
 go_upto_region 1 with fail
 generalize w.alloc (.cells #[.int .u8 p.f, .int .i64 p.n, .int .i64 p.k, .int .i64 p.t, .int .i64 p.s, .int .i64 p.e, .int .i64 p.d, .int .i64 p.w] 24) = W0 at *
 have hdr : Below W0.heap.size W0 W0.drew := (Below.refl _ W0).drew
 have hS0 := HS.out _ hdr
 refine wp_region_held_drew (S := (fun V => V.cell? ⟨w.heap.size, 0, none⟩ = some (.int .u8 p.f) ∧ V.cell? ⟨w.heap.size, 1, none⟩ = some (.int .i64 p.n) ∧ V.cell? ⟨w.heap.size, 2, none⟩ = some (.int .i64 p.k) ∧ V.cell? ⟨w.heap.size, 3, none⟩ = some (.int .i64 p.t) ∧ V.cell? ⟨w.heap.size, 4, none⟩ = some (.int .i64 p.s) ∧ V.cell? ⟨w.heap.size, 5, none⟩ = some (.int .i64 p.e) ∧ V.cell? ⟨w.heap.size, 6, none⟩ = some (.int .i64 p.d) ∧ V.cell? ⟨w.heap.size, 7, none⟩ = some (.int .i64 p.w))) (by kernel_rfl) (by ((try dsimp only) <;> (first | with_reducible exact hS3 | with_reducible exact hS2 | with_reducible exact hS1 | with_reducible exact hS0))) (fun hHeld => ?_)
 (refine tkY 0 ?_; (try simp only [ly0, ly1, ly2, ly3, ly4, ly5, ly6, ly7]))
 (refine tkY 1 ?_; (try simp only [ly0, ly1, ly2, ly3, ly4, ly5, ly6, ly7]))
 (refine tkY 2 ?_; (try simp only [ly0, ly1, ly2, ly3, ly4, ly5, ly6, ly7]))
 (refine tkY 3 ?_; (try simp only [ly0, ly1, ly2, ly3, ly4, ly5, ly6, ly7]))
 (refine tkY 4 ?_; (try simp only [ly0, ly1, ly2, ly3, ly4, ly5, ly6, ly7]))
 (refine tkY 7 ?_; (try simp only [ly0, ly1, ly2, ly3, ly4, ly5, ly6, ly7]))
 (refine tkY 8 ?_; (try simp only [ly0, ly1, ly2, ly3, ly4, ly5, ly6, ly7]))
 refine rd1 5 (fun K hK => ?_)
 (try simp only [ly0, ly1, ly2, ly3, ly4, ly5, ly6, ly7])
 go_simp
 (go_at_call 112; refine (HV.out _ (Below.next hA hdr)).mono ?_; rintro e w1 ⟨b1, b2, vr, rfl, x1, x2, ⟨us, x3⟩, hb1⟩; have hC1 := Below.next hdr hb1; have hB1 := Below.next hA hC1; have hS1 := HS.out _ hC1)
 first | (refine hK.out _ _ (by ((try dsimp only) <;> (first | with_reducible exact hS3 | with_reducible exact hS2 | with_reducible exact hS1 | with_reducible exact hS0))) (fun hHeld => ?_)) | (go_wp2_with fail; refine hK.out _ _ (by ((try dsimp only) <;> (first | with_reducible exact hS3 | with_reducible exact hS2 | with_reducible exact hS1 | with_reducible exact hS0))) (fun hHeld => ?_))
 clear hK K
 (try simp only [ly0, ly1, ly2, ly3, ly4, ly5, ly6, ly7])
 refine rd1 6 (fun K hK => ?_)
 (try simp only [ly0, ly1, ly2, ly3, ly4, ly5, ly6, ly7])
 go_simp
 (go_at_call 67; refine (HE.out _ _ _ _ _ _ _ hB1 x1 x2 x3).mono ?_; rintro e w2 ⟨v2, us2, rfl, y1, hb2⟩; have hC2 := Below.next hC1 hb2; have hB2 := Below.next hA hC2; have hS2 := HS.out _ hC2; obtain ⟨a2, c2, rfl⟩ := own_form y1.row)
 first | (refine hK.out _ _ (by ((try dsimp only) <;> (first | with_reducible exact hS3 | with_reducible exact hS2 | with_reducible exact hS1 | with_reducible exact hS0))) (fun hHeld => ?_)) | (go_wp2_with fail; refine hK.out _ _ (by ((try dsimp only) <;> (first | with_reducible exact hS3 | with_reducible exact hS2 | with_reducible exact hS1 | with_reducible exact hS0))) (fun hHeld => ?_))
 clear hK K
 (try simp only [ly0, ly1, ly2, ly3, ly4, ly5, ly6, ly7])
 refine rd1 9 (fun K hK => ?_)
 (try simp only [ly0, ly1, ly2, ly3, ly4, ly5, ly6, ly7])
 go_simp
 (go_at_call 98; refine (HT.out _ _ _ _ y1).mono ?_; rintro e w3 ⟨v3, us3, rfl, z1, hb3⟩; have hC3 := Below.next hC2 hb3; have hB3 := Below.next hA hC3; have hS3 := HS.out _ hC3; obtain ⟨a3, c3, rfl⟩ := own_form z1.row; have HZ := hide (z1.low hB2.size); clear z1)
 first | (refine hK.out _ _ (by ((try dsimp only) <;> (first | with_reducible exact hS3 | with_reducible exact hS2 | with_reducible exact hS1 | with_reducible exact hS0))) (fun hHeld => ?_)) | (go_wp2_with fail; refine hK.out _ _ (by ((try dsimp only) <;> (first | with_reducible exact hS3 | with_reducible exact hS2 | with_reducible exact hS1 | with_reducible exact hS0))) (fun hHeld => ?_))
 clear hK K
 (try simp only [ly0, ly1, ly2, ly3, ly4, ly5, ly6, ly7])
 (refine tkY 10 ?_; (try simp only [ly0, ly1, ly2, ly3, ly4, ly5, ly6, ly7]))
 refine wpAnyH_done (by kernel_rfl) ?_ _
 go_wp2
 go_ret
 exact ⟨_, us3, rfl, HZ.out, hB3⟩
end Go.Proofs.YtnakbpaiidolbaaGreat
namespace Go.Proofs.YtnakbpaiidolbaaGreat
open Go.RowKit Fld Pln Shr
set_option linter.unusedVariables false
set_option linter.unusedSimpArgs false
def GivesM (k : FuncId) (args : Array Value) (W : World) (xss : List (List Int)) (e0 : Int) : Prop :=
 Calls Tryz.prog k args W fun e w' => ∃ v' us, e = .returned (.tuple #[v', .int .i64 e0]) ∧ Mtx w' W.heap.size v' us xss ∧ Below W.heap.size W w'
theorem getD_wd {l : List (List Int)} (h : ∀ b ∈ l, Wd b) (i : Nat) : Wd (l.getD i []) := by
 by_cases hi : i < l.length
 · exact h _ (getD_memA [] hi)
 · rw [List.getD_eq_getElem?_getD, List.getElem?_eq_none (by omega)]; exact wd_nil
theorem mtx_nil (w : World) (lo : Nat) : Mtx w lo (.slice none 0 0) [] [] := (Lss.nil w lo 0).mtx
theorem own_rws {W : World} {lo n : Nat} {v : Value} {us : List Value} {l : List (List Int)} (h : W.ownsRow lo 30 1 v n us) (hl : l.length = n) (he : ∀ i, i < l.length → Rw W (us.getD i nov) (l.getD i [])) (hb : n ≤ 1000) : Rws W v l := by
 have hul : us.length = n := by have := h.1; omega
 rcases h.2 with ⟨rfl, h0⟩ | ⟨g, cap, cur, rfl, h2, h3, h4, h5, h6, h7⟩
 · have : l = [] := List.length_eq_zero_iff.1 (by omega)
   subst this
   exact rws_nil W
 · refine ⟨_, cap, by rw [hl], by omega, by omega, fun hne => ⟨g, 0, rfl, own_top h g rfl, fun i hi => ⟨us.getD i nov, ?_, he i hi⟩⟩⟩
   rw [Nat.zero_add, h.cellAt i (by omega), List.getD_eq_getElem?_getD, List.getElem?_eq_getElem (by omega)]; rfl
theorem getD_app {α : Type} (a b : List α) (d : α) (i : Nat) : (a ++ b).getD i d = if i < a.length then a.getD i d else b.getD (i - a.length) d := by
 rw [List.getD_eq_getElem?_getD, List.getD_eq_getElem?_getD, List.getD_eq_getElem?_getD]
 by_cases h : i < a.length
 · rw [if_pos h, List.getElem?_append_left h]
 · rw [if_neg h, List.getElem?_append_right (by omega)]
theorem cat_blocks (v1 v2 : Value) (l1 l2 : List (List Int)) (w W : World) (b : Nat) (h1 : Rws w v1 l1) (h2 : Rws w v2 l2) (hB : Below w.heap.size w W) (h0 : 0 < l1.length) (hl : l1.length + l2.length ≤ 1000) (hT : Two b v1 v2 W) :
 Calls Tryz.prog 68 #[.slice (some ⟨b, 0, none⟩) 2 2] W fun e w' => ∃ v', e = .returned v' ∧ Rws w' v' (l1 ++ l2) ∧ Below W.heap.size W w' := by
 obtain ⟨us1, n1, s1, r1⟩ := rws_srl (h1.below hB)
 obtain ⟨us2, n2, s2, r2⟩ := rws_srl (h2.below hB)
 refine (Cat_L v1 v2 us1 us2 W b s1 s2 (by omega) (by omega) hT).mono ?_
 rintro e w' ⟨v', rfl, hO, hb⟩
 refine ⟨v', rfl, own_rws hO (by rw [List.length_append]; omega) (fun i hi => ?_) (by omega), hb⟩
 rw [getD_app, getD_app, n1]
 rw [List.length_append] at hi
 by_cases hi2 : i < l1.length
 · rw [if_pos hi2, if_pos hi2]; exact (r1 i hi2).below hb
 · rw [if_neg hi2, if_neg hi2]; exact (r2 _ (by omega)).below hb
theorem thr_zeroL {f q : Int} {wd : Bool} (hf : Fi f q wd) {xs ys : List Int} (hx : Els q xs) (hn : xs.Nodup) (hy : Els q ys) (hl : ys.length = xs.length) (lx : xs.length ≤ 512) : thrL f xs ys = tp q xs ys xs.length := by
 have e1 : inF f xs = true := by rw [inF_yes hf]; exact allIn_of hx
 have e2 : inF f ys = true := by rw [inF_yes hf]; exact allIn_of hy
 have hb : bad f xs ys ys.length = 0 := by rw [bad_end e1 e2 hl.symm (by omega), if_pos hn]
 unfold thrL
 rw [if_pos hb, pOf_eq hf]
theorem bk_facts {p : Pn} {dl pl : List (List Int)} {who : List Int} (h : bkE p dl pl who = 0) (w1 : ∀ b ∈ dl, Wd b) (w2 : ∀ b ∈ pl, Wd b) : ∃ q wd, mayP p = true ∧ Fi p.f q wd ∧ (∀ b ∈ dl ++ pl, Els q b) ∧ (∀ b ∈ dl ++ pl, b.length = p.w.toNat) ∧ dl.length = p.k.toNat ∧ pl.length = p.t.toNat ∧ (dl ++ pl).length = (innL p).length ∧ Els q (innL p) ∧ (innL p).Nodup ∧ (innL p).length ≤ 64 ∧ Els q (outL p) ∧ (outL p).length = p.n.toNat ∧ (outL p).length ≤ 64 ∧ 0 < dl.length ∧ ∀ x ∈ who, 0 ≤ x ∧ x < p.n := by
 obtain ⟨hm, ⟨q, wd, hf, he⟩, hw, hd, hp, hwho⟩ := bk_zero h
 obtain ⟨⟨n0, n1⟩, ⟨k0, k1⟩, ⟨t0, t1⟩, _⟩ := may_facts hm
 obtain ⟨i1, i2, i3, i4, i5, i6⟩ := inn_facts hm hf
 refine ⟨q, wd, hm, hf, fun b hb => els_of (he b hb) ?_, hw, hd, hp, by rw [List.length_append]; omega, i1, i2, by omega, i4, i6, by omega, by omega, hwho⟩
 rcases List.mem_append.1 hb with hb | hb
 · exact (w1 b hb).2
 · exact (w2 b hb).2
set_option maxRecDepth 100000 in
set_option maxHeartbeats 800000 in
theorem gPolys (p : Pn) (vd vp : Value) (dl pl : List (List Int)) (w : World) (hp : Ok8p p) (h1 : Rws w vd dl) (h2 : Rws w vp pl) : GivesM 36 #[plv p, vd, vp] w (polL p dl pl) (bkE p dl pl []) := by
 obtain ⟨pb, hA⟩ := pb_box (w := w) p
 have HK := hide (fun W (hb : Below w.heap.size w W) => gCheckBlocks p vd vp _ dl pl [] W hp (h1.below hb) (h2.below hb) (lm_nil iw 1 W))
 have HS := hide (fun W' (hb : Below (w.alloc (.cells #[.int .u8 p.f, .int .i64 p.n, .int .i64 p.k, .int .i64 p.t, .int .i64 p.s, .int .i64 p.e, .int .i64 p.d, .int .i64 p.w] 24)).heap.size _ W') => (pb.below hb).cells)
 obtain ⟨c0, c1, c2, c3, c4, c5, c6, c7⟩ := pb.cells
 by_cases hz : bkE p dl pl [] = 0
 · obtain ⟨q, wd, hm, hf, hbe, hbw, hdl, hpl, hbl, ie, inn, i64', oe, on, o64, d0, _⟩ := bk_facts hz h1.wordsH h2.wordsH
   obtain ⟨_, _, ⟨t0, t1⟩, _⟩ := may_facts hm
   have hlen : dl.length + pl.length ≤ 64 := by rw [List.length_append] at hbl; omega
   have HL : Hid (polL p dl pl = (List.range p.w.toNat).map (fun t => thrL p.f (innL p) (col (dl ++ pl) t))) := by
    show _ = _
    unfold polL pys
    rw [if_pos hz, pOf_eq hf]
    refine List.map_congr_left (fun t _ => ?_)
    rw [thr_zeroL hf ie inn (col_els hf.pos hbe t) (by rw [col_len]; exact hbl) (by omega)]
    rfl
   rw [HL.out, hz]
   rw [hz] at HK
   have HC := hide (fun W b (hb : Below w.heap.size w W) hT => cat_blocks vd vp dl pl w W b h1 h2 hb d0 (by omega) hT)
   have HI := hide (fun W => gInner p W hp hm)
   have HR := hide (fun W v base n (hO : World.ownsRow W base 58 1 v n (vals (innL p))) => rw_of_own hO (by omega) (els_words ie hf.top))
   have HT := hide (fun W vx hx => gThrough p vx (innL p) W hx)
   have HE : Hid (∀ W b1 b2 vx vb, Pb W b1 p → Bx1 W b2 30 vx → Rw W vx (innL p) → Rws W vb (dl ++ pl) → Calls Tryz.prog 67 #[plv p, vb, .func (.func 100) #[] #[.pointer (some ⟨b1, 0, none⟩), .pointer (some ⟨b2, 0, none⟩)]] W fun e w' => ∃ v' us, e = .returned v' ∧ Mtx w' W.heap.size v' us ((List.range p.w.toNat).map (fun t => thrL p.f (innL p) (col (dl ++ pl) t))) ∧ Below W.heap.size W w') := fun W b1 b2 vx vb x1 x2 x3 x4 =>
    gEach p vb (dl ++ pl) (fun ys => thrL p.f (innL p) ys) _ ⟨b1, 0, none⟩ ⟨b2, 0, none⟩ W hm x4 (fun b h => Nat.le_of_eq (hbw b h).symm) (by omega) (by intro args W; simp [go_sem]) (fun t V u ht hV hR => gThrough1 p vx u (innL p) (col (dl ++ pl) t) V b1 b2 (x1.below hV) (x2.below hV) (x3.below hV) hR)
   obtain ⟨ad, cd, rfl, _, _, _⟩ := h1
   obtain ⟨ap, cp, rfl, _, _, _⟩ := h2
   clear hz hm hf hbe hbw hbl ie inn oe on pb hp HL hdl hpl
   generalize (List.range p.w.toNat).map (fun t => thrL p.f (innL p) (col (dl ++ pl) t)) = res at *
   generalize innL p = xs at *
   generalize hbb : dl ++ pl = bl at *
   clear hbb
   generalize dl.length = nd at *
   generalize pl.length = np at *
   rw [plan_eq] at *
   show Calls _ _ _ _ _
   go_enter Tryz.func36, Tryz.ntmps36
   go_upto_region 1 with fail
   generalize w.alloc (.cells #[.int .u8 p.f, .int .i64 p.n, .int .i64 p.k, .int .i64 p.t, .int .i64 p.s, .int .i64 p.e, .int .i64 p.d, .int .i64 p.w] 24) = W0 at *
   go_upto_region 4 with (go_at_call 66; refine (HK.out _ hA).mono ?_; rintro e w1 ⟨rfl, hb1⟩)
   have hC1 := hb1
   have hB1 := Below.next hA hC1
   clear c0 c1 c2 c3 c4 c5 c6 c7 HK hb1
   have hdr : Below w1.heap.size w1 w1.drew := (Below.refl _ w1).drew
   have hS0 := HS.out _ (Below.next hC1 hdr)
   have hal : ∀ ob, Below w1.heap.size w1 (w1.alloc ob).drew := fun ob => (alloc_below w1 ob).drew
   have hS1 := fun ob => HS.out _ (Below.next hC1 (hal ob))
   have hTw := hide (fun T => (two_new w1 ad ap nd np cd cp T).below (Below.refl _ _).drew)
   refine wp_region_held_drew (S := (fun V => V.cell? ⟨w.heap.size, 0, none⟩ = some (.int .u8 p.f) ∧ V.cell? ⟨w.heap.size, 1, none⟩ = some (.int .i64 p.n) ∧ V.cell? ⟨w.heap.size, 2, none⟩ = some (.int .i64 p.k) ∧ V.cell? ⟨w.heap.size, 3, none⟩ = some (.int .i64 p.t) ∧ V.cell? ⟨w.heap.size, 4, none⟩ = some (.int .i64 p.s) ∧ V.cell? ⟨w.heap.size, 5, none⟩ = some (.int .i64 p.e) ∧ V.cell? ⟨w.heap.size, 6, none⟩ = some (.int .i64 p.d) ∧ V.cell? ⟨w.heap.size, 7, none⟩ = some (.int .i64 p.w))) (by kernel_rfl) (by ((try dsimp only) <;> (first | with_reducible exact hS5 | with_reducible exact hS4 | with_reducible exact hS3 | with_reducible exact hS2 | with_reducible exact hS1 _ | with_reducible exact hS0))) (fun hHeld => ?_)
   (refine tkY 0 ?_; (try simp only [ly0, ly1, ly2, ly3, ly4, ly5, ly6, ly7]))
   (refine tkY 1 ?_; (try simp only [ly0, ly1, ly2, ly3, ly4, ly5, ly6, ly7]))
   (refine tkY 2 ?_; (try simp only [ly0, ly1, ly2, ly3, ly4, ly5, ly6, ly7]))
   (refine tkY 5 ?_; (try simp only [ly0, ly1, ly2, ly3, ly4, ly5, ly6, ly7]))
   (refine tkY 6 ?_; (try simp only [ly0, ly1, ly2, ly3, ly4, ly5, ly6, ly7]))
   refine rd1 3 (fun K hK => ?_)
   (try simp only [ly0, ly1, ly2, ly3, ly4, ly5, ly6, ly7])
   go_simp
   refine hK.out _ _ (by ((try dsimp only) <;> (first | with_reducible exact hS5 | with_reducible exact hS4 | with_reducible exact hS3 | with_reducible exact hS2 | with_reducible exact hS1 _ | with_reducible exact hS0))) (fun hHeld => ?_)
   clear hK K
   (try simp only [ly0, ly1, ly2, ly3, ly4, ly5, ly6, ly7])
   refine rd1 4 (fun K hK => ?_)
   (try simp only [ly0, ly1, ly2, ly3, ly4, ly5, ly6, ly7])
   go_simp
   (go_at_call 68; refine (HC.out _ _ (Below.next hB1 (hal _)) (hTw.out _)).mono ?_; rintro e w2 ⟨v2, rfl, r2, hb2⟩; have hC2 := Below.next (Below.next hC1 (hal _)) hb2; have hB2 := Below.next hA hC2; have hS2 := HS.out _ hC2)
   first | (refine hK.out _ _ (by ((try dsimp only) <;> (first | with_reducible exact hS5 | with_reducible exact hS4 | with_reducible exact hS3 | with_reducible exact hS2 | with_reducible exact hS1 _ | with_reducible exact hS0))) (fun hHeld => ?_)) | (go_wp2_with fail; refine hK.out _ _ (by ((try dsimp only) <;> (first | with_reducible exact hS5 | with_reducible exact hS4 | with_reducible exact hS3 | with_reducible exact hS2 | with_reducible exact hS1 _ | with_reducible exact hS0))) (fun hHeld => ?_))
   clear hK K
   (try simp only [ly0, ly1, ly2, ly3, ly4, ly5, ly6, ly7])
   refine rd1 7 (fun K hK => ?_)
   (try simp only [ly0, ly1, ly2, ly3, ly4, ly5, ly6, ly7])
   go_simp
   (go_at_call 70; refine (HI.out _).mono ?_; rintro e w3 ⟨v3, rfl, o3, hb3⟩; have hC3 := Below.next hC2 hb3; have hB3 := Below.next hA hC3; have hS3 := HS.out _ hC3; have r2b := r2.below hb3; have r3 := HR.out _ _ _ _ o3; obtain ⟨a3, k3, rfl⟩ := own_form o3)
   first | (refine hK.out _ _ (by ((try dsimp only) <;> (first | with_reducible exact hS5 | with_reducible exact hS4 | with_reducible exact hS3 | with_reducible exact hS2 | with_reducible exact hS1 _ | with_reducible exact hS0))) (fun hHeld => ?_)) | (go_wp2_with fail; refine hK.out _ _ (by ((try dsimp only) <;> (first | with_reducible exact hS5 | with_reducible exact hS4 | with_reducible exact hS3 | with_reducible exact hS2 | with_reducible exact hS1 _ | with_reducible exact hS0))) (fun hHeld => ?_))
   clear hK K
   (try simp only [ly0, ly1, ly2, ly3, ly4, ly5, ly6, ly7])
   refine rd1 8 (fun K hK => ?_)
   (try simp only [ly0, ly1, ly2, ly3, ly4, ly5, ly6, ly7])
   go_simp
   (go_at_call 69; refine (HT.out _ _ r3).mono ?_; rintro e w4 ⟨b1, b2, rfl, x1, x2, hb4⟩; have hC4 := Below.next hC3 hb4; have hB4 := Below.next hA hC4; have hS4 := HS.out _ hC4; have r2c := r2b.below hb4; have r3b := r3.below hb4; obtain ⟨ab2, cb2, rfl, _⟩ := r2c)
   first | (refine hK.out _ _ (by ((try dsimp only) <;> (first | with_reducible exact hS5 | with_reducible exact hS4 | with_reducible exact hS3 | with_reducible exact hS2 | with_reducible exact hS1 _ | with_reducible exact hS0))) (fun hHeld => ?_)) | (go_wp2_with fail; refine hK.out _ _ (by ((try dsimp only) <;> (first | with_reducible exact hS5 | with_reducible exact hS4 | with_reducible exact hS3 | with_reducible exact hS2 | with_reducible exact hS1 _ | with_reducible exact hS0))) (fun hHeld => ?_))
   clear hK K
   (try simp only [ly0, ly1, ly2, ly3, ly4, ly5, ly6, ly7])
   refine rd1 9 (fun K hK => ?_)
   (try simp only [ly0, ly1, ly2, ly3, ly4, ly5, ly6, ly7])
   go_simp
   (go_at_call 67; refine (HE.out _ _ _ _ _ x1 x2 r3b (r2b.below hb4)).mono ?_; rintro e w5 ⟨v5, us5, rfl, y5, hb5⟩; have hC5 := Below.next hC4 hb5; have hB5 := Below.next hA hC5; have hS5 := HS.out _ hC5; obtain ⟨a5, k5, rfl⟩ := own_form y5.row; have HY := hide (y5.low hB4.size); clear y5)
   first | (refine hK.out _ _ (by ((try dsimp only) <;> (first | with_reducible exact hS5 | with_reducible exact hS4 | with_reducible exact hS3 | with_reducible exact hS2 | with_reducible exact hS1 _ | with_reducible exact hS0))) (fun hHeld => ?_)) | (go_wp2_with fail; refine hK.out _ _ (by ((try dsimp only) <;> (first | with_reducible exact hS5 | with_reducible exact hS4 | with_reducible exact hS3 | with_reducible exact hS2 | with_reducible exact hS1 _ | with_reducible exact hS0))) (fun hHeld => ?_))
   clear hK K
   (try simp only [ly0, ly1, ly2, ly3, ly4, ly5, ly6, ly7])
   (refine tkY 10 ?_; (try simp only [ly0, ly1, ly2, ly3, ly4, ly5, ly6, ly7]))
   (refine tkY 11 ?_; (try simp only [ly0, ly1, ly2, ly3, ly4, ly5, ly6, ly7]))
   refine wpAnyH_done (by kernel_rfl) ?_ _
   go_wp2
   go_ret2
   exact ⟨_, us5, rfl, HY.out, hB5⟩
 · have ht : (bkE p dl pl [] != 0) = true := bne_iff_ne.2 hz
   have HL : Hid (polL p dl pl = []) := by show _ = _; unfold polL; rw [if_neg hz]
   rw [HL.out]
   obtain ⟨ad, cd, rfl, _, _, _⟩ := h1
   obtain ⟨ap, cp, rfl, _, _, _⟩ := h2
   clear hz HL pb hp
   generalize bkE p dl pl [] = e0 at *
   generalize dl.length = nd at *
   generalize pl.length = np at *
   rw [plan_eq] at *
   show Calls _ _ _ _ _
   go_enter Tryz.func36, Tryz.ntmps36
   go_wp2_with (go_at_call 66; refine (HK.out _ hA).mono ?_; rintro e w1 ⟨rfl, hb1⟩)
   go_ret2
   exact ⟨_, [], rfl, mtx_nil _ _, Below.next hA hb1⟩
end Go.Proofs.YtnakbpaiidolbaaGreat
namespace Go.Proofs.YtnakbpaiidolbaaGreat
open Go.RowKit Fld Pln Shr
set_option linter.unusedVariables false
set_option linter.unusedSimpArgs false
end Go.Proofs.YtnakbpaiidolbaaGreat
namespace Go.Proofs.YtnakbpaiidolbaaGreat
open Go.RowKit Fld Pln Shr
set_option linter.unusedVariables false
set_option linter.unusedSimpArgs false
theorem lm_one (V : World) (i : Int) (T : TypeId) : Lm iw 1 (V.alloc (.cells #[.int .i64 i] T)) (.slice (some ⟨V.heap.size, 0, none⟩) 1 1) [i] := by
 refine ⟨_, _, rfl, ⟨by simp, by simp, fun h => by cases h⟩, fun _ => ⟨_, _, rfl, by simp, fun k x hx j u hu => ?_⟩⟩
 have hk : k = 0 := by have := (List.getElem?_eq_some_iff.1 hx).1; simp at this; omega
 subst hk
 have hx : i = x := by simpa using hx
 subst hx
 have hj : j = 0 := by have := (List.getElem?_eq_some_iff.1 hu).1; rw [iw_len] at this; omega
 subst hj
 have hu : Value.int .i64 i = u := by simpa [iw] using hu
 subst hu
 simp [go_sem]
set_option maxRecDepth 100000 in
set_option maxHeartbeats 1600000 in
theorem gShare (p : Pn) (vd vp : Value) (dl pl : List (List Int)) (i : Int) (w : World) (hp : Ok8p p) (h1 : Rws w vd dl) (h2 : Rws w vp pl) : Gives 39 #[plv p, vd, vp, .int .i64 i] w (shaL p dl pl i) (bkE p dl pl [i]) := by
 obtain ⟨pb, hA⟩ := pb_box (w := w) p
 have HK := hide (fun W vw (hb : Below w.heap.size w W) hL => gCheckBlocks p vd vp vw dl pl [i] W hp (h1.below hb) (h2.below hb) hL)
 have HS := hide (fun W' (hb : Below (w.alloc (.cells #[.int .u8 p.f, .int .i64 p.n, .int .i64 p.k, .int .i64 p.t, .int .i64 p.s, .int .i64 p.e, .int .i64 p.d, .int .i64 p.w] 24)).heap.size _ W') => (pb.below hb).cells)
 obtain ⟨c0, c1, c2, c3, c4, c5, c6, c7⟩ := pb.cells
 have HO := hide (fun V T => lm_one V i T)
 by_cases hz : bkE p dl pl [i] = 0
 · obtain ⟨q, wd, hm, hf, hbe, hbw, hdl, hpl, hbl, ie, inn, i64', oe, on, o64, d0, hwho⟩ := bk_facts hz h1.wordsH h2.wordsH
   have hlen : dl.length + pl.length ≤ 64 := by rw [List.length_append] at hbl; omega
   have hnm : nmd p [i] = [co (outL p) i.toNat] := rfl
   have hnel : El q (co (outL p) i.toNat) := oe.co hf.pos _
   have hne : Els q [co (outL p) i.toNat] := fun x hx => by rw [List.mem_singleton.1 hx]; exact hnel
   have HL : Hid (shaL p dl pl i = shr q (innL p) p.w.toNat (dl ++ pl) (co (outL p) i.toNat)) := by
    show _ = _
    unfold shaL
    rw [if_pos hz, pOf_eq hf]
   rw [HL.out, hz]
   rw [hz] at HK
   have HC := hide (fun W b (hb : Below w.heap.size w W) hT => cat_blocks vd vp dl pl w W b h1 h2 hb d0 (by omega) hT)
   have HI := hide (fun W => gInner p W hp hm)
   have HN := hide (fun W vw hL => gNamed p vw [i] W hp hm hL hwho (by simp))
   rw [hnm] at HN
   have HR := hide (fun W v base n (hO : World.ownsRow W base 58 1 v n (vals (innL p))) => rw_of_own hO (by omega) (els_words ie hf.top))
   have HR2 := hide (fun W v base n (hO : World.ownsRow W base 58 1 v n (vals [co (outL p) i.toNat])) => rw_of_own hO (by simp) (els_words hne hf.top))
   have HM := hide (fun W vb vx vz x1 x2 x3 => gMoved p q wd vb vx vz (dl ++ pl) (innL p) [co (outL p) i.toNat] W hm hf x1 x2 x3 hbw hbe hbl ie inn i64' hne (by simp))
   rw [show [co (outL p) i.toNat].map (shr q (innL p) p.w.toNat (dl ++ pl)) = [shr q (innL p) p.w.toNat (dl ++ pl) (co (outL p) i.toNat)] from rfl] at HM
   obtain ⟨ad, cd, rfl, _, _, _⟩ := h1
   obtain ⟨ap, cp, rfl, _, _, _⟩ := h2
   clear hz hm hf hbe hbw hbl ie inn oe on pb hp HL hdl hpl hnm hnel hne hwho
   generalize shr q (innL p) p.w.toNat (dl ++ pl) (co (outL p) i.toNat) = res at *
   generalize innL p = xs at *
   generalize co (outL p) i.toNat = z at *
   generalize hbb : dl ++ pl = bl at *
   clear hbb
   generalize dl.length = nd at *
   generalize pl.length = np at *
   rw [plan_eq] at *
   show Calls _ _ _ _ _
   go_enter Tryz.func39, Tryz.ntmps39
   go_upto_region 1 with fail
   generalize w.alloc (.cells #[.int .u8 p.f, .int .i64 p.n, .int .i64 p.k, .int .i64 p.t, .int .i64 p.s, .int .i64 p.e, .int .i64 p.d, .int .i64 p.w] 24) = W0 at *
   go_upto_region 4 with (go_at_call 66; refine (HK.out _ _ (Below.next hA (alloc_below W0 _)) (HO.out _ _)).mono ?_; rintro e w1 ⟨rfl, hb1⟩; have hC1 := Below.next (alloc_below W0 _) hb1; have hB1 := Below.next hA hC1)
   clear c0 c1 c2 c3 c4 c5 c6 c7 HK hb1
   have hdr : Below w1.heap.size w1 w1.drew := (Below.refl _ w1).drew
   have hS0 := HS.out _ (Below.next hC1 hdr)
   have hal : ∀ ob, Below w1.heap.size w1 (w1.alloc ob).drew := fun ob => (alloc_below w1 ob).drew
   have hal2 : ∀ ob ob2, Below w1.heap.size w1 ((w1.alloc ob).alloc ob2).drew := fun ob ob2 => (Below.next (alloc_below w1 ob) (alloc_below _ ob2)).drew
   have hS1 := fun ob => HS.out _ (Below.next hC1 (hal ob))
   have hS2 := fun ob ob2 => HS.out _ (Below.next hC1 (hal2 ob ob2))
   have hT1 := hide (fun T => (two_new w1 ad ap nd np cd cp T).below (Below.refl _ _).drew)
   have hT2 := hide (fun T ob => (two_new w1 ad ap nd np cd cp T).below (alloc_below _ ob).drew)
   have hT3 : Hid (∀ T ob, Two (w1.heap.size + 1) (.slice ad nd cd) (.slice ap np cp) ((w1.alloc ob).alloc (.cells #[.slice ad nd cd, .slice ap np cp] T)).drew) := fun T ob => by
    have := (two_new (w1.alloc ob) ad ap nd np cd cp T).below (Below.refl _ _).drew
    have e : (w1.alloc ob).heap.size = w1.heap.size + 1 := by simp
    rw [e] at this
    exact this
   have hL2 : Hid (∀ T ob, Lm iw 1 ((w1.alloc ob).alloc (.cells #[.int .i64 i] T)).drew (.slice (some ⟨w1.heap.size + 1, 0, none⟩) 1 1) [i]) := fun T ob => by
    have := (lm_one (w1.alloc ob) i T).below (Below.refl _ _).drew
    have e : (w1.alloc ob).heap.size = w1.heap.size + 1 := by simp
    rw [e] at this
    exact this
   have hL3 := hide (fun T ob => (lm_one w1 i T).below (alloc_below _ ob).drew)
   refine wp_region_held_drew (S := (fun V => V.cell? ⟨w.heap.size, 0, none⟩ = some (.int .u8 p.f) ∧ V.cell? ⟨w.heap.size, 1, none⟩ = some (.int .i64 p.n) ∧ V.cell? ⟨w.heap.size, 2, none⟩ = some (.int .i64 p.k) ∧ V.cell? ⟨w.heap.size, 3, none⟩ = some (.int .i64 p.t) ∧ V.cell? ⟨w.heap.size, 4, none⟩ = some (.int .i64 p.s) ∧ V.cell? ⟨w.heap.size, 5, none⟩ = some (.int .i64 p.e) ∧ V.cell? ⟨w.heap.size, 6, none⟩ = some (.int .i64 p.d) ∧ V.cell? ⟨w.heap.size, 7, none⟩ = some (.int .i64 p.w))) (by kernel_rfl) (by ((try dsimp only) <;> (first | with_reducible exact hS6 | with_reducible exact hS5 | with_reducible exact hS4b _ | with_reducible exact hS4 | with_reducible exact hS3b _ | with_reducible exact hS3 | with_reducible exact hS2 _ _ | with_reducible exact hS1 _ | with_reducible exact hS0))) (fun hHeld => ?_)
   (refine tkY 0 ?_; (try simp only [ly0, ly1, ly2, ly3, ly4, ly5, ly6, ly7]))
   (refine tkY 1 ?_; (try simp only [ly0, ly1, ly2, ly3, ly4, ly5, ly6, ly7]))
   (refine tkY 2 ?_; (try simp only [ly0, ly1, ly2, ly3, ly4, ly5, ly6, ly7]))
   (refine tkY 5 ?_; (try simp only [ly0, ly1, ly2, ly3, ly4, ly5, ly6, ly7]))
   (refine tkY 7 ?_; (try simp only [ly0, ly1, ly2, ly3, ly4, ly5, ly6, ly7]))
   (refine tkY 8 ?_; (try simp only [ly0, ly1, ly2, ly3, ly4, ly5, ly6, ly7]))
   refine wpAnyH_ready (rs := [3, 9]) (by kernel_rfl) (by simp) ?_
   refine AllReadyH.cons (o := _) rfl (fun K hK => ?way1x0) (AllReadyH.cons (o := _) rfl (fun K hK => ?way1x1) AllReadyH.nil)
   case' way1x0 =>
    (try simp only [ly0, ly1, ly2, ly3, ly4, ly5, ly6, ly7])
    go_simp
    refine hK.out _ _ (by ((try dsimp only) <;> (first | with_reducible exact hS6 | with_reducible exact hS5 | with_reducible exact hS4b _ | with_reducible exact hS4 | with_reducible exact hS3b _ | with_reducible exact hS3 | with_reducible exact hS2 _ _ | with_reducible exact hS1 _ | with_reducible exact hS0))) (fun hHeld => ?_)
    clear hK K
    (try simp only [ly0, ly1, ly2, ly3, ly4, ly5, ly6, ly7])
    refine wpAnyH_ready (rs := [4, 9]) (by kernel_rfl) (by simp) ?_
    refine AllReadyH.cons (o := _) rfl (fun K hK => ?way2x0) (AllReadyH.cons (o := _) rfl (fun K hK => ?way2x1) AllReadyH.nil)
    case' way2x0 =>
     (try simp only [ly0, ly1, ly2, ly3, ly4, ly5, ly6, ly7])
     go_simp
     (go_at_call 68; (first | (with_reducible refine (HC.out _ _ (Below.next hB1 (hal _)) (hT1.out _)).mono ?_; rintro e w3 ⟨v3, rfl, r3, hb3⟩; have hC3 := Below.next (Below.next hC1 (hal _)) hb3) | (with_reducible refine (HC.out _ _ (Below.next hB1 (hal2 _ _)) (hT2.out _ _)).mono ?_; rintro e w3 ⟨v3, rfl, r3, hb3⟩; have hC3 := Below.next (Below.next hC1 (hal2 _ _)) hb3; have hL := (hL2.out _ _).below hb3) | (with_reducible refine (HC.out _ _ (Below.next hB1 (hal2 _ _)) (hT3.out _ _)).mono ?_; rintro e w3 ⟨v3, rfl, r3, hb3⟩; have hC3 := Below.next (Below.next hC1 (hal2 _ _)) hb3; have hL := (hL3.out _ _).below hb3)); have hB3 := Below.next hA hC3; have hS3 := HS.out _ hC3; have hS3b := fun ob => HS.out _ (Below.next hC3 (alloc_below w3 ob)))
     first | (refine hK.out _ _ (by ((try dsimp only) <;> (first | with_reducible exact hS6 | with_reducible exact hS5 | with_reducible exact hS4b _ | with_reducible exact hS4 | with_reducible exact hS3b _ | with_reducible exact hS3 | with_reducible exact hS2 _ _ | with_reducible exact hS1 _ | with_reducible exact hS0))) (fun hHeld => ?_)) | (go_wp2_with fail; refine hK.out _ _ (by ((try dsimp only) <;> (first | with_reducible exact hS6 | with_reducible exact hS5 | with_reducible exact hS4b _ | with_reducible exact hS4 | with_reducible exact hS3b _ | with_reducible exact hS3 | with_reducible exact hS2 _ _ | with_reducible exact hS1 _ | with_reducible exact hS0))) (fun hHeld => ?_))
     clear hK K
     (try simp only [ly0, ly1, ly2, ly3, ly4, ly5, ly6, ly7])
     refine wpAnyH_ready (rs := [6, 9]) (by kernel_rfl) (by simp) ?_
     refine AllReadyH.cons (o := _) rfl (fun K hK => ?way3x0) (AllReadyH.cons (o := _) rfl (fun K hK => ?way3x1) AllReadyH.nil)
     case' way3x0 =>
      (try simp only [ly0, ly1, ly2, ly3, ly4, ly5, ly6, ly7])
      go_simp
      (go_at_call 70; (first | (with_reducible refine (HI.out w3).mono ?_; rintro e w4 ⟨v4, rfl, o4, hb4⟩; have hb4 := hb4; (try have hL := hL.below hb4)) | (with_reducible refine (HI.out (w3.alloc _)).mono ?_; rintro e w4 ⟨v4, rfl, o4, hb4'⟩; have hL := (lm_one w3 i _).below hb4'; have hb4 := Below.next (alloc_below w3 _) hb4')); have hC4 := Below.next hC3 hb4; have hB4 := Below.next hA hC4; have hS4 := HS.out _ hC4; have hS4b := fun ob => HS.out _ (Below.next hC4 (alloc_below w4 ob)); have r4 := HR.out _ _ _ _ o4; obtain ⟨a4, k4, rfl⟩ := own_form o4)
      first | (refine hK.out _ _ (by ((try dsimp only) <;> (first | with_reducible exact hS6 | with_reducible exact hS5 | with_reducible exact hS4b _ | with_reducible exact hS4 | with_reducible exact hS3b _ | with_reducible exact hS3 | with_reducible exact hS2 _ _ | with_reducible exact hS1 _ | with_reducible exact hS0))) (fun hHeld => ?_)) | (go_wp2_with fail; refine hK.out _ _ (by ((try dsimp only) <;> (first | with_reducible exact hS6 | with_reducible exact hS5 | with_reducible exact hS4b _ | with_reducible exact hS4 | with_reducible exact hS3b _ | with_reducible exact hS3 | with_reducible exact hS2 _ _ | with_reducible exact hS1 _ | with_reducible exact hS0))) (fun hHeld => ?_))
      clear hK K
      (try simp only [ly0, ly1, ly2, ly3, ly4, ly5, ly6, ly7])
      refine rd1 9 (fun K hK => ?_)
      (try simp only [ly0, ly1, ly2, ly3, ly4, ly5, ly6, ly7])
      go_simp
      refine hK.out _ _ (by ((try dsimp only) <;> (first | with_reducible exact hS6 | with_reducible exact hS5 | with_reducible exact hS4b _ | with_reducible exact hS4 | with_reducible exact hS3b _ | with_reducible exact hS3 | with_reducible exact hS2 _ _ | with_reducible exact hS1 _ | with_reducible exact hS0))) (fun hHeld => ?_)
      clear hK K
      (try simp only [ly0, ly1, ly2, ly3, ly4, ly5, ly6, ly7])
      refine rd1 10 (fun K hK => ?_)
      (try simp only [ly0, ly1, ly2, ly3, ly4, ly5, ly6, ly7])
      go_simp
      (go_at_call 80; (first | (with_reducible refine (HN.out w4 _ hL).mono ?_; rintro e w5 ⟨v5, rfl, o5, hb5⟩; have hb5 := hb5) | (with_reducible refine (HN.out (w4.alloc _) _ (lm_one w4 i _)).mono ?_; rintro e w5 ⟨v5, rfl, o5, hb5'⟩; have hb5 := Below.next (alloc_below w4 _) hb5')); have hC5 := Below.next hC4 hb5; have hB5 := Below.next hA hC5; have hS5 := HS.out _ hC5; have r5 := HR2.out _ _ _ _ o5; have r4b := r4.below hb5; have r3b := (r3.below hb4).below hb5; obtain ⟨a5, k5, rfl⟩ := own_form o5; have r3c := r3b; obtain ⟨ab2, cb2, rfl, _⟩ := r3b)
      first | (refine hK.out _ _ (by ((try dsimp only) <;> (first | with_reducible exact hS6 | with_reducible exact hS5 | with_reducible exact hS4b _ | with_reducible exact hS4 | with_reducible exact hS3b _ | with_reducible exact hS3 | with_reducible exact hS2 _ _ | with_reducible exact hS1 _ | with_reducible exact hS0))) (fun hHeld => ?_)) | (go_wp2_with fail; refine hK.out _ _ (by ((try dsimp only) <;> (first | with_reducible exact hS6 | with_reducible exact hS5 | with_reducible exact hS4b _ | with_reducible exact hS4 | with_reducible exact hS3b _ | with_reducible exact hS3 | with_reducible exact hS2 _ _ | with_reducible exact hS1 _ | with_reducible exact hS0))) (fun hHeld => ?_))
      clear hK K
      (try simp only [ly0, ly1, ly2, ly3, ly4, ly5, ly6, ly7])
      refine rd1 11 (fun K hK => ?_)
      (try simp only [ly0, ly1, ly2, ly3, ly4, ly5, ly6, ly7])
      go_simp
      (go_at_call 79; refine (HM.out _ _ _ _ r3c r4b r5).mono ?_; rintro e w6 ⟨v6, us6, rfl, y6, hb6⟩; have hC6 := Below.next hC5 hb6; have hB6 := Below.next hA hC6; have hS6 := HS.out _ hC6; obtain ⟨G, cg, rfl, _, _, hcg⟩ := y6.spell (by simp); have d6 := y6.cell (i := 0) (by simp); have e6 := y6.each 0 (by simp); obtain ⟨a6, k6, hu6⟩ := own_form e6; rw [hu6] at d6 e6; have HE6 := hide (own_mono e6 hB5.size); clear e6 hu6 y6)
      first | (refine hK.out _ _ (by ((try dsimp only) <;> (first | with_reducible exact hS6 | with_reducible exact hS5 | with_reducible exact hS4b _ | with_reducible exact hS4 | with_reducible exact hS3b _ | with_reducible exact hS3 | with_reducible exact hS2 _ _ | with_reducible exact hS1 _ | with_reducible exact hS0))) (fun hHeld => ?_)) | (go_wp2_with fail; refine hK.out _ _ (by ((try dsimp only) <;> (first | with_reducible exact hS6 | with_reducible exact hS5 | with_reducible exact hS4b _ | with_reducible exact hS4 | with_reducible exact hS3b _ | with_reducible exact hS3 | with_reducible exact hS2 _ _ | with_reducible exact hS1 _ | with_reducible exact hS0))) (fun hHeld => ?_))
      clear hK K
      (try simp only [ly0, ly1, ly2, ly3, ly4, ly5, ly6, ly7])
      (refine tkY 12 ?_; (try simp only [ly0, ly1, ly2, ly3, ly4, ly5, ly6, ly7]))
      refine rd1 13 (fun K hK => ?_)
      (try simp only [ly0, ly1, ly2, ly3, ly4, ly5, ly6, ly7])
      go_simp
      refine hK.out _ _ (by ((try dsimp only) <;> (first | with_reducible exact hS6 | with_reducible exact hS5 | with_reducible exact hS4b _ | with_reducible exact hS4 | with_reducible exact hS3b _ | with_reducible exact hS3 | with_reducible exact hS2 _ _ | with_reducible exact hS1 _ | with_reducible exact hS0))) (fun hHeld => ?_)
      clear hK K
      (try simp only [ly0, ly1, ly2, ly3, ly4, ly5, ly6, ly7])
      (refine tkY 14 ?_; (try simp only [ly0, ly1, ly2, ly3, ly4, ly5, ly6, ly7]))
      (refine tkY 15 ?_; (try simp only [ly0, ly1, ly2, ly3, ly4, ly5, ly6, ly7]))
      refine wpAnyH_done (by kernel_rfl) ?_ _
     case' way3x1 =>
      (try simp only [ly0, ly1, ly2, ly3, ly4, ly5, ly6, ly7])
      go_simp
      refine hK.out _ _ (by ((try dsimp only) <;> (first | with_reducible exact hS6 | with_reducible exact hS5 | with_reducible exact hS4b _ | with_reducible exact hS4 | with_reducible exact hS3b _ | with_reducible exact hS3 | with_reducible exact hS2 _ _ | with_reducible exact hS1 _ | with_reducible exact hS0))) (fun hHeld => ?_)
      clear hK K
      (try simp only [ly0, ly1, ly2, ly3, ly4, ly5, ly6, ly7])
      refine rd1 6 (fun K hK => ?_)
      (try simp only [ly0, ly1, ly2, ly3, ly4, ly5, ly6, ly7])
      go_simp
      (go_at_call 70; (first | (with_reducible refine (HI.out w3).mono ?_; rintro e w4 ⟨v4, rfl, o4, hb4⟩; have hb4 := hb4; (try have hL := hL.below hb4)) | (with_reducible refine (HI.out (w3.alloc _)).mono ?_; rintro e w4 ⟨v4, rfl, o4, hb4'⟩; have hL := (lm_one w3 i _).below hb4'; have hb4 := Below.next (alloc_below w3 _) hb4')); have hC4 := Below.next hC3 hb4; have hB4 := Below.next hA hC4; have hS4 := HS.out _ hC4; have hS4b := fun ob => HS.out _ (Below.next hC4 (alloc_below w4 ob)); have r4 := HR.out _ _ _ _ o4; obtain ⟨a4, k4, rfl⟩ := own_form o4)
      first | (refine hK.out _ _ (by ((try dsimp only) <;> (first | with_reducible exact hS6 | with_reducible exact hS5 | with_reducible exact hS4b _ | with_reducible exact hS4 | with_reducible exact hS3b _ | with_reducible exact hS3 | with_reducible exact hS2 _ _ | with_reducible exact hS1 _ | with_reducible exact hS0))) (fun hHeld => ?_)) | (go_wp2_with fail; refine hK.out _ _ (by ((try dsimp only) <;> (first | with_reducible exact hS6 | with_reducible exact hS5 | with_reducible exact hS4b _ | with_reducible exact hS4 | with_reducible exact hS3b _ | with_reducible exact hS3 | with_reducible exact hS2 _ _ | with_reducible exact hS1 _ | with_reducible exact hS0))) (fun hHeld => ?_))
      clear hK K
      (try simp only [ly0, ly1, ly2, ly3, ly4, ly5, ly6, ly7])
      refine rd1 10 (fun K hK => ?_)
      (try simp only [ly0, ly1, ly2, ly3, ly4, ly5, ly6, ly7])
      go_simp
      (go_at_call 80; (first | (with_reducible refine (HN.out w4 _ hL).mono ?_; rintro e w5 ⟨v5, rfl, o5, hb5⟩; have hb5 := hb5) | (with_reducible refine (HN.out (w4.alloc _) _ (lm_one w4 i _)).mono ?_; rintro e w5 ⟨v5, rfl, o5, hb5'⟩; have hb5 := Below.next (alloc_below w4 _) hb5')); have hC5 := Below.next hC4 hb5; have hB5 := Below.next hA hC5; have hS5 := HS.out _ hC5; have r5 := HR2.out _ _ _ _ o5; have r4b := r4.below hb5; have r3b := (r3.below hb4).below hb5; obtain ⟨a5, k5, rfl⟩ := own_form o5; have r3c := r3b; obtain ⟨ab2, cb2, rfl, _⟩ := r3b)
      first | (refine hK.out _ _ (by ((try dsimp only) <;> (first | with_reducible exact hS6 | with_reducible exact hS5 | with_reducible exact hS4b _ | with_reducible exact hS4 | with_reducible exact hS3b _ | with_reducible exact hS3 | with_reducible exact hS2 _ _ | with_reducible exact hS1 _ | with_reducible exact hS0))) (fun hHeld => ?_)) | (go_wp2_with fail; refine hK.out _ _ (by ((try dsimp only) <;> (first | with_reducible exact hS6 | with_reducible exact hS5 | with_reducible exact hS4b _ | with_reducible exact hS4 | with_reducible exact hS3b _ | with_reducible exact hS3 | with_reducible exact hS2 _ _ | with_reducible exact hS1 _ | with_reducible exact hS0))) (fun hHeld => ?_))
      clear hK K
      (try simp only [ly0, ly1, ly2, ly3, ly4, ly5, ly6, ly7])
      refine rd1 11 (fun K hK => ?_)
      (try simp only [ly0, ly1, ly2, ly3, ly4, ly5, ly6, ly7])
      go_simp
      (go_at_call 79; refine (HM.out _ _ _ _ r3c r4b r5).mono ?_; rintro e w6 ⟨v6, us6, rfl, y6, hb6⟩; have hC6 := Below.next hC5 hb6; have hB6 := Below.next hA hC6; have hS6 := HS.out _ hC6; obtain ⟨G, cg, rfl, _, _, hcg⟩ := y6.spell (by simp); have d6 := y6.cell (i := 0) (by simp); have e6 := y6.each 0 (by simp); obtain ⟨a6, k6, hu6⟩ := own_form e6; rw [hu6] at d6 e6; have HE6 := hide (own_mono e6 hB5.size); clear e6 hu6 y6)
      first | (refine hK.out _ _ (by ((try dsimp only) <;> (first | with_reducible exact hS6 | with_reducible exact hS5 | with_reducible exact hS4b _ | with_reducible exact hS4 | with_reducible exact hS3b _ | with_reducible exact hS3 | with_reducible exact hS2 _ _ | with_reducible exact hS1 _ | with_reducible exact hS0))) (fun hHeld => ?_)) | (go_wp2_with fail; refine hK.out _ _ (by ((try dsimp only) <;> (first | with_reducible exact hS6 | with_reducible exact hS5 | with_reducible exact hS4b _ | with_reducible exact hS4 | with_reducible exact hS3b _ | with_reducible exact hS3 | with_reducible exact hS2 _ _ | with_reducible exact hS1 _ | with_reducible exact hS0))) (fun hHeld => ?_))
      clear hK K
      (try simp only [ly0, ly1, ly2, ly3, ly4, ly5, ly6, ly7])
      (refine tkY 12 ?_; (try simp only [ly0, ly1, ly2, ly3, ly4, ly5, ly6, ly7]))
      refine rd1 13 (fun K hK => ?_)
      (try simp only [ly0, ly1, ly2, ly3, ly4, ly5, ly6, ly7])
      go_simp
      refine hK.out _ _ (by ((try dsimp only) <;> (first | with_reducible exact hS6 | with_reducible exact hS5 | with_reducible exact hS4b _ | with_reducible exact hS4 | with_reducible exact hS3b _ | with_reducible exact hS3 | with_reducible exact hS2 _ _ | with_reducible exact hS1 _ | with_reducible exact hS0))) (fun hHeld => ?_)
      clear hK K
      (try simp only [ly0, ly1, ly2, ly3, ly4, ly5, ly6, ly7])
      (refine tkY 14 ?_; (try simp only [ly0, ly1, ly2, ly3, ly4, ly5, ly6, ly7]))
      (refine tkY 15 ?_; (try simp only [ly0, ly1, ly2, ly3, ly4, ly5, ly6, ly7]))
      refine wpAnyH_done (by kernel_rfl) ?_ _
    case' way2x1 =>
     (try simp only [ly0, ly1, ly2, ly3, ly4, ly5, ly6, ly7])
     go_simp
     refine hK.out _ _ (by ((try dsimp only) <;> (first | with_reducible exact hS6 | with_reducible exact hS5 | with_reducible exact hS4b _ | with_reducible exact hS4 | with_reducible exact hS3b _ | with_reducible exact hS3 | with_reducible exact hS2 _ _ | with_reducible exact hS1 _ | with_reducible exact hS0))) (fun hHeld => ?_)
     clear hK K
     (try simp only [ly0, ly1, ly2, ly3, ly4, ly5, ly6, ly7])
     refine rd1 4 (fun K hK => ?_)
     (try simp only [ly0, ly1, ly2, ly3, ly4, ly5, ly6, ly7])
     go_simp
     (go_at_call 68; (first | (with_reducible refine (HC.out _ _ (Below.next hB1 (hal _)) (hT1.out _)).mono ?_; rintro e w3 ⟨v3, rfl, r3, hb3⟩; have hC3 := Below.next (Below.next hC1 (hal _)) hb3) | (with_reducible refine (HC.out _ _ (Below.next hB1 (hal2 _ _)) (hT2.out _ _)).mono ?_; rintro e w3 ⟨v3, rfl, r3, hb3⟩; have hC3 := Below.next (Below.next hC1 (hal2 _ _)) hb3; have hL := (hL2.out _ _).below hb3) | (with_reducible refine (HC.out _ _ (Below.next hB1 (hal2 _ _)) (hT3.out _ _)).mono ?_; rintro e w3 ⟨v3, rfl, r3, hb3⟩; have hC3 := Below.next (Below.next hC1 (hal2 _ _)) hb3; have hL := (hL3.out _ _).below hb3)); have hB3 := Below.next hA hC3; have hS3 := HS.out _ hC3; have hS3b := fun ob => HS.out _ (Below.next hC3 (alloc_below w3 ob)))
     first | (refine hK.out _ _ (by ((try dsimp only) <;> (first | with_reducible exact hS6 | with_reducible exact hS5 | with_reducible exact hS4b _ | with_reducible exact hS4 | with_reducible exact hS3b _ | with_reducible exact hS3 | with_reducible exact hS2 _ _ | with_reducible exact hS1 _ | with_reducible exact hS0))) (fun hHeld => ?_)) | (go_wp2_with fail; refine hK.out _ _ (by ((try dsimp only) <;> (first | with_reducible exact hS6 | with_reducible exact hS5 | with_reducible exact hS4b _ | with_reducible exact hS4 | with_reducible exact hS3b _ | with_reducible exact hS3 | with_reducible exact hS2 _ _ | with_reducible exact hS1 _ | with_reducible exact hS0))) (fun hHeld => ?_))
     clear hK K
     (try simp only [ly0, ly1, ly2, ly3, ly4, ly5, ly6, ly7])
     refine rd1 6 (fun K hK => ?_)
     (try simp only [ly0, ly1, ly2, ly3, ly4, ly5, ly6, ly7])
     go_simp
     (go_at_call 70; (first | (with_reducible refine (HI.out w3).mono ?_; rintro e w4 ⟨v4, rfl, o4, hb4⟩; have hb4 := hb4; (try have hL := hL.below hb4)) | (with_reducible refine (HI.out (w3.alloc _)).mono ?_; rintro e w4 ⟨v4, rfl, o4, hb4'⟩; have hL := (lm_one w3 i _).below hb4'; have hb4 := Below.next (alloc_below w3 _) hb4')); have hC4 := Below.next hC3 hb4; have hB4 := Below.next hA hC4; have hS4 := HS.out _ hC4; have hS4b := fun ob => HS.out _ (Below.next hC4 (alloc_below w4 ob)); have r4 := HR.out _ _ _ _ o4; obtain ⟨a4, k4, rfl⟩ := own_form o4)
     first | (refine hK.out _ _ (by ((try dsimp only) <;> (first | with_reducible exact hS6 | with_reducible exact hS5 | with_reducible exact hS4b _ | with_reducible exact hS4 | with_reducible exact hS3b _ | with_reducible exact hS3 | with_reducible exact hS2 _ _ | with_reducible exact hS1 _ | with_reducible exact hS0))) (fun hHeld => ?_)) | (go_wp2_with fail; refine hK.out _ _ (by ((try dsimp only) <;> (first | with_reducible exact hS6 | with_reducible exact hS5 | with_reducible exact hS4b _ | with_reducible exact hS4 | with_reducible exact hS3b _ | with_reducible exact hS3 | with_reducible exact hS2 _ _ | with_reducible exact hS1 _ | with_reducible exact hS0))) (fun hHeld => ?_))
     clear hK K
     (try simp only [ly0, ly1, ly2, ly3, ly4, ly5, ly6, ly7])
     refine rd1 10 (fun K hK => ?_)
     (try simp only [ly0, ly1, ly2, ly3, ly4, ly5, ly6, ly7])
     go_simp
     (go_at_call 80; (first | (with_reducible refine (HN.out w4 _ hL).mono ?_; rintro e w5 ⟨v5, rfl, o5, hb5⟩; have hb5 := hb5) | (with_reducible refine (HN.out (w4.alloc _) _ (lm_one w4 i _)).mono ?_; rintro e w5 ⟨v5, rfl, o5, hb5'⟩; have hb5 := Below.next (alloc_below w4 _) hb5')); have hC5 := Below.next hC4 hb5; have hB5 := Below.next hA hC5; have hS5 := HS.out _ hC5; have r5 := HR2.out _ _ _ _ o5; have r4b := r4.below hb5; have r3b := (r3.below hb4).below hb5; obtain ⟨a5, k5, rfl⟩ := own_form o5; have r3c := r3b; obtain ⟨ab2, cb2, rfl, _⟩ := r3b)
     first | (refine hK.out _ _ (by ((try dsimp only) <;> (first | with_reducible exact hS6 | with_reducible exact hS5 | with_reducible exact hS4b _ | with_reducible exact hS4 | with_reducible exact hS3b _ | with_reducible exact hS3 | with_reducible exact hS2 _ _ | with_reducible exact hS1 _ | with_reducible exact hS0))) (fun hHeld => ?_)) | (go_wp2_with fail; refine hK.out _ _ (by ((try dsimp only) <;> (first | with_reducible exact hS6 | with_reducible exact hS5 | with_reducible exact hS4b _ | with_reducible exact hS4 | with_reducible exact hS3b _ | with_reducible exact hS3 | with_reducible exact hS2 _ _ | with_reducible exact hS1 _ | with_reducible exact hS0))) (fun hHeld => ?_))
     clear hK K
     (try simp only [ly0, ly1, ly2, ly3, ly4, ly5, ly6, ly7])
     refine rd1 11 (fun K hK => ?_)
     (try simp only [ly0, ly1, ly2, ly3, ly4, ly5, ly6, ly7])
     go_simp
     (go_at_call 79; refine (HM.out _ _ _ _ r3c r4b r5).mono ?_; rintro e w6 ⟨v6, us6, rfl, y6, hb6⟩; have hC6 := Below.next hC5 hb6; have hB6 := Below.next hA hC6; have hS6 := HS.out _ hC6; obtain ⟨G, cg, rfl, _, _, hcg⟩ := y6.spell (by simp); have d6 := y6.cell (i := 0) (by simp); have e6 := y6.each 0 (by simp); obtain ⟨a6, k6, hu6⟩ := own_form e6; rw [hu6] at d6 e6; have HE6 := hide (own_mono e6 hB5.size); clear e6 hu6 y6)
     first | (refine hK.out _ _ (by ((try dsimp only) <;> (first | with_reducible exact hS6 | with_reducible exact hS5 | with_reducible exact hS4b _ | with_reducible exact hS4 | with_reducible exact hS3b _ | with_reducible exact hS3 | with_reducible exact hS2 _ _ | with_reducible exact hS1 _ | with_reducible exact hS0))) (fun hHeld => ?_)) | (go_wp2_with fail; refine hK.out _ _ (by ((try dsimp only) <;> (first | with_reducible exact hS6 | with_reducible exact hS5 | with_reducible exact hS4b _ | with_reducible exact hS4 | with_reducible exact hS3b _ | with_reducible exact hS3 | with_reducible exact hS2 _ _ | with_reducible exact hS1 _ | with_reducible exact hS0))) (fun hHeld => ?_))
     clear hK K
     (try simp only [ly0, ly1, ly2, ly3, ly4, ly5, ly6, ly7])
     (refine tkY 12 ?_; (try simp only [ly0, ly1, ly2, ly3, ly4, ly5, ly6, ly7]))
     refine rd1 13 (fun K hK => ?_)
     (try simp only [ly0, ly1, ly2, ly3, ly4, ly5, ly6, ly7])
     go_simp
     refine hK.out _ _ (by ((try dsimp only) <;> (first | with_reducible exact hS6 | with_reducible exact hS5 | with_reducible exact hS4b _ | with_reducible exact hS4 | with_reducible exact hS3b _ | with_reducible exact hS3 | with_reducible exact hS2 _ _ | with_reducible exact hS1 _ | with_reducible exact hS0))) (fun hHeld => ?_)
     clear hK K
     (try simp only [ly0, ly1, ly2, ly3, ly4, ly5, ly6, ly7])
     (refine tkY 14 ?_; (try simp only [ly0, ly1, ly2, ly3, ly4, ly5, ly6, ly7]))
     (refine tkY 15 ?_; (try simp only [ly0, ly1, ly2, ly3, ly4, ly5, ly6, ly7]))
     refine wpAnyH_done (by kernel_rfl) ?_ _
   case' way1x1 =>
    (try simp only [ly0, ly1, ly2, ly3, ly4, ly5, ly6, ly7])
    go_simp
    refine hK.out _ _ (by ((try dsimp only) <;> (first | with_reducible exact hS6 | with_reducible exact hS5 | with_reducible exact hS4b _ | with_reducible exact hS4 | with_reducible exact hS3b _ | with_reducible exact hS3 | with_reducible exact hS2 _ _ | with_reducible exact hS1 _ | with_reducible exact hS0))) (fun hHeld => ?_)
    clear hK K
    (try simp only [ly0, ly1, ly2, ly3, ly4, ly5, ly6, ly7])
    refine rd1 3 (fun K hK => ?_)
    (try simp only [ly0, ly1, ly2, ly3, ly4, ly5, ly6, ly7])
    go_simp
    refine hK.out _ _ (by ((try dsimp only) <;> (first | with_reducible exact hS6 | with_reducible exact hS5 | with_reducible exact hS4b _ | with_reducible exact hS4 | with_reducible exact hS3b _ | with_reducible exact hS3 | with_reducible exact hS2 _ _ | with_reducible exact hS1 _ | with_reducible exact hS0))) (fun hHeld => ?_)
    clear hK K
    (try simp only [ly0, ly1, ly2, ly3, ly4, ly5, ly6, ly7])
    refine rd1 4 (fun K hK => ?_)
    (try simp only [ly0, ly1, ly2, ly3, ly4, ly5, ly6, ly7])
    go_simp
    (go_at_call 68; (first | (with_reducible refine (HC.out _ _ (Below.next hB1 (hal _)) (hT1.out _)).mono ?_; rintro e w3 ⟨v3, rfl, r3, hb3⟩; have hC3 := Below.next (Below.next hC1 (hal _)) hb3) | (with_reducible refine (HC.out _ _ (Below.next hB1 (hal2 _ _)) (hT2.out _ _)).mono ?_; rintro e w3 ⟨v3, rfl, r3, hb3⟩; have hC3 := Below.next (Below.next hC1 (hal2 _ _)) hb3; have hL := (hL2.out _ _).below hb3) | (with_reducible refine (HC.out _ _ (Below.next hB1 (hal2 _ _)) (hT3.out _ _)).mono ?_; rintro e w3 ⟨v3, rfl, r3, hb3⟩; have hC3 := Below.next (Below.next hC1 (hal2 _ _)) hb3; have hL := (hL3.out _ _).below hb3)); have hB3 := Below.next hA hC3; have hS3 := HS.out _ hC3; have hS3b := fun ob => HS.out _ (Below.next hC3 (alloc_below w3 ob)))
    first | (refine hK.out _ _ (by ((try dsimp only) <;> (first | with_reducible exact hS6 | with_reducible exact hS5 | with_reducible exact hS4b _ | with_reducible exact hS4 | with_reducible exact hS3b _ | with_reducible exact hS3 | with_reducible exact hS2 _ _ | with_reducible exact hS1 _ | with_reducible exact hS0))) (fun hHeld => ?_)) | (go_wp2_with fail; refine hK.out _ _ (by ((try dsimp only) <;> (first | with_reducible exact hS6 | with_reducible exact hS5 | with_reducible exact hS4b _ | with_reducible exact hS4 | with_reducible exact hS3b _ | with_reducible exact hS3 | with_reducible exact hS2 _ _ | with_reducible exact hS1 _ | with_reducible exact hS0))) (fun hHeld => ?_))
    clear hK K
    (try simp only [ly0, ly1, ly2, ly3, ly4, ly5, ly6, ly7])
    refine rd1 6 (fun K hK => ?_)
    (try simp only [ly0, ly1, ly2, ly3, ly4, ly5, ly6, ly7])
    go_simp
    (go_at_call 70; (first | (with_reducible refine (HI.out w3).mono ?_; rintro e w4 ⟨v4, rfl, o4, hb4⟩; have hb4 := hb4; (try have hL := hL.below hb4)) | (with_reducible refine (HI.out (w3.alloc _)).mono ?_; rintro e w4 ⟨v4, rfl, o4, hb4'⟩; have hL := (lm_one w3 i _).below hb4'; have hb4 := Below.next (alloc_below w3 _) hb4')); have hC4 := Below.next hC3 hb4; have hB4 := Below.next hA hC4; have hS4 := HS.out _ hC4; have hS4b := fun ob => HS.out _ (Below.next hC4 (alloc_below w4 ob)); have r4 := HR.out _ _ _ _ o4; obtain ⟨a4, k4, rfl⟩ := own_form o4)
    first | (refine hK.out _ _ (by ((try dsimp only) <;> (first | with_reducible exact hS6 | with_reducible exact hS5 | with_reducible exact hS4b _ | with_reducible exact hS4 | with_reducible exact hS3b _ | with_reducible exact hS3 | with_reducible exact hS2 _ _ | with_reducible exact hS1 _ | with_reducible exact hS0))) (fun hHeld => ?_)) | (go_wp2_with fail; refine hK.out _ _ (by ((try dsimp only) <;> (first | with_reducible exact hS6 | with_reducible exact hS5 | with_reducible exact hS4b _ | with_reducible exact hS4 | with_reducible exact hS3b _ | with_reducible exact hS3 | with_reducible exact hS2 _ _ | with_reducible exact hS1 _ | with_reducible exact hS0))) (fun hHeld => ?_))
    clear hK K
    (try simp only [ly0, ly1, ly2, ly3, ly4, ly5, ly6, ly7])
    refine rd1 10 (fun K hK => ?_)
    (try simp only [ly0, ly1, ly2, ly3, ly4, ly5, ly6, ly7])
    go_simp
    (go_at_call 80; (first | (with_reducible refine (HN.out w4 _ hL).mono ?_; rintro e w5 ⟨v5, rfl, o5, hb5⟩; have hb5 := hb5) | (with_reducible refine (HN.out (w4.alloc _) _ (lm_one w4 i _)).mono ?_; rintro e w5 ⟨v5, rfl, o5, hb5'⟩; have hb5 := Below.next (alloc_below w4 _) hb5')); have hC5 := Below.next hC4 hb5; have hB5 := Below.next hA hC5; have hS5 := HS.out _ hC5; have r5 := HR2.out _ _ _ _ o5; have r4b := r4.below hb5; have r3b := (r3.below hb4).below hb5; obtain ⟨a5, k5, rfl⟩ := own_form o5; have r3c := r3b; obtain ⟨ab2, cb2, rfl, _⟩ := r3b)
    first | (refine hK.out _ _ (by ((try dsimp only) <;> (first | with_reducible exact hS6 | with_reducible exact hS5 | with_reducible exact hS4b _ | with_reducible exact hS4 | with_reducible exact hS3b _ | with_reducible exact hS3 | with_reducible exact hS2 _ _ | with_reducible exact hS1 _ | with_reducible exact hS0))) (fun hHeld => ?_)) | (go_wp2_with fail; refine hK.out _ _ (by ((try dsimp only) <;> (first | with_reducible exact hS6 | with_reducible exact hS5 | with_reducible exact hS4b _ | with_reducible exact hS4 | with_reducible exact hS3b _ | with_reducible exact hS3 | with_reducible exact hS2 _ _ | with_reducible exact hS1 _ | with_reducible exact hS0))) (fun hHeld => ?_))
    clear hK K
    (try simp only [ly0, ly1, ly2, ly3, ly4, ly5, ly6, ly7])
    refine rd1 11 (fun K hK => ?_)
    (try simp only [ly0, ly1, ly2, ly3, ly4, ly5, ly6, ly7])
    go_simp
    (go_at_call 79; refine (HM.out _ _ _ _ r3c r4b r5).mono ?_; rintro e w6 ⟨v6, us6, rfl, y6, hb6⟩; have hC6 := Below.next hC5 hb6; have hB6 := Below.next hA hC6; have hS6 := HS.out _ hC6; obtain ⟨G, cg, rfl, _, _, hcg⟩ := y6.spell (by simp); have d6 := y6.cell (i := 0) (by simp); have e6 := y6.each 0 (by simp); obtain ⟨a6, k6, hu6⟩ := own_form e6; rw [hu6] at d6 e6; have HE6 := hide (own_mono e6 hB5.size); clear e6 hu6 y6)
    first | (refine hK.out _ _ (by ((try dsimp only) <;> (first | with_reducible exact hS6 | with_reducible exact hS5 | with_reducible exact hS4b _ | with_reducible exact hS4 | with_reducible exact hS3b _ | with_reducible exact hS3 | with_reducible exact hS2 _ _ | with_reducible exact hS1 _ | with_reducible exact hS0))) (fun hHeld => ?_)) | (go_wp2_with fail; refine hK.out _ _ (by ((try dsimp only) <;> (first | with_reducible exact hS6 | with_reducible exact hS5 | with_reducible exact hS4b _ | with_reducible exact hS4 | with_reducible exact hS3b _ | with_reducible exact hS3 | with_reducible exact hS2 _ _ | with_reducible exact hS1 _ | with_reducible exact hS0))) (fun hHeld => ?_))
    clear hK K
    (try simp only [ly0, ly1, ly2, ly3, ly4, ly5, ly6, ly7])
    (refine tkY 12 ?_; (try simp only [ly0, ly1, ly2, ly3, ly4, ly5, ly6, ly7]))
    refine rd1 13 (fun K hK => ?_)
    (try simp only [ly0, ly1, ly2, ly3, ly4, ly5, ly6, ly7])
    go_simp
    refine hK.out _ _ (by ((try dsimp only) <;> (first | with_reducible exact hS6 | with_reducible exact hS5 | with_reducible exact hS4b _ | with_reducible exact hS4 | with_reducible exact hS3b _ | with_reducible exact hS3 | with_reducible exact hS2 _ _ | with_reducible exact hS1 _ | with_reducible exact hS0))) (fun hHeld => ?_)
    clear hK K
    (try simp only [ly0, ly1, ly2, ly3, ly4, ly5, ly6, ly7])
    (refine tkY 14 ?_; (try simp only [ly0, ly1, ly2, ly3, ly4, ly5, ly6, ly7]))
    (refine tkY 15 ?_; (try simp only [ly0, ly1, ly2, ly3, ly4, ly5, ly6, ly7]))
    refine wpAnyH_done (by kernel_rfl) ?_ _
   all_goals
    go_wp2
    go_ret2
    exact ⟨_, rfl, HE6.out, hB6⟩
 · have ht : (bkE p dl pl [i] != 0) = true := bne_iff_ne.2 hz
   have HL : Hid (shaL p dl pl i = []) := by show _ = _; unfold shaL; rw [if_neg hz]
   rw [HL.out]
   obtain ⟨ad, cd, rfl, _, _, _⟩ := h1
   obtain ⟨ap, cp, rfl, _, _, _⟩ := h2
   clear hz HL pb hp
   generalize bkE p dl pl [i] = e0 at *
   generalize dl.length = nd at *
   generalize pl.length = np at *
   rw [plan_eq] at *
   apply Gives.none
   go_enter Tryz.func39, Tryz.ntmps39
   go_upto_region 1 with fail
   generalize w.alloc (.cells #[.int .u8 p.f, .int .i64 p.n, .int .i64 p.k, .int .i64 p.t, .int .i64 p.s, .int .i64 p.e, .int .i64 p.d, .int .i64 p.w] 24) = W0 at *
   go_wp2_with (go_at_call 66; refine (HK.out _ _ (Below.next hA (alloc_below W0 _)) (HO.out _ _)).mono ?_; rintro e w1 ⟨rfl, hb1⟩; have hC1 := Below.next (alloc_below W0 _) hb1; have hB1 := Below.next hA hC1)
   go_ret2
   exact ⟨rfl, hB1⟩
end Go.Proofs.YtnakbpaiidolbaaGreat
