/-
  Layer 14: sums of blocks, as the statements make them.
-/
import Derived.Test.YtnjcljnijgkoiaaBunHE
import Derived.Test.YtnjcljnijgkoiaaBCpR
import Derived.Test.YtnjcljnijgkoiaaBunJ
import Derived.Test.YtnjcljnijgkoiaaBunHC
namespace Go.Proofs.Ytnjcljnijgkoiaa
open Go.RowKit Fld Pln Shr
set_option linter.unusedVariables false
set_option linter.unusedSimpArgs false

/-- A list to which so much of another one is added. -/
def sm1 (q : Int) (x y : List Int) (j : Nat) : List Int := mk x.length (fun t => if t < j then add q (co x t) (co y t) else co x t)
theorem sm1_len (q : Int) (x y : List Int) (j : Nat) : (sm1 q x y j).length = x.length := mk_len _ _
theorem sm1_zero (q : Int) (x y : List Int) : sm1 q x y 0 = x := ext_co (sm1_len _ _ _ _) (fun i hi => by
  rw [sm1_len] at hi
  unfold sm1
  rw [co_mk, if_pos hi, if_neg (by omega)])
theorem sm1_here (q : Int) (x y : List Int) {j : Nat} (hj : j < x.length) : co (sm1 q x y j) j = co x j := by
  unfold sm1
  rw [co_mk, if_pos hj, if_neg (by omega)]
theorem sm1_set (q : Int) (x y : List Int) {j : Nat} (hj : j < x.length) : (sm1 q x y j).set j (add q (co x j) (co y j)) = sm1 q x y (j + 1) := by
  refine ext_co (by rw [List.length_set, sm1_len, sm1_len]) (fun i hi => ?_)
  rw [List.length_set, sm1_len] at hi
  show ((sm1 q x y j).set j _).getD i 0 = _
  rw [Rnk.getD_set _ _ _ (by rw [sm1_len]; exact hj)]
  unfold sm1
  show (if i = j then _ else co (mk _ _) i) = _
  rw [co_mk, co_mk, if_pos hi, if_pos hi]
  by_cases e : i = j
  · rw [if_pos e, if_pos (by omega), e]
  · rw [if_neg e]
    by_cases e2 : i < j
    · rw [if_pos e2, if_pos (by omega)]
    · rw [if_neg e2, if_neg (by omega)]
theorem sm1_els {q : Int} (hq : 0 < q) {x y : List Int} (hx : Els q x) (j : Nat) : Els q (sm1 q x y j) := Els.mk _ (fun i _ => by
  show El q (if i < j then _ else _)
  split
  · exact add_el hq
  · exact hx.co hq i)
/-- Blocks while they are added. -/
def smk (q : Int) (a b : List (List Int)) (k j : Nat) : List (List Int) := mkl a.length (fun r => if r < k then sm1 q (a.getD r []) (b.getD r []) (a.getD r []).length else if r = k then sm1 q (a.getD k []) (b.getD k []) j else a.getD r [])
def sml (q : Int) (a b : List (List Int)) : List (List Int) := mkl a.length (fun r => sm1 q (a.getD r []) (b.getD r []) (a.getD r []).length)
theorem smk_len (q : Int) (a b : List (List Int)) (k j : Nat) : (smk q a b k j).length = a.length := mkl_len _ _
theorem sml_len (q : Int) (a b : List (List Int)) : (sml q a b).length = a.length := mkl_len _ _
theorem smk_zero (q : Int) (a b : List (List Int)) : smk q a b 0 0 = a := by
  refine ext_l (smk_len _ _ _ _ _) (fun i hi => ?_)
  rw [smk_len] at hi
  unfold smk
  rw [mkl_at _ hi, if_neg (by omega)]
  by_cases e : i = 0
  · rw [if_pos e, sm1_zero, e]
  · rw [if_neg e]
theorem smk_here (q : Int) (a b : List (List Int)) {k j : Nat} (hk : k < a.length) : (smk q a b k j).getD k [] = sm1 q (a.getD k []) (b.getD k []) j := by
  unfold smk
  rw [mkl_at _ hk, if_neg (by omega), if_pos rfl]
theorem smk_set (q : Int) (a b : List (List Int)) {k j : Nat} (hk : k < a.length) (hj : j < (a.getD k []).length) : (smk q a b k j).set k ((sm1 q (a.getD k []) (b.getD k []) j).set j (add q (co (a.getD k []) j) (co (b.getD k []) j))) = smk q a b k (j + 1) := by
  unfold smk
  rw [mkl_set _ hk, sm1_set _ _ _ hj]
  refine mkl_congr (fun t ht => ?_)
  by_cases e : t = k
  · rw [if_pos e, if_neg (by omega), if_pos e]
  · rw [if_neg e, if_neg e, if_neg e]
theorem smk_next (q : Int) (a b : List (List Int)) {k : Nat} (hk : k < a.length) : smk q a b k (a.getD k []).length = smk q a b (k + 1) 0 := by
  unfold smk
  refine mkl_congr (fun t ht => ?_)
  by_cases e : t < k
  · rw [if_pos e, if_pos (by omega)]
  · by_cases e2 : t = k
    · rw [if_neg e, if_pos e2, if_pos (by omega), e2]
    · rw [if_neg e, if_neg e2, if_neg (by omega)]
      by_cases e3 : t = k + 1
      · rw [if_pos e3, sm1_zero, e3]
      · rw [if_neg e3]
theorem smk_all (q : Int) (a b : List (List Int)) : smk q a b a.length 0 = sml q a b := mkl_congr (fun t ht => by rw [if_pos ht])


set_option maxRecDepth 100000 in
set_option maxHeartbeats 1600000 in
theorem lSums (p : Pn) (q : Int) (wd : Bool) (va vb : Value) (a b : List (List Int)) (w : World) (hf : Fi p.f q wd) (h1 : Rws w va a) (h2 : Rws w vb b) (ha : ∀ x ∈ a, Els q x) (hb : ∀ x ∈ b, Els q x) (hl : b.length = a.length) (hw : ∀ i, i < a.length → (b.getD i []).length = (a.getD i []).length) (hn : a.length ≤ 1000) :
    Calls Try.prog 11 #[plv p, va, vb] w fun e w' => ∃ v' us, e = .returned v' ∧ Mtx w' w.heap.size v' us (sml q a b) ∧ Below w.heap.size w w' := by
  obtain ⟨pb, hA⟩ := pb_box (w := w) p
  have HC := hide (fun W (hb : Below w.heap.size w W) => CopyRows_all va a W (h1.below hb) (by omega))
  have HS := hide (fun W' (hb : Below (w.alloc (.cells #[.int .u8 p.f, .int .i64 p.n, .int .i64 p.k, .int .i64 p.t, .int .i64 p.s, .int .i64 p.e, .int .i64 p.d, .int .i64 p.w] 24)).heap.size _ W') => (pb.below hb).cells)
  have HP := hide (fun W => rP_yes p.f q wd W hf)
  have HSu : Hid (∀ k j, k < a.length → ∀ W, Calls Try.prog 25 #[.int .u64 q, .int .u64 (co (a.getD k []) j), .int .u64 (co (b.getD k []) j)] W fun e w' => e = .returned (.int .u64 (add q (co (a.getD k []) j) (co (b.getD k []) j))) ∧ w' = W) := fun k j hk W => rSum_any q _ _ W hf.top ((ha _ (getD_memA [] hk)).co hf.pos j) ((hb _ (getD_memA [] (by omega))).co hf.pos j)
  have HR2 := hide h2
  have Hl := hide hl
  have Hw := hide hw
  have HZ := hide (smk_zero q a b)
  have HE := hide (smk_all q a b)
  have HLw : Hid (∀ k, (a.getD k []).length ≤ 17592186043904) := fun k => (getD_wd h1.wordsH k).1
  obtain ⟨av, cv, rfl, _, _, _⟩ := h1
  obtain ⟨bv, dv, rfl, _, _, _⟩ := h2
  clear pb ha hb hl hw hf
  rw [plan_eq] at *
  go_enter Try.func11, Try.ntmps11
  go_upto_region 1 with fail
  generalize w.alloc (.cells #[.int .u8 p.f, .int .i64 p.n, .int .i64 p.k, .int .i64 p.t, .int .i64 p.s, .int .i64 p.e, .int .i64 p.d, .int .i64 p.w] 24) = W0 at *
  go_wp2_with (go_at_call 24; refine (HC.out _ hA).mono ?_; rintro e w1 ⟨v1, us, rfl, x1, hb1⟩; have HM1 := hide x1.mtx; obtain ⟨a1, k1, rfl⟩ := own_form x1.row; clear x1)
  have HM2 : Hid (Mtx w1 W0.heap.size (.slice a1 a.length k1) us (smk q a b 0 0)) := by
    show Mtx _ _ _ _ _
    rw [HZ.out]; exact HM1.out
  clear HM1
  clear HC
  have hs0 := hA.size
  go_loopw [8] (fun vi wr => ∃ k : Nat, k ≤ a.length ∧ vi = .int .i64 k ∧ Hid (Mtx wr W0.heap.size (.slice a1 a.length k1) us (smk q a b k 0)) ∧ Below W0.heap.size W0 wr) (fun vi _ => a.length - (intOf vi).toNat)
  case atStart => exact ⟨0, Nat.zero_le _, rfl, HM2, hb1⟩
  case round =>
    clear HM2 hb1
    obtain ⟨k, hk, rfl, HM, hB⟩ := hrel
    by_cases hlt : k < a.length
    · obtain ⟨G, cg, hvG, hG0, hG1, hcg⟩ := HM.out.spell (by rw [smk_len]; omega)
      rw [smk_len] at hvG hcg
      injection hvG with hvG _ hcG
      subst hvG hcG
      obtain ⟨bb, ob, cb, hvb, _⟩ := HR2.out.some_ (by rw [Hl.out]; omega)
      injection hvb with hvb _ hcb
      subst hvb hcb
      have hwk := Hw.out k hlt
      have hkl := HLw.out k
      have kk0 : (0 : Int) ≤ (k : Int) := by omega
      have kk1 : (k : Int) < (a.length : Int) := by omega
      have kk2 : (k : Int) < (b.length : Int) := by rw [Hl.out]; exact kk1
      -- the row's value
      have hEk := HM.out.each k (by rw [smk_len]; exact hlt)
      rw [smk_here _ _ _ hlt, sm1_len] at hEk
      obtain ⟨ar, cr, hur⟩ := own_form hEk
      have Hur := hide hur
      clear hEk hur
      -- b's row
      obtain ⟨aob, cob, heb, _, _, hcb2⟩ := HR2.out
      injection heb with heb _ hcc
      subst heb hcc
      obtain ⟨bb', ob', e', hbl, hcellb⟩ := hcb2 (by intro h; have := Hl.out; rw [h] at this; simp at this; omega)
      cases e'
      obtain ⟨ub, hub, hRb⟩ := hcellb k (by rw [Hl.out]; exact hlt)
      obtain ⟨arb, crb, hurb, _⟩ := hRb.spell
      subst hurb
      have Hub := hide hub
      have HRb := hide hRb
      clear hub hRb hcellb hcb2
      rw [hwk] at Hub
      obtain ⟨m, Hm⟩ : ∃ m, Hid ((a.getD k []).length = m) := ⟨_, rfl⟩
      rw [Hm.out] at Hub Hur hkl
      have hmb : (b.getD k []).length = m := by rw [hwk, Hm.out]
      have Hmb := hide hmb
      clear hwk hmb
      go_wp2_with fail
      go_loopw [9] (fun vj wq => ∃ j : Nat, j ≤ m ∧ vj = .int .i64 j ∧ Hid (Mtx wq W0.heap.size (.slice (some ⟨G, 0, none⟩) a.length k1) us (smk q a b k j)) ∧ Below W0.heap.size W0 wq) (fun vj _ => m - (intOf vj).toNat)
      case atStart => exact ⟨0, Nat.zero_le _, rfl, HM, hB⟩
      case round =>
        clear HM hB
        obtain ⟨j, hj, rfl, HM, hB⟩ := hrel
        have d3 := HM.out.cell (i := k) (by rw [smk_len]; exact hlt)
        rw [Hur.out] at d3
        have d4 := ((Below.next hA hB).cell (p := ⟨bb, ob + k, none⟩) hbl).trans Hub.out
        by_cases hjl : j < m
        · have hml : (smk q a b k j).getD k [] = sm1 q (a.getD k []) (b.getD k []) j := smk_here _ _ _ hlt
          have hrowl : ((smk q a b k j).getD k []).length = m := by rw [hml, sm1_len, Hm.out]
          obtain ⟨gr, cgr, hug, hgr0, _, _, hgc⟩ := HM.out.one (i := k) (by rw [smk_len]; exact hlt) (by rw [hrowl]; omega)
          rw [hrowl, Hur.out] at hug
          injection hug with hug _ hcug
          subst hug hcug
          obtain ⟨d5, f5⟩ := HM.out.at (i := k) (by rw [smk_len]; exact hlt) Hur.out hrowl (m := j) hjl
          have hmx : Rnk.mx (smk q a b k j) k j = co (a.getD k []) j := by
            show co ((smk q a b k j).getD k []) j = _
            rw [hml, sm1_here _ _ _ (by rw [Hm.out]; exact hjl)]
          rw [hmx] at d5
          have HPut := hide (HM.out.put (k := k) (by rw [smk_len]; exact hlt) Hur.out hrowl.symm j (add q (co (a.getD k []) j) (co (b.getD k []) j)))
          rw [hml, smk_set _ _ _ hlt (by rw [Hm.out]; exact hjl)] at HPut
          have hcb : ∃ br obr, arb = some ⟨br, obr, none⟩ ∧ wr.cell? ⟨br, obr + j, none⟩ = some (.int .u64 (co (b.getD k []) j)) := by
            obtain ⟨⟨a9, c9, e9, _, _, hx9⟩, _⟩ := HRb.out
            injection e9 with e9 _ _
            subst e9
            obtain ⟨br, obr, e8, hbr, hcx⟩ := hx9 (by intro h; have := Hmb.out; rw [h] at this; simp at this; omega)
            exact ⟨br, obr, e8, ((Below.next hA hB).cell (p := ⟨br, obr + j, none⟩) hbr).trans (hcx j (by rw [Hmb.out]; exact hjl))⟩
          obtain ⟨br, obr, rfl, d6⟩ := hcb
          have hsu := hide (fun W => HSu.out k j hlt W)
          obtain ⟨c0, c1, c2, c3, c4, c5, c6, c7⟩ := HS.out _ hB
          have jj0 : (0 : Int) ≤ (j : Int) := by omega
          have jj1 : (j : Int) < (m : Int) := by omega
          clear HZ HE HLw HM hmx hml hrowl hgc HSu
          generalize add q (co (a.getD k []) j) (co (b.getD k []) j) = s at *
          generalize co (a.getD k []) j = x at *
          generalize co (b.getD k []) j = y at *
          go_upto_region 8 with fail
          refine wp_region_last (by kernel_rfl) (by kernel_rfl) (by kernel_rfl) ?_
          simp only [List.dropLast]
          repeat (go_big_quiet_step (first
            | (go_at_call 26; exact Calls.quiet_of_same (HP.out _))
            | (go_at_call 25; exact Calls.quiet_of_same (hsu.out _))))
          refine wpQuiet_nil ?_
          intro _ hw'
          obtain ⟨nq, hw''⟩ := hw'
          subst hw''
          simp only [lastL]
          have HP2 : Hid (Mtx ((wr.drewN nq).setCell ⟨gr, j, none⟩ (.int .u64 s)) W0.heap.size (.slice (some ⟨G, 0, none⟩) a.length k1) us (smk q a b k (j + 1))) := HPut.out.below (below_drewN (Below.refl _ _) nq)
          have hB2 : Below W0.heap.size W0 ((wr.drewN nq).setCell ⟨gr, j, none⟩ (.int .u64 s)) := (below_drewN hB nq).setCell (p := ⟨gr, j, none⟩) hgr0 _
          clear HPut
          go_wp2
          go_roundw
          case rel => exact ⟨j + 1, by omega, by go_num, HP2, hB2⟩
          case measure => simp [intOf]; omega
        · obtain rfl : j = m := by omega
          have HM2 := HM
          rw [← Hm.out, smk_next _ _ _ hlt] at HM2
          clear HM HZ HE HSu HP
          go_wp2
          go_roundw
          case rel => exact ⟨k + 1, by omega, by go_num, HM2, hB⟩
          case measure => simp [intOf]; omega
    · obtain rfl : k = a.length := by omega
      have HM2 := HM
      rw [HE.out] at HM2
      clear HM HZ HE HSu HP
      go_wp2
      go_ret
      exact ⟨_, us, rfl, HM2.out.low hs0, Below.next hA hB⟩

end Go.Proofs.Ytnjcljnijgkoiaa
