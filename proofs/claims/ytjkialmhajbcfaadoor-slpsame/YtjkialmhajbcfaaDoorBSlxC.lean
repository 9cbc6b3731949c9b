/-
  Layer 9: After, the program's: where it answers a program.
-/
import Derived.Test.YtjkialmhajbcfaaDoorBunX
namespace Go.Proofs.YtjkialmhajbcfaaDoor
open Go.RowKit Fld Slp
set_option linter.unusedVariables false
set_option linter.unusedSimpArgs false

/-- The steps when so many of p's have been turned. -/
def osI (p q : Pr) (i : Nat) : List O4 := q.ops ++ ((p.ops.take i).map (shO (aftAt q p.ops.length)) ++ p.ops.drop i)
theorem osI_zero (p q : Pr) : osI p q 0 = q.ops ++ p.ops := by unfold osI; simp
theorem osI_end (p q : Pr) : osI p q p.ops.length = (aftF p q).ops := by unfold osI aftF; simp
theorem osI_len (p q : Pr) {i : Nat} (h : i ≤ p.ops.length) : (osI p q i).length = q.ops.length + p.ops.length := by unfold osI; simp; omega
theorem osI_next (p q : Pr) {i : Nat} (h : i < p.ops.length) : osI p q (i + 1) = (osI p q i).set (q.ops.length + i) (shO (aftAt q p.ops.length) p.ops[i]) := by
  unfold osI
  rw [List.set_append_right _ _ (by omega), show q.ops.length + i - q.ops.length = i by omega, List.set_append_right _ _ (by simp; omega)]
  rw [List.take_succ_eq_append_getElem h, List.map_append, List.append_assoc]
  congr 2
  have e : i - ((p.ops.take i).map (shO (aftAt q p.ops.length))).length = 0 := by simp; omega
  rw [e, List.drop_eq_getElem_cons h]
  rfl
theorem osI_same (p q : Pr) {i : Nat} (h : i < p.ops.length) (h4 : p.ops[i].k = 4) : osI p q (i + 1) = osI p q i := by
  have e : shO (aftAt q p.ops.length) p.ops[i] = p.ops[i] := by unfold shO; rw [if_pos h4]
  unfold osI
  rw [List.take_succ_eq_append_getElem h, List.map_append, List.append_assoc, List.map_singleton, e]
  rw [show [p.ops[i]] ++ p.ops.drop (i + 1) = p.ops.drop i from (List.drop_eq_getElem_cons h).symm]
theorem aftE_zero {p q : Pr} (h : aftE p q = 0) : mayB p = true ∧ mayB q = true ∧ (q.outs.length : Int) = p.inp ∧ p.ops.length + q.ops.length ≤ 256 := by
  unfold aftE at h
  split at h
  · rename_i h1
    split at h
    · cases h
    · exact ⟨h1.1, h1.2.1, h1.2.2, by omega⟩
  · cases h

theorem af_new {w W : World} {p q : Pr} {vo vu xo xu yo : Value} {b6 B : Nat} {os : List O4} {r0 r1 r2 : Value} (hb : Bx w W p q vo vu xo xu (.int .i64 0) (.slice none 0 0) (.slice none 0 0)) (h6 : W.heap[b6]? = some (.cells #[r0, r1, r2] 25 (0, 0))) (h2 : w.heap.size + 2 < b6) (hB : w.heap.size + 3 ≤ B) (ho : W.ownsRow B 47 4 yo os.length (os.flatMap opw)) :
    Af w (((W.setCell ⟨b6, 0, none⟩ (.int .i64 q.inp)).setCell ⟨b6, 1, none⟩ yo).setCell ⟨b6, 2, none⟩ (.slice none 0 0)) p q vo vu xo xu b6 yo (.slice none 0 0) os [] := by
  have hg := set3_grown W b6 (.int .i64 q.inp) yo (.slice none 0 0)
  refine ⟨hb.grown hg (fun k e => by cases e; exact h2), h2, set_blk (set_blk (set_blk h6 0 _) 1 _) 2 _, own_mono (own_kept ho hg (fun g hg' e => ?_)) hB, own_nil _ _ _ _⟩
  exact own_not ho h6 (by decide) (hg'.trans e.symm)
theorem af_new2 {w W : World} {p q : Pr} {vo vu xo xu yo : Value} {B : Nat} {os : List O4} (hb : Bx w W p q vo vu xo xu (.int .i64 0) (.slice none 0 0) (.slice none 0 0)) (hB : w.heap.size + 3 ≤ B) (ho : W.ownsRow B 47 4 yo os.length (os.flatMap opw)) :
    Af w (W.alloc (.cells #[.int .i64 q.inp, yo, .slice none 0 0] 25)) p q vo vu xo xu W.heap.size yo (.slice none 0 0) os [] := by
  have hA := alloc_below W (.cells #[.int .i64 q.inp, yo, .slice none 0 0] 25)
  refine ⟨hb.below hA, by have := (Array.getElem?_eq_some_iff.1 hb.r).1; omega, heap_alloc_new W _, own_mono (own_kept ho (below_own hA) (fun g _ => by simp)) hB, own_nil _ _ _ _⟩
theorem alloc2' (w : World) (A B : Obj) : ((w.drew.alloc A).alloc B).heap[w.heap.size]? = some A ∧ ((w.drew.alloc A).alloc B).heap[w.heap.size + 1]? = some B ∧ Below w.drew.heap.size w.drew ((w.drew.alloc A).alloc B) := alloc2 w.drew A B
theorem Bx.drew {w W : World} {p q : Pr} {vo vu xo xu r0 r1 r2 : Value} (h : Bx w W p q vo vu xo xu r0 r1 r2) : Bx w W.drew p q vo vu xo xu r0 r1 r2 := ⟨h.p, h.q, h.r, h.b.drew⟩
theorem Bx.size {w W : World} {p q : Pr} {vo vu xo xu r0 r1 r2 : Value} (h : Bx w W p q vo vu xo xu r0 r1 r2) : w.heap.size + 3 ≤ W.heap.size := by have := (Array.getElem?_eq_some_iff.1 h.r).1; omega
theorem osI_zero' (p q : Pr) {W : World} {B : Nat} {v : Value} (h : W.ownsRow B 47 4 v (q.ops.length + p.ops.length) ((q.ops ++ p.ops).flatMap opw)) : W.ownsRow B 47 4 v (osI p q 0).length ((osI p q 0).flatMap opw) := by rw [osI_zero, List.length_append]; exact h

theorem Af.drew {w W : World} {p q : Pr} {vo vu xo xu : Value} {b6 : Nat} {yo yu : Value} {os : List O4} {us : List Int} (h : Af w W p q vo vu xo xu b6 yo yu os us) : Af w W.drew p q vo vu xo xu b6 yo yu os us := h.below (Below.refl _ W).drew
theorem cell_off (W : World) (g a b : Nat) (v : Value) (h : a ≠ b) : (W.setCell ⟨g, a, none⟩ v).cell? ⟨g, b, none⟩ = W.cell? ⟨g, b, none⟩ := by
  cases hg : W.heap[g]? with
  | none =>
    have h2 : (W.setCell ⟨g, a, none⟩ v).heap[g]? = none := by
      apply Array.getElem?_eq_none
      have : (W.setCell ⟨g, a, none⟩ v).heap.size = W.heap.size := by simp [World.setCell]
      rw [this]
      exact Nat.le_of_not_lt (fun hc => by rw [Array.getElem?_eq_getElem hc] at hg; cases hg)
    simp [World.cell?, hg, h2]
  | some o => simp [World.cell?, World.setCell, h, hg, Array.getElem?_modify]; cases o <;> simp [h]
theorem row_there {W : World} {base g n cap s : Nat} {T : TypeId} {xs : List Value} (h : W.ownsRow base T s (.slice (some ⟨g, 0, none⟩) n cap) n xs) {j : Nat} (hj : j < n * s) : (∃ c, W.cell? ⟨g, j, none⟩ = some c) ∧ W.frozen? ⟨g, j, none⟩ = false := by
  rcases h.2 with ⟨e, _⟩ | ⟨g', cap', cur, e, hb, hgb, hnc, hcm, hcs, htake⟩
  · cases e
  · cases e
    have h1 : j < cur.size := by
      rw [hcs]; exact Nat.lt_of_lt_of_le hj (Nat.mul_le_mul_right _ hnc)
    refine ⟨⟨cur[j], ?_⟩, Lib.frozen_of_heap hgb j⟩
    rw [Lib.cell_of_heap hgb, Array.getElem?_eq_getElem h1]

set_option maxRecDepth 100000 in
set_option maxHeartbeats 3000000 in
theorem sAfter_ok (w : World) (v1 v2 : Value) (p q : Pr) (h1 : Pm w v1 p) (h2 : Pm w v2 q) (hE : aftE p q = 0) : IsAfter 18 v1 v2 w p q := by
  unfold IsAfter
  obtain ⟨hm, hm2, hl, hlen⟩ := aftE_zero hE
  have eP : aftP p q = aftF p q := by unfold aftP; rw [if_pos hE]
  rw [eP, hE]
  obtain ⟨⟨i0, i1, l1, l3⟩, mo, mu⟩ := mayB_iff.1 hm
  obtain ⟨⟨j0, j1, l2, l4⟩, _, _⟩ := mayB_iff.1 hm2
  have M1 := hide (fun W (hb : Below w.heap.size w W) => sMay v1 p W (h1.below hb))
  have M2 := hide (fun W (hb : Below w.heap.size w W) => sMay v2 q W (h2.below hb))
  rw [hm] at M1
  rw [hm2] at M2
  obtain ⟨vo, vu, rfl, ho, hu⟩ := h1.form
  obtain ⟨xo, xu, rfl, go, gu⟩ := h2.form
  have HO := hide ho
  have HU := hide hu
  have GO := hide go
  have GU := hide gu
  obtain ⟨ao, co, rfl, _⟩ := ho.spell
  obtain ⟨au, cu, rfl, _⟩ := hu.spell
  obtain ⟨bo, do_, rfl, _⟩ := go.spell
  obtain ⟨bu, du, rfl, _⟩ := gu.spell
  obtain ⟨k1, k2, k3, hB⟩ := alloc3 w (.cells #[.int .i64 p.inp, .slice ao p.ops.length co, .slice au p.outs.length cu] 25) (.cells #[.int .i64 q.inp, .slice bo q.ops.length do_, .slice bu q.outs.length du] 25) (.cells #[.int .i64 0, .slice none 0 0, .slice none 0 0] 25)
  have B0 : Bx w (((w.alloc (.cells #[.int .i64 p.inp, .slice ao p.ops.length co, .slice au p.outs.length cu] 25)).alloc (.cells #[.int .i64 q.inp, .slice bo q.ops.length do_, .slice bu q.outs.length du] 25)).alloc (.cells #[.int .i64 0, .slice none 0 0, .slice none 0 0] 25)) p q _ _ _ _ _ _ _ := ⟨k1, k2, k3, hB⟩
  have HMo := hide mo
  have HMu := hide mu
  clear k1 k2 k3 hB h1 h2 ho hu go gu hm hm2 hE mo mu eP
  have g0 : IntKind.i64.wrap ((q.ops.length : Int) + (p.ops.length : Int)) = (q.ops.length : Int) + (p.ops.length : Int) := by rw [IntKind.wrap_i64]; omega
  have g1 : ¬ (256 : Int) < (q.ops.length : Int) + (p.ops.length : Int) := by omega
  have hmf : ∀ (fn : Fn) (first cap : Array Value) (w : World), (Instr.makeFunc fn first cap).run Tryd.prog w = .ok (.func fn first cap) w := fun _ _ _ _ => rfl
  go_enter Tryd.func18, Tryd.ntmps18
  go_upto_region 5 with (first
    | (go_at_call 9; refine (M1.out _ B0.b).mono ?_; clear M1; rintro e w1 ⟨rfl, hb1⟩; have B1 := B0.below hb1; obtain ⟨q0, q1, q2⟩ := cell3 B1.q)
    | (go_at_call 9; refine (M2.out _ B1.b).mono ?_; rintro e w2 ⟨rfl, hb2⟩; have B2 := B1.below hb2; obtain ⟨p0, p1, p2⟩ := cell3 B2.p; obtain ⟨q3, q4, q5⟩ := cell3 B2.q))
  clear q0 q1 q2 B0 M2 hb1 hb2 B1
  go_cut [6] from 38 to 46 (fun v6 wx => ∃ b6 yo, v6 = .pointer (some ⟨b6, 0, none⟩) ∧ Af w wx p q (.slice ao p.ops.length co) (.slice au p.outs.length cu) (.slice bo q.ops.length do_) (.slice bu q.outs.length du) b6 yo (.slice none 0 0) (osI p q 0) [])
  case first =>
    have Z := B2.size
    have HB2 := hide B2
    have hlen' : q.ops.length + p.ops.length ≤ 1000 := by omega
    have HA0 := alloc_below w2 (.cells #[.slice bo q.ops.length do_, .slice ao p.ops.length co] 22)
    have HN0 := heap_alloc_new w2 (.cells #[.slice bo q.ops.length do_, .slice ao p.ops.length co] 22)
    have HBA := hide (B2.below HA0).drew
    have HCA := hide (ConcatO (w2.alloc (.cells #[.slice bo q.ops.length do_, .slice ao p.ops.length co] 22)).drew w2.heap.size _ _ q.ops p.ops (GO.out.below HBA.out.b) (HO.out.below HBA.out.b) (show (w2.alloc (.cells #[.slice bo q.ops.length do_, .slice ao p.ops.length co] 22)).cell? _ = _ by rw [Lib.cell_of_heap HN0]; rfl) (show (w2.alloc (.cells #[.slice bo q.ops.length do_, .slice ao p.ops.length co] 22)).cell? _ = _ by rw [Lib.cell_of_heap HN0]; rfl) hlen')
    obtain ⟨n1, n2, hBB⟩ := alloc2 w2 (.cells #[.slice bo q.ops.length do_, .slice ao p.ops.length co] 22) (.cells #[.int .i64 0, .slice none 0 0, .slice none 0 0] 25)
    have HBB := hide (B2.below hBB).drew
    have HNB : Hid (((w2.alloc (.cells #[.slice bo q.ops.length do_, .slice ao p.ops.length co] 22)).alloc (.cells #[.int .i64 0, .slice none 0 0, .slice none 0 0] 25)).drew.heap[w2.heap.size + 1]? = some (.cells #[.int .i64 0, .slice none 0 0, .slice none 0 0] 25)) := n2
    have HCB := hide (ConcatO ((w2.alloc (.cells #[.slice bo q.ops.length do_, .slice ao p.ops.length co] 22)).alloc (.cells #[.int .i64 0, .slice none 0 0, .slice none 0 0] 25)).drew w2.heap.size _ _ q.ops p.ops (GO.out.below HBB.out.b) (HO.out.below HBB.out.b) (show ((w2.alloc (.cells #[.slice bo q.ops.length do_, .slice ao p.ops.length co] 22)).alloc (.cells #[.int .i64 0, .slice none 0 0, .slice none 0 0] 25)).cell? _ = _ by rw [Lib.cell_of_heap n1]; rfl) (show ((w2.alloc (.cells #[.slice bo q.ops.length do_, .slice ao p.ops.length co] 22)).alloc (.cells #[.int .i64 0, .slice none 0 0, .slice none 0 0] 25)).cell? _ = _ by rw [Lib.cell_of_heap n1]; rfl) hlen')
    obtain ⟨m1, m2, hBC⟩ := alloc2 w2 (.cells #[.int .i64 0, .slice none 0 0, .slice none 0 0] 25) (.cells #[.slice bo q.ops.length do_, .slice ao p.ops.length co] 22)
    have HBC := hide (B2.below hBC).drew
    have HNC : Hid (((w2.alloc (.cells #[.int .i64 0, .slice none 0 0, .slice none 0 0] 25)).alloc (.cells #[.slice bo q.ops.length do_, .slice ao p.ops.length co] 22)).drew.heap[w2.heap.size]? = some (.cells #[.int .i64 0, .slice none 0 0, .slice none 0 0] 25)) := m1
    have HCC := hide (ConcatO ((w2.alloc (.cells #[.int .i64 0, .slice none 0 0, .slice none 0 0] 25)).alloc (.cells #[.slice bo q.ops.length do_, .slice ao p.ops.length co] 22)).drew (w2.heap.size + 1) _ _ q.ops p.ops (GO.out.below HBC.out.b) (HO.out.below HBC.out.b) (show ((w2.alloc (.cells #[.int .i64 0, .slice none 0 0, .slice none 0 0] 25)).alloc (.cells #[.slice bo q.ops.length do_, .slice ao p.ops.length co] 22)).cell? _ = _ by rw [Lib.cell_of_heap m2]; rfl) (show ((w2.alloc (.cells #[.int .i64 0, .slice none 0 0, .slice none 0 0] 25)).alloc (.cells #[.slice bo q.ops.length do_, .slice ao p.ops.length co] 22)).cell? _ = _ by rw [Lib.cell_of_heap m2]; rfl) hlen')
    clear HA0 HN0 n1 n2 m1 m2 hBB hBC
    have HS : Hid (∀ W, Bx w W p q (.slice ao p.ops.length co) (.slice au p.outs.length cu) (.slice bo q.ops.length do_) (.slice bu q.outs.length du) (.int .i64 0) (.slice none 0 0) (.slice none 0 0) → W.cell? ⟨w.heap.size + 1, 0, none⟩ = some (.int .i64 q.inp) ∧ W.cell? ⟨w.heap.size + 1, 1, none⟩ = some (.slice bo q.ops.length do_) ∧ W.cell? ⟨w.heap.size, 1, none⟩ = some (.slice ao p.ops.length co)) := fun W h => ⟨(cell3 h.q).1, (cell3 h.q).2.1, (cell3 h.p).2.1⟩
    have hS0 := HS.out _ HB2.out.drew
    have hSA := fun o => HS.out _ (HB2.out.below (alloc_below w2 o)).drew
    have hSB := fun o1 o2 => HS.out _ ((HB2.out.below (alloc_below w2 o1)).below (alloc_below _ o2)).drew
    go_region_held3 (fun W' => W'.cell? ⟨w.heap.size + 1, 0, none⟩ = some (.int .i64 q.inp) ∧ W'.cell? ⟨w.heap.size + 1, 1, none⟩ = some (.slice bo q.ops.length do_) ∧ W'.cell? ⟨w.heap.size, 1, none⟩ = some (.slice ao p.ops.length co)) (first | with_reducible exact hS0 | with_reducible exact hSA _ | with_reducible exact hSB _ _ | with_reducible exact hS3 | with_reducible exact hS4 _ | with_reducible exact hS5) (first
      | (go_at_call 41; with_reducible refine Calls.mono HCA.out ?_; rintro e w3 ⟨v3, rfl, ho3, hb3⟩; obtain ⟨ya, yc, rfl⟩ := own_slice ho3; have B3 := HBA.out.below hb3; have hS3 := HS.out w3 B3; have hS4 := fun o => HS.out _ (B3.below (alloc_below w3 o)); have hS5 := hS3; have HF := hide (af_new2 B3 HBA.out.size (osI_zero' p q ho3)))
      | (go_at_call 41; with_reducible refine Calls.mono HCB.out ?_; rintro e w3 ⟨v3, rfl, ho3, hb3⟩; obtain ⟨ya, yc, rfl⟩ := own_slice ho3; have B3 := HBB.out.below hb3; have n6 := (hb3.block (w2.heap.size + 1) (Array.getElem?_eq_some_iff.1 HNB.out).1).trans HNB.out; obtain ⟨d0, d1, d2⟩ := cell3 n6; have d3 := fun k => Lib.frozen_of_heap n6 k; have hS3 := HS.out w3 B3; have HF := hide (af_new B3 n6 (by omega) HBB.out.size (osI_zero' p q ho3)); have hS5 := HS.out _ HF.out.bx; have hS4 := fun (o : Obj) => HS.out _ (B3.below (alloc_below w3 o)))
      | (go_at_call 41; with_reducible refine Calls.mono HCC.out ?_; rintro e w3 ⟨v3, rfl, ho3, hb3⟩; obtain ⟨ya, yc, rfl⟩ := own_slice ho3; have B3 := HBC.out.below hb3; have n6 := (hb3.block (w2.heap.size) (Array.getElem?_eq_some_iff.1 HNC.out).1).trans HNC.out; obtain ⟨d0, d1, d2⟩ := cell3 n6; have d3 := fun k => Lib.frozen_of_heap n6 k; have hS3 := HS.out w3 B3; have HF := hide (af_new B3 n6 (by omega) HBC.out.size (osI_zero' p q ho3)); have hS5 := HS.out _ HF.out.bx; have hS4 := fun (o : Obj) => HS.out _ (B3.below (alloc_below w3 o))))
    all_goals
      go_wp2_with fail
      go_meet
      exact ⟨_, _, rfl, HF.out⟩
  case rest =>
    obtain ⟨b6, yo, rfl, F0⟩ := hcut
    clear B2 p0 p1 p2 q3 q4 q5
    obtain ⟨p0, p1, p2⟩ := cell3 F0.bx.p
    have HF0 := hide F0
    have hyo := own_slice F0.ro
    clear F0
    obtain ⟨ya, yc, rfl⟩ := hyo
    rw [osI_len p q (Nat.zero_le _)] at HF0
    go_wp2_with fail
    go_loopw [51] (fun vi wr => ∃ i : Nat, i ≤ p.ops.length ∧ vi = .int .i64 i ∧ Hid (Af w wr p q (.slice ao p.ops.length co) (.slice au p.outs.length cu) (.slice bo q.ops.length do_) (.slice bu q.outs.length du) b6 (.slice ya (q.ops.length + p.ops.length) yc) (.slice none 0 0) (osI p q i) [])) (fun vi _ => p.ops.length - (intOf vi).toNat)
    case atStart => exact ⟨0, Nat.zero_le _, rfl, HF0⟩
    case round =>
      clear HF0 p0 p1 p2
      obtain ⟨i, hi, rfl, F⟩ := hrel
      by_cases hlt : i < p.ops.length
      · obtain ⟨b, off, co', hv, _, hbl⟩ := HO.out.form (by omega)
        cases hv
        obtain ⟨ca, cb, cc, cd⟩ := HO.out.op F.out.bx.b hlt
        have HM := hide (opsM_get p.inp p.ops 0 i hlt HMo.out)
        have hi0 : (0 : Int) ≤ (i : Int) := by omega
        have hi1 : (i : Int) < (p.ops.length : Int) := by omega
        have HNx := hide (osI_next p q hlt)
        have HSm := hide (osI_same p q hlt)
        obtain ⟨g, yc', hy, _⟩ := F.out.ro.form (by rw [osI_len p q (Nat.le_of_lt hlt)]; omega)
        injection hy with hy1 hy2 hy3
        subst hy1
        clear hy2 hy3
        have hF9 := fun ob => (F.out.below (alloc_below wr ob)).drew
        have hwi : IntKind.i64.wrap ((q.ops.length : Int) + (i : Int)) = (q.ops.length : Int) + (i : Int) := by rw [IntKind.wrap_i64]; omega
        have hti : ((q.ops.length : Int) + (i : Int)).toNat = q.ops.length + i := by omega
        have hi2 : (0 : Int) ≤ (q.ops.length : Int) + (i : Int) := by omega
        have hi3 : (q.ops.length : Int) + (i : Int) < (q.ops.length : Int) + (p.ops.length : Int) := by omega
        have HR9 := hide (fun j (hj : j < 4) => row_there (by have := F.out.ro; rw [osI_len p q (Nat.le_of_lt hlt)] at this; exact this) (show (q.ops.length + i) * 4 + j < (q.ops.length + p.ops.length) * 4 by omega))
        have HPut := hide (fun ob o' => ((F.out.put (k := q.ops.length + i) (by rw [osI_len p q (Nat.le_of_lt hlt)]; omega) o').below (alloc_below _ ob)).drew)
        obtain ⟨⟨c0, r0⟩, z0⟩ := HR9.out 0 (by decide)
        obtain ⟨⟨c1, r1⟩, z1⟩ := HR9.out 1 (by decide)
        obtain ⟨⟨c2, r2⟩, z2⟩ := HR9.out 2 (by decide)
        obtain ⟨⟨c3, r3⟩, z3⟩ := HR9.out 3 (by decide)
        rw [Nat.add_zero] at r0 z0
        obtain ⟨y0, y1, y2⟩ := cell3 F.out.blk
        obtain ⟨q0, q1, q2⟩ := cell3 F.out.bx.q
        have y1' := fun ob => (cell3 (F.out.below (alloc_below wr ob)).blk).2.1
        have q1' := fun ob => (cell3 (F.out.below (alloc_below wr ob)).bx.q).2.1
        have r0' := fun ob => ((alloc_below wr ob).cell (cell_in r0)).trans r0
        have r1' := fun ob => ((alloc_below wr ob).cell (cell_in r1)).trans r1
        have r2' := fun ob => ((alloc_below wr ob).cell (cell_in r2)).trans r2
        have r3' := fun ob => ((alloc_below wr ob).cell (cell_in r3)).trans r3
        have HPl := hide (fun W v (hb : Bx w W p q (.slice (some ⟨b, off, none⟩) p.ops.length co) (.slice au p.outs.length cu) (.slice bo q.ops.length do_) (.slice bu q.outs.length du) (.int .i64 0) (.slice none 0 0) (.slice none 0 0)) (h0 : 0 ≤ v) (h1 : v < p.inp + (p.ops.length : Int)) => sPlace W w.heap.size (w.heap.size + 1) p.ops.length p q v _ _ _ _ hb.p hb.q (GO.out.below hb.b) (GU.out.below hb.b) hl h0 h1 l1 i1 j0 j1 l2)
        generalize p.ops[i] = o at *
        by_cases h4 : o.k = 4
        · have HFF := hide (fun ob => F.out.below (alloc_below wr ob))
          rw [← HSm.out h4] at HFF
          clear hF9 HPl r0' r1' r2' r3' y1' q1'
          go_wp2_with fail
          go_roundw
          case rel => exact ⟨i + 1, by omega, by go_num, HFF.out _⟩
          case measure => simp [intOf]; omega
        · have hok : 0 ≤ o.a ∧ o.a < p.inp + (p.ops.length : Int) ∧ 0 ≤ o.b ∧ o.b < p.inp + (p.ops.length : Int) := by
            have := HM.out
            unfold opM at this
            split at this
            · have := of_decide_eq_true this
              omega
            · exact absurd this (by simp [h4])
          have HX := fun ob => hide (hF9 ob).bx
          have HPa := hide (fun ob => HPl.out _ o.a (hF9 ob).bx hok.1 hok.2.1)
          have HPb := hide (fun ob => HPl.out _ o.b (hF9 ob).bx hok.2.2.1 hok.2.2.2)
          have HSh : Hid (shO (aftAt q p.ops.length) o = ⟨o.k, (aftAt q p.ops.length).getD o.a.toNat 0, (aftAt q p.ops.length).getD o.b.toNat 0, o.c⟩) := by show _ = _; unfold shO; rw [if_neg h4]
          clear hok
          generalize (aftAt q p.ops.length).getD o.a.toNat 0 = A at *
          generalize (aftAt q p.ops.length).getD o.b.toNat 0 = B at *
          have HF9 := hide hF9
          clear hF9
          go_upto_region 11 with fail
          go_region_with (first
            | (go_at_call 42; with_reducible refine Calls.mono (HPa.out _) ?_; rintro e w5 ⟨rfl, hw5⟩; rw [hw5])
            | (go_at_call 42; with_reducible refine Calls.mono (HPb.out _) ?_; rintro e w6 ⟨rfl, hw6⟩; rw [hw6]))
          all_goals
            clear hw5 hw6
            go_wp2_with fail
            have HFF := HPut.out (.cells #[.int .u8 o.k, .int .i64 A, .int .i64 B, .int .u64 o.c] 47) ⟨o.k, A, B, o.c⟩
            rw [← HSh.out, ← HNx.out] at HFF
            unfold set4 at HFF
            rw [HSh.out] at HFF
            go_roundw
            case rel => exact ⟨i + 1, by omega, by go_num, HFF⟩
            case measure => simp [intOf]; omega
      · obtain rfl : i = p.ops.length := by omega
        rw [osI_end] at F
        obtain ⟨p0, p1, p2⟩ := cell3 F.out.bx.p
        go_wp2_with fail
        go_loopw [82] (fun vi wr => ∃ (j : Nat) (yu : Value), j ≤ p.outs.length ∧ vi = .int .i64 j ∧ Hid (Af w wr p q (.slice ao p.ops.length co) (.slice au p.outs.length cu) (.slice bo q.ops.length do_) (.slice bu q.outs.length du) b6 (.slice ya (q.ops.length + p.ops.length) yc) yu (aftF p q).ops ((p.outs.take j).map (fun v => (aftAt q p.ops.length).getD v.toNat 0)))) (fun vi _ => p.outs.length - (intOf vi).toNat)
        case atStart => exact ⟨0, _, Nat.zero_le _, rfl, F⟩
        case round =>
          clear F p0 p1 p2
          obtain ⟨j, yu, hj, rfl, F⟩ := hrel
          by_cases hlj : j < p.outs.length
          · obtain ⟨b, off, cu', hv, _, hbl⟩ := HU.out.form (by omega)
            cases hv
            have ca := HU.out.int F.out.bx.b hlj
            have hok : 0 ≤ p.outs[j] ∧ p.outs[j] < p.inp + (p.ops.length : Int) := by
              have := of_decide_eq_true (List.all_eq_true.1 HMu.out p.outs[j] (List.getElem_mem hlj))
              exact this
            have hj0 : (0 : Int) ≤ (j : Int) := by omega
            have hj1 : (j : Int) < (p.outs.length : Int) := by omega
            have hul : ((p.outs.take j).map (fun v => (aftAt q p.ops.length).getD v.toNat 0)).length = j := by rw [List.length_map, List.length_take]; omega
            have HNx : Hid ((p.outs.take (j + 1)).map (fun v => (aftAt q p.ops.length).getD v.toNat 0) = (p.outs.take j).map (fun v => (aftAt q p.ops.length).getD v.toNat 0) ++ [(aftAt q p.ops.length).getD p.outs[j].toNat 0]) := by show _ = _; rw [List.take_succ_eq_append_getElem hlj, List.map_append]; rfl
            obtain ⟨uu, HUu⟩ : ∃ uu, Hid ((p.outs.take j).map (fun v => (aftAt q p.ops.length).getD v.toNat 0) = uu) := ⟨_, rfl⟩
            rw [HUu.out] at F hul HNx
            have HPl := hide (sPlace wr.drew w.heap.size (w.heap.size + 1) p.ops.length p q p.outs[j] _ _ _ _ F.out.bx.drew.p F.out.bx.drew.q (GO.out.below F.out.bx.drew.b) (GU.out.below F.out.bx.drew.b) hl hok.1 hok.2 l1 i1 j0 j1 l2)
            generalize (aftAt q p.ops.length).getD p.outs[j].toNat 0 = A at *
            generalize p.outs[j] = o at *
            obtain ⟨yz, yd, rfl⟩ := own_slice F.out.ru
            have HA := hide (Af.app (F.out.drew.below (alloc_below wr.drew (.cells #[.int .i64 A] 3))) ⟨wr.heap.size, 0, none⟩ A (show (wr.alloc (.cells #[.int .i64 A] 3)).cell? ⟨wr.heap.size, 0, none⟩ = _ by rw [Lib.cell_of_heap (heap_alloc_new wr _)]; rfl) (by omega))
            have hS0 : wr.drew.cell? ⟨b6, 2, none⟩ = some (.slice yz uu.length yd) := (cell3 F.out.drew.blk).2.2
            have hS2 := fun ob => (cell3 ((F.out.below (alloc_below wr ob)).drew).blk).2.2
            obtain ⟨au4, cu4, w4, hr4, hS4, hz4, F4⟩ := HA.out
            have HF4 := hide F4
            clear F4 HA hok
            rw [hul] at *
            go_upto_region 17 with fail
            refine wp_region_mute (S := (fun W' => W'.cell? ⟨b6, 2, none⟩ = some (.slice yz j yd))) (by kernel_rfl) (by kernel_rfl) rfl (by ((try dsimp only) <;> (first | with_reducible exact hS0 | with_reducible exact hS2 _ | with_reducible exact hS4))) (fun hHeld => ?_)
            simp only [muteL, mute]
            (refine wpAnyH_take (i := 0) (oi := _) (v := ?v49) rfl (by kernel_rfl) (by kernel_rfl) (by kernel_rfl) (fun _ _ _ h => h) (Or.inl ⟨by rfl, ?hy49⟩) (by assumption) ?rest49; (case hy49 => (first | (intro w hSw; (try dsimp only at hSw); go_simp; done) | (intro w hSw; (try dsimp only at hSw); go_simp; with_reducible rfl))); (try simp only [Act.put, List.getElem_toArray, List.getElem_cons_succ, List.getElem_cons_zero, List.setIfInBounds_toArray, List.set_cons_zero, List.set_cons_succ]))
            (refine wpAnyH_take (i := 1) (oi := _) (v := ?v50) rfl (by kernel_rfl) (by kernel_rfl) (by kernel_rfl) (fun _ _ _ h => h) (Or.inl ⟨by rfl, ?hy50⟩) (by assumption) ?rest50; (case hy50 => (first | (intro w hSw; (try dsimp only at hSw); go_simp; done) | (intro w hSw; (try dsimp only at hSw); go_simp; with_reducible rfl))); (try simp only [Act.put, List.getElem_toArray, List.getElem_cons_succ, List.getElem_cons_zero, List.setIfInBounds_toArray, List.set_cons_zero, List.set_cons_succ]))
            (refine wpAnyH_take (i := 2) (oi := _) (v := ?v51) rfl (by kernel_rfl) (by kernel_rfl) (by kernel_rfl) (fun _ _ _ h => h) (Or.inl ⟨by rfl, ?hy51⟩) (by assumption) ?rest51; (case hy51 => (first | (intro w hSw; (try dsimp only at hSw); go_simp; done) | (intro w hSw; (try dsimp only at hSw); go_simp; with_reducible rfl))); (try simp only [Act.put, List.getElem_toArray, List.getElem_cons_succ, List.getElem_cons_zero, List.setIfInBounds_toArray, List.set_cons_zero, List.set_cons_succ]))
            (refine wpAnyH_take (i := 3) (oi := _) (v := ?v52) rfl (by kernel_rfl) (by kernel_rfl) (by kernel_rfl) (fun _ _ _ h => h) (Or.inl ⟨by rfl, ?hy52⟩) (by assumption) ?rest52; (case hy52 => (first | (intro w hSw; (try dsimp only at hSw); go_simp; done) | (intro w hSw; (try dsimp only at hSw); go_simp; with_reducible rfl))); (try simp only [Act.put, List.getElem_toArray, List.getElem_cons_succ, List.getElem_cons_zero, List.setIfInBounds_toArray, List.set_cons_zero, List.set_cons_succ]))
            refine wpAnyH_ready (rs := [4]) (by kernel_rfl) (by simp) ?_
            refine AllReadyH.cons (o := _) rfl (fun K hK => ?_) AllReadyH.nil
            try simp only [List.getElem_toArray, List.getElem_cons_succ, List.getElem_cons_zero]
            go_simp
            (first
                  | (go_at_call 42; with_reducible refine Calls.mono HPl.out ?_; rintro e w5 ⟨rfl, hw5⟩; rw [hw5])
                  | (refine app_step (by rfl) _ _ _ _ (by rfl) _ _ (by rfl) (by rfl) _ w4 hr4 ?_))
            first | (refine hK.out _ _ (by ((try dsimp only) <;> (first | with_reducible exact hS0 | with_reducible exact hS2 _ | with_reducible exact hS4))) (fun hHeld => ?_)) | (go_wp2_with fail; refine hK.out _ _ (by ((try dsimp only) <;> (first | with_reducible exact hS0 | with_reducible exact hS2 _ | with_reducible exact hS4))) (fun hHeld => ?_))
            clear hK K
            (try simp only [Act.put, List.getElem_toArray, List.getElem_cons_succ, List.getElem_cons_zero, List.setIfInBounds_toArray, List.set_cons_zero, List.set_cons_succ])
            refine wpAnyH_ready (rs := [5]) (by kernel_rfl) (by simp) ?_
            refine AllReadyH.cons (o := _) rfl (fun K hK => ?_) AllReadyH.nil
            try simp only [List.getElem_toArray, List.getElem_cons_succ, List.getElem_cons_zero]
            go_simp
            refine hK.out _ _ (by ((try dsimp only) <;> (first | with_reducible exact hS0 | with_reducible exact hS2 _ | with_reducible exact hS4))) (fun hHeld => ?_)
            clear hK K
            (try simp only [Act.put, List.getElem_toArray, List.getElem_cons_succ, List.getElem_cons_zero, List.setIfInBounds_toArray, List.set_cons_zero, List.set_cons_succ])
            refine wpAnyH_ready (rs := [6]) (by kernel_rfl) (by simp) ?_
            refine AllReadyH.cons (o := _) rfl (fun K hK => ?_) AllReadyH.nil
            (first
                  | (go_at_call 42; with_reducible refine Calls.mono HPl.out ?_; rintro e w5 ⟨rfl, hw5⟩; rw [hw5])
                  | (refine app_step (by rfl) _ _ _ _ (by rfl) _ _ (by rfl) (by rfl) _ w4 hr4 ?_))
            refine hK.out _ _ (by ((try dsimp only) <;> (first | with_reducible exact hS0 | with_reducible exact hS2 _ | with_reducible exact hS4))) (fun hHeld => ?_)
            clear hK K
            (try simp only [Act.put, List.getElem_toArray, List.getElem_cons_succ, List.getElem_cons_zero, List.setIfInBounds_toArray, List.set_cons_zero, List.set_cons_succ])
            (refine wpAnyH_take (i := 7) (oi := _) (v := ?v53) rfl (by kernel_rfl) (by kernel_rfl) (by kernel_rfl) (fun _ _ _ h => h) (Or.inl ⟨by rfl, ?hy53⟩) (by assumption) ?rest53; (case hy53 => (first | (intro w hSw; (try dsimp only at hSw); go_simp; done) | (intro w hSw; (try dsimp only at hSw); go_simp; with_reducible rfl))); (try simp only [Act.put, List.getElem_toArray, List.getElem_cons_succ, List.getElem_cons_zero, List.setIfInBounds_toArray, List.set_cons_zero, List.set_cons_succ]))
            (refine wpAnyH_take (i := 8) (oi := _) (v := ?v54) rfl (by kernel_rfl) (by kernel_rfl) (by kernel_rfl) (fun _ _ _ h => h) (Or.inl ⟨by rfl, ?hy54⟩) (by assumption) ?rest54; (case hy54 => (first | (intro w hSw; (try dsimp only at hSw); go_simp; done) | (intro w hSw; (try dsimp only at hSw); go_simp; with_reducible rfl))); (try simp only [Act.put, List.getElem_toArray, List.getElem_cons_succ, List.getElem_cons_zero, List.setIfInBounds_toArray, List.set_cons_zero, List.set_cons_succ]))
            refine wpAnyH_done (by kernel_rfl) ?_ _
            simp only [muteQ]
            clear hw5 hr4 hS0 hS2
            go_wp2_with fail
            go_roundw
            case rel => exact ⟨j + 1, _, by omega, by go_num, by rw [HNx.out]; exact HF4.out⟩
            case measure => simp [intOf]; omega
          · obtain rfl : j = p.outs.length := by omega
            rw [List.take_length] at F
            have HFo : Hid ((p.outs.map (fun v => (aftAt q p.ops.length).getD v.toNat 0)) = (aftF p q).outs) := rfl
            rw [HFo.out] at F
            obtain ⟨yz, yd, rfl⟩ := own_slice F.out.ru
            obtain ⟨y0, y1, y2⟩ := cell3 F.out.blk
            obtain ⟨r0, r1, r2⟩ := cell3 F.out.bx.r
            have rf := fun k => Lib.frozen_of_heap F.out.bx.r k
            go_wp2_with fail
            have B9 := F.out.bx.setr (.int .i64 q.inp) (.slice ya (q.ops.length + p.ops.length) yc) (.slice yz (aftF p q).outs.length yd)
            have hg := set3_grown wr (w.heap.size + 1 + 1) (.int .i64 q.inp) (.slice ya (q.ops.length + p.ops.length) yc) (.slice yz (aftF p q).outs.length yd)
            refine bodyPost_ret (res_ct (a := 4) (b := 5) rfl rfl rfl (load_prog B9.r)) rfl ⟨_, _, rfl, own_mono (own_kept F.out.ro hg (fun g hg' e => ?_)) (by omega), own_mono (own_kept F.out.ru hg (fun g hg' e => ?_)) (by omega), B9.b⟩
            · exact own_not F.out.ro F.out.bx.r (by decide) (hg'.trans e.symm)
            · exact own_not F.out.ru F.out.bx.r (by decide) (hg'.trans e.symm)

theorem sAfter (w : World) (v1 v2 : Value) (p q : Pr) (h1 : Pm w v1 p) (h2 : Pm w v2 q) : IsAfter 18 v1 v2 w p q := by
  by_cases hE : aftE p q = 0
  · exact sAfter_ok w v1 v2 p q h1 h2 hE
  · exact sAfter_no w v1 v2 p q h1 h2 hE

end Go.Proofs.YtjkialmhajbcfaaDoor
