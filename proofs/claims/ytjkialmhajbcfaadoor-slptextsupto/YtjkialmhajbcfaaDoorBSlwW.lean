/-
  Layer 9: Read's answer; the statements' anchor.
-/
import Derived.Test.YtjkialmhajbcfaaDoorBSlwV
namespace Go.Proofs.YtjkialmhajbcfaaDoor
open Go.RowKit Fld Slp
set_option linter.unusedVariables false
set_option linter.unusedSimpArgs false

theorem opM_ok {o : O4} {own : Int} (h : opM o own = true) (hw : own ≤ 9223372036854775807) (hc : 0 ≤ o.c ∧ o.c ≤ 18446744073709551615) : Ok4 o := by
  unfold opM at h
  split at h
  · rename_i hk
    have := of_decide_eq_true h
    exact ⟨by omega, by omega, by omega, hc⟩
  · split at h
    · rename_i hk
      have := of_decide_eq_true h
      exact ⟨by omega, by omega, by omega, hc⟩
    · cases h
theorem opsM_ok (inp : Int) : ∀ (os : List O4) (i : Nat), opsM inp i os = true → inp + i + os.length ≤ 9223372036854775807 → (∀ o ∈ os, 0 ≤ o.c ∧ o.c ≤ 18446744073709551615) → ∀ o ∈ os, Ok4 o
  | [], _, _, _, _, o, ho => by cases ho
  | x :: os, i, h, hl, hc, o, ho => by
    have h' : (opM x (inp + i) && opsM inp (i + 1) os) = true := h
    rw [Bool.and_eq_true] at h'
    rw [List.length_cons] at hl
    rcases List.mem_cons.1 ho with rfl | ho
    · exact opM_ok h'.1 (by omega) (hc _ (by simp))
    · exact opsM_ok inp os (i + 1) h'.2 (by omega) (fun y hy => hc y (List.mem_cons_of_mem _ hy)) o ho
theorem may_ok {p : Pr} (h : mayB p = true) (hc : Cw p) : (∀ o ∈ p.ops, Ok4 o) ∧ Iw p.outs := by
  obtain ⟨⟨h0, h1, h2, h3⟩, h4, h5⟩ := mayB_iff.1 h
  refine ⟨opsM_ok p.inp p.ops 0 h4 (by omega) hc, fun v hv => ?_⟩
  have := of_decide_eq_true (List.all_eq_true.1 h5 v hv)
  omega
theorem pm_of {w : World} {b1 b2 : Nat} {vo vu : Value} {p : Pr} (ho : w.ownsRow b1 47 4 vo p.ops.length (p.ops.flatMap opw)) (hu : w.ownsRow b2 3 1 vu p.outs.length (p.outs.flatMap iw)) (h : mayB p = true) (hc : Cw p) : Pm w (.agg #[.int .i64 p.inp, vo, vu]) p := by
  obtain ⟨⟨h0, h1, h2, h3⟩, h4, h5⟩ := mayB_iff.1 h
  obtain ⟨h6, h7⟩ := may_ok h hc
  exact ⟨⟨vo, vu, rfl, lm_of_own opw_len (by decide) ho (by omega), lm_of_own iw_len (by decide) hu (by omega)⟩, by omega, h6, h7⟩
theorem pm_nil (w : World) : Pm w (.agg #[.int .i64 0, .slice none 0 0, .slice none 0 0]) pz :=
  ⟨⟨_, _, rfl, ⟨none, 0, rfl, ⟨Nat.le_refl _, by decide, fun _ => rfl⟩, fun h => absurd rfl h⟩, ⟨none, 0, rfl, ⟨Nat.le_refl _, by decide, fun _ => rfl⟩, fun h => absurd rfl h⟩⟩, by decide, (fun o ho => by cases ho), (fun x hx => by cases hx)⟩

/-- What Read answers. -/
def rdE (s : Tx) : Int := if (rdS s).2 = 0 then 0 else 90
def IsRead (N : Nat) (s : Tx) (w : World) : Prop := Calls Tryd.prog N #[tx s] w fun e w' => ∃ v, e = .returned (.tuple #[v, .int .i64 ((rdS s).2 : Int), .int .i64 (rdE s)]) ∧ Pm w' v (rdS s).1 ∧ Below w.heap.size w w'

theorem sRead (s : Tx) (w : World) (hl : s.length ≤ 281474976710656) (hT : Tb9 w) : IsRead 16 s w := by
  unfold IsRead rdE
  refine (sRead1 s w hl hT).mono ?_
  rintro e w' ⟨hb, ⟨st, vo, vu, hr, hw, rfl, ho, hu⟩ | ⟨st, hr, hw, rfl⟩ | ⟨k, hk, hr, ⟨st, hst⟩, rfl⟩⟩
  · have e1 := runs_whole hr hw
    have e2 := text_read (s := s) (by rw [e1])
    rw [e1] at e2 ⊢
    exact ⟨_, rfl, pm_of (p := ⟨st.n, st.ops, st.outs⟩) ho hu e2.1 e2.2.1, hb⟩
  · rw [runs_half hr hw, if_neg (by omega)]
    exact ⟨_, rfl, pm_nil _, hb⟩
  · rw [runs_none hst hk hr, if_neg (by omega)]
    exact ⟨_, rfl, pm_nil _, hb⟩

theorem cell3 {W : World} {b : Nat} {x y z : Value} {T : TypeId} {fz : Nat × Nat} (h : W.heap[b]? = some (.cells #[x, y, z] T fz)) : W.cell? ⟨b, 0, none⟩ = some x ∧ W.cell? ⟨b, 1, none⟩ = some y ∧ W.cell? ⟨b, 2, none⟩ = some z :=
  ⟨by rw [Lib.cell_of_heap h]; rfl, by rw [Lib.cell_of_heap h]; rfl, by rw [Lib.cell_of_heap h]; rfl⟩

/-- The square of an input. -/
def sqP : Pr := ⟨1, [⟨3, 0, 0, 0⟩], [1]⟩
theorem sq_txt : txtT sqP = [105, 110, 112, 117, 116, 115, 32, 49, 10, 116, 48, 32, 61, 32, 120, 48, 32, 42, 32, 120, 48, 10, 111, 117, 116, 115, 32, 116, 48, 10] := by decide +kernel
theorem sq_err : txtE sqP = 0 := by decide +kernel
theorem bad_read : (rdS [105, 110, 112, 117, 116, 115, 32, 48, 49, 10]).2 = 1 := by decide +kernel
theorem bad_err : rdE [105, 110, 112, 117, 116, 115, 32, 48, 49, 10] = 90 := by unfold rdE; rw [bad_read]; rfl

theorem alloc2 (w : World) (A B : Obj) : ((w.alloc A).alloc B).heap[w.heap.size]? = some A ∧ ((w.alloc A).alloc B).heap[w.heap.size + 1]? = some B ∧ Below w.heap.size w ((w.alloc A).alloc B) := by
  have b1 := alloc_below w A
  have n1 := heap_alloc_new w A
  have z1 : (w.alloc A).heap.size = w.heap.size + 1 := by simp
  generalize w.alloc A = w1 at *
  have b2 := alloc_below w1 B
  have n2 := heap_alloc_new w1 B
  rw [z1] at n2
  exact ⟨(b2.block _ (by omega)).trans n1, n2, Below.next b1 b2⟩
theorem alloc3 (w : World) (A B C : Obj) : (((w.alloc A).alloc B).alloc C).heap[w.heap.size]? = some A ∧ (((w.alloc A).alloc B).alloc C).heap[w.heap.size + 1]? = some B ∧ (((w.alloc A).alloc B).alloc C).heap[w.heap.size + 1 + 1]? = some C ∧ Below w.heap.size w (((w.alloc A).alloc B).alloc C) := by
  have b1 := alloc_below w A
  have n1 := heap_alloc_new w A
  have z1 : (w.alloc A).heap.size = w.heap.size + 1 := by simp
  generalize w.alloc A = w1 at *
  have b2 := alloc_below w1 B
  have n2 := heap_alloc_new w1 B
  have z2 : (w1.alloc B).heap.size = w1.heap.size + 1 := by simp
  generalize w1.alloc B = w2 at *
  have b3 := alloc_below w2 C
  have n3 := heap_alloc_new w2 C
  rw [z1] at n2
  rw [z2, z1] at n3
  exact ⟨((b3.block _ (by omega)).trans ((b2.block _ (by omega)).trans n1)), (b3.block _ (by omega)).trans n2, n3, Below.next b1 (Below.next b2 b3)⟩

set_option maxRecDepth 100000 in
set_option maxHeartbeats 400000 in
theorem sSquare (w : World) : Calls Tryd.prog 27 #[] w fun e w' => ∃ v, e = .returned v ∧ Pm w' v sqP ∧ Below w.heap.size w w' := by
  go_enter Tryd.func27, Tryd.ntmps27
  go_wp2
  obtain ⟨h1, h2, h3, hB⟩ := alloc3 w (.cells #[.int .i64 1, .slice (some ⟨w.heap.size + 1, 0, none⟩) 1 1, .slice (some ⟨w.heap.size + 1 + 1, 0, none⟩) 1 1] 25) (.cells #[.int .u8 3, .int .i64 0, .int .i64 0, .int .u64 0] 47) (.cells #[.int .i64 1] 3)
  generalize ((w.alloc (.cells #[.int .i64 1, .slice (some ⟨w.heap.size + 1, 0, none⟩) 1 1, .slice (some ⟨w.heap.size + 1 + 1, 0, none⟩) 1 1] 25)).alloc (.cells #[.int .u8 3, .int .i64 0, .int .i64 0, .int .u64 0] 47)).alloc (.cells #[.int .i64 1] 3) = W at *
  refine bodyPost_ret (res_cell1 (a := 0) (t := 25) (ad := ⟨w.heap.size, 0, none⟩) rfl rfl (load_prog h1)) rfl ?_
  refine ⟨_, rfl, ⟨⟨_, _, rfl, ⟨_, 1, rfl, ⟨Nat.le_refl _, by decide, fun h => by cases h⟩, fun _ => ⟨w.heap.size + 1, 0, rfl, (Array.getElem?_eq_some_iff.1 h2).1, fun i x hx j u hu => ?_⟩⟩, ⟨_, 1, rfl, ⟨Nat.le_refl _, by decide, fun h => by cases h⟩, fun _ => ⟨w.heap.size + 1 + 1, 0, rfl, (Array.getElem?_eq_some_iff.1 h3).1, fun i x hx j u hu => ?_⟩⟩⟩, by decide, (fun o ho => ?_), (fun x hx => ?_)⟩, hB⟩
  · have hi : i = 0 := by
      have := (List.getElem?_eq_some_iff.1 hx).1
      have h1 : (sqP.ops).length = 1 := rfl
      omega
    subst hi
    have hx' : x = ⟨3, 0, 0, 0⟩ := by simpa [sqP] using hx.symm
    subst hx'
    have hj : j < 4 := (List.getElem?_eq_some_iff.1 hu).1
    rw [show 0 + (0 * 4 + j) = j by omega, Lib.cell_of_heap h2]
    match j, hj, hu with
    | 0, _, hu => simpa [opw] using hu
    | 1, _, hu => simpa [opw] using hu
    | 2, _, hu => simpa [opw] using hu
    | 3, _, hu => simpa [opw] using hu
  · have hi : i = 0 := by
      have := (List.getElem?_eq_some_iff.1 hx).1
      have h1 : (sqP.outs).length = 1 := rfl
      omega
    subst hi
    have hx' : x = 1 := by simpa [sqP] using hx.symm
    subst hx'
    have hj : j < 1 := (List.getElem?_eq_some_iff.1 hu).1
    have hj0 : j = 0 := by omega
    subst hj0
    rw [show 0 + (0 * 1 + 0) = 0 by omega, Lib.cell_of_heap h3]
    simpa [iw] using hu
  · have : o = ⟨3, 0, 0, 0⟩ := by simpa [sqP] using ho
    subst this
    unfold Ok4; decide
  · have : x = 1 := by simpa [sqP] using hx
    subst this
    decide

/-- The anchor holds. -/
def Anch9 (w : World) : Prop := Calls Tryd.prog 13 #[] w fun e w' => e = .returned (.bool true) ∧ Below w.heap.size w w'

set_option maxRecDepth 100000 in
set_option maxHeartbeats 400000 in
theorem anch9 (w : World) (hT : Tb9 w) : Anch9 w := by
  unfold Anch9
  have HT := hide hT
  clear hT
  have HS := hide (sSquare w)
  have HX := hide (fun v W (hb : Below w.heap.size w W) (h : Pm W v sqP) => sText v sqP W h (HT.out.below hb))
  unfold IsText at HX
  rw [sq_txt, sq_err] at HX
  have HR := hide (fun W (hb : Below w.heap.size w W) => sRead [105, 110, 112, 117, 116, 115, 32, 48, 49, 10] W (by decide) (HT.out.below hb))
  unfold IsRead at HR
  rw [bad_read, bad_err] at HR
  have hg := tx_guard [105, 110, 112, 117, 116, 115, 32, 49, 10, 116, 48, 32, 61, 32, 120, 48, 32, 42, 32, 120, 48, 10, 111, 117, 116, 115, 32, 116, 48, 10]
  unfold tx at *
  go_enter Tryd.func13, Tryd.ntmps13
  go_wp2_with (first
    | (go_at_call 27; refine HS.out.mono ?_; rintro e w1 ⟨v1, rfl, hp1, hb1⟩)
    | (go_at_call 14; refine (HX.out v1 w1 hb1 hp1).mono ?_; rintro e w2 ⟨rfl, hb2⟩; have hB2 := Below.next hb1 hb2)
    | (go_at_call 16; refine (HR.out w2 hB2).mono ?_; rintro e w3 ⟨v3, rfl, hp3, hb3⟩; obtain ⟨vo, vu, rfl, ho, hu⟩ := hp3.form; obtain ⟨ao, co, rfl, _⟩ := ho.spell; obtain ⟨au, cu, rfl, _⟩ := hu.spell))
  go_ret
  exact ⟨rfl, Below.next (Below.next hB2 hb3) (alloc_below _ _)⟩

end Go.Proofs.YtjkialmhajbcfaaDoor
