/-
  The statements of layer 14: ShareOpens walked.
-/
import Derived.Test.YtnjcljnijgkoiaaGreatBLawHA
import Derived.Test.YtnjcljnijgkoiaaGreatBShdG
namespace Go.Proofs.YtnjcljnijgkoiaaGreat
open Go.RowKit Fld Pln Shr
set_option linter.unusedVariables false
set_option linter.unusedSimpArgs false

theorem dOpen (p : Pn) (vw vs : Value) (who : List Int) (l : List (List Int)) (w : World) (hp : Ok8p p) (h1 : Rws w vs l) (h3 : Lm iw 1 w vw who) :
    Calls Tryz.prog 17 #[plv p, vw, vs] w fun e w' => ∃ v1 v2, e = .returned (.tuple #[v1, v2, .int .i64 (opE p who l)]) ∧ Rws w' v1 (opdL p who l) ∧ Rws w' v2 (oppL p who l) ∧ Below w.heap.size w w' := by
  by_cases hy : mayP p = true ∧ opB p who l = 0
  · exact dOpen_yes p vw vs who l w hp h1 h3 hy.1 hy.2
  · have hno : mayP p = false ∨ (mayP p = true ∧ ¬ opB p who l = 0) := by
      cases hm : mayP p with
      | false => exact .inl rfl
      | true => exact .inr ⟨rfl, fun h => hy ⟨hm, h⟩⟩
    have hz : ¬ opE p who l = 0 := by
      rcases hno with hm | ⟨hm, hb⟩
      · rw [op_no hm]; decide
      · rw [op_ab hm, if_neg hb]; exact hb
    refine (dOpen_no p vw vs who l w hp h1 h3 hno).mono ?_
    rintro e w' ⟨rfl, hb⟩
    exact ⟨_, _, rfl, by rw [(op_none hz).1]; exact rws_nil _, by rw [(op_none hz).2]; exact rws_nil _, hb⟩
theorem opn_wd {p : Pn} {who : List Int} {l : List (List Int)} (w1 : ∀ b ∈ l, Wd b) : ((∀ b ∈ opdL p who l, Wd b) ∧ (opdL p who l).length ≤ 1000) ∧ (∀ b ∈ oppL p who l, Wd b) ∧ (oppL p who l).length ≤ 1000 := by
  unfold opdL oppL
  by_cases hz : opE p who l = 0
  · obtain ⟨q, wd, hm, hf, hbe, hbw, hbl, ne, nn, n64, de, pe', d64, p64, w64, hwho⟩ := op_facts hz w1
    obtain ⟨_, _, _, _, _, _, w0, w1'⟩ := may_facts hm
    rw [if_pos hz, if_pos hz, pOf_eq hf]
    have key : ∀ x, Wd (shr q (nmd p who) p.w.toNat l x) := fun x => wd_els (shr_els hf.pos _ _ _ _) hf.top (by rw [shr_len]; omega)
    refine ⟨⟨fun b hb => ?_, by rw [List.length_map]; omega⟩, fun b hb => ?_, by rw [List.length_map]; omega⟩
    · obtain ⟨x, _, rfl⟩ := List.mem_map.1 hb; exact key x
    · obtain ⟨x, _, rfl⟩ := List.mem_map.1 hb; exact key x
  · rw [if_neg hz, if_neg hz]
    exact ⟨⟨fun b hb => (by cases hb), by simp⟩, fun b hb => (by cases hb), by simp⟩

set_option maxRecDepth 100000 in
set_option maxHeartbeats 1000000 in
theorem shareOpens_any (w : World) (p : Pn) (vw vs : Value) (who : List Int) (l : List (List Int)) (hp : Ok8p p) (h3 : Lm iw 1 w vw who) (h1 : Rws w vs l) : Calls Tryz.prog 4 #[plv p, vw, vs] w fun e w' => e = .returned (.bool true) ∧ Below w.heap.size w w' := by
  have H1 := hide (fun W (hb : Below w.heap.size w W) => gOpen p vw vs who l W hp (h1.below hb) (h3.below hb))
  have H2 := hide (fun W (hb : Below w.heap.size w W) => dOpen p vw vs who l W hp (h1.below hb) (h3.below hb))
  have HX := hide anch14
  obtain ⟨⟨q1, q2⟩, q3, q4⟩ := opn_wd (p := p) (who := who) h1.wordsH
  have WD1 : Hid (∀ W lo v us, Mtx W lo v us (opdL p who l) → Rws W v (opdL p who l)) := fun W lo v us h => h.rws (getD_wd q1) (by omega)
  have WD2 : Hid (∀ W lo v us, Mtx W lo v us (oppL p who l) → Rws W v (oppL p who l)) := fun W lo v us h => h.rws (getD_wd q3) (by omega)
  obtain ⟨pb, hA⟩ := pb_box (w := w) p
  have HS := hide (fun W' (hb : Below (w.alloc (.cells #[.int .u8 p.f, .int .i64 p.n, .int .i64 p.k, .int .i64 p.t, .int .i64 p.s, .int .i64 p.e, .int .i64 p.d, .int .i64 p.w] 24)).heap.size _ W') => (pb.below hb).cells)
  obtain ⟨c0, c1, c2, c3, c4, c5, c6, c7⟩ := pb.cells
  obtain ⟨ad, cd, rfl, _, _, _⟩ := h1
  obtain ⟨ap, cp, rfl, _⟩ := h3.spell
  clear hp q1 q2 q3 q4 pb h3
  generalize opdL p who l = r1 at *
  generalize oppL p who l = r2 at *
  generalize opE p who l = e1 at *
  generalize l.length = nd at *
  generalize who.length = np at *
  rw [plan_eq] at *
  go_enter Tryz.func4, Tryz.ntmps4
  go_upto_region 1 with fail
  generalize w.alloc (.cells #[.int .u8 p.f, .int .i64 p.n, .int .i64 p.k, .int .i64 p.t, .int .i64 p.s, .int .i64 p.e, .int .i64 p.d, .int .i64 p.w] 24) = W0 at *
  go_upto_region 3 with (first
    | (go_at_call 16; refine (H1.out _ hA).mono ?_; rintro e w1 ⟨v1, us1, v2, us2, rfl, x1, x2, hb1⟩; have hC1 := hb1; have hB1 := Below.next hA hC1; have R1 := hide (WD1.out _ _ _ _ x1); have R2 := hide (WD2.out _ _ _ _ x2); obtain ⟨a1, k1, rfl⟩ := own_form x1.row; obtain ⟨a2, k2, rfl⟩ := own_form x2.row; clear x1 x2; clear c0 c1 c2 c3 c4 c5 c6 c7; obtain ⟨c0, c1, c2, c3, c4, c5, c6, c7⟩ := HS.out _ hC1)
    | (go_at_call 17; refine (H2.out _ hB1).mono ?_; rintro e w2 ⟨v3, v4, rfl, x3, x4, hb2⟩; have hB2 := Below.next hB1 hb2; have Q1 := hide (R1.out.below hb2); have Q2 := hide (R2.out.below hb2); have Q3 := hide x3; have Q4 := hide x4; obtain ⟨a3, k3, rfl, _⟩ := x3; obtain ⟨a4, k4, rfl, _⟩ := x4))
  clear R1 R2 WD1 WD2 H1 H2 c0 c1 c2 c3 c4 c5 c6 c7 HS
  go_wp2_with (first
    | (go_at_call 13; with_reducible refine (Rows_h _ _ _ _ (Q2.out.below hb7) (Q4.out.below hb7)).mono ?_; rintro e w8 ⟨rfl, hb8⟩; have hB8 := Below.next hB7 hb8)
    | (go_at_call 13; with_reducible refine (Rows_h _ _ _ _ Q1.out Q3.out).mono ?_; rintro e w7 ⟨rfl, hb7⟩; have hB7 := Below.next hB2 hb7)
    | (go_at_call 15; refine (HX.out _).mono ?_; rintro e w10 ⟨rfl, hb10⟩; have hB10 := Below.next hB8 hb10))
  go_ret
  exact ⟨rfl, hB10⟩

end Go.Proofs.YtnjcljnijgkoiaaGreat
