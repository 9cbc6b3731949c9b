import Derived.Test.YtjhididlcdepdaaGreatBRgnD
import Derived.Test.YtjhididlcdepdaaGreatBLodA
set_option linter.unusedVariables false
set_option linter.unusedSimpArgs false
set_option maxRecDepth 100000
set_option maxHeartbeats 4000000
namespace Go.Proofs.YtjhididlcdepdaaGreat
open Go.RowKit Fld Pln
theorem gIsWorker (p : Pn) (i : Int) : Ans 37 #[plv p, .int .i64 i] (.bool (isW p i)) := by
 intro w
 obtain ⟨pb, hA⟩ := pb_box (w := w) p
 obtain ⟨c0, c1, c2, c3, c4, c5, c6, c7⟩ := pb.cells
 unfold plv plw isW
 by_cases h : 0 <= i
 · go_enter Tryz.func37, Tryz.ntmps37
   go_wp2
   go_ret
   exact ⟨by simp [h], hA⟩
 · go_enter Tryz.func37, Tryz.ntmps37
   go_wp2
   go_ret
   exact ⟨by simp; omega, hA⟩
theorem gMayAsk (p : Pn) (n : Int) (hp : Ok8p p) : Ans 36 #[plv p, .int .i64 n] (.bool (asB p n)) := by
 intro w
 have HM := hide (gMay p hp)
 obtain ⟨pb, hA⟩ := pb_box (w := w) p
 obtain ⟨c0, c1, c2, c3, c4, c5, c6, c7⟩ := pb.cells
 unfold asB
 generalize mayP p = b0 at *
 unfold plv plw at *
 cases b0 with
 | false =>
  go_enter Tryz.func36, Tryz.ntmps36
  go_wp2_with (go_at_call 43; refine (HM.out _).mono ?_; rintro e w1 ⟨rfl, hb1⟩)
  go_ret
  exact ⟨by simp, Below.next hA hb1⟩
 | true =>
  by_cases h : 0 <= n
  · go_enter Tryz.func36, Tryz.ntmps36
    go_wp2_with (go_at_call 43; refine (HM.out _).mono ?_; rintro e w1 ⟨rfl, hb1⟩)
    go_ret
    exact ⟨by simp [h], Below.next hA hb1⟩
  · go_enter Tryz.func36, Tryz.ntmps36
    go_wp2_with (go_at_call 43; refine (HM.out _).mono ?_; rintro e w1 ⟨rfl, hb1⟩)
    go_ret
    exact ⟨by simp; omega, Below.next hA hb1⟩
theorem fi_cases (f : Int) : (∃ p wd, Fi f p wd) ∨ ∀ xs, inF f xs = false := by
 by_cases h1 : f = 1
 · exact .inl ⟨_, _, .inl ⟨h1, rfl, rfl⟩⟩
 · by_cases h2 : f = 2
   · exact .inl ⟨_, _, .inr ⟨h2, rfl, rfl⟩⟩
   · exact .inr fun xs => by unfold inF; rw [if_neg h1, if_neg h2]
theorem agE_els {f : Int} {P : List Int} (hl : P.length <= 4096) : agE f P [] [] = 0 ↔ inF f P = true := by
 unfold agE
 rcases fi_cases f with ⟨p, wd, hf⟩ | h
 · have e1 : bad f [] [] ([] : List Int).length = 0 := by
    rw [bad_end (by rw [inF_yes hf]; rfl) (by rw [inF_yes hf]; rfl) rfl (by decide), if_pos List.nodup_nil]
   rw [e1]
   show er f P [0] = 0 ↔ _
   constructor
   · intro h
     obtain ⟨q, wd', hq, g1, _⟩ := er_zero h
     rw [inF_yes hq]; exact g1
   · intro h
     rw [inF_yes hf] at h
     exact er_yes hf h (by
      have := hf.big
      refine allIn_of (fun x hx => ?_)
      rw [List.mem_singleton.1 hx]
      exact ⟨by omega, by omega⟩) hl (by decide)
 · rw [h P]
   have e1 : bad f [] [] ([] : List Int).length = 2 := by unfold bad; rw [h]; rfl
   rw [e1]
   constructor
   · intro h0
     exfalso
     unfold fst2 at h0
     rw [if_neg (by decide)] at h0
     by_cases g : er f P [0] = 0
     · rw [if_pos g] at h0; exact absurd h0 (by decide)
     · rw [if_neg g] at h0
       split at h0
       · exact g h0
       · exact absurd h0 (by decide)
   · intro h0; cases h0
theorem row_nilR (w : World) : Rw w (.slice none 0 0) [] := rw_of_own (World.ownsRow_nil w 0 64 1) (by simp) (by simp)
theorem gAreElements (f : Int) (v : Value) (xs : List Int) (w : World) (h : Rw w v xs) (hl : xs.length <= 4096) : Calls Tryz.prog 38 #[.int .u8 f, v] w fun e w' => e = .returned (.bool (inF f xs)) ∧ Below w.heap.size w w' := by
 have HG := hide (gAgree f v _ _ xs [] [] w h (row_nilR w) (row_nilR w))
 have HE := hide (agE_els (f := f) hl)
 obtain ⟨ao, cap, rfl, _⟩ := h.spell
 clear h
 generalize agE f xs [] [] = e0 at *
 generalize agV f xs [] [] = v0 at *
 by_cases h0 : e0 = 0
 · have HR := hide (HE.out.1 h0)
   go_enter Tryz.func38, Tryz.ntmps38
   go_wp2_with (go_at_call 47; refine HG.out.mono ?_; rintro e w1 ⟨rfl, hb1⟩)
   go_ret
   exact ⟨by rw [HR.out]; simp [h0], hb1⟩
 · have HR : Hid (inF f xs = false) := by
    cases hc : inF f xs with
    | false => rfl
    | true => exact absurd (HE.out.2 hc) h0
   go_enter Tryz.func38, Tryz.ntmps38
   go_wp2_with (go_at_call 47; refine HG.out.mono ?_; rintro e w1 ⟨rfl, hb1⟩)
   go_ret
   exact ⟨by rw [HR.out]; simp [h0], hb1⟩
theorem plan_eq8 (p : Pn) : plv p = .agg #[.int .u8 p.f, .int .i64 p.n, .int .i64 p.k, .int .i64 p.t, .int .i64 p.s, .int .i64 p.e, .int .i64 p.d, .int .i64 p.w] := rfl
theorem rp_box (w : World) (i : Int) (v : Value) : (w.alloc (.cells #[.int .i64 i, v] 38)).cell? ⟨w.heap.size, 0, none⟩ = some (.int .i64 i) ∧ (w.alloc (.cells #[.int .i64 i, v] 38)).cell? ⟨w.heap.size, 1, none⟩ = some v ∧ Below w.heap.size w (w.alloc (.cells #[.int .i64 i, v] 38)) := by
 have hh := heap_alloc_new w (.cells #[.int .i64 i, v] 38)
 exact ⟨by rw [cell_of_row _ _ _ _ _ _ hh]; rfl, by rw [cell_of_row _ _ _ _ _ _ hh]; rfl, alloc_below _ _⟩
theorem gMayReply (p : Pn) (n : Int) (i : Int) (v : Value) (vs : List Int) (w : World) (hp : Ok8p p) (h : Rw w v vs) : Calls Tryz.prog 10 #[plv p, .int .i64 n, .agg #[.int .i64 i, v]] w fun e w' => e = .returned (.bool (mrB p n ⟨i, vs⟩)) ∧ Below w.heap.size w w' := by
 have HA := hide (fun W => gMayAsk p n hp W)
 have HW := hide (fun W => gIsWorker p i W)
 have HE : Hid (∀ W, asB p n = true -> (vs.length : Int) = n -> Below w.heap.size w W -> Calls Tryz.prog 38 #[.int .u8 p.f, v] W fun e w' => e = .returned (.bool (inF p.f vs)) ∧ Below W.heap.size W w') := fun W ha hl hb => gAreElements p.f v vs W (h.below hb) (by have := asB_iff.1 ha; omega)
 obtain ⟨pb, hA⟩ := pb_box (w := w) p
 obtain ⟨d0, d1, hD⟩ := rp_box (w.alloc (.cells #[.int .u8 p.f, .int .i64 p.n, .int .i64 p.k, .int .i64 p.t, .int .i64 p.s, .int .i64 p.e, .int .i64 p.d, .int .i64 p.w] 24)) i v
 have pb2 := pb.below hD
 have hA2 := Below.next hA hD
 obtain ⟨ao, cap, rfl, _⟩ := h.spell
 have hsz : (w.alloc (.cells #[.int .u8 p.f, .int .i64 p.n, .int .i64 p.k, .int .i64 p.t, .int .i64 p.s, .int .i64 p.e, .int .i64 p.d, .int .i64 p.w] 24)).heap.size = w.heap.size + 1 := by simp
 rw [hsz] at d0 d1
 clear h pb hD hA hsz
 unfold mrB
 dsimp only
 generalize asB p n = b0 at *
 generalize isW p i = b1 at *
 generalize inF p.f vs = b3 at *
 generalize vs.length = m at *
 have HC : Hid (∀ W', Below ((w.alloc (.cells #[.int .u8 p.f, .int .i64 p.n, .int .i64 p.k, .int .i64 p.t, .int .i64 p.s, .int .i64 p.e, .int .i64 p.d, .int .i64 p.w] 24)).alloc (.cells #[.int .i64 i, .slice ao m cap] 38)).heap.size ((w.alloc (.cells #[.int .u8 p.f, .int .i64 p.n, .int .i64 p.k, .int .i64 p.t, .int .i64 p.s, .int .i64 p.e, .int .i64 p.d, .int .i64 p.w] 24)).alloc (.cells #[.int .i64 i, .slice ao m cap] 38)) W' -> Pb W' w.heap.size p ∧ W'.cell? ⟨w.heap.size + 1, 0, none⟩ = some (.int .i64 i) ∧ W'.cell? ⟨w.heap.size + 1, 1, none⟩ = some (.slice ao m cap)) := fun W' hb => ⟨pb2.below hb, (hb.cell (p := ⟨w.heap.size + 1, 0, none⟩) (cell_in d0)).trans d0, (hb.cell (p := ⟨w.heap.size + 1, 1, none⟩) (cell_in d1)).trans d1⟩
 obtain ⟨c0, c1, c2, c3, c4, c5, c6, c7⟩ := pb2.cells
 clear pb2
 unfold plv plw at *
 have hcs : b0 = false ∨ (b0 = true ∧ b1 = false) ∨ (b0 = true ∧ b1 = true ∧ ¬ (m : Int) = n) ∨ (b0 = true ∧ b1 = true ∧ (m : Int) = n) := by
  by_cases e : (m : Int) = n <;> cases b0 <;> cases b1 <;> simp [e]
 rcases hcs with rfl | ⟨rfl, rfl⟩ | ⟨rfl, rfl, e⟩ | ⟨rfl, rfl, e⟩
 all_goals
  try have HE2 := hide (fun W => HE.out W rfl e)
  go_enter Tryz.func10, Tryz.ntmps10
  go_upto_region 1 with fail
  generalize (w.alloc (.cells #[.int .u8 p.f, .int .i64 p.n, .int .i64 p.k, .int .i64 p.t, .int .i64 p.s, .int .i64 p.e, .int .i64 p.d, .int .i64 p.w] 24)).alloc (.cells #[.int .i64 i, .slice ao m cap] 38) = W0 at *
  go_wp2_with (first
   | (go_at_call 36; refine (HA.out _).mono ?_; rintro e w1 ⟨rfl, hb1⟩; obtain ⟨pb1, d10, d11⟩ := HC.out _ hb1; clear c0 c1 c2 c3 c4 c5 c6 c7 d0 d1; obtain ⟨c0, c1, c2, c3, c4, c5, c6, c7⟩ := pb1.cells)
   | (go_at_call 37; refine (HW.out _).mono ?_; rintro e w2 ⟨rfl, hb2⟩; have hb21 := Below.next hb1 hb2; obtain ⟨pb2, d20, d21⟩ := HC.out _ hb21; clear c0 c1 c2 c3 c4 c5 c6 c7 d10 d11; obtain ⟨c0, c1, c2, c3, c4, c5, c6, c7⟩ := pb2.cells)
   | (go_at_call 38; refine (HE2.out _ (Below.next hA2 hb21)).mono ?_; rintro e w3 ⟨rfl, hb3⟩))
  go_ret
 · exact ⟨by simp, Below.next hA2 hb1⟩
 · exact ⟨by simp, Below.next hA2 hb21⟩
 · exact ⟨by simp [e], Below.next hA2 hb21⟩
 · exact ⟨by simp [e], Below.next hA2 (Below.next hb21 hb3)⟩
end Go.Proofs.YtjhididlcdepdaaGreat
