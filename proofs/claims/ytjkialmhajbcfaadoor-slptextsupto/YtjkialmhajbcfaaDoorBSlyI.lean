/-
  Layer 9: the document's Read.
-/
import Derived.Test.YtjkialmhajbcfaaDoorBSlyF
import Derived.Test.YtjkialmhajbcfaaDoorBunA
import Derived.Test.YtjkialmhajbcfaaDoorBunE
import Derived.Test.YtjkialmhajbcfaaDoorBSlwW
namespace Go.Proofs.YtjkialmhajbcfaaDoor
open Go.RowKit Fld Slp
set_option linter.unusedVariables false
set_option linter.unusedSimpArgs false

theorem rl_txt {w W : World} {b8 : Nat} {inp : Int} {vo vu : Value} {ops : List O4} {outs : List Int} {b off n cap : Nat} {tl : List Tx} (h : Rr w W b8 inp vo vu ops outs (.slice (some ⟨b, off, none⟩) n cap) tl) (hl : tl.length ≤ 2000000) {j : Nat} (hj : j < tl.length) : W.cell? ⟨b, off + j, none⟩ = some (tx tl[j]) :=
  (lm_of_own sw_len (by decide) h.rl (by omega)).txt (Below.refl _ W) hj

theorem ends_le : ∀ (ls : List Tx), ∀ l ∈ ls, l.length ≤ (ends ls).length
  | [], l, h => by cases h
  | x :: ls, l, h => by
    rw [ends_cons]
    rcases List.mem_cons.1 h with rfl | h
    · simp
    · have := ends_le ls l h
      simp; omega
theorem pcs_le (c : UInt8) (l : Tx) : (pcs c l).length ≤ l.length + 1 := by
  have key : ∀ l : Tx, (pst c l).1.length ≤ l.length := by
    apply rev_ind
    · exact Nat.le_refl _
    · intro l x ih
      rw [pst_snoc]
      unfold cutS
      split
      · simp; omega
      · simp; omega
  have := key l
  unfold pcs
  simp; omega
theorem set4_blk {W : World} {g : Nat} {a b c d : Value} (h : W.heap[g]? = some (.cells #[a, b, c, d] 47 (0, 0))) (o : O4) : (set4 W g 0 o).heap[g]? = some (.cells #[.int .u8 o.k, .int .i64 o.a, .int .i64 o.b, .int .u64 o.c] 47 (0, 0)) := set_blk (set_blk (set_blk (set_blk h 0 _) 1 _) 2 _) 3 _
theorem pcs_some (c : UInt8) (l : Tx) : pcs c l ≠ [] := by unfold pcs; simp
/-- What the first line's words are. -/
theorem hd_shapes (l : Tx) : (∃ x, pcs 32 l = [[105, 110, 112, 117, 116, 115], x] ∧ hdP l = nmb x 64) ∨ ((∃ y x, pcs 32 l = [y, x] ∧ ¬ y = [105, 110, 112, 117, 116, 115]) ∧ hdP l = none) ∨ (¬ (pcs 32 l).length = 2 ∧ hdP l = none) := by
  unfold hdP
  match pcs 32 l with
  | [] => exact .inr (.inr ⟨by simp, rfl⟩)
  | [_] => exact .inr (.inr ⟨by simp, rfl⟩)
  | [y, x] =>
    by_cases h : y = [105, 110, 112, 117, 116, 115]
    · subst h; exact .inl ⟨x, rfl, if_pos rfl⟩
    · exact .inr (.inl ⟨⟨y, x, rfl, h⟩, if_neg h⟩)
  | _ :: _ :: _ :: _ => exact .inr (.inr ⟨by simp, rfl⟩)
theorem res_ctt {P : Program} {fn : Func} {tmps : Array Value} {w : World} {a b c : Nat} {t : TypeId} {ad : Addr} {v u x : Value} (hr : fn.results = #[.cell a t, .tmp b, .tmp c]) (ha : tmps.getD a undef = .pointer (some ad)) (hb : tmps.getD b undef = u) (hc : tmps.getD c undef = x) (hl : (loadVar t ad).run P w = .ok v w) :
    (results fn tmps).run P w = .ok (.tuple #[v, u, x]) w := by
  have ha2 : tmps[a]?.getD undef = .pointer (some ad) := by rw [← ha]; simp
  have hb2 : tmps[b]?.getD undef = u := by rw [← hb]; simp
  have hc2 : tmps[c]?.getD undef = x := by rw [← hc]; simp
  simp [results, hr, ha2, hb2, hc2, asAddr, hl]
theorem pm_pz (W : World) : Pm W (.agg #[.int .i64 0, .slice none 0 0, .slice none 0 0]) pz :=
  ⟨⟨_, _, rfl, ⟨none, 0, rfl, ⟨Nat.le_refl _, by decide, fun _ => rfl⟩, fun h => absurd rfl h⟩, ⟨none, 0, rfl, ⟨Nat.le_refl _, by decide, fun _ => rfl⟩, fun h => absurd rfl h⟩⟩, by decide, (fun o ho => by cases ho), fun x hx => by cases hx⟩
/-- The answer's block written, and read. -/
theorem Rr.fin {w W : World} {b8 : Nat} {inp : Int} {vo vu : Value} {ops : List O4} {outs : List Int} {vl : Value} {tl : List Tx} (h : Rr w W b8 inp vo vu ops outs vl tl) (x y z : Value) : (loadVar 25 ⟨w.heap.size, 0, none⟩).run Tryd.prog (((W.setCell ⟨w.heap.size, 0, none⟩ x).setCell ⟨w.heap.size, 1, none⟩ y).setCell ⟨w.heap.size, 2, none⟩ z) = .ok (.agg #[x, y, z]) (((W.setCell ⟨w.heap.size, 0, none⟩ x).setCell ⟨w.heap.size, 1, none⟩ y).setCell ⟨w.heap.size, 2, none⟩ z) ∧ Below w.heap.size w (((W.setCell ⟨w.heap.size, 0, none⟩ x).setCell ⟨w.heap.size, 1, none⟩ y).setCell ⟨w.heap.size, 2, none⟩ z) ∧
    (∀ T s v n xs, 25 ≠ T → W.ownsRow (w.heap.size + 1) T s v n xs → (((W.setCell ⟨w.heap.size, 0, none⟩ x).setCell ⟨w.heap.size, 1, none⟩ y).setCell ⟨w.heap.size, 2, none⟩ z).ownsRow (w.heap.size + 1) T s v n xs) := by
  have hs := set3_grown W w.heap.size x y z
  exact ⟨load_prog (set_blk (set_blk (set_blk h.br 0 x) 1 y) 2 z), h.bl.grown hs h.bl.size (fun k e => by cases e; exact Nat.le_refl _), fun T s v n xs hT hv => own_kept hv hs (fun g hg e => own_not hv h.br hT (hg.trans e.symm))⟩

set_option maxRecDepth 100000 in
set_option maxHeartbeats 2000000 in
theorem dRead (s : Tx) (w : World) (hl : s.length ≤ 1048576) (hT : Tb9 w) : IsRead 17 s w := by
  unfold IsRead
  have HTb := hide (fun W (hb : Below w.heap.size w W) => hT.below hb)
  clear hT
  have HPc : Hid (∀ W, Calls Tryd.prog 37 #[tx s, .int .u8 10] W fun e w' => ∃ a k, e = .returned (.slice a (pcs 10 s).length k) ∧ w'.ownsRow W.heap.size 9 1 (.slice a (pcs 10 s).length k) (pcs 10 s).length ((pcs 10 s).flatMap sw) ∧ Below W.heap.size W w') := fun W => dPieces W s 10 (by omega)
  have HEn := hide (pst_ends s)
  have HDI := hide (di_zero (pst 10 s).1 (pst 10 s).2)
  have HLn : Hid (∀ l ∈ (pst 10 s).1, l.length ≤ 1048576) := fun l h => by
    have h1 := ends_le _ l h
    have h2 := congrArg List.length HEn.out
    rw [List.length_append] at h2
    omega
  have HR : Hid (rdT (pst 10 s).1 (pst 10 s).2 = rdS s) := rfl
  have HRe : Hid (rdE s = if (rdS s).2 = 0 then 0 else 90) := rfl
  have hpl : (pcs 10 s).length = (pst 10 s).1.length + 1 := by unfold pcs; simp
  have HPq : Hid (pcs 10 s = (pst 10 s).1 ++ [(pst 10 s).2]) := rfl
  have HLl : Hid ((pst 10 s).1.length ≤ s.length) := by
    have := PcI.len (c := 10) (s := s) (i := s.length) (f := s.length - (pst 10 s).2.length) (A := (pst 10 s).1) ⟨by omega, by
      obtain ⟨pre, hp⟩ := pst_tail 10 s
      rw [List.take_length]
      have : s.length = pre.length + (pst 10 s).2.length := by rw [← List.length_append, ← hp]
      rw [this, Nat.add_sub_cancel]
      conv => lhs; rw [hp]
      exact List.drop_left, by rw [List.take_length]⟩ (Nat.le_refl _)
    exact this
  rw [HR.out] at HDI
  rw [hpl, HPq.out] at HPc
  generalize (pst 10 s).1 = ls at *
  generalize (pst 10 s).2 = rest at *
  generalize hRR : rdS s = R at *
  generalize rdE s = re at *
  clear hRR HPq HR hpl
  have hls : ls.length ≤ 1048576 := Nat.le_trans HLl.out hl
  have hA := alloc_below w (.cells #[.int .i64 0, .slice none 0 0, .slice none 0 0] 25)
  have hN := heap_alloc_new w (.cells #[.int .i64 0, .slice none 0 0, .slice none 0 0] 25)
  go_enter Tryd.func17, Tryd.ntmps17
  go_upto_region 2 with (go_at_call 37; refine (HPc.out _).mono ?_; rintro e w1 ⟨a5, k5, rfl, ho5, hb5⟩; have hB1 := Below.next hA hb5; have n1 := (hb5.block _ (Array.getElem?_eq_some_iff.1 hN).1).trans hN)
  obtain ⟨b, off, cap, hv, hcap, hbl⟩ := (lm_of_own sw_len (by decide) ho5 (by simp; omega)).form (by simp)
  injection hv with hv1 hv2 hv3
  subst hv1 hv3
  clear hv2
  have HO5 := hide (own_mono ho5 (show w.heap.size + 1 ≤ _ by simp))
  have HB1 := hide hB1
  have HN1 := hide n1
  have hcap' : ls.length + 1 ≤ k5 := by simpa using hcap
  have HLm5 := hide (fun W (hb : Below w1.heap.size w1 W) j (hj : j < (ls ++ [rest]).length) => (lm_of_own sw_len (by decide) ho5 (by simp; omega)).txt hb hj)
  clear ho5 hB1 n1 hb5 hcap hN hA HPc hbl
  have hw1 : IntKind.i64.wrap ((ls.length : Int) + 1 - 1) = (ls.length : Int) := by rw [IntKind.wrap_i64]; omega
  have hw2 : IntKind.i64.wrap (ls.length : Int) = (ls.length : Int) := by rw [IntKind.wrap_i64]; omega
  have hc0 : (0 : Int) ≤ (ls.length : Int) := by omega
  have hc1 : (ls.length : Int) ≤ (k5 : Int) := by omega
  go_wp2_with fail
  go_loopw [6, 7] (fun vr vi wr => ∃ (i : Nat) (t : Tx), i ≤ ls.length ∧ vi = .int .i64 i ∧ vr = tx t ∧ Hid (t = ends (ls.drop i) ++ rest) ∧ t.length ≤ 1048576 ∧ wr = w1) (fun _ vi _ => ls.length - (intOf vi).toNat)
  case atStart => exact ⟨0, s, Nat.zero_le _, rfl, rfl, HEn.out, hl, rfl⟩
  case round =>
    obtain ⟨i, t, hi, rfl, rfl, HTt, htl, rfl⟩ := hrel
    by_cases hlt : i < ls.length
    · have hj : i < (ls ++ [rest]).length := by simp; omega
      have cx := HLm5.out wr (Below.refl _ wr) i hj
      rw [List.getElem_append_left hlt] at cx
      have HTs := hide (show t = ls[i] ++ 10 :: (ends (ls.drop (i + 1)) ++ rest) by rw [HTt.out, drop_at ls hlt, ends_cons]; simp)
      have gl := tx_len ls[i]
      have hle : ls[i].length + 1 ≤ t.length := by rw [HTs.out]; simp only [List.length_append, List.length_cons]; omega
      have gf := tx_from t ((ls[i].length : Int) + 1) (by omega) (by omega)
      have HDr : Hid (t.drop ((ls[i].length : Int) + 1).toNat = ends (ls.drop (i + 1)) ++ rest) := by
        show _ = _
        rw [show ((ls[i].length : Int) + 1).toNat = ls[i].length + 1 by omega, HTs.out, ← List.drop_drop, List.drop_left]; rfl
      rw [HDr.out] at gf
      have hdl : (ends (ls.drop (i + 1)) ++ rest).length ≤ 1048576 := by rw [← HDr.out, List.length_drop]; omega
      have hwl : IntKind.i64.wrap ((ls[i].length : Int) + 1) = (ls[i].length : Int) + 1 := by rw [IntKind.wrap_i64]; omega
      obtain ⟨t2, HT2⟩ : ∃ t2, Hid (t2 = ends (ls.drop (i + 1)) ++ rest) := ⟨_, rfl⟩
      rw [← HT2.out] at gf hdl
      generalize ls[i] = li at *
      have hi0 : (0 : Int) ≤ (i : Int) := by omega
      have hi1 : (i : Int) < (ls.length : Int) := by omega
      clear hle hj
      go_wp2_with fail
      go_roundw
      case rel => exact ⟨i + 1, t2, by omega, by go_num, rfl, HT2, hdl, by first | rfl | trivial⟩
      case measure => simp [intOf]; omega
    · obtain rfl : i = ls.length := by omega
      have ht9 : t = rest := by rw [HTt.out, List.drop_length]; rfl
      subst ht9
      have hRr0 : Rr w (wr.alloc (.cells #[.int .i64 0, .slice none 0 0, .slice none 0 0] 25)) wr.heap.size 0 (.slice none 0 0) (.slice none 0 0) [] [] (.slice (some ⟨b, off, none⟩) (ls.length + 1) k5) (ls ++ [t]) := by
        have hA := alloc_below wr (.cells #[.int .i64 0, .slice none 0 0, .slice none 0 0] 25)
        refine ⟨(hA.block _ (Array.getElem?_eq_some_iff.1 HN1.out).1).trans HN1.out, heap_alloc_new wr _, (Array.getElem?_eq_some_iff.1 HN1.out).1, own_nil _ _ _ _, own_nil _ _ _ _, ?_, Below.next HB1.out hA⟩
        have := own_kept HO5.out (below_own hA) (fun g _ => by simp)
        rw [List.length_append]; exact this
      go_wp2_with fail
      have HRr0 := hide hRr0
      clear hRr0 HO5 HB1 HN1 HLm5 HTt HEn htl
      generalize wr.alloc (.cells #[.int .i64 0, .slice none 0 0, .slice none 0 0] 25) = V at *
      generalize wr.heap.size = b8 at *
      go_loopw [9, 10] (fun vd vi wx => ∃ (i : Nat) (d : Bool) (inp : Int) (vo vu : Value) (ops : List O4) (outs : List Int), i ≤ ls.length ∧ vi = .int .i64 i ∧ vd = .bool d ∧ Hid (DI R ls t i d inp ops outs) ∧ Hid (Iw outs) ∧ outs.length ≤ 64 ∧ Hid (Rr w wx b8 inp vo vu ops outs (.slice (some ⟨b, off, none⟩) (ls.length + 1) k5) (ls ++ [t]))) (fun _ vi _ => ls.length - (intOf vi).toNat)
      case atStart => exact ⟨0, false, 0, _, _, [], [], Nat.zero_le _, rfl, rfl, HDI, (fun x hx => by cases hx), by decide, HRr0⟩
      case round =>
        clear HRr0 HDI hi hlt
        obtain ⟨i, d, inp, vo, vu, ops, outs, hi, rfl, rfl, HD, HIw, hol, HRr⟩ := hrel
        obtain ⟨vao, vco, hvo⟩ := own_slice HRr.out.ro
        obtain ⟨vau, vcu, hvu⟩ := own_slice HRr.out.ru
        subst hvo hvu
        by_cases hlt : i < ls.length
        · have hj : i < (ls ++ [t]).length := by simp; omega
          have cl := rl_txt HRr.out (by simp; omega) hj
          rw [List.getElem_append_left hlt] at cl
          have hll : ls[i].length ≤ 1048576 := HLn.out _ (List.getElem_mem hlt)
          have HPl : Hid (∀ W, Calls Tryd.prog 37 #[tx ls[i], .int .u8 32] W fun e w' => ∃ a k, e = .returned (.slice a (pcs 32 ls[i]).length k) ∧ w'.ownsRow W.heap.size 9 1 (.slice a (pcs 32 ls[i]).length k) (pcs 32 ls[i]).length ((pcs 32 ls[i]).flatMap sw) ∧ Below W.heap.size W w') := fun W => dPieces W ls[i] 32 (by omega)
          obtain ⟨wl, HWl⟩ : ∃ wl, Hid (pcs 32 ls[i] = wl) := ⟨pcs 32 ls[i], (rfl : pcs 32 ls[i] = pcs 32 ls[i])⟩
          rw [HWl.out] at HPl
          have hi0 : (0 : Int) ≤ (i : Int) := by omega
          have hi1 : (i : Int) < (ls.length : Int) := by omega
          clear hj
          go_upto_block 4 with (go_at_call 37; refine (HPl.out _).mono ?_; rintro e w2 ⟨a11, k11, rfl, ho11, hb11⟩; have HR2 := hide (HRr.out.below hb11); have HO11 := hide (own_mono ho11 HRr.out.size); clear ho11)
          go_cut [9, 12, 13, 14, 15] from 49 to 132 (fun v9 v12 v13 v14 v15 wx => ∃ (ok d' : Bool) (inp' : Int) (vo' vu' : Value) (ops' : List O4) (outs' : List Int), v9 = .bool d' ∧ v12 = .bool ok ∧ Hid (ok = true → DI R ls t (i + 1) d' inp' ops' outs' ∧ Iw outs' ∧ outs'.length ≤ 64) ∧ Hid (ok = false → R = (pz, i + 1)) ∧ Hid (Rr w wx b8 inp' vo' vu' ops' outs' (.slice (some ⟨b, off, none⟩) (ls.length + 1) k5) (ls ++ [t])))
          case first =>
            obtain ⟨p0, p1, p2⟩ := cell3 HR2.out.bp
            have pf := fun k => Lib.frozen_of_heap HR2.out.bp k
            by_cases h0 : i = 0
            · subst h0
              obtain ⟨rfl, rfl, rfl, rfl, _⟩ := HD.out.zero rfl
              obtain ⟨HDs, HDn⟩ := HD.out.first hlt
              have HFs := hide HDs
              have HFn := hide HDn
              clear HDs HDn HRr HIw HD
              have HSt := hide (fun n => HR2.out.inp n)
              rcases hd_shapes ls[0] with ⟨x, hp, hh⟩ | ⟨⟨y, x, hp, hy⟩, hh⟩ | ⟨hp, hh⟩
              · rw [HWl.out] at hp
                subst hp
                obtain ⟨bw, ow, kw, hvw, _, _⟩ := (lm_of_own sw_len (by decide) HO11.out (by simp)).form (by simp)
                injection hvw with hv1 hv2 hv3
                subst hv1
                clear hv2 hv3
                have c0 : w2.cell? ⟨bw, ow, none⟩ = some (.string ⟨#[105, 110, 112, 117, 116, 115]⟩) := (lm_of_own sw_len (by decide) HO11.out (by simp)).txt (Below.refl _ w2) (j := 0) (by simp)
                have c1 : w2.cell? ⟨bw, ow + 1, none⟩ = some (tx x) := (lm_of_own sw_len (by decide) HO11.out (by simp)).txt (Below.refl _ w2) (j := 1) (by simp)
                have hx9 : x.length ≤ 281474976710656 := by
                  have h1 := jnt_len (c := 32) (rs := pcs 32 ls[0]) x (by rw [HWl.out]; simp)
                  rw [jnt_pcs] at h1; omega
                have HNu : Hid (Calls Tryd.prog 38 #[tx x, .int .u64 64] w2 fun e w' => e = .returned (.tuple #[.int .u64 (nmN x 64 : Int), .bool (nmO x 64)]) ∧ w' = w2) := dNumber w2 x 64 (by decide) hx9
                have hle := nmN_le x 64
                have hwn : IntKind.i64.wrap (nmN x 64 : Int) = (nmN x 64 : Int) := by rw [IntKind.wrap_i64]; omega
                have HT : Hid (nmO x 64 = true → DI R ls t (0 + 1) false (nmN x 64 : Int) [] []) := fun h => by
                  cases hn : nmb x 64 with
                  | none => rw [(nm_no hn).2] at h; cases h
                  | some n => rw [(nm_yes hn).1]; exact HFs.out n (by rw [hh, hn])
                have HF : Hid (nmO x 64 = false → R = (pz, 0 + 1)) := fun h => by
                  cases hn : nmb x 64 with
                  | none => exact HFn.out (by rw [hh, hn])
                  | some n => rw [(nm_yes hn).2] at h; cases h
                generalize nmO x 64 = nb at *
                generalize (nmN x 64 : Int) = nn at *
                clear hh
                go_wp2_with (go_at_call 38; refine HNu.out.mono ?_; rintro e w3 ⟨rfl, hw3⟩; rw [hw3])
                go_meet
                exact ⟨nb, false, nn, _, _, [], [], rfl, rfl, (fun h => ⟨HT.out h, (fun x hx => by cases hx), by decide⟩), HF, HSt.out nn⟩
              · rw [HWl.out] at hp
                subst hp
                obtain ⟨bw, ow, kw, hvw, _, _⟩ := (lm_of_own sw_len (by decide) HO11.out (by simp)).form (by simp)
                injection hvw with hv1 hv2 hv3
                subst hv1
                clear hv2 hv3
                have c0 : w2.cell? ⟨bw, ow, none⟩ = some (tx y) := (lm_of_own sw_len (by decide) HO11.out (by simp)).txt (Below.refl _ w2) (j := 0) (by simp)
                have gg := tx_guard y
                have g2 : ∀ W, (binOp .eql 9 (tx y) (.string ⟨#[105, 110, 112, 117, 116, 115]⟩)).run Tryd.prog W = .ok (.bool false) W := fun W => tx_other hy W
                have HE := hide (HFn.out hh)
                clear hh hy
                go_wp2_with fail
                go_meet
                exact ⟨false, false, 0, _, _, [], [], rfl, rfl, (fun h => by cases h), (fun _ => HE.out), HSt.out 0⟩
              · have HE := hide (HFn.out hh)
                rw [HWl.out] at hp
                have hp2 : ¬ (wl.length : Int) = 2 := by omega
                have hp3 : ((wl.length : Int) == 2) = false := beq_eq_false_iff_ne.2 hp2
                clear hp hh
                go_wp2_with fail
                go_meet
                exact ⟨false, false, 0, _, _, [], [], rfl, rfl, (fun h => by cases h), (fun _ => HE.out), HSt.out 0⟩
            · have hi9 : 0 < i := by omega
              have hib : ((i : Int) == 0) = false := beq_eq_false_iff_ne.2 (by omega)
              cases d with
              | true =>
                have HE := hide (HD.out.more hi9 hlt)
                clear hi9
                go_wp2_with fail
                go_meet
                exact ⟨false, true, inp, _, _, ops, outs, rfl, rfl, (fun h => by cases h), (fun _ => HE.out), HR2.out⟩
              | false =>
                obtain ⟨w0, ws, rfl⟩ : ∃ w0 ws, wl = w0 :: ws := by
                  cases wl with
                  | nil => exact absurd HWl.out (pcs_some 32 _)
                  | cons w0 ws => exact ⟨w0, ws, rfl⟩
                have hwsl : (w0 :: ws).length ≤ 1100000 := by
                  have := pcs_le 32 ls[i]
                  rw [HWl.out] at this; omega
                have hnw0 : (w0 :: ws).length = ws.length + 1 := rfl
                clear HPl
                generalize (w0 :: ws).length = nw at *
                have HNw := hide hnw0
                clear hnw0
                obtain ⟨bw, ow, kw, hvw, _, _⟩ := (lm_of_own sw_len (by decide) HO11.out (by have := HNw.out; simp only [List.length_cons]; omega)).form (by simp)
                injection hvw with hv1 hv2 hv3
                subst hv1
                clear hv2 hv3
                have c0 : w2.cell? ⟨bw, ow, none⟩ = some (tx w0) := (lm_of_own sw_len (by decide) HO11.out (by have := HNw.out; simp only [List.length_cons]; omega)).txt (Below.refl _ w2) (j := 0) (by simp)
                have gg := tx_guard w0
                have hwl0 : (0 : Int) < (nw : Int) := by have := HNw.out; omega
                by_cases hw0 : w0 = ouW
                · have g2 : ∀ W, (binOp .eql 9 (tx w0) (.string ⟨#[111, 117, 116, 115]⟩)).run Tryd.prog W = .ok (.bool true) W := fun W => tx_same (b := [111, 117, 116, 115]) hw0 W
                  have hno : isOut ls[i] = true := by
                    unfold isOut
                    rw [HWl.out, hw0]; simp
                  obtain ⟨rfl, n, rfl, hn, hTr, hFa⟩ := HD.out.outs hi9 hlt hno
                  have HTr := hide hTr
                  have HFa := hide hFa
                  have hDl := HD.out.len
                  have HDk := hide HD.out.ok
                  have HOd := hide (ou_doc hn hDl HD.out.may HWl.out hw0)
                  have hwn : IntKind.i64.wrap ((n : Int) + (ops.length : Int)) = (n : Int) + (ops.length : Int) := by rw [IntKind.wrap_i64]; omega
                  have HIn := hide (fun x => rdV_in n (n + ops.length) x)
                  have HRd : Hid (∀ W x, Below w.heap.size w W → Calls Tryd.prog 39 #[.int .i64 (n : Int), .int .i64 ((n : Int) + (ops.length : Int)), tx x] W fun e w' => e = .returned (.int .i64 (rdV n (n + ops.length) x)) ∧ Below W.heap.size W w') := fun W x hb => by
                    have := dReadV W n (n + ops.length) x hn (by omega) (HTb.out W hb)
                    rw [Int.natCast_add] at this; exact this
                  clear hTr hFa hno HRr HD cl hw0
                  go_wp2_with fail
                  go_loopw [14] (fun vk wx => ∃ (k : Nat) (vu' : Value) (os : List Int), 1 ≤ k ∧ k ≤ nw ∧ vk = .int .i64 k ∧ Hid (os = (ws.take (k - 1)).map (rdV n (n + ops.length))) ∧ os.length = k - 1 ∧ Hid (Rr w wx b8 n (.slice vao ops.length vco) vu' ops os (.slice (some ⟨b, off, none⟩) (ls.length + 1) k5) (ls ++ [t])) ∧ Hid (wx.ownsRow (w.heap.size + 1) 9 1 (.slice (some ⟨bw, ow, none⟩) nw k11) nw ((w0 :: ws).flatMap sw))) (fun vk _ => nw - (intOf vk).toNat)
                  case atStart => exact ⟨1, _, [], Nat.le_refl _, by have := HNw.out; omega, rfl, rfl, rfl, HR2, HO11⟩
                  case round =>
                    clear HR2 HO11 c0 p0 p1 p2 pf
                    obtain ⟨k, vu', os, hk1, hk2, rfl, HOs, hos, HRk, HOk⟩ := hrel
                    obtain ⟨ua, uc, hvu'⟩ := own_slice HRk.out.ru
                    subst hvu'
                    by_cases hkl : k < nw
                    · have ck := (lm_of_own sw_len (by decide) HOk.out (by have := HNw.out; simp only [List.length_cons]; omega)).txt (Below.refl _ wr) (j := k) (by have := HNw.out; simp only [List.length_cons]; omega)
                      have HXk := hide (show (ws.take k).map (rdV n (n + ops.length)) = os ++ [rdV n (n + ops.length) ((w0 :: ws)[k]'(by have := HNw.out; simp only [List.length_cons]; omega))] by
                        obtain ⟨m, rfl⟩ : ∃ m, k = m + 1 := ⟨k - 1, by omega⟩
                        have hm : m < ws.length := by have := HNw.out; omega
                        rw [List.take_succ_eq_append_getElem hm, List.map_append, HOs.out]; rfl)
                      have HRx := hide (fun W hb => HRd.out W ((w0 :: ws)[k]'(by have := HNw.out; simp only [List.length_cons]; omega)) hb)
                      have HLk := hide (fun W (hw : W.ownsRow (w.heap.size + 1) 9 1 (.slice (some ⟨bw, ow, none⟩) nw k11) nw ((w0 :: ws).flatMap sw)) => (lm_of_own sw_len (by decide) hw (by have := HNw.out; simp only [List.length_cons]; omega)).txt (Below.refl _ W) (j := k) (by have := HNw.out; simp only [List.length_cons]; omega))
                      generalize rdV n (n + ops.length) ((w0 :: ws)[k]'(by have := HNw.out; simp only [List.length_cons]; omega)) = xv at *
                      generalize ((w0 :: ws)[k]'(by have := HNw.out; simp only [List.length_cons]; omega)) = wk at *
                      have HCk := hide ck
                      have HS : Hid (∀ W', Below wr.heap.size wr W' → (W'.cell? ⟨b8, 0, none⟩ = some (.int .i64 (n : Int)) ∧ W'.cell? ⟨b8, 1, none⟩ = some (.slice vao ops.length vco) ∧ W'.cell? ⟨b8, 2, none⟩ = some (.slice ua os.length uc)) ∧ W'.cell? ⟨bw, ow + k, none⟩ = some (tx wk)) := fun W' hb => ⟨cell3 (HRk.out.below hb).bp, (hb.cell (cell_in HCk.out)).trans HCk.out⟩
                      have hS0 := HS.out wr.drew (Below.refl _ wr).drew
                      have HAp := hide (fun W (hb : Below wr.heap.size wr W) => (HRk.out.below hb).out xv (by omega))
                      have HBw := HRk.out.bl
                      have HOw := hide (fun W (hb : Below wr.heap.size wr W) => own_kept HOk.out (below_own hb) (fun g _ => by simp))
                      have hkz : (0 : Int) ≤ (k : Int) := by omega
                      have hkm : (k : Int) < (nw : Int) := by omega
                      have hkm2 : (k : Int) < (ws.length : Int) + 1 := by have := HNw.out; omega
                      have HosL := hide hos
                      clear hos
                      go_upto_region 25 with fail
                      refine wp_region_mute (S := (fun W' => (W'.cell? ⟨b8, 0, none⟩ = some (.int .i64 (n : Int)) ∧ W'.cell? ⟨b8, 1, none⟩ = some (.slice vao ops.length vco) ∧ W'.cell? ⟨b8, 2, none⟩ = some (.slice ua os.length uc)) ∧ W'.cell? ⟨bw, ow + k, none⟩ = some (tx wk))) (by kernel_rfl) (by kernel_rfl) rfl (by ((try dsimp only) <;> (first | with_reducible exact hS0 | with_reducible exact hS3 | with_reducible exact hS4 _ | with_reducible exact hS5))) (fun hHeld => ?_)
                      simp only [muteL, mute]
                      (refine wpAnyH_take (i := 0) (oi := _) (v := ?v168) rfl (by kernel_rfl) (by kernel_rfl) (by kernel_rfl) (fun _ _ _ h => h) (Or.inl ⟨by rfl, ?hy168⟩) (by assumption) ?rest168; (case hy168 => (first | (intro w hSw; (try dsimp only at hSw); go_simp; done) | (intro w hSw; (try dsimp only at hSw); go_simp; with_reducible rfl))); (try simp only [Act.put, List.getElem_toArray, List.getElem_cons_succ, List.getElem_cons_zero, List.setIfInBounds_toArray, List.set_cons_zero, List.set_cons_succ]))
                      (refine wpAnyH_take (i := 1) (oi := _) (v := ?v169) rfl (by kernel_rfl) (by kernel_rfl) (by kernel_rfl) (fun _ _ _ h => h) (Or.inl ⟨by rfl, ?hy169⟩) (by assumption) ?rest169; (case hy169 => (first | (intro w hSw; (try dsimp only at hSw); go_simp; done) | (intro w hSw; (try dsimp only at hSw); go_simp; with_reducible rfl))); (try simp only [Act.put, List.getElem_toArray, List.getElem_cons_succ, List.getElem_cons_zero, List.setIfInBounds_toArray, List.set_cons_zero, List.set_cons_succ]))
                      (refine wpAnyH_take (i := 2) (oi := _) (v := ?v170) rfl (by kernel_rfl) (by kernel_rfl) (by kernel_rfl) (fun _ _ _ h => h) (Or.inl ⟨by rfl, ?hy170⟩) (by assumption) ?rest170; (case hy170 => (first | (intro w hSw; (try dsimp only at hSw); go_simp; done) | (intro w hSw; (try dsimp only at hSw); go_simp; with_reducible rfl))); (try simp only [Act.put, List.getElem_toArray, List.getElem_cons_succ, List.getElem_cons_zero, List.setIfInBounds_toArray, List.set_cons_zero, List.set_cons_succ]))
                      (refine wpAnyH_take (i := 3) (oi := _) (v := ?v171) rfl (by kernel_rfl) (by kernel_rfl) (by kernel_rfl) (fun _ _ _ h => h) (Or.inl ⟨by rfl, ?hy171⟩) (by assumption) ?rest171; (case hy171 => (first | (intro w hSw; (try dsimp only at hSw); go_simp; done) | (intro w hSw; (try dsimp only at hSw); go_simp; with_reducible rfl))); (try simp only [Act.put, List.getElem_toArray, List.getElem_cons_succ, List.getElem_cons_zero, List.setIfInBounds_toArray, List.set_cons_zero, List.set_cons_succ]))
                      (refine wpAnyH_take (i := 4) (oi := _) (v := ?v172) rfl (by kernel_rfl) (by kernel_rfl) (by kernel_rfl) (fun _ _ _ h => h) (Or.inl ⟨by rfl, ?hy172⟩) (by assumption) ?rest172; (case hy172 => (first | (intro w hSw; (try dsimp only at hSw); go_simp; done) | (intro w hSw; (try dsimp only at hSw); go_simp; with_reducible rfl))); (try simp only [Act.put, List.getElem_toArray, List.getElem_cons_succ, List.getElem_cons_zero, List.setIfInBounds_toArray, List.set_cons_zero, List.set_cons_succ]))
                      (refine wpAnyH_take (i := 5) (oi := _) (v := ?v173) rfl (by kernel_rfl) (by kernel_rfl) (by kernel_rfl) (fun _ _ _ h => h) (Or.inl ⟨by rfl, ?hy173⟩) (by assumption) ?rest173; (case hy173 => (first | (intro w hSw; (try dsimp only at hSw); go_simp; done) | (intro w hSw; (try dsimp only at hSw); go_simp; with_reducible rfl))); (try simp only [Act.put, List.getElem_toArray, List.getElem_cons_succ, List.getElem_cons_zero, List.setIfInBounds_toArray, List.set_cons_zero, List.set_cons_succ]))
                      (refine wpAnyH_take (i := 6) (oi := _) (v := ?v174) rfl (by kernel_rfl) (by kernel_rfl) (by kernel_rfl) (fun _ _ _ h => h) (Or.inl ⟨by rfl, ?hy174⟩) (by assumption) ?rest174; (case hy174 => (first | (intro w hSw; (try dsimp only at hSw); go_simp; done) | (intro w hSw; (try dsimp only at hSw); go_simp; with_reducible rfl))); (try simp only [Act.put, List.getElem_toArray, List.getElem_cons_succ, List.getElem_cons_zero, List.setIfInBounds_toArray, List.set_cons_zero, List.set_cons_succ]))
                      (refine wpAnyH_take (i := 7) (oi := _) (v := ?v175) rfl (by kernel_rfl) (by kernel_rfl) (by kernel_rfl) (fun _ _ _ h => h) (Or.inl ⟨by rfl, ?hy175⟩) (by assumption) ?rest175; (case hy175 => (first | (intro w hSw; (try dsimp only at hSw); go_simp; done) | (intro w hSw; (try dsimp only at hSw); go_simp; with_reducible rfl))); (try simp only [Act.put, List.getElem_toArray, List.getElem_cons_succ, List.getElem_cons_zero, List.setIfInBounds_toArray, List.set_cons_zero, List.set_cons_succ]))
                      (refine wpAnyH_take (i := 8) (oi := _) (v := ?v176) rfl (by kernel_rfl) (by kernel_rfl) (by kernel_rfl) (fun _ _ _ h => h) (Or.inl ⟨by rfl, ?hy176⟩) (by assumption) ?rest176; (case hy176 => (first | (intro w hSw; (try dsimp only at hSw); go_simp; done) | (intro w hSw; (try dsimp only at hSw); go_simp; with_reducible rfl))); (try simp only [Act.put, List.getElem_toArray, List.getElem_cons_succ, List.getElem_cons_zero, List.setIfInBounds_toArray, List.set_cons_zero, List.set_cons_succ]))
                      (refine wpAnyH_take (i := 9) (oi := _) (v := ?v177) rfl (by kernel_rfl) (by kernel_rfl) (by kernel_rfl) (fun _ _ _ h => h) (Or.inl ⟨by rfl, ?hy177⟩) (by assumption) ?rest177; (case hy177 => (first | (intro w hSw; (try dsimp only at hSw); go_simp; done) | (intro w hSw; (try dsimp only at hSw); go_simp; with_reducible rfl))); (try simp only [Act.put, List.getElem_toArray, List.getElem_cons_succ, List.getElem_cons_zero, List.setIfInBounds_toArray, List.set_cons_zero, List.set_cons_succ]))
                      (refine wpAnyH_take (i := 10) (oi := _) (v := ?v178) rfl (by kernel_rfl) (by kernel_rfl) (by kernel_rfl) (fun _ _ _ h => h) (Or.inl ⟨by rfl, ?hy178⟩) (by assumption) ?rest178; (case hy178 => (first | (intro w hSw; (try dsimp only at hSw); go_simp; done) | (intro w hSw; (try dsimp only at hSw); go_simp; with_reducible rfl))); (try simp only [Act.put, List.getElem_toArray, List.getElem_cons_succ, List.getElem_cons_zero, List.setIfInBounds_toArray, List.set_cons_zero, List.set_cons_succ]))
                      (refine wpAnyH_take (i := 11) (oi := _) (v := ?v179) rfl (by kernel_rfl) (by kernel_rfl) (by kernel_rfl) (fun _ _ _ h => h) (Or.inl ⟨by rfl, ?hy179⟩) (by assumption) ?rest179; (case hy179 => (first | (intro w hSw; (try dsimp only at hSw); go_simp; done) | (intro w hSw; (try dsimp only at hSw); go_simp; with_reducible rfl))); (try simp only [Act.put, List.getElem_toArray, List.getElem_cons_succ, List.getElem_cons_zero, List.setIfInBounds_toArray, List.set_cons_zero, List.set_cons_succ]))
                      (refine wpAnyH_take (i := 12) (oi := _) (v := ?v180) rfl (by kernel_rfl) (by kernel_rfl) (by kernel_rfl) (fun _ _ _ h => h) (Or.inl ⟨by rfl, ?hy180⟩) (by assumption) ?rest180; (case hy180 => (first | (intro w hSw; (try dsimp only at hSw); go_simp; done) | (intro w hSw; (try dsimp only at hSw); go_simp; with_reducible rfl))); (try simp only [Act.put, List.getElem_toArray, List.getElem_cons_succ, List.getElem_cons_zero, List.setIfInBounds_toArray, List.set_cons_zero, List.set_cons_succ]))
                      (refine wpAnyH_take (i := 13) (oi := _) (v := ?v181) rfl (by kernel_rfl) (by kernel_rfl) (by kernel_rfl) (fun _ _ _ h => h) (Or.inl ⟨by rfl, ?hy181⟩) (by assumption) ?rest181; (case hy181 => (first | (intro w hSw; (try dsimp only at hSw); go_simp; done) | (intro w hSw; (try dsimp only at hSw); go_simp; with_reducible rfl))); (try simp only [Act.put, List.getElem_toArray, List.getElem_cons_succ, List.getElem_cons_zero, List.setIfInBounds_toArray, List.set_cons_zero, List.set_cons_succ]))
                      refine wpAnyH_ready (rs := [14]) (by kernel_rfl) (by simp) ?_
                      refine AllReadyH.cons (o := _) rfl (fun K hK => ?_) AllReadyH.nil
                      try simp only [List.getElem_toArray, List.getElem_cons_succ, List.getElem_cons_zero]
                      go_simp
                      (first
                            | (go_at_call 39; refine (HRx.out _ HBw.drew).mono ?_; rintro e w3 ⟨rfl, hb3⟩; have hB3 := Below.next (Below.refl wr.heap.size wr).drew hb3; have hS3 := HS.out w3 hB3; have hS4 := fun o => HS.out (w3.alloc o) (Below.next hB3 (alloc_below w3 o)); obtain ⟨au9, cu9, W9, hr9, hp9, hR9, hw9⟩ := HAp.out w3 hB3; have HR9 := hide hR9; have HW9 := hide (hw9 _ _ _ (HOw.out w3 hB3)); have hS5 := And.intro (cell3 hp9) (HLk.out W9 HW9.out.1); have xf := fun k => Lib.frozen_of_heap hp9 k; clear hR9 hw9 hp9)
                            | (refine app_step (by rfl) _ _ _ _ (by rfl) _ _ (by rfl) (by rfl) _ W9 hr9 ?_))
                      first | (refine hK.out _ _ (by ((try dsimp only) <;> (first | with_reducible exact hS0 | with_reducible exact hS3 | with_reducible exact hS4 _ | with_reducible exact hS5))) (fun hHeld => ?_)) | (go_wp2_with fail; refine hK.out _ _ (by ((try dsimp only) <;> (first | with_reducible exact hS0 | with_reducible exact hS3 | with_reducible exact hS4 _ | with_reducible exact hS5))) (fun hHeld => ?_))
                      clear hK K
                      (try simp only [Act.put, List.getElem_toArray, List.getElem_cons_succ, List.getElem_cons_zero, List.setIfInBounds_toArray, List.set_cons_zero, List.set_cons_succ])
                      refine wpAnyH_ready (rs := [15]) (by kernel_rfl) (by simp) ?_
                      refine AllReadyH.cons (o := _) rfl (fun K hK => ?_) AllReadyH.nil
                      try simp only [List.getElem_toArray, List.getElem_cons_succ, List.getElem_cons_zero]
                      go_simp
                      refine hK.out _ _ (by ((try dsimp only) <;> (first | with_reducible exact hS0 | with_reducible exact hS3 | with_reducible exact hS4 _ | with_reducible exact hS5))) (fun hHeld => ?_)
                      clear hK K
                      (try simp only [Act.put, List.getElem_toArray, List.getElem_cons_succ, List.getElem_cons_zero, List.setIfInBounds_toArray, List.set_cons_zero, List.set_cons_succ])
                      refine wpAnyH_ready (rs := [16]) (by kernel_rfl) (by simp) ?_
                      refine AllReadyH.cons (o := _) rfl (fun K hK => ?_) AllReadyH.nil
                      (first
                            | (go_at_call 39; refine (HRx.out _ HBw.drew).mono ?_; rintro e w3 ⟨rfl, hb3⟩; have hB3 := Below.next (Below.refl wr.heap.size wr).drew hb3; have hS3 := HS.out w3 hB3; have hS4 := fun o => HS.out (w3.alloc o) (Below.next hB3 (alloc_below w3 o)); obtain ⟨au9, cu9, W9, hr9, hp9, hR9, hw9⟩ := HAp.out w3 hB3; have HR9 := hide hR9; have HW9 := hide (hw9 _ _ _ (HOw.out w3 hB3)); have hS5 := And.intro (cell3 hp9) (HLk.out W9 HW9.out.1); have xf := fun k => Lib.frozen_of_heap hp9 k; clear hR9 hw9 hp9)
                            | (refine app_step (by rfl) _ _ _ _ (by rfl) _ _ (by rfl) (by rfl) _ W9 hr9 ?_))
                      refine hK.out _ _ (by ((try dsimp only) <;> (first | with_reducible exact hS0 | with_reducible exact hS3 | with_reducible exact hS4 _ | with_reducible exact hS5))) (fun hHeld => ?_)
                      clear hK K
                      (try simp only [Act.put, List.getElem_toArray, List.getElem_cons_succ, List.getElem_cons_zero, List.setIfInBounds_toArray, List.set_cons_zero, List.set_cons_succ])
                      (refine wpAnyH_take (i := 17) (oi := _) (v := ?v182) rfl (by kernel_rfl) (by kernel_rfl) (by kernel_rfl) (fun _ _ _ h => h) (Or.inl ⟨by rfl, ?hy182⟩) (by assumption) ?rest182; (case hy182 => (first | (intro w hSw; (try dsimp only at hSw); go_simp; done) | (intro w hSw; (try dsimp only at hSw); go_simp; with_reducible rfl))); (try simp only [Act.put, List.getElem_toArray, List.getElem_cons_succ, List.getElem_cons_zero, List.setIfInBounds_toArray, List.set_cons_zero, List.set_cons_succ]))
                      (refine wpAnyH_take (i := 18) (oi := _) (v := ?v183) rfl (by kernel_rfl) (by kernel_rfl) (by kernel_rfl) (fun _ _ _ h => h) (Or.inl ⟨by rfl, ?hy183⟩) (by assumption) ?rest183; (case hy183 => (first | (intro w hSw; (try dsimp only at hSw); go_simp; done) | (intro w hSw; (try dsimp only at hSw); go_simp; with_reducible rfl))); (try simp only [Act.put, List.getElem_toArray, List.getElem_cons_succ, List.getElem_cons_zero, List.setIfInBounds_toArray, List.set_cons_zero, List.set_cons_succ]))
                      refine wpAnyH_done (by kernel_rfl) ?_ _
                      simp only [muteQ]
                      clear hS0 hS3 hS4 hr9 HS HAp HOw HRx hb3
                      go_wp2_with fail
                      go_roundw
                      case rel => exact ⟨k + 1, _, os ++ [xv], by omega, by omega, by go_num, by show _ = _; rw [Nat.add_sub_cancel]; exact HXk.out.symm, by have := HosL.out; simp; omega, HR9, HW9.out.2⟩
                      case measure => simp [intOf]; omega
                    · obtain rfl : k = nw := by omega
                      have HOs2 : Hid (os = ws.map (rdV n (n + ops.length))) := by
                        have h1 := HNw.out
                        have h2 := HOs.out
                        rw [show k - 1 = ws.length by omega, List.take_length] at h2
                        exact h2
                      have hosl : os.length ≤ 2000000 := by omega
                      have HIw2 : Hid (Iw os) := fun x hx => by
                        rw [HOs2.out] at hx
                        obtain ⟨y, _, rfl⟩ := List.mem_map.1 hx
                        have := HIn.out y
                        omega
                      rw [← HOs2.out] at HOd
                      have HPm := hide (HRk.out.pm (by omega) (by omega) hosl HDk.out HIw2.out)
                      have HMy := hide (fun W (hb : Below wr.heap.size wr W) => dMay _ _ W (HPm.out.below hb))
                      have cl3 := rl_txt HRk.out (by simp; omega) (show i < (ls ++ [t]).length by simp; omega)
                      rw [List.getElem_append_left hlt] at cl3
                      have HCl := hide cl3
                      have HS : Hid (∀ W', Below wr.heap.size wr W' → (W'.cell? ⟨b8, 0, none⟩ = some (.int .i64 (n : Int)) ∧ W'.cell? ⟨b8, 1, none⟩ = some (.slice vao ops.length vco) ∧ W'.cell? ⟨b8, 2, none⟩ = some (.slice ua os.length uc)) ∧ W'.cell? ⟨b, off + i, none⟩ = some (tx ls[i])) := fun W' hb => ⟨cell3 (HRk.out.below hb).bp, (hb.cell (cell_in HCl.out)).trans HCl.out⟩
                      have hS0 := HS.out wr.drew (Below.refl _ wr).drew
                      have HosL := hide hos
                      clear hos HOs HOs2 HRd HIn cl3 HOk HPm g2 gg hosl
                      cases hm : mayB ⟨n, ops, os⟩ with
                      | false =>
                        rw [hm] at HMy
                        have HE := hide (HFa.out (HOd.out.2 (fun h => by rw [hm] at h; cases h.1)))
                        clear hm HOd
                        go_upto_region 26 with fail
                        refine wp_region_held_drew (S := (fun W' => (W'.cell? ⟨b8, 0, none⟩ = some (.int .i64 (n : Int)) ∧ W'.cell? ⟨b8, 1, none⟩ = some (.slice vao ops.length vco) ∧ W'.cell? ⟨b8, 2, none⟩ = some (.slice ua os.length uc)) ∧ W'.cell? ⟨b, off + i, none⟩ = some (tx ls[i]))) (by kernel_rfl) (by ((try dsimp only) <;> (first | with_reducible exact hS0 | with_reducible exact hS3 | with_reducible exact hS5))) (fun hHeld => ?_)
                        (refine wpAnyH_take (i := 0) (oi := _) (v := ?v184) rfl (by kernel_rfl) (by kernel_rfl) (by kernel_rfl) (fun _ _ _ h => h) (Or.inl ⟨by rfl, ?hy184⟩) (by assumption) ?rest184; (case hy184 => (first | (intro w hSw; (try dsimp only at hSw); go_simp; done) | (intro w hSw; (try dsimp only at hSw); go_simp; with_reducible rfl))); (try simp only [Act.put, List.getElem_toArray, List.getElem_cons_succ, List.getElem_cons_zero, List.setIfInBounds_toArray, List.set_cons_zero, List.set_cons_succ]))
                        refine wpAnyH_ready (rs := [1]) (by kernel_rfl) (by simp) ?_
                        refine AllReadyH.cons (o := _) rfl (fun K hK => ?_) AllReadyH.nil
                        try simp only [List.getElem_toArray, List.getElem_cons_succ, List.getElem_cons_zero]
                        go_simp
                        (first
                              | (go_at_call 10; refine (HMy.out _ (Below.refl _ wr).drew).mono ?_; rintro e w3 ⟨rfl, hb3⟩; have hB3 := Below.next (Below.refl wr.heap.size wr).drew hb3; have hS3 := HS.out w3 hB3))
                        first | (refine hK.out _ _ (by ((try dsimp only) <;> (first | with_reducible exact hS0 | with_reducible exact hS3 | with_reducible exact hS5))) (fun hHeld => ?_)) | (go_wp2_with fail; refine hK.out _ _ (by ((try dsimp only) <;> (first | with_reducible exact hS0 | with_reducible exact hS3 | with_reducible exact hS5))) (fun hHeld => ?_))
                        clear hK K
                        (try simp only [Act.put, List.getElem_toArray, List.getElem_cons_succ, List.getElem_cons_zero, List.setIfInBounds_toArray, List.set_cons_zero, List.set_cons_succ])
                        (refine wpAnyH_take (i := 2) (oi := _) (v := ?v185) rfl (by kernel_rfl) (by kernel_rfl) (by kernel_rfl) (fun _ _ _ h => h) (Or.inl ⟨by rfl, ?hy185⟩) (by assumption) ?rest185; (case hy185 => (first | (intro w hSw; (try dsimp only at hSw); go_simp; done) | (intro w hSw; (try dsimp only at hSw); go_simp; with_reducible rfl))); (try simp only [Act.put, List.getElem_toArray, List.getElem_cons_succ, List.getElem_cons_zero, List.setIfInBounds_toArray, List.set_cons_zero, List.set_cons_succ]))
                        (refine wpAnyH_take (i := 3) (oi := _) (v := undef) rfl (by kernel_rfl) (by kernel_rfl) (by kernel_rfl) (fun _ _ _ h => h) (Or.inr ⟨by rfl, by rfl⟩) (by assumption) ?_; (try simp only [Act.put, List.getElem_toArray, List.getElem_cons_succ, List.getElem_cons_zero, List.setIfInBounds_toArray, List.set_cons_zero, List.set_cons_succ]))
                        (refine wpAnyH_take (i := 5) (oi := _) (v := undef) rfl (by kernel_rfl) (by kernel_rfl) (by kernel_rfl) (fun _ _ _ h => h) (Or.inr ⟨by rfl, by rfl⟩) (by assumption) ?_; (try simp only [Act.put, List.getElem_toArray, List.getElem_cons_succ, List.getElem_cons_zero, List.setIfInBounds_toArray, List.set_cons_zero, List.set_cons_succ]))
                        (refine wpAnyH_take (i := 6) (oi := _) (v := undef) rfl (by kernel_rfl) (by kernel_rfl) (by kernel_rfl) (fun _ _ _ h => h) (Or.inr ⟨by rfl, by rfl⟩) (by assumption) ?_; (try simp only [Act.put, List.getElem_toArray, List.getElem_cons_succ, List.getElem_cons_zero, List.setIfInBounds_toArray, List.set_cons_zero, List.set_cons_succ]))
                        (refine wpAnyH_take (i := 7) (oi := _) (v := undef) rfl (by kernel_rfl) (by kernel_rfl) (by kernel_rfl) (fun _ _ _ h => h) (Or.inr ⟨by rfl, by rfl⟩) (by assumption) ?_; (try simp only [Act.put, List.getElem_toArray, List.getElem_cons_succ, List.getElem_cons_zero, List.setIfInBounds_toArray, List.set_cons_zero, List.set_cons_succ]))
                        (refine wpAnyH_take (i := 8) (oi := _) (v := undef) rfl (by kernel_rfl) (by kernel_rfl) (by kernel_rfl) (fun _ _ _ h => h) (Or.inr ⟨by rfl, by rfl⟩) (by assumption) ?_; (try simp only [Act.put, List.getElem_toArray, List.getElem_cons_succ, List.getElem_cons_zero, List.setIfInBounds_toArray, List.set_cons_zero, List.set_cons_succ]))
                        (refine wpAnyH_take (i := 4) (oi := _) (v := undef) rfl (by kernel_rfl) (by kernel_rfl) (by kernel_rfl) (fun _ _ _ h => h) (Or.inr ⟨by rfl, by rfl⟩) (by assumption) ?_; (try simp only [Act.put, List.getElem_toArray, List.getElem_cons_succ, List.getElem_cons_zero, List.setIfInBounds_toArray, List.set_cons_zero, List.set_cons_succ]))
                        (refine wpAnyH_take (i := 9) (oi := _) (v := undef) rfl (by kernel_rfl) (by kernel_rfl) (by kernel_rfl) (fun _ _ _ h => h) (Or.inr ⟨by rfl, by rfl⟩) (by assumption) ?_; (try simp only [Act.put, List.getElem_toArray, List.getElem_cons_succ, List.getElem_cons_zero, List.setIfInBounds_toArray, List.set_cons_zero, List.set_cons_succ]))
                        (refine wpAnyH_take (i := 10) (oi := _) (v := ?v193) rfl (by kernel_rfl) (by kernel_rfl) (by kernel_rfl) (fun _ _ _ h => h) (Or.inl ⟨by rfl, ?hy193⟩) (by assumption) ?rest193; (case hy193 => (first | (intro w hSw; (try dsimp only at hSw); go_simp; done) | (intro w hSw; (try dsimp only at hSw); go_simp; with_reducible rfl))); (try simp only [Act.put, List.getElem_toArray, List.getElem_cons_succ, List.getElem_cons_zero, List.setIfInBounds_toArray, List.set_cons_zero, List.set_cons_succ]))
                        (refine wpAnyH_take (i := 11) (oi := _) (v := ?v194) rfl (by kernel_rfl) (by kernel_rfl) (by kernel_rfl) (fun _ _ _ h => h) (Or.inl ⟨by rfl, ?hy194⟩) (by assumption) ?rest194; (case hy194 => (first | (intro w hSw; (try dsimp only at hSw); go_simp; done) | (intro w hSw; (try dsimp only at hSw); go_simp; with_reducible rfl))); (try simp only [Act.put, List.getElem_toArray, List.getElem_cons_succ, List.getElem_cons_zero, List.setIfInBounds_toArray, List.set_cons_zero, List.set_cons_succ]))
                        refine wpAnyH_done (by kernel_rfl) ?_ _
                        go_wp2_with fail
                        go_meet
                        exact ⟨false, true, n, _, _, ops, os, rfl, rfl, (fun h => by cases h), (fun _ => HE.out), HRk.out.below hB3⟩
                      | true =>
                        rw [hm] at HMy
                        obtain ⟨⟨_, _, _, h64⟩, _, _⟩ := mayB_iff.1 hm
                        have h64' : os.length ≤ 64 := h64
                        have HLa := hide (fun W (hb : Below wr.heap.size wr W) => dLast W (n : Int) vao ops.length vco _ os (lm_of_own iw_len (by decide) (HRk.out.below hb).ru (by omega)) h64' (by omega) (fun j h => may_outs (p := ⟨n, ops, os⟩) hm h) (HTb.out W (HRk.out.below hb).bl))
                        have gq := tx_guard2 (outT n os) ls[i]
                        by_cases he : outT n os = ls[i]
                        · have ge := tx_same he
                          have HE := hide (HTr.out os (HOd.out.1 ⟨hm, he⟩))
                          clear hm HOd he h64
                          generalize outT (n : Int) os = tl at *
                          go_upto_region 26 with fail
                          refine wp_region_held_drew (S := (fun W' => (W'.cell? ⟨b8, 0, none⟩ = some (.int .i64 (n : Int)) ∧ W'.cell? ⟨b8, 1, none⟩ = some (.slice vao ops.length vco) ∧ W'.cell? ⟨b8, 2, none⟩ = some (.slice ua os.length uc)) ∧ W'.cell? ⟨b, off + i, none⟩ = some (tx ls[i]))) (by kernel_rfl) (by ((try dsimp only) <;> (first | with_reducible exact hS0 | with_reducible exact hS3 | with_reducible exact hS5))) (fun hHeld => ?_)
                          (refine wpAnyH_take (i := 0) (oi := _) (v := ?v195) rfl (by kernel_rfl) (by kernel_rfl) (by kernel_rfl) (fun _ _ _ h => h) (Or.inl ⟨by rfl, ?hy195⟩) (by assumption) ?rest195; (case hy195 => (first | (intro w hSw; (try dsimp only at hSw); go_simp; done) | (intro w hSw; (try dsimp only at hSw); go_simp; with_reducible rfl))); (try simp only [Act.put, List.getElem_toArray, List.getElem_cons_succ, List.getElem_cons_zero, List.setIfInBounds_toArray, List.set_cons_zero, List.set_cons_succ]))
                          refine wpAnyH_ready (rs := [1]) (by kernel_rfl) (by simp) ?_
                          refine AllReadyH.cons (o := _) rfl (fun K hK => ?_) AllReadyH.nil
                          try simp only [List.getElem_toArray, List.getElem_cons_succ, List.getElem_cons_zero]
                          go_simp
                          (first
                                | (go_at_call 10; refine (HMy.out _ (Below.refl _ wr).drew).mono ?_; rintro e w3 ⟨rfl, hb3⟩; have hB3 := Below.next (Below.refl wr.heap.size wr).drew hb3; have hS3 := HS.out w3 hB3)
                                | (go_at_call 34; refine (HLa.out w3 hB3).mono ?_; rintro e w5 ⟨rfl, hb5⟩; have hB5 := Below.next hB3 hb5; have hS5 := HS.out w5 hB5))
                          first | (refine hK.out _ _ (by ((try dsimp only) <;> (first | with_reducible exact hS0 | with_reducible exact hS3 | with_reducible exact hS5))) (fun hHeld => ?_)) | (go_wp2_with fail; refine hK.out _ _ (by ((try dsimp only) <;> (first | with_reducible exact hS0 | with_reducible exact hS3 | with_reducible exact hS5))) (fun hHeld => ?_))
                          clear hK K
                          (try simp only [Act.put, List.getElem_toArray, List.getElem_cons_succ, List.getElem_cons_zero, List.setIfInBounds_toArray, List.set_cons_zero, List.set_cons_succ])
                          (refine wpAnyH_take (i := 2) (oi := _) (v := ?v196) rfl (by kernel_rfl) (by kernel_rfl) (by kernel_rfl) (fun _ _ _ h => h) (Or.inl ⟨by rfl, ?hy196⟩) (by assumption) ?rest196; (case hy196 => (first | (intro w hSw; (try dsimp only at hSw); go_simp; done) | (intro w hSw; (try dsimp only at hSw); go_simp; with_reducible rfl))); (try simp only [Act.put, List.getElem_toArray, List.getElem_cons_succ, List.getElem_cons_zero, List.setIfInBounds_toArray, List.set_cons_zero, List.set_cons_succ]))
                          (refine wpAnyH_take (i := 3) (oi := _) (v := ?v197) rfl (by kernel_rfl) (by kernel_rfl) (by kernel_rfl) (fun _ _ _ h => h) (Or.inl ⟨by rfl, ?hy197⟩) (by assumption) ?rest197; (case hy197 => (first | (intro w hSw; (try dsimp only at hSw); go_simp; done) | (intro w hSw; (try dsimp only at hSw); go_simp; with_reducible rfl))); (try simp only [Act.put, List.getElem_toArray, List.getElem_cons_succ, List.getElem_cons_zero, List.setIfInBounds_toArray, List.set_cons_zero, List.set_cons_succ]))
                          (refine wpAnyH_take (i := 5) (oi := _) (v := ?v198) rfl (by kernel_rfl) (by kernel_rfl) (by kernel_rfl) (fun _ _ _ h => h) (Or.inl ⟨by rfl, ?hy198⟩) (by assumption) ?rest198; (case hy198 => (first | (intro w hSw; (try dsimp only at hSw); go_simp; done) | (intro w hSw; (try dsimp only at hSw); go_simp; with_reducible rfl))); (try simp only [Act.put, List.getElem_toArray, List.getElem_cons_succ, List.getElem_cons_zero, List.setIfInBounds_toArray, List.set_cons_zero, List.set_cons_succ]))
                          (refine wpAnyH_take (i := 6) (oi := _) (v := ?v199) rfl (by kernel_rfl) (by kernel_rfl) (by kernel_rfl) (fun _ _ _ h => h) (Or.inl ⟨by rfl, ?hy199⟩) (by assumption) ?rest199; (case hy199 => (first | (intro w hSw; (try dsimp only at hSw); go_simp; done) | (intro w hSw; (try dsimp only at hSw); go_simp; with_reducible rfl))); (try simp only [Act.put, List.getElem_toArray, List.getElem_cons_succ, List.getElem_cons_zero, List.setIfInBounds_toArray, List.set_cons_zero, List.set_cons_succ]))
                          (refine wpAnyH_take (i := 7) (oi := _) (v := ?v200) rfl (by kernel_rfl) (by kernel_rfl) (by kernel_rfl) (fun _ _ _ h => h) (Or.inl ⟨by rfl, ?hy200⟩) (by assumption) ?rest200; (case hy200 => (first | (intro w hSw; (try dsimp only at hSw); go_simp; done) | (intro w hSw; (try dsimp only at hSw); go_simp; with_reducible rfl))); (try simp only [Act.put, List.getElem_toArray, List.getElem_cons_succ, List.getElem_cons_zero, List.setIfInBounds_toArray, List.set_cons_zero, List.set_cons_succ]))
                          (refine wpAnyH_take (i := 8) (oi := _) (v := ?v201) rfl (by kernel_rfl) (by kernel_rfl) (by kernel_rfl) (fun _ _ _ h => h) (Or.inl ⟨by rfl, ?hy201⟩) (by assumption) ?rest201; (case hy201 => (first | (intro w hSw; (try dsimp only at hSw); go_simp; done) | (intro w hSw; (try dsimp only at hSw); go_simp; with_reducible rfl))); (try simp only [Act.put, List.getElem_toArray, List.getElem_cons_succ, List.getElem_cons_zero, List.setIfInBounds_toArray, List.set_cons_zero, List.set_cons_succ]))
                          refine wpAnyH_ready (rs := [4]) (by kernel_rfl) (by simp) ?_
                          refine AllReadyH.cons (o := _) rfl (fun K hK => ?_) AllReadyH.nil
                          try simp only [List.getElem_toArray, List.getElem_cons_succ, List.getElem_cons_zero]
                          go_simp
                          (first
                                | (go_at_call 10; refine (HMy.out _ (Below.refl _ wr).drew).mono ?_; rintro e w3 ⟨rfl, hb3⟩; have hB3 := Below.next (Below.refl wr.heap.size wr).drew hb3; have hS3 := HS.out w3 hB3)
                                | (go_at_call 34; refine (HLa.out w3 hB3).mono ?_; rintro e w5 ⟨rfl, hb5⟩; have hB5 := Below.next hB3 hb5; have hS5 := HS.out w5 hB5))
                          first | (refine hK.out _ _ (by ((try dsimp only) <;> (first | with_reducible exact hS0 | with_reducible exact hS3 | with_reducible exact hS5))) (fun hHeld => ?_)) | (go_wp2_with fail; refine hK.out _ _ (by ((try dsimp only) <;> (first | with_reducible exact hS0 | with_reducible exact hS3 | with_reducible exact hS5))) (fun hHeld => ?_))
                          clear hK K
                          (try simp only [Act.put, List.getElem_toArray, List.getElem_cons_succ, List.getElem_cons_zero, List.setIfInBounds_toArray, List.set_cons_zero, List.set_cons_succ])
                          (refine wpAnyH_take (i := 9) (oi := _) (v := ?v202) rfl (by kernel_rfl) (by kernel_rfl) (by kernel_rfl) (fun _ _ _ h => h) (Or.inl ⟨by rfl, ?hy202⟩) (by assumption) ?rest202; (case hy202 => (first | (intro w hSw; (try dsimp only at hSw); go_simp; done) | (intro w hSw; (try dsimp only at hSw); go_simp; with_reducible rfl))); (try simp only [Act.put, List.getElem_toArray, List.getElem_cons_succ, List.getElem_cons_zero, List.setIfInBounds_toArray, List.set_cons_zero, List.set_cons_succ]))
                          (refine wpAnyH_take (i := 10) (oi := _) (v := ?v203) rfl (by kernel_rfl) (by kernel_rfl) (by kernel_rfl) (fun _ _ _ h => h) (Or.inl ⟨by rfl, ?hy203⟩) (by assumption) ?rest203; (case hy203 => (first | (intro w hSw; (try dsimp only at hSw); go_simp; done) | (intro w hSw; (try dsimp only at hSw); go_simp; with_reducible rfl))); (try simp only [Act.put, List.getElem_toArray, List.getElem_cons_succ, List.getElem_cons_zero, List.setIfInBounds_toArray, List.set_cons_zero, List.set_cons_succ]))
                          (refine wpAnyH_take (i := 11) (oi := _) (v := ?v204) rfl (by kernel_rfl) (by kernel_rfl) (by kernel_rfl) (fun _ _ _ h => h) (Or.inl ⟨by rfl, ?hy204⟩) (by assumption) ?rest204; (case hy204 => (first | (intro w hSw; (try dsimp only at hSw); go_simp; done) | (intro w hSw; (try dsimp only at hSw); go_simp; with_reducible rfl))); (try simp only [Act.put, List.getElem_toArray, List.getElem_cons_succ, List.getElem_cons_zero, List.setIfInBounds_toArray, List.set_cons_zero, List.set_cons_succ]))
                          refine wpAnyH_done (by kernel_rfl) ?_ _
                          go_wp2_with fail
                          go_meet
                          exact ⟨true, true, n, _, _, ops, os, rfl, rfl, (fun _ => ⟨HE.out, HIw2.out, h64'⟩), (fun h => by cases h), HRk.out.below hB5⟩
                        · have ge := tx_other he
                          have HE := hide (HFa.out (HOd.out.2 (fun h => he h.2)))
                          clear hm HOd he h64
                          generalize outT (n : Int) os = tl at *
                          go_upto_region 26 with fail
                          refine wp_region_held_drew (S := (fun W' => (W'.cell? ⟨b8, 0, none⟩ = some (.int .i64 (n : Int)) ∧ W'.cell? ⟨b8, 1, none⟩ = some (.slice vao ops.length vco) ∧ W'.cell? ⟨b8, 2, none⟩ = some (.slice ua os.length uc)) ∧ W'.cell? ⟨b, off + i, none⟩ = some (tx ls[i]))) (by kernel_rfl) (by ((try dsimp only) <;> (first | with_reducible exact hS0 | with_reducible exact hS3 | with_reducible exact hS5))) (fun hHeld => ?_)
                          (refine wpAnyH_take (i := 0) (oi := _) (v := ?v205) rfl (by kernel_rfl) (by kernel_rfl) (by kernel_rfl) (fun _ _ _ h => h) (Or.inl ⟨by rfl, ?hy205⟩) (by assumption) ?rest205; (case hy205 => (first | (intro w hSw; (try dsimp only at hSw); go_simp; done) | (intro w hSw; (try dsimp only at hSw); go_simp; with_reducible rfl))); (try simp only [Act.put, List.getElem_toArray, List.getElem_cons_succ, List.getElem_cons_zero, List.setIfInBounds_toArray, List.set_cons_zero, List.set_cons_succ]))
                          refine wpAnyH_ready (rs := [1]) (by kernel_rfl) (by simp) ?_
                          refine AllReadyH.cons (o := _) rfl (fun K hK => ?_) AllReadyH.nil
                          try simp only [List.getElem_toArray, List.getElem_cons_succ, List.getElem_cons_zero]
                          go_simp
                          (first
                                | (go_at_call 10; refine (HMy.out _ (Below.refl _ wr).drew).mono ?_; rintro e w3 ⟨rfl, hb3⟩; have hB3 := Below.next (Below.refl wr.heap.size wr).drew hb3; have hS3 := HS.out w3 hB3)
                                | (go_at_call 34; refine (HLa.out w3 hB3).mono ?_; rintro e w5 ⟨rfl, hb5⟩; have hB5 := Below.next hB3 hb5; have hS5 := HS.out w5 hB5))
                          first | (refine hK.out _ _ (by ((try dsimp only) <;> (first | with_reducible exact hS0 | with_reducible exact hS3 | with_reducible exact hS5))) (fun hHeld => ?_)) | (go_wp2_with fail; refine hK.out _ _ (by ((try dsimp only) <;> (first | with_reducible exact hS0 | with_reducible exact hS3 | with_reducible exact hS5))) (fun hHeld => ?_))
                          clear hK K
                          (try simp only [Act.put, List.getElem_toArray, List.getElem_cons_succ, List.getElem_cons_zero, List.setIfInBounds_toArray, List.set_cons_zero, List.set_cons_succ])
                          (refine wpAnyH_take (i := 2) (oi := _) (v := ?v206) rfl (by kernel_rfl) (by kernel_rfl) (by kernel_rfl) (fun _ _ _ h => h) (Or.inl ⟨by rfl, ?hy206⟩) (by assumption) ?rest206; (case hy206 => (first | (intro w hSw; (try dsimp only at hSw); go_simp; done) | (intro w hSw; (try dsimp only at hSw); go_simp; with_reducible rfl))); (try simp only [Act.put, List.getElem_toArray, List.getElem_cons_succ, List.getElem_cons_zero, List.setIfInBounds_toArray, List.set_cons_zero, List.set_cons_succ]))
                          (refine wpAnyH_take (i := 3) (oi := _) (v := ?v207) rfl (by kernel_rfl) (by kernel_rfl) (by kernel_rfl) (fun _ _ _ h => h) (Or.inl ⟨by rfl, ?hy207⟩) (by assumption) ?rest207; (case hy207 => (first | (intro w hSw; (try dsimp only at hSw); go_simp; done) | (intro w hSw; (try dsimp only at hSw); go_simp; with_reducible rfl))); (try simp only [Act.put, List.getElem_toArray, List.getElem_cons_succ, List.getElem_cons_zero, List.setIfInBounds_toArray, List.set_cons_zero, List.set_cons_succ]))
                          (refine wpAnyH_take (i := 5) (oi := _) (v := ?v208) rfl (by kernel_rfl) (by kernel_rfl) (by kernel_rfl) (fun _ _ _ h => h) (Or.inl ⟨by rfl, ?hy208⟩) (by assumption) ?rest208; (case hy208 => (first | (intro w hSw; (try dsimp only at hSw); go_simp; done) | (intro w hSw; (try dsimp only at hSw); go_simp; with_reducible rfl))); (try simp only [Act.put, List.getElem_toArray, List.getElem_cons_succ, List.getElem_cons_zero, List.setIfInBounds_toArray, List.set_cons_zero, List.set_cons_succ]))
                          (refine wpAnyH_take (i := 6) (oi := _) (v := ?v209) rfl (by kernel_rfl) (by kernel_rfl) (by kernel_rfl) (fun _ _ _ h => h) (Or.inl ⟨by rfl, ?hy209⟩) (by assumption) ?rest209; (case hy209 => (first | (intro w hSw; (try dsimp only at hSw); go_simp; done) | (intro w hSw; (try dsimp only at hSw); go_simp; with_reducible rfl))); (try simp only [Act.put, List.getElem_toArray, List.getElem_cons_succ, List.getElem_cons_zero, List.setIfInBounds_toArray, List.set_cons_zero, List.set_cons_succ]))
                          (refine wpAnyH_take (i := 7) (oi := _) (v := ?v210) rfl (by kernel_rfl) (by kernel_rfl) (by kernel_rfl) (fun _ _ _ h => h) (Or.inl ⟨by rfl, ?hy210⟩) (by assumption) ?rest210; (case hy210 => (first | (intro w hSw; (try dsimp only at hSw); go_simp; done) | (intro w hSw; (try dsimp only at hSw); go_simp; with_reducible rfl))); (try simp only [Act.put, List.getElem_toArray, List.getElem_cons_succ, List.getElem_cons_zero, List.setIfInBounds_toArray, List.set_cons_zero, List.set_cons_succ]))
                          (refine wpAnyH_take (i := 8) (oi := _) (v := ?v211) rfl (by kernel_rfl) (by kernel_rfl) (by kernel_rfl) (fun _ _ _ h => h) (Or.inl ⟨by rfl, ?hy211⟩) (by assumption) ?rest211; (case hy211 => (first | (intro w hSw; (try dsimp only at hSw); go_simp; done) | (intro w hSw; (try dsimp only at hSw); go_simp; with_reducible rfl))); (try simp only [Act.put, List.getElem_toArray, List.getElem_cons_succ, List.getElem_cons_zero, List.setIfInBounds_toArray, List.set_cons_zero, List.set_cons_succ]))
                          refine wpAnyH_ready (rs := [4]) (by kernel_rfl) (by simp) ?_
                          refine AllReadyH.cons (o := _) rfl (fun K hK => ?_) AllReadyH.nil
                          try simp only [List.getElem_toArray, List.getElem_cons_succ, List.getElem_cons_zero]
                          go_simp
                          (first
                                | (go_at_call 10; refine (HMy.out _ (Below.refl _ wr).drew).mono ?_; rintro e w3 ⟨rfl, hb3⟩; have hB3 := Below.next (Below.refl wr.heap.size wr).drew hb3; have hS3 := HS.out w3 hB3)
                                | (go_at_call 34; refine (HLa.out w3 hB3).mono ?_; rintro e w5 ⟨rfl, hb5⟩; have hB5 := Below.next hB3 hb5; have hS5 := HS.out w5 hB5))
                          first | (refine hK.out _ _ (by ((try dsimp only) <;> (first | with_reducible exact hS0 | with_reducible exact hS3 | with_reducible exact hS5))) (fun hHeld => ?_)) | (go_wp2_with fail; refine hK.out _ _ (by ((try dsimp only) <;> (first | with_reducible exact hS0 | with_reducible exact hS3 | with_reducible exact hS5))) (fun hHeld => ?_))
                          clear hK K
                          (try simp only [Act.put, List.getElem_toArray, List.getElem_cons_succ, List.getElem_cons_zero, List.setIfInBounds_toArray, List.set_cons_zero, List.set_cons_succ])
                          (refine wpAnyH_take (i := 9) (oi := _) (v := ?v212) rfl (by kernel_rfl) (by kernel_rfl) (by kernel_rfl) (fun _ _ _ h => h) (Or.inl ⟨by rfl, ?hy212⟩) (by assumption) ?rest212; (case hy212 => (first | (intro w hSw; (try dsimp only at hSw); go_simp; done) | (intro w hSw; (try dsimp only at hSw); go_simp; with_reducible rfl))); (try simp only [Act.put, List.getElem_toArray, List.getElem_cons_succ, List.getElem_cons_zero, List.setIfInBounds_toArray, List.set_cons_zero, List.set_cons_succ]))
                          (refine wpAnyH_take (i := 10) (oi := _) (v := ?v213) rfl (by kernel_rfl) (by kernel_rfl) (by kernel_rfl) (fun _ _ _ h => h) (Or.inl ⟨by rfl, ?hy213⟩) (by assumption) ?rest213; (case hy213 => (first | (intro w hSw; (try dsimp only at hSw); go_simp; done) | (intro w hSw; (try dsimp only at hSw); go_simp; with_reducible rfl))); (try simp only [Act.put, List.getElem_toArray, List.getElem_cons_succ, List.getElem_cons_zero, List.setIfInBounds_toArray, List.set_cons_zero, List.set_cons_succ]))
                          (refine wpAnyH_take (i := 11) (oi := _) (v := ?v214) rfl (by kernel_rfl) (by kernel_rfl) (by kernel_rfl) (fun _ _ _ h => h) (Or.inl ⟨by rfl, ?hy214⟩) (by assumption) ?rest214; (case hy214 => (first | (intro w hSw; (try dsimp only at hSw); go_simp; done) | (intro w hSw; (try dsimp only at hSw); go_simp; with_reducible rfl))); (try simp only [Act.put, List.getElem_toArray, List.getElem_cons_succ, List.getElem_cons_zero, List.setIfInBounds_toArray, List.set_cons_zero, List.set_cons_succ]))
                          refine wpAnyH_done (by kernel_rfl) ?_ _
                          go_wp2_with fail
                          go_meet
                          exact ⟨false, true, n, _, _, ops, os, rfl, rfl, (fun h => by cases h), (fun _ => HE.out), HRk.out.below hB5⟩
                · have g2 : ∀ W, (binOp .eql 9 (tx w0) (.string ⟨#[111, 117, 116, 115]⟩)).run Tryd.prog W = .ok (.bool false) W := fun W => tx_other hw0 W
                  have hno : isOut ls[i] = false := by
                    unfold isOut
                    rw [HWl.out, beq_eq_false_iff_ne]
                    intro h
                    exact hw0 (by simpa using h)
                  obtain ⟨rfl, n, rfl, hn, hTr, hFa⟩ := HD.out.step hi9 hlt hno
                  have HTr := hide hTr
                  have HFa := hide hFa
                  have hDl := HD.out.len
                  have HSp := hide (fun W (hb : Below w2.heap.size w2 W) => dStep W n _ vau ([] : List Int).length vcu ops ls[i] (lm_of_own opw_len (by decide) (HR2.out.below hb).ro (by omega)) hn hDl (by omega) (HTb.out W (HR2.out.below hb).bl))
                  unfold opv at HSp
                  generalize dstO n ops.length ls[i] = od at *
                  generalize dstB n ops.length ls[i] = bd at *
                  have cl2 := rl_txt HR2.out (by simp; omega) (show i < (ls ++ [t]).length by simp; omega)
                  rw [List.getElem_append_left hlt] at cl2
                  have HCl := hide cl2
                  have HS : Hid (∀ W', Below w2.heap.size w2 W' → (W'.cell? ⟨b8, 0, none⟩ = some (.int .i64 (n : Int)) ∧ W'.cell? ⟨b8, 1, none⟩ = some (.slice vao ops.length vco) ∧ W'.cell? ⟨b8, 2, none⟩ = some (.slice vau ([] : List Int).length vcu)) ∧ W'.cell? ⟨b, off + i, none⟩ = some (tx ls[i])) := fun W' hb => ⟨cell3 (HR2.out.below hb).bp, (hb.cell (cell_in HCl.out)).trans HCl.out⟩
                  have HW15 := hide (heap_alloc_new w2 (.cells #[.int .u8 0, .int .i64 0, .int .i64 0, .int .u64 0] 47))
                  have HA15 := hide (alloc_below w2 (.cells #[.int .u8 0, .int .i64 0, .int .i64 0, .int .u64 0] 47))
                  have hSa := HS.out _ HA15.out.drew
                  clear hTr hFa hno HRr HD cl cl2
                  go_upto_region 29 with fail
                  go_region_held3 (fun W' => (W'.cell? ⟨b8, 0, none⟩ = some (.int .i64 (n : Int)) ∧ W'.cell? ⟨b8, 1, none⟩ = some (.slice vao ops.length vco) ∧ W'.cell? ⟨b8, 2, none⟩ = some (.slice vau ([] : List Int).length vcu)) ∧ W'.cell? ⟨b, off + i, none⟩ = some (tx ls[i])) (first | with_reducible exact hSa | with_reducible exact hS3 | with_reducible exact hS4) (first
                    | (go_at_call 40; with_reducible refine Calls.mono (HSp.out _ HA15.out.drew) ?_; rintro e w3 ⟨rfl, hb3⟩; have hB3 := Below.next HA15.out.drew hb3; have hS3 := HS.out w3 hB3; have m15 := (hb3.block _ (Array.getElem?_eq_some_iff.1 HW15.out).1).trans HW15.out; obtain ⟨z0, z1, z2, z3⟩ := cell4 m15; have zf := fun k => Lib.frozen_of_heap m15 k; have hBs := hB3.grown (set4_grown w3 w2.heap.size 0 od) hB3.size (fun k e => by cases e; exact Nat.le_refl _); have hS4 := HS.out _ hBs; have HRs := hide (HR2.out.below hBs); have h15 : (set4 w3 w2.heap.size 0 od).heap[w2.heap.size]? = some (.cells #[.int .u8 od.k, .int .i64 od.a, .int .i64 od.b, .int .u64 od.c] 47 (0, 0)) := set4_blk m15 od; have H15 := hide h15; unfold set4 at hS4 HRs H15; clear h15 hBs m15))
                  clear hSa hS3 hS4 z0 z1 z2 z3 zf HS HSp HW15 HA15 hB3
                  generalize (((w3.setCell ⟨w2.heap.size, 0, none⟩ (.int .u8 od.k)).setCell ⟨w2.heap.size, 0 + 1, none⟩ (.int .i64 od.a)).setCell ⟨w2.heap.size, 0 + 2, none⟩ (.int .i64 od.b)).setCell ⟨w2.heap.size, 0 + 3, none⟩ (.int .u64 od.c) = W3 at *
                  obtain ⟨au9, cu9, W9, hr9, hp9, hR9⟩ := HRs.out.op od (by omega)
                  have HR9 := hide hR9
                  obtain ⟨z0, z1, z2, z3⟩ := cell4 H15.out
                  obtain ⟨y0, y1, y2⟩ := cell3 HRs.out.bp
                  obtain ⟨x0, x1, x2⟩ := cell3 hp9
                  have xf := fun k => Lib.frozen_of_heap hp9 k
                  clear hR9 hp9 HRs
                  go_wp2_with (at_builtin; refine Lib.wpList_append_run _ rfl _ _ _ _ rfl _ _ rfl rfl _ _ hr9 ?_)
                  go_meet
                  exact ⟨bd, false, n, _, _, ops ++ [od], [], rfl, rfl, (fun h => ⟨HTr.out h, (fun x hx => by cases hx), by decide⟩), HFa, HR9⟩
          case rest =>
            obtain ⟨ok, d', inp', vo', vu', ops', outs', rfl, rfl, HK1, HK2, HRn⟩ := hcut
            clear HRr HR2 HO11 HPl HD HIw
            cases ok with
            | true =>
              have HK3 := hide (HK1.out rfl)
              clear HK1 HK2
              go_wp2_with fail
              go_roundw
              case rel => exact ⟨i + 1, d', inp', vo', vu', ops', outs', by omega, by go_num, rfl, HK3.out.1, HK3.out.2.1, HK3.out.2.2, HRn⟩
              case measure => simp [intOf]; omega
            | false =>
              have HE := hide (HK2.out rfl)
              have HEr : Hid (re = 90) := by show _ = _; rw [HRe.out, HE.out]; rfl
              obtain ⟨r0, r1, r2⟩ := cell3 HRn.out.br
              have rf := fun k => Lib.frozen_of_heap HRn.out.br k
              have hwi : IntKind.i64.wrap ((i : Int) + 1) = (i : Int) + 1 := by rw [IntKind.wrap_i64]; omega
              clear HK1 HK2
              go_wp2_with fail
              obtain ⟨q1, q2, _⟩ := HRn.out.fin (.int .i64 0) (.slice none 0 0) (.slice none 0 0)
              refine bodyPost_ret (res_ctt (a := 2) (b := 3) (c := 4) rfl rfl rfl rfl q1) rfl ⟨.agg #[.int .i64 0, .slice none 0 0, .slice none 0 0], ?_, by rw [HE.out]; exact pm_pz _, q2⟩
              rw [HE.out, HEr.out]; rfl
        · obtain rfl : i = ls.length := by omega
          obtain ⟨f1, f2, f3⟩ := HD.out.fin
          obtain ⟨r0, r1, r2⟩ := cell3 HRr.out.br
          have rf := fun k => Lib.frozen_of_heap HRr.out.br k
          obtain ⟨p0, p1, p2⟩ := cell3 HRr.out.bp
          have hwl : IntKind.i64.wrap ((ls.length : Int) + 1) = (ls.length : Int) + 1 := by rw [IntKind.wrap_i64]; omega
          have ge := tx_none t
          have gg := tx_guard t
          cases d with
          | false =>
            have HE := hide (f1 rfl)
            clear f1 f2 f3
            have HEr : Hid (re = 90) := by show _ = _; rw [HRe.out, HE.out]; rfl
            go_wp2_with fail
            obtain ⟨q1, q2, _⟩ := HRr.out.fin (.int .i64 0) (.slice none 0 0) (.slice none 0 0)
            refine bodyPost_ret (res_ctt (a := 2) (b := 3) (c := 4) rfl rfl rfl rfl q1) rfl ⟨.agg #[.int .i64 0, .slice none 0 0, .slice none 0 0], ?_, by rw [HE.out]; exact pm_pz _, q2⟩
            rw [HE.out, HEr.out]; rfl
          | true =>
            by_cases hrt : t = []
            · have HE := hide (f3 rfl hrt)
              have HEr : Hid (re = 0) := by show _ = _; rw [HRe.out, HE.out]; rfl
              have hne : (t != []) = false := by rw [hrt]; rfl
              have hDl := HD.out.len
              have hDi := HD.out.inb
              have HDk := hide HD.out.ok
              rw [hne] at ge
              clear f1 f2 f3 hrt hne
              go_wp2_with fail
              obtain ⟨q1, q2, q3⟩ := HRr.out.fin (.int .i64 inp) (.slice vao ops.length vco) (.slice vau outs.length vcu)
              refine bodyPost_ret (res_ctt (a := 2) (b := 3) (c := 4) rfl rfl rfl rfl q1) rfl ⟨.agg #[.int .i64 inp, .slice vao ops.length vco, .slice vau outs.length vcu], ?_, ?_, q2⟩
              · rw [HE.out, HEr.out]; rfl
              · rw [HE.out]
                exact ⟨⟨_, _, rfl, lm_of_own opw_len (by decide) (q3 _ _ _ _ _ (by decide) HRr.out.ro) (by show ops.length ≤ _; omega), lm_of_own iw_len (by decide) (q3 _ _ _ _ _ (by decide) HRr.out.ru) (by show outs.length ≤ _; omega)⟩, by show -9223372036854775808 ≤ inp ∧ inp ≤ 9223372036854775807; omega, HDk.out, HIw.out⟩
            · have HE := hide (f2 rfl hrt)
              have HEr : Hid (re = 90) := by show _ = _; rw [HRe.out, HE.out]; rfl
              have hne : (t != []) = true := by simp [hrt]
              rw [hne] at ge
              clear f1 f2 f3 hrt hne
              go_wp2_with fail
              obtain ⟨q1, q2, _⟩ := HRr.out.fin (.int .i64 0) (.slice none 0 0) (.slice none 0 0)
              refine bodyPost_ret (res_ctt (a := 2) (b := 3) (c := 4) rfl rfl rfl rfl q1) rfl ⟨.agg #[.int .i64 0, .slice none 0 0, .slice none 0 0], ?_, by rw [HE.out]; exact pm_pz _, q2⟩
              rw [HE.out, HEr.out]; rfl

end Go.Proofs.YtjkialmhajbcfaaDoor
