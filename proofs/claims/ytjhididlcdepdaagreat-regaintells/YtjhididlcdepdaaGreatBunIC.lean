import Derived.Test.YtjhididlcdepdaaGreatBunIB
set_option linter.unusedVariables false
set_option linter.unusedSimpArgs false
set_option maxRecDepth 100000
set_option maxHeartbeats 4000000
namespace Go.Proofs.YtjhididlcdepdaaGreat
open Go.RowKit Fld
theorem dp_bt_step {p x : Int} {wd : Bool} (hm : Md p wd) {xs : List Int} {i k : Nat} (hk : k < xs.length) (h : k ≠ i) : mul p (dp p x (bt xs i k)) (sub p x (co xs k)) = dp p x (bt xs i (k + 1)) := by
 rw [bt_step hk h, dp_snoc hm]
theorem dp_bt_self {p x : Int} {xs : List Int} {i : Nat} (hi : i < xs.length) : dp p x (bt xs i (i + 1)) = dp p x (bt xs i i) := by rw [bt_self hi]
theorem dWeights (f : Int) (v : Value) (xs : List Int) (w : World) (h1 : Rw w v xs) : Gives 136 #[.int .u8 f, v] w (wtsL f xs) (bad f xs [] xs.length) := by
 have HP := hide (dBad f v _ xs [] xs.length w h1 (rw0 w) h1.len)
 by_cases hz : bad f xs [] xs.length = 0
 · obtain ⟨p, wd, h, i1, _, _, hl, hn⟩ := bad_zero hz
   obtain ⟨i0, hi0, hz0, hz1, hz2⟩ := info_parts u64_info
   have hex := els_of i1 h1.words
   have hp0 := h.pos
   have htop := h.top
   have hb := h.md.bounds
   have HL : Hid (wtsL f xs = wts p xs) := by show _ = _; unfold wtsL; rw [if_pos hz, pOf_eq h]
   rw [HL.out, hz]
   rw [hz] at HP
   have HPp := hide (fun W => rP_yes f p wd W h)
   have HLe := hide (fun W a b (ha : El p a) (hb : El p b) => rLess_any p a b W htop ha hb)
   have HTi := hide (fun W a b (ha : El p a) (hb : El p b) => rTimes_any p a b W htop ha (elWord hb htop).1 (elWord hb htop).2)
   have HTu := hide (fun W a (ha : El p a) => rTurned_any p a W htop hb.1 ha)
   have HDe := hide (fun x zs => dp_el hp0 x zs)
   have HSt := hide (fun x i k (hk : k < xs.length) (hne : k ≠ i) => dp_bt_step (x := x) h.md hk hne)
   have HSf := hide (fun x i (hi : i < xs.length) => dp_bt_self (p := p) (x := x) hi)
   have HS0 : Hid (∀ x i, dp p x (bt xs i 0) = 1) := fun x i => by rw [bt_zero]; exact dp_nil h.md x
   have HSe : Hid (∀ x i, dp p x (bt xs i xs.length) = dp p x (xs.eraseIdx i)) := fun x i => by rw [bt_all]
   have HXe := hide (fun k => hex.co hp0 k)
   have HN0 := hide (wts_len p xs)
   obtain ⟨⟨ao, cap, rfl, _, _, hc⟩, _⟩ := h1
   obtain ⟨n, HN⟩ : ∃ n, Hid (xs.length = n) := ⟨_, rfl⟩
   have HCx : Hid (∀ W, Below w.heap.size w W -> ∀ i j, i < n -> j < n -> ∃ b off, ao = some ⟨b, off, none⟩ ∧ W.cell? ⟨b, off + i, none⟩ = some (.int .u64 (xs.getD i 0)) ∧ W.cell? ⟨b, off + j, none⟩ = some (.int .u64 (xs.getD j 0))) := fun W hb i j hi hj => by
    obtain ⟨b, off, e, h3, h4⟩ := hc (by intro e; have := HN.out; rw [e] at this; simp at this; omega)
    exact ⟨b, off, e, (hb.cell (p := ⟨b, off + i, none⟩) h3).trans (h4 i (by rw [HN.out]; exact hi)), (hb.cell (p := ⟨b, off + j, none⟩) h3).trans (h4 j (by rw [HN.out]; exact hj))⟩
   show Calls _ _ _ _ _
   rw [HN0.out]
   unfold wts
   rw [HN.out] at HP HSt HSf HSe hl ⊢
   clear h i1 hn hz hex HL hc hb HN0
   go_enter Tryz.func136, Tryz.ntmps136
   go_wp2_with (first
    | (go_at_call 66; refine HP.out.mono ?_; rintro e w1 ⟨rfl, hb1⟩)
    | (go_at_call 70; refine (HPp.out _).mono ?_; rintro e w2 ⟨rfl, hw2⟩; rw [hw2]; clear hw2))
   clear HP HPp
   go_loopw [8, 9] (fun vo vi wr => ∃ i : Nat, i <= n ∧ vi = .int .i64 i ∧ Hid (wr.ownsRow w.heap.size 64 1 vo i (vals (mk i (wt p xs)))) ∧ Below w.heap.size w wr) (fun _ vi _ => n - (intOf vi).toNat)
   case atStart => exact ⟨0, Nat.zero_le _, rfl, World.ownsRow_nil _ _ _ _, hb1⟩
   case round =>
    clear hb1
    obtain ⟨i, hi, rfl, HO, hB⟩ := hrel
    by_cases hlt : i < n
    · go_wp2
      go_loopw [10, 11] (fun va vk wr => ∃ k : Nat, k <= n ∧ vk = .int .i64 k ∧ va = .int .u64 (dp p (co xs i) (bt xs i k)) ∧ Hid (wr.ownsRow w.heap.size 64 1 u8 i (vals (mk i (wt p xs)))) ∧ Below w.heap.size w wr) (fun _ vk _ => n - (intOf vk).toNat)
      case atStart => exact ⟨0, Nat.zero_le _, rfl, by rw [HS0.out], HO, hB⟩
      case round =>
       clear HO hB
       obtain ⟨k, hk, rfl, rfl, HO, hB⟩ := hrel
       by_cases hkn : k < n
       · by_cases hki : k = i
         · subst hki
           have HE := hide (HSf.out (co xs k) k hkn)
           have hne : ((k : Int) != (k : Int)) = false := by simp
           generalize dp p (co xs k) (bt xs k k) = d1 at *
           go_wp2
           go_roundw
           case rel => exact ⟨k + 1, by omega, by go_num, by rw [HE.out], HO, hB⟩
           case measure => simp [intOf]; omega
         · have HE : Hid (mul p (dp p (co xs i) (bt xs i k)) (sub p (xs.getD i 0) (xs.getD k 0)) = dp p (co xs i) (bt xs i (k + 1))) := HSt.out (co xs i) i k hkn hki
           obtain ⟨b, off, rfl, c1, c2⟩ := HCx.out wr hB i k hlt hkn
           have hne : ((k : Int) != (i : Int)) = true := bne_iff_ne.2 (by omega)
           have e1 : El p (xs.getD i 0) := HXe.out i
           have e2 : El p (xs.getD k 0) := HXe.out k
           have k1 := hide (fun W => HLe.out W _ _ e1 e2)
           have k2 := hide (fun W => HTi.out W _ _ (HDe.out (co xs i) (bt xs i k)) (sub_el (a := xs.getD i 0) (b := xs.getD k 0) hp0))
           rw [HE.out] at k2
           obtain ⟨d2, HD2⟩ : ∃ d2, Hid (dp p (co xs i) (bt xs i (k + 1)) = d2) := ⟨_, rfl⟩
           rw [HD2.out] at k2
           clear HE e1 e2 hki
           generalize sub p (xs.getD i 0) (xs.getD k 0) = sb at *
           generalize dp p (co xs i) (bt xs i k) = d1 at *
           generalize xs.getD i 0 = xi at *
           generalize xs.getD k 0 = xk at *
           go_wp2_with fail
           go_quiet (first
            | (go_at_call 97; exact Calls.quiet_of_same (k1.out _))
            | (go_at_call 71; exact Calls.quiet_of_same (k2.out _)))
           go_wp2
           have HO2 := hide (own_drewN HO.out nq)
           go_roundw
           case rel => exact ⟨k + 1, by omega, by go_num, by rw [HD2.out], HO2, below_drewN hB nq⟩
           case measure => simp [intOf]; omega
       · obtain rfl : k = n := by omega
         rw [HSe.out]
         have hT := hide (fun W => HTu.out W _ (HDe.out (co xs i) (xs.eraseIdx i)))
         have HS := hide (mk_snoc i (wt p xs))
         have HE : Hid (inv p (dp p (co xs i) (xs.eraseIdx i)) = wt p xs i) := rfl
         rw [HE.out] at hT
         generalize dp p (co xs i) (xs.eraseIdx i) = d1 at *
         generalize wt p xs i = y at *
         have hown2 := HO.out
         have hB2 := hB
         have hsz2 := hB2.size
         clear HE HO hB
         go_wp2_with (first
          | (go_at_call 126; refine (hT.out _).mono ?_; rintro e w2 ⟨rfl, hw2⟩; rw [hw2]; clear hw2)
          | (at_builtin; refine wpList_append_lies _ rfl _ _ _ rfl w.heap.size 64 i0 _ 1 8 Tryz.underlying36 hi0 hz0 hz1 hz2 rfl (by omega) u8 i _ rfl (hown2.alloc _) ⟨wr.heap.size, 0, none⟩ 1 1 [.int .u64 y] rfl rfl (World.news_of_block (cs := #[.int .u64 y]) (t := 64) (fr := (0, 0)) (heap_alloc_new wr _)) (by simp [Value.oneCell']) (by omega) (by unfold maxLen; omega) (by omega) (by simp; omega) (wr.heap.size + 1) (by simp) ?_; intro gg cap2 w3 hown3 hgrow hat hltg))
         have R := hide (push_step hB2 hown2 hown3 hgrow HS.out)
         clear hown3 hgrow hat hltg hown2
         go_roundw
         case rel => exact ⟨i + 1, by omega, by go_num, R.out.1, R.out.2⟩
         case measure => simp [intOf]; omega
    · obtain rfl : i = n := by omega
      go_wp2
      go_ret2
      exact ⟨_, rfl, HO.out, hB⟩
 · have ht : (bad f xs [] xs.length != 0) = true := bne_iff_ne.2 hz
   have HL : Hid (wtsL f xs = []) := by show _ = _; unfold wtsL; rw [if_neg hz]
   rw [HL.out]
   obtain ⟨a1, c1, rfl, _⟩ := h1.spell
   clear h1 hz HL
   generalize bad f xs [] xs.length = e0 at *
   generalize xs.length = n at *
   apply Gives.none
   go_enter Tryz.func136, Tryz.ntmps136
   go_wp2_with (go_at_call 66; refine HP.out.mono ?_; rintro e w1 ⟨rfl, hb1⟩)
   go_ret2
   exact ⟨rfl, hb1⟩
theorem step_append_run {P : Program} {ops : Array Oper} {o : Oper} {a : Act} {w : World} {K : Act -> World -> Prop} {Q : Exit -> Act -> World -> Prop} {E : Prop} (hgd : o.guard = none) (s x : Operand) (t tn : TypeId)
 (ho : o.op = .call { callee := .builtin .append, args := #[s, x], argTypes := #[t, tn] }) (vs vx : Value) (hs : a.eval s = vs) (hx : a.eval x = vx)
 (v' : Value) (w' : World) (hr : (Builtin.append_ #[t, tn] o.type #[vs, vx]).run P w = .ok v' w') (h : K (a.put o.dst v') w') : if Region.wanted o (yielded ops a.tmps) = true then Oper.wp P o a w K Q else E := by
 have hw : Region.wanted o (yielded ops a.tmps) = true := by simp [Region.wanted, hgd]
 rw [if_pos hw]
 exact Lib.wp_append_run w s x t tn ho vs vx hs hx v' w' hr h
theorem Rw.piece {w : World} {b off n cap : Nat} {xs : List Int} (h : Rw w (.slice (some ⟨b, off, none⟩) n cap) xs) {k m : Nat} (hk : k + m <= xs.length) : Rw w (.slice (some ⟨b, off + k, none⟩) m (cap - k)) ((xs.drop k).take m) := by
 obtain ⟨⟨ao', cap', h1, h2, h3, h4⟩, a, q, c, h5, h6⟩ := h
 cases h1; cases h5
 have hl : ((xs.drop k).take m).length = m := by rw [List.length_take, List.length_drop]; omega
 refine ⟨⟨_, _, by rw [hl], by omega, fun x hx => h3 x (List.mem_of_mem_drop (List.mem_of_mem_take hx)), fun hne => ?_⟩, _, _, _, rfl, by omega⟩
 have hm : 0 < m := by rw [<- hl]; exact List.length_pos_iff.2 hne
 obtain ⟨b', off', h7, hb, hc⟩ := h4 (by intro e; rw [e] at hk; simp at hk; omega)
 cases h7
 refine ⟨b, off + k, rfl, hb, fun i hi => ?_⟩
 rw [hl] at hi
 have := hc (k + i) (by omega)
 rw [show off + k + i = off + (k + i) by omega, this]
 rw [List.getD_eq_getElem?_getD, List.getD_eq_getElem?_getD, List.getElem?_take_of_lt hi, List.getElem?_drop]
theorem app_piece (w : World) (base : Nat) (u : Value) (A B : List Int) (ad : Addr) (c : Nat) (hO : w.ownsRow base 64 1 u A.length (vals A)) (hB : 0 < B.length -> ∀ j x, (vals B)[j]? = some x -> w.cell? (ad.add j) = some x) (hl : A.length + B.length <= 4096) (hb : base <= w.heap.size) :
 ∃ v' w', (Builtin.append_ #[36, 36] 36 #[u, .slice (some ad) B.length c]).run Tryz.prog w = .ok v' w' ∧ w'.ownsRow base 64 1 v' (A ++ B).length (vals (A ++ B)) ∧ Below base w w' := by
 obtain ⟨i0, hi0, hz0, hz1, hz2⟩ := info_parts u64_info
 obtain ⟨v', w', hr, ho, hg, _⟩ := run_append_own (P := Tryz.prog) (w := w) base 36 36 64 i0 (.int .u64 0) 1 8 Tryz.underlying36 hi0 hz0 hz1 hz2 rfl (by decide) u A.length (vals A) hO ad B.length c (vals B) (by rw [vals_length]; omega) (fun j x hj => by
  by_cases h0 : 0 < B.length
  · exact hB h0 j x hj
  · rw [List.getElem?_eq_none (by rw [vals_length]; omega)] at hj; cases hj) (vals_one B) (by unfold maxLen; omega) (by omega) hb
 refine ⟨v', w', hr, ?_, (Below.refl base w).grown hg hb (fun k hk => own_base hO k hk)⟩
 rw [List.length_append]
 have e : vals (A ++ B) = vals A ++ vals B := by simp [vals]
 rw [e]; exact ho
theorem dWithout (v : Value) (xs : List Int) (i : Nat) (w : World) (h1 : Rw w v xs) (hi : i < xs.length) (hl : xs.length <= 512) :
 Calls Tryz.prog 138 #[v, .int .i64 i] w fun e w' => ∃ v', e = .returned v' ∧ w'.ownsRow w.heap.size 64 1 v' (xs.eraseIdx i).length (vals (xs.eraseIdx i)) ∧ Below w.heap.size w w' := by
 obtain ⟨ao, cap, rfl, hcap⟩ := h1.spell
 have hX := h1
 obtain ⟨⟨ao', cap', hv, hlen, hw, hc⟩, _⟩ := h1
 cases hv
 obtain ⟨b, off, rfl, hbl, hcell⟩ := hc (by intro e; rw [e] at hi; simp at hi)
 have HC := hide (fun W (hb : Below w.heap.size w W) => Copy_any (.slice (some ⟨b, off, none⟩) i cap) (xs.take i) W ((hX.below hb).take (k := i) (by omega)).1)
 have htl : (xs.take i).length = i := by rw [List.length_take]; omega
 have hdl : (xs.drop (i + 1)).length = xs.length - (i + 1) := by rw [List.length_drop]
 have HB : Hid (∀ W, Below w.heap.size w W -> 0 < (xs.drop (i + 1)).length -> ∀ j x, (vals (xs.drop (i + 1)))[j]? = some x -> W.cell? ((⟨b, off + (i + 1), none⟩ : Addr).add j) = some x) := fun W hb h0 j x hj => by
  have hr := Rw.piece (hX.below hb) (k := i + 1) (m := xs.length - (i + 1)) (by omega)
  rw [List.take_of_length_le (by rw [hdl]; exact Nat.le_refl _)] at hr
  obtain ⟨ad, e, hn⟩ := row_news hr.1 (by rw [hdl] at h0; rw [hdl]; exact h0)
  injection e with e
  rw [e]; exact hn j x hj
 have HE := hide (List.eraseIdx_eq_take_drop_succ xs i)
 rw [HE.out]
 have HP := hide (fun W u ad c hO hB' hb => app_piece W w.heap.size u (xs.take i) (xs.drop (i + 1)) ad c hO hB' (by rw [htl, hdl]; omega) hb)
 rw [htl] at HC
 rw [htl] at HP
 have HBL := hide hdl
 rw [hdl] at HB
 clear hX hc hcell hw HE htl hdl
 generalize xs.take i = A at *
 generalize xs.drop (i + 1) = B at *
 obtain ⟨n, HN⟩ : ∃ n, Hid (xs.length = n) := ⟨_, rfl⟩
 rw [HN.out] at hi hl hcap HB HBL ⊢
 have f1 : (0 : Int) <= (i : Int) := by omega
 have f2 : (i : Int) <= (n : Int) := by omega
 have f3 : (i : Int) <= (cap : Int) := by omega
 have f4 : (i : Int) + 1 <= (n : Int) := by omega
 have f5 : IntKind.i64.wrap ((i : Int) + 1) = (i : Int) + 1 := by rw [IntKind.wrap_i64]; omega
 have f6 : ((i : Int) + 1).toNat = i + 1 := by omega
 have f7 : (0 : Int) <= (i : Int) + 1 := by omega
 have f8 : ¬ cap = i := by omega
 have f9 : (n : Int) <= (cap : Int) := by omega
 have f10 : ¬ i = cap := by omega
 by_cases hci : cap = i + 1
 · obtain rfl : n = i + 1 := by omega
   subst hci
   have hBl : B.length = 0 := by rw [HBL.out]; omega
   rw [hBl] at HP
   have g1 : (i : Int) <= (i : Int) + 1 := by omega
   have g2 : ¬ i + 1 = i := by omega
   have g3 : ¬ i = i + 1 := by omega
   go_enter Tryz.func138, Tryz.ntmps138
   go_wp2_with fail
   go_region_held3 (fun _ => True) (trivial) (first
    | (go_at_call 20; refine (HC.out _ (Below.refl _ w).drew).mono ?_; rintro e w1 ⟨v1, rfl, hO1, hb1⟩; have hB1 := Below.next (Below.refl _ w).drew hb1; obtain ⟨v2, w2, hr2, hO2, hb2⟩ := HP.out w1 v1 ⟨b, off, none⟩ 0 hO1 (fun h => by omega) hB1.size)
    | (refine step_append_run (by rfl) _ _ _ _ (by rfl) _ _ (by rfl) (by rfl) v2 w2 hr2 ?_))
   have HO2 := hide hO2
   have hB2 := hB1.trans hb2
   clear hO2 hO1
   go_wp2
   go_ret
   exact ⟨_, rfl, HO2.out, hB2⟩
 · have f11 : ¬ i + 1 = cap := fun e => hci e.symm
   rw [HBL.out] at HP
   go_enter Tryz.func138, Tryz.ntmps138
   go_wp2_with fail
   go_region_held3 (fun _ => True) (trivial) (first
    | (go_at_call 20; refine (HC.out _ (Below.refl _ w).drew).mono ?_; rintro e w1 ⟨v1, rfl, hO1, hb1⟩; have hB1 := Below.next (Below.refl _ w).drew hb1; obtain ⟨v2, w2, hr2, hO2, hb2⟩ := HP.out w1 v1 ⟨b, off + (i + 1), none⟩ (cap - (i + 1)) hO1 (HB.out _ hB1) hB1.size)
    | (refine step_append_run (by rfl) _ _ _ _ (by rfl) _ _ (by rfl) (by rfl) v2 w2 hr2 ?_))
   have HO2 := hide hO2
   have hB2 := hB1.trans hb2
   clear hO2 hO1
   go_wp2
   go_ret
   exact ⟨_, rfl, HO2.out, hB2⟩
theorem dthr_zero (W : World) (v : Value) {f p : Int} {wd : Bool} (h : Fi f p wd) {zs : List Int} (hz : Els p zs) (hl : zs.length <= 2048) (hr : Rw W v zs) :
 Calls Tryz.prog 137 #[.int .u8 f, v] W fun e w' => ∃ v', e = .returned (.tuple #[v', .int .i64 0]) ∧ w'.ownsRow W.heap.size 64 1 v' (zl p zs).length (vals (zl p zs)) ∧ Below W.heap.size W w' := by
 have hk1 : chk f [zs] = 0 := chk_els h (fun l hl' => by rw [List.mem_singleton.1 hl']; exact ⟨hz, hl⟩)
 have := dZero_any f v zs W hr
 unfold Gives zeroL at this
 rw [hk1, if_pos rfl, pOf_eq h] at this
 exact this
theorem dthr_scl (W : World) (v : Value) {f p c : Int} {wd : Bool} (h : Fi f p wd) (hc : El p c) {Q : List Int} (hQ : Els p Q) (hl : Q.length <= 4096) (h1 : Rw W v Q) :
 Calls Tryz.prog 139 #[.int .u8 f, .int .u64 c, v] W fun e w' => ∃ v', e = .returned (.tuple #[v', .int .i64 0]) ∧ w'.ownsRow W.heap.size 64 1 v' (sc p c Q).length (vals (sc p c Q)) ∧ Below W.heap.size W w' := by
 have := dScale_any f c v Q W (elWord hc h.top) h1
 unfold Gives at this
 rw [(thr_scale h hc hQ hl).1, (thr_scale h hc hQ hl).2] at this
 exact this
theorem dthr_sum (W : World) (v1 v2 : Value) {f p : Int} {wd : Bool} (h : Fi f p wd) {S P : List Int} (hS : Els p S) (hP : Els p P) (l1 : S.length <= 4096) (l2 : P.length <= 4096) (h1 : Rw W v1 S) (h2 : Rw W v2 P) :
 Calls Tryz.prog 140 #[.int .u8 f, v1, v2] W fun e w' => ∃ v', e = .returned (.tuple #[v', .int .i64 0]) ∧ w'.ownsRow W.heap.size 64 1 v' (tr (sm p 1 S P)).length (vals (tr (sm p 1 S P))) ∧ Below W.heap.size W w' := by
 have := dAdd_any f v1 v2 S P W h1 h2
 unfold Gives at this
 rw [(thr_add h hS hP l1 l2).1, (thr_add h hS hP l1 l2).2] at this
 exact this
theorem dThrough (f : Int) (v1 v2 : Value) (xs ys : List Int) (w : World) (h1 : Rw w v1 xs) (h2 : Rw w v2 ys) : Gives 109 #[.int .u8 f, v1, v2] w (thrL f xs ys) (bad f xs ys ys.length) := by
 have HV := hide (dBad f v1 v2 xs ys ys.length w h1 h2 h2.len)
 by_cases hz : bad f xs ys ys.length = 0
 · obtain ⟨p, wd, h, i1, i2, hlen, hl, hn⟩ := bad_zero hz
   have hex := els_of i1 h1.words
   have hey := els_of i2 h2.words
   have hp0 := h.pos
   have htop := h.top
   have HL : Hid (thrL f xs ys = tp p xs ys xs.length) := by show _ = _; unfold thrL; rw [if_pos hz, pOf_eq h]
   rw [HL.out, hz]
   rw [hz] at HV
   have hzw : bad f xs [] xs.length = 0 := by
    have e1 : inF f xs = true := by rw [inF_yes h]; exact i1
    rw [bad_end e1 (inF_nil e1) rfl (by omega), if_pos hn]
   have HW := hide (fun W (hb : Below w.heap.size w W) => dWeights f v1 xs W (h1.below hb))
   have e3 : wtsL f xs = wts p xs := by unfold wtsL; rw [if_pos hzw, pOf_eq h]
   unfold Gives at HW
   rw [e3, hzw, wts_len] at HW
   have HO7 := hide (fun W k (hk : k < xs.length) (hb : Below w.heap.size w W) => dWithout v1 xs k W (h1.below hb) hk hl)
   have her : ∀ k, k < xs.length -> Els p (xs.eraseIdx k) ∧ (xs.eraseIdx k).length <= 512 := fun k hk => ⟨els_erase hex k, by have := erase_len hk; omega⟩
   have R1 := hide (fun k (hk : k < xs.length) W u base n (hO : World.ownsRow W base 64 1 u n (vals (xs.eraseIdx k))) => rw_of_own hO (by have := (her k hk).2; omega) (els_words (her k hk).1 htop))
   have HD := hide (fun W u k (hk : k < xs.length) r => dthr_zero W u h (her k hk).1 (by have := (her k hk).2; omega) r)
   have R2 := hide (fun k (hk : k < xs.length) W u base n (hO : World.ownsRow W base 64 1 u n (vals (zl p (xs.eraseIdx k)))) => rw_of_own hO (by have := erase_len hk; rw [(zl_facts h.md (xs.eraseIdx k)).2.2]; omega) (els_words (zl_facts h.md (xs.eraseIdx k)).1.1 htop))
   have HPp := hide (fun W => rP_yes f p wd W h)
   have HTi := hide (fun W a b (ha : El p a) (hb : El p b) => rTimes_any p a b W htop ha (elWord hb htop).1 (elWord hb htop).2)
   have HS := hide (fun W u k (hk : k < xs.length) c (hc : El p c) r => dthr_scl W u h hc (Q := zl p (xs.eraseIdx k)) (zl_facts h.md (xs.eraseIdx k)).1.1 (by have := erase_len hk; rw [(zl_facts h.md (xs.eraseIdx k)).2.2]; omega) r)
   have scl : ∀ k, k < xs.length -> ∀ c, Els p (sc p c (zl p (xs.eraseIdx k))) ∧ (sc p c (zl p (xs.eraseIdx k))).length <= 512 := fun k hk c => by
    have := sc_facts hp0 c (zl p (xs.eraseIdx k))
    have e := erase_len hk
    refine ⟨this.1.1, ?_⟩
    have := this.2.2
    rw [(zl_facts h.md (xs.eraseIdx k)).2.2] at this; omega
   have R3 := hide (fun k (hk : k < xs.length) c W u base n (hO : World.ownsRow W base 64 1 u n (vals (sc p c (zl p (xs.eraseIdx k))))) => rw_of_own hO (by have := (scl k hk c).2; omega) (els_words (scl k hk c).1 htop))
   have R4 := hide (fun k (hk : k <= xs.length) W u base n (hO : World.ownsRow W base 64 1 u n (vals (tp p xs ys k))) => rw_of_own hO (by have := tp_len h.md xs ys k hk; omega) (els_words (tp_tm hp0 xs ys k).1 htop))
   have HA := hide (fun W u1 u2 k (hk : k < xs.length) c r1 r2 => dthr_sum W u1 u2 h (S := tp p xs ys k) (P := sc p c (zl p (xs.eraseIdx k))) (tp_tm hp0 xs ys k).1 (scl k hk c).1 (by have := tp_len h.md xs ys k (by omega); omega) (by have := (scl k hk c).2; omega) r1 r2)
   have HWe := hide (wts_els hp0 xs)
   have HYe := hide (fun k => hey.co hp0 k)
   have HWl := hide (wts_len p xs)
   have HWa := hide (fun k (hk : k < xs.length) => wts_at (p := p) hk)
   obtain ⟨ax, cx, rfl, hcx⟩ := h1.spell
   obtain ⟨⟨ao, cap, rfl, _, _, hc⟩, _⟩ := h2
   obtain ⟨n, HN⟩ : ∃ n, Hid (xs.length = n) := ⟨_, rfl⟩
   have HNy : Hid (ys.length = n) := by rw [<- HN.out]; exact hlen.symm
   rw [HNy.out] at HV hc ⊢
   rw [HN.out] at HV HW HO7 R1 HD R2 HS R3 R4 HA HWa hl hcx ⊢
   have HCy : Hid (∀ W, Below w.heap.size w W -> ∀ j, j < n -> ∃ b off, ao = some ⟨b, off, none⟩ ∧ W.cell? ⟨b, off + j, none⟩ = some (.int .u64 (ys.getD j 0))) := fun W hb j hj => by
    obtain ⟨b, off, e, h3, h4⟩ := hc (by intro e; have := HNy.out; rw [e] at this; simp at this; omega)
    exact ⟨b, off, e, (hb.cell (p := ⟨b, off + j, none⟩) h3).trans (h4 j hj)⟩
   clear h1 h i1 i2 hlen hn hz hzw hex hey HL hc scl her e3
   show Calls _ _ _ _ _
   go_enter Tryz.func109, Tryz.ntmps109
   go_wp2_with (first
    | (go_at_call 66; refine HV.out.mono ?_; rintro e w1 ⟨rfl, hb1⟩)
    | (go_at_call 136; refine (HW.out _ hb1).mono ?_; rintro e w3 ⟨v3, rfl, hO3, hb3⟩; have hB3 := Below.next hb1 hb3; obtain ⟨a3, k3, rfl⟩ := own_form hO3; have HO3 := hide hO3; clear hO3))
   clear HV HW
   go_loopw [11, 12] (fun vs vi wr => ∃ (k : Nat) (as2 : Option Addr) (cs2 : Nat), k <= n ∧ vi = .int .i64 k ∧ vs = .slice as2 (tp p xs ys k).length cs2 ∧ Hid (wr.ownsRow w.heap.size 64 1 (.slice as2 (tp p xs ys k).length cs2) (tp p xs ys k).length (vals (tp p xs ys k))) ∧ Below w3.heap.size w3 wr) (fun _ vi _ => n - (intOf vi).toNat)
   case atStart => exact ⟨0, none, 0, Nat.zero_le _, rfl, rfl, World.ownsRow_nil _ _ _ _, Below.refl _ _⟩
   case round =>
    obtain ⟨k, as2, cs2, hk, rfl, rfl, HO, hb⟩ := hrel
    have hB := Below.next hB3 hb
    by_cases hlt : k < n
    · obtain ⟨by2, oy, rfl, _⟩ := HCy.out wr hB k hlt
      obtain ⟨g, cg, hvg, _, _⟩ := HO3.out.form (by omega)
      injection hvg with hvg _ hcg
      subst hvg hcg
      have hwe : El p ((wts p xs).getD k 0) := HWe.out.co hp0 k
      have hye : El p (ys.getD k 0) := HYe.out k
      have HTk : Hid (tr (sm p 1 (tp p xs ys k) (sc p (mul p ((wts p xs).getD k 0) (ys.getD k 0)) (zl p (xs.eraseIdx k)))) = tp p xs ys (k + 1)) := by
       show _ = _
       have e : (wts p xs).getD k 0 = wt p xs k := HWa.out k hlt
       rw [e]; rfl
      have c0 := hide (HO7.out wr k hlt hB)
      have c1 := hide (fun W u r => HD.out W u k hlt r)
      have c3 := hide (fun W => HTi.out W _ _ hwe hye)
      have c4 := hide (fun W u r => HS.out W u k hlt (mul p ((wts p xs).getD k 0) (ys.getD k 0)) (mul_el hp0) r)
      have c5 := hide (fun W u1 u2 r1 r2 => HA.out W u1 u2 k hlt (mul p ((wts p xs).getD k 0) (ys.getD k 0)) r1 r2)
      have r1 := hide (fun W u base n' hO' => R1.out k hlt W u base n' hO')
      have r2 := hide (fun W u base n' hO' => R2.out k hlt W u base n' hO')
      have r3 := hide (fun W u base n' hO' => R3.out k hlt (mul p ((wts p xs).getD k 0) (ys.getD k 0)) W u base n' hO')
      have r4 := hide (R4.out k (by omega) _ _ _ _ HO.out)
      have HCs : Hid (∀ W, Below w3.heap.size w3 W -> W.cell? ⟨g, k, none⟩ = some (.int .u64 ((wts p xs).getD k 0)) ∧ W.cell? ⟨by2, oy + k, none⟩ = some (.int .u64 (ys.getD k 0))) := fun W hb' => by
       obtain ⟨b', o', e', h'⟩ := HCy.out W (Below.next hB3 hb') k hlt
       cases e'
       exact ⟨own_cell (own_below HO3.out hb') (by rw [HWl.out, HN.out]) hlt, h'⟩
      rw [HTk.out] at c5
      obtain ⟨T2, HT2⟩ : ∃ T2, Hid (tp p xs ys (k + 1) = T2) := ⟨_, rfl⟩
      rw [HT2.out] at c5
      obtain ⟨T1, HT1⟩ : ∃ T1, Hid (tp p xs ys k = T1) := ⟨_, rfl⟩
      rw [HT1.out] at c5 r4 ⊢
      clear HO7 HD HTi HS HA R1 R2 R3 R4 HWe HYe HWa HCy hwe hye HTk HO
      generalize sc p (mul p ((wts p xs).getD k 0) (ys.getD k 0)) (zl p (xs.eraseIdx k)) = part at *
      generalize mul p ((wts p xs).getD k 0) (ys.getD k 0) = mm at *
      generalize (wts p xs).getD k 0 = wk at *
      generalize ys.getD k 0 = yk at *
      generalize zl p (xs.eraseIdx k) = zer at *
      generalize xs.eraseIdx k = ers at *
      go_wp2_with (first
       | (go_at_call 138; refine c0.out.mono ?_; rintro e w4 ⟨v4, rfl, hO4, hb4⟩; have hr4 := r1.out _ _ _ _ hO4; obtain ⟨a4, k4, rfl⟩ := own_form hO4; clear hO4; have q4 := r4.out.below hb4; have hb4' := Below.next hb hb4)
       | (go_at_call 137; refine (c1.out _ _ hr4).mono ?_; rintro e w5 ⟨v5, rfl, hO5, hb5⟩; have hr5 := r2.out _ _ _ _ hO5; obtain ⟨a5, k5, rfl⟩ := own_form hO5; clear hO5; have q5 := q4.below hb5; have hb5' := Below.next hb4' hb5))
      have hd5 := HCs.out w5.drew hb5'.drew
      have hr5d := hr5.below (Below.refl _ w5).drew
      go_region_held3 (fun W' => W'.cell? ⟨g, k, none⟩ = some (.int .u64 wk) ∧ W'.cell? ⟨by2, oy + k, none⟩ = some (.int .u64 yk)) (first | with_reducible exact hS6 | with_reducible exact hd5) (first
       | (go_at_call 70; refine (HPp.out _).mono ?_; rintro e w9 ⟨rfl, hw9⟩; rw [hw9]; clear hw9)
       | (go_at_call 71; refine (c3.out _).mono ?_; rintro e w9 ⟨rfl, hw9⟩; rw [hw9]; clear hw9)
       | (go_at_call 139; refine (c4.out _ _ hr5d).mono ?_; rintro e w6 ⟨v6, rfl, hO6, hb6⟩; have hb6' := Below.next hb5'.drew hb6; have hS6 := HCs.out _ hb6'; have hr6 := r3.out _ _ _ _ hO6; obtain ⟨a6, k6, rfl⟩ := own_form hO6; clear hO6))
      have q6 := (q5.below (Below.refl _ w5).drew).below hb6
      have hB6 := Below.next hB3 hb6'
      go_wp2_with (go_at_call 140; refine (c5.out _ _ _ q6 hr6).mono ?_; rintro e w8 ⟨v8, rfl, hO8, hb8⟩; obtain ⟨a8, k8, rfl⟩ := own_form hO8; have HO8 := hide (own_mono hO8 hB6.size); clear hO8)
      have hb9 := Below.next hb6' hb8
      rw [<- HT2.out] at HO8
      have e9 : T2.length = (tp p xs ys (k + 1)).length := by rw [HT2.out]
      rw [e9]
      clear e9
      go_roundw
      case rel => exact ⟨k + 1, a8, k8, by omega, by go_num, rfl, HO8, hb9⟩
      case measure => simp [intOf]; omega
    · obtain rfl : k = n := by omega
      clear HO7 HD HTi HS HA R1 R2 R3 R4 HWe HYe HWa HCy
      go_wp2
      go_ret2
      exact ⟨_, rfl, HO.out, hB⟩
 · have ht : (bad f xs ys ys.length != 0) = true := bne_iff_ne.2 hz
   have HL : Hid (thrL f xs ys = []) := by show _ = _; unfold thrL; rw [if_neg hz]
   rw [HL.out]
   obtain ⟨a1, c1, rfl, _⟩ := h1.spell
   obtain ⟨a2, c2, rfl, _⟩ := h2.spell
   clear h1 h2 hz HL
   generalize bad f xs ys ys.length = e0 at *
   generalize xs.length = n at *
   generalize ys.length = n2 at *
   apply Gives.none
   go_enter Tryz.func109, Tryz.ntmps109
   go_wp2_with (go_at_call 66; refine HV.out.mono ?_; rintro e w1 ⟨rfl, hb1⟩)
   go_ret2
   exact ⟨rfl, hb1⟩
end Go.Proofs.YtjhididlcdepdaaGreat
