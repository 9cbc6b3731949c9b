import Derived.Test.YtaikhiodpieghaaBWirN
import Derived.Test.YtaikhiodpieghaaBWirI
set_option linter.unusedVariables false
set_option linter.unusedSimpArgs false
set_option maxRecDepth 100000
set_option maxHeartbeats 4000000
namespace Go.Proofs.Ytaikhiodpieghaa
open Go.RowKit Fld
theorem rdL_mem {q k : Nat} (bs : List Int) : ∀ n, k < n -> tk8 ((bs.drop (k * q)).take q) ∈ rdL q n bs
 | 0, h => by omega
 | n + 1, h => by
  rw [rdL_snoc]
  by_cases hk : k = n
  · subst hk; exact List.mem_append_right _ List.mem_cons_self
  · exact List.mem_append_left _ (rdL_mem bs n (by omega))
theorem inW_one {f : Int} {l : List Int} (h : inW f l = true) {x : Int} (hx : x ∈ l) : inW f [x] = true := by
 unfold inW at *
 by_cases h1 : f = 1
 · rw [if_pos h1] at h ⊢
   simp only [List.all_cons, List.all_nil, Bool.and_true]; exact List.all_eq_true.1 h x hx
 · rw [if_neg h1] at h ⊢
   by_cases h2 : f = 2
   · rw [if_pos h2] at h ⊢
     simp only [List.all_cons, List.all_nil, Bool.and_true]; exact List.all_eq_true.1 h x hx
   · rw [if_neg h2] at h; cases h
theorem inW_snoc {f : Int} {l : List Int} {x : Int} (h : inW f l = true) (hx : inW f [x] = true) : inW f (l ++ [x]) = true := by
 unfold inW at *
 by_cases h1 : f = 1
 · rw [if_pos h1] at h hx ⊢
   rw [List.all_append, h, hx]; rfl
 · rw [if_neg h1] at h hx ⊢
   by_cases h2 : f = 2
   · rw [if_pos h2] at h hx ⊢
     rw [List.all_append, h, hx]; rfl
   · rw [if_neg h2] at h; cases h
theorem inW_nil {f : Int} (h : f = 1 ∨ f = 2) : inW f [] = true := by
 rcases h with rfl | rfl <;> rfl
theorem row_one (w : World) (x : Int) (hx : 0 <= x ∧ x <= 18446744073709551615) (T : TypeId) : Row (w.alloc (.cells #[.int .u64 x] T)) (.slice (some ⟨w.heap.size, 0, none⟩) 1 1) [x] := by
 refine ⟨_, 1, rfl, by simp, fun y hy => by rw [List.mem_singleton.1 hy]; exact hx, fun _ => ⟨w.heap.size, 0, rfl, by simp, fun i hi => ?_⟩⟩
 have : i = 0 := by simp at hi; omega
 subst this
 simp [go_sem]
theorem heap_two (w : World) (o1 o2 : Obj) : ((w.alloc o1).alloc o2).heap[w.heap.size + 1]? = some o2 := by
 have := heap_alloc_new (w.alloc o1) o2
 simpa using this
theorem rReadList (v : Value) (bs : List Int) (w : World) (h : Rb w v bs) : GivesR8 28 #[v] w bs := by
 unfold GivesR8
 have hy := h.by
 have hlen := h.len
 rcases rl_cases bs with ⟨h0, he⟩ | ⟨h0, hf, he⟩ | ⟨h0, hf, hc, he⟩ | ⟨h0, hf, hc, hn, he⟩ | ⟨h0, hf, hc, hn, he⟩
 · obtain ⟨e1, e2, e3⟩ := rl_no he (by decide)
   rw [he, e1, e2, e3]
   obtain ⟨ao, cap, rfl, _⟩ := h.spell
   clear he e1 e2 e3 hy h
   rw [h0]
   go_enter Try.func28, Try.ntmps28
   go_wp2
   (try simp only [Exit.inBlock, Exit.then]); refine bodyPost_ret (results_tmp4 rfl _ _ _) rfl ?_
   exact ⟨_, rfl, World.ownsRow_nil _ _ _ _, Below.refl _ _⟩
 · obtain ⟨e1, e2, e3⟩ := rl_no he (by decide)
   rw [he, e1, e2, e3]
   obtain ⟨b, off, cap, rfl, hcp, _⟩ := h.form h0
   have hck : w.cell? ⟨b, off, none⟩ = some (.int .u8 (bs.getD 0 0)) := (h.at_ h0).2.1
   obtain ⟨b0, b1⟩ := h.byte h0
   have hf1 : (bs.getD 0 0 != 1) = true := by have : ¬ bs.getD 0 0 = 1 := fun e => hf (.inl e); simpa using this
   have hf2 : (bs.getD 0 0 != 2) = true := by have : ¬ bs.getD 0 0 = 2 := fun e => hf (.inr e); simpa using this
   have hl1 : (0 : Int) < (bs.length : Int) := by omega
   have hl2 : ¬ bs.length = 0 := by omega
   clear he e1 e2 e3 hy h hf
   generalize bs.getD 0 0 = f at *
   go_enter Try.func28, Try.ntmps28
   go_wp2
   (try simp only [Exit.inBlock, Exit.then]); refine bodyPost_ret (results_tmp4 rfl _ _ _) rfl ?_
   exact ⟨_, rfl, World.ownsRow_nil _ _ _ _, Below.refl _ _⟩
 all_goals
  obtain ⟨b, off, cap, rfl, hcp, _⟩ := h.form (by omega)
  have hck : w.cell? ⟨b, off, none⟩ = some (.int .u8 (bs.getD 0 0)) := (h.at_ (k := 0) (by omega)).2.1
  obtain ⟨b0, b1⟩ := h.byte (k := 0) (by omega)
  have hl1 : (0 : Int) < (bs.length : Int) := by omega
  have hl2 : ¬ bs.length = 0 := by omega
  have hff : bs.getD 0 0 = 1 ∨ bs.getD 0 0 = 2 := hf
  have HRC := hide (rReadCount (.slice (some ⟨b, off + 1, none⟩) (bs.length - 1) (cap - 1)) (bs.drop 1) w (by
   have := h.cut (o := 1) (n := bs.length - 1) (c := cap - 1) (by omega) (by omega)
   rw [List.take_of_length_le (by rw [List.length_drop]; exact Nat.le_refl _)] at this
   exact this))
  have HRF : Hid (rlF bs = bs.getD 0 0) := rfl
 · obtain ⟨e1, e2, e3⟩ := rl_no he hc
   rw [he, e1, e2, e3]
   have hcc : rcE (bs.drop 1) = 7 ∨ rcE (bs.drop 1) = 8 := by have := rcE_or (bs.drop 1); omega
   have hsz : rcS (bs.drop 1) = 0 := by unfold rcS; rw [if_neg hc]
   rw [rcN_no hc, hsz] at HRC
   have HE0 : Hid (cap = 1 -> rcE (bs.drop 1) = 7) := fun h => by unfold rcE; rw [if_pos (by rw [List.length_drop]; omega)]
   have HR0 := hide (fun ad => rReadCount (.slice (some ad) 0 0) [] w (rb_empty w ad 0))
   clear he e1 e2 e3 hy h hc hf hsz HRF
   generalize bs.getD 0 0 = f at *
   have HW := hide (fun W => rWidth f W hff)
   by_cases h1 : cap = 1
   · obtain rfl := h1
     rw [HE0.out rfl]
     have hb1 : bs.length = 1 := by omega
     clear hcc HRC HE0
     rw [hb1]
     clear hb1
     rcases hff with rfl | rfl
     all_goals
      go_enter Try.func28, Try.ntmps28
      go_wp2_with (go_at_call 45; refine (HR0.out _).mono ?_; rintro e w1 ⟨rfl, hw1⟩; subst hw1)
      refine wp_loop_rounds 1 ?_
      rw [rounds_succ]
      go_wp2
      (try simp only [Exit.inBlock, Exit.then]); refine bodyPost_ret (results_tmp4 rfl _ _ _) rfl ?_
      exact ⟨_, rfl, World.ownsRow_nil _ _ _ _, Below.refl _ _⟩
   · clear HE0 HR0
     rcases hcc with hcc | hcc
     all_goals
      rw [hcc] at HRC ⊢
      clear hcc
      rcases hff with rfl | rfl
      all_goals
       go_enter Try.func28, Try.ntmps28
       go_wp2_with (go_at_call 45; refine HRC.out.mono ?_; rintro e w1 ⟨rfl, hw1⟩; subst hw1)
       refine wp_loop_rounds 1 ?_
       rw [rounds_succ]
       go_wp2
       (try simp only [Exit.inBlock, Exit.then]); refine bodyPost_ret (results_tmp4 rfl _ _ _) rfl ?_
       exact ⟨_, rfl, World.ownsRow_nil _ _ _ _, Below.refl _ _⟩
 all_goals
  have hsz : rcS (bs.drop 1) = 4 := by unfold rcS; rw [if_pos hc]
  have hb5 := (rcE_zero hc).1
  rw [List.length_drop] at hb5
  have h1 : ¬ cap = 1 := by omega
  rw [rcN_rlN hy hc, hc, hsz] at HRC
 · obtain ⟨e1, e2, e3⟩ := rl_no he (by decide)
   rw [he, e1, e2, e3]
   have hn2 : (4096 : Int) < ((rlN bs : Nat) : Int) := by omega
   clear he e1 e2 e3 hy h hc hf hsz hn HRF
   generalize bs.getD 0 0 = f at *
   generalize ((rlN bs : Nat) : Int) = n at *
   rcases hff with rfl | rfl
   all_goals
    go_enter Try.func28, Try.ntmps28
    go_wp2_with (go_at_call 45; refine HRC.out.mono ?_; rintro e w1 ⟨rfl, hw1⟩; subst hw1)
    refine wp_loop_rounds 1 ?_
    rw [rounds_succ]
    go_wp2
    (try simp only [Exit.inBlock, Exit.then]); refine bodyPost_ret (results_tmp4 rfl _ _ _) rfl ?_
    exact ⟨_, rfl, World.ownsRow_nil _ _ _ _, Below.refl _ _⟩
 · have hwF := wF_or hf
   have HW := hide (fun W => rWidth (rlF bs) W hf)
   obtain ⟨D, hD⟩ : ∃ D, rlN bs * wF (rlF bs) = D := ⟨_, rfl⟩
   have hDi : ((rlN bs : Nat) : Int) * ((wF (rlF bs) : Nat) : Int) = (D : Int) := by rw [<- hD]; simp
   have hDb : D <= 32768 := by rw [<- hD]; exact Nat.le_trans (Nat.mul_le_mul_right _ hn) (by omega)
   by_cases hs : (bs.drop 5).length < rlN bs * wF (rlF bs)
   · have hE := (neE_short hs).1
     obtain ⟨e1, e2, e3⟩ := rl_no (he.trans hE) (by decide)
     rw [he, hE, e1, e2, e3]
     have hs2 : ((bs.length : Int) - 5) < (D : Int) := by rw [List.length_drop, hD] at hs; omega
     have hn0 : (0 : Int) < ((rlN bs : Nat) : Int) := by
      have : 0 < rlN bs := by apply Nat.pos_of_ne_zero; intro h0; rw [h0, Nat.zero_mul] at hs; omega
      omega
     rw [HRF.out] at HW hDi
     clear he e1 e2 e3 hy h hc hf hsz HRF hE hs hD hwF
     generalize bs.getD 0 0 = f at *
     generalize wF f = q at *
     generalize rlN bs = n at *
     rcases hff with rfl | rfl
     all_goals
      go_enter Try.func28, Try.ntmps28
      go_wp2_with (first
       | (go_at_call 45; refine HRC.out.mono ?_; rintro e w1 ⟨rfl, hw1⟩; subst hw1)
       | (go_at_call 36; refine (HW.out _).mono ?_; rintro e w2 ⟨rfl, hw2⟩; subst hw2))
      refine wp_loop_rounds 1 ?_
      rw [rounds_succ]
      go_wp2
      (try simp only [Exit.inBlock, Exit.then]); refine bodyPost_ret (results_tmp4 rfl _ _ _) rfl ?_
      exact ⟨_, rfl, World.ownsRow_nil _ _ _ _, Below.refl _ _⟩
   · have HNo : Hid (inW (rlF bs) (rdL (wF (rlF bs)) (rlN bs) (bs.drop 5)) = false -> rlE bs = 8 ∧ rlFo bs = 0 ∧ rlLo bs = [] ∧ rlSo bs = 0) := fun hi => by
      have e := he.trans (neE_no hs hi).1
      exact ⟨e, rl_no e (by decide)⟩
     have HYe : Hid (inW (rlF bs) (rdL (wF (rlF bs)) (rlN bs) (bs.drop 5)) = true -> rlE bs = 0 ∧ rlFo bs = rlF bs ∧ rlLo bs = rdL (wF (rlF bs)) (rlN bs) (bs.drop 5) ∧ rlSo bs = 5 + rlN bs * wF (rlF bs)) := fun hi => by
      have e := he.trans (neE_yes hs hi).1
      exact ⟨e, rl_yes e⟩
     have hs2 : ¬ ((bs.length : Int) - 5) < (D : Int) := by rw [List.length_drop, hD] at hs; omega
     have hs3 : 5 + D <= bs.length := by omega
     have HN0 := hide (inW_nil hf)
     have HRN : Hid (rdL (wF (rlF bs)) 0 (bs.drop 5) = []) := rfl
     have HT : Hid (∀ k, k < rlN bs -> ∀ W, Below w.heap.size w W -> Calls Try.prog 29 #[.slice (some ⟨b, off + (5 + k * wF (rlF bs)), none⟩) (wF (rlF bs)) (cap - (5 + k * wF (rlF bs)))] W fun e w' => e = .returned (.int .u64 (tk8 (((bs.drop 5).drop (k * wF (rlF bs))).take (wF (rlF bs))))) ∧ w' = W) := fun k hk W hb => by
      have hkq : (k + 1) * wF (rlF bs) <= D := by rw [<- hD]; exact Nat.mul_le_mul_right _ hk
      rw [Nat.add_mul, Nat.one_mul] at hkq
      rw [List.drop_drop]
      exact rTaken _ _ W ((h.cut (o := 5 + k * wF (rlF bs)) (n := wF (rlF bs)) (c := cap - (5 + k * wF (rlF bs))) (by omega) (by omega)).below hb) (by rw [List.length_take]; omega)
     have HKq : Hid (∀ k, k < rlN bs -> 5 + k * wF (rlF bs) + wF (rlF bs) <= bs.length) := fun k hk => by
      have hkq : (k + 1) * wF (rlF bs) <= D := by rw [<- hD]; exact Nat.mul_le_mul_right _ hk
      rw [Nat.add_mul, Nat.one_mul] at hkq
      omega
     have HWd := hide (fun k (hk : k < rlN bs) => rdL_words (by omega : wF (rlF bs) <= 8) (rlN bs) (bs.drop 5) (hy.drop 5) _ (rdL_mem (q := wF (rlF bs)) (k := k) (bs.drop 5) (rlN bs) hk))
     have HMm := hide (fun k (hk : k < rlN bs) => rdL_mem (q := wF (rlF bs)) (k := k) (bs.drop 5) (rlN bs) hk)
     have HSn := hide (fun k => rdL_snoc (wF (rlF bs)) k (bs.drop 5))
     have HWk := hide (fun k => rdL_words (by omega : wF (rlF bs) <= 8) k (bs.drop 5) (hy.drop 5))
     have HIn : Hid (∀ x : Int, (0 <= x ∧ x <= 18446744073709551615) -> ∀ (W : World) T, Calls Try.prog 22 #[.int .u8 (rlF bs), .slice (some ⟨W.heap.size, 0, none⟩) 1 1] (W.alloc (.cells #[.int .u64 x] T)) fun e w' => e = .returned (.bool (inW (rlF bs) [x])) ∧ w' = W.alloc (.cells #[.int .u64 x] T)) := fun x hx W T => rIn_any (rlF bs) _ [x] _ (row_one W x hx T)
     have HG1 : Hid (∀ (l : List Int) (x : Int), inW (rlF bs) l = true -> inW (rlF bs) [x] = true -> inW (rlF bs) (l ++ [x]) = true) := fun l x h1 h2 => inW_snoc h1 h2
     have HG2 : Hid (∀ (l : List Int) (x : Int), x ∈ l -> inW (rlF bs) [x] = false -> inW (rlF bs) l = false) := fun l x hx h1 => by
      cases h2 : inW (rlF bs) l with
      | false => rfl
      | true => rw [inW_one h2 hx] at h1; cases h1
     obtain ⟨i0, hi0, hz0, hz1, hz2⟩ := info_parts u64_info
     rw [HRF.out] at HW hDi HNo HYe HN0 HRN HT HKq HWd HMm HSn HWk HIn HG1 HG2 hwF
     clear he hy h hc hf hsz HRF hs hD
     generalize bs.getD 0 0 = f at *
     generalize wF f = q at *
     generalize rlN bs = n at *
     generalize rlE bs = ee at *
     generalize rlFo bs = ff at *
     generalize rlLo bs = ll at *
     generalize rlSo bs = ss at *
     generalize bs.drop 5 = B5 at *
     have hq8 : q <= 8 := by omega
     have hq0 : 0 < q := by omega
     clear hwF
     generalize inW f = G at *
     rcases hff with rfl | rfl
     all_goals
      go_enter Try.func28, Try.ntmps28
      go_wp2_with (first
       | (go_at_call 45; refine HRC.out.mono ?_; rintro e w1 ⟨rfl, hw1⟩; rw [hw1]; clear hw1 w1)
       | (go_at_call 36; refine (HW.out _).mono ?_; rintro e w2 ⟨rfl, hw2⟩; rw [hw2]; clear hw2 w2))
      clear HRC hDi hs2
      go_loopw [8, 9, 10, 11] (fun vs ve vl vi wr => Below w.heap.size w wr ∧ ∃ k : Nat, k <= n ∧ vi = .int .i64 k ∧ ((ve = .int .i64 0 ∧ vs = .int .i64 ((5 + k * q : Nat) : Int) ∧ Hid (G (rdL q k B5) = true) ∧ Hid (wr.ownsRow w.heap.size 48 1 vl k (vals (rdL q k B5)))) ∨ (ve = .int .i64 8 ∧ Hid (G (rdL q n B5) = false)))) (fun _ _ _ vi _ => n - (intOf vi).toNat)
      case atStart => exact ⟨Below.refl _ _, 0, Nat.zero_le _, rfl, .inl ⟨rfl, by rw [Nat.zero_mul]; rfl, HN0, by rw [HRN.out]; exact World.ownsRow_nil _ _ _ _⟩⟩
      case round =>
       obtain ⟨hB, k, hk, rfl, hrel⟩ := hrel
       rcases hrel with ⟨rfl, rfl, HG, HO⟩ | ⟨rfl, HB⟩
       · by_cases hlt : k < n
         · have hkl := HKq.out k hlt
           have hx := HWd.out k hlt
           have HTk := hide (HT.out k hlt wr hB)
           have HMk := hide (HMm.out k hlt)
           have HSk := hide (HSn.out k)
           have HWk1 := hide (HWk.out k)
           obtain ⟨x, HX⟩ : ∃ x, Hid (tk8 ((B5.drop (k * q)).take q) = x) := ⟨_, rfl⟩
           rw [HX.out] at hx HTk HMk HSk
           obtain ⟨x0, x1⟩ := hx
           have HIx := hide (fun W T => HIn.out x ⟨x0, x1⟩ W T)
           have HQ : Hid (5 + k * q + q = 5 + (k + 1) * q) := by show _ = _; rw [Nat.add_mul, Nat.one_mul, Nat.add_assoc]
           obtain ⟨ps, HP⟩ : ∃ ps, Hid (5 + k * q = ps) := ⟨_, rfl⟩
           rw [HP.out] at hkl HTk HQ ⊢
           clear HT HMm HSn HWk HWd HIn HX HKq
           have hcps : ¬ cap = ps := by omega
           cases hi : G [x] with
           | true =>
            rw [hi] at HIx
            go_wp2_with (first
             | (go_at_call 36; refine (HW.out _).mono ?_; rintro e w2 ⟨rfl, hw2⟩; rw [hw2]; clear hw2 w2)
             | (go_at_call 29; refine HTk.out.mono ?_; rintro e w3 ⟨rfl, hw3⟩; rw [hw3]; clear hw3 w3)
             | (go_at_call 22; refine (HIx.out _ _).mono ?_; rintro e w4 ⟨rfl, hw4⟩; rw [hw4]; clear hw4 w4)
             | (at_builtin; refine wpList_append_own _ rfl _ _ _ rfl w.heap.size 48 i0 _ 1 8 Try.underlying24 hi0 hz0 hz1 hz2 rfl (by omega) _ k (vals (rdL q k B5)) rfl ((HO.out.alloc _).alloc _) ⟨wr.heap.size + 1, 0, none⟩ 1 1 [.int .u64 x] rfl rfl (World.news_of_block (cs := #[.int .u64 x]) (t := 48) (fr := (0, 0)) (heap_two wr _ _)) (by simp [Value.oneCell']) (by unfold maxLen; omega) (by omega) (by have := hB.size; simp; omega) ?_; intro v5 w5 ho5 hg5 _))
            have hB5 := ((hB.alloc hB.size _).alloc (by have := hB.size; simp; omega) _).grown hg5 (by have := hB.size; simp; omega) (own_base HO.out)
            have HO5 : Hid (w5.ownsRow w.heap.size 48 1 v5 (k + 1) (vals (rdL q (k + 1) B5))) := by show World.ownsRow _ _ _ _ _ _ _; rw [HSk.out, <- vals_snoc]; exact ho5
            have HG5 : Hid (G (rdL q (k + 1) B5) = true) := by show _ = _; rw [HSk.out]; exact HG1.out _ _ HG.out hi
            clear ho5 hg5 HO HIx HTk
            go_roundw
            case rel => exact ⟨hB5, k + 1, by omega, by go_num, .inl ⟨rfl, by rw [<- HQ.out]; go_num, HG5, HO5⟩⟩
            case measure => simp [intOf]; omega
           | false =>
            rw [hi] at HIx
            go_wp2_with (first
             | (go_at_call 36; refine (HW.out _).mono ?_; rintro e w2 ⟨rfl, hw2⟩; rw [hw2]; clear hw2 w2)
             | (go_at_call 29; refine HTk.out.mono ?_; rintro e w3 ⟨rfl, hw3⟩; rw [hw3]; clear hw3 w3)
             | (go_at_call 22; refine (HIx.out _ _).mono ?_; rintro e w4 ⟨rfl, hw4⟩; rw [hw4]; clear hw4 w4)
             | (at_builtin; refine wpList_append_own _ rfl _ _ _ rfl w.heap.size 48 i0 _ 1 8 Try.underlying24 hi0 hz0 hz1 hz2 rfl (by omega) _ k (vals (rdL q k B5)) rfl ((HO.out.alloc _).alloc _) ⟨wr.heap.size + 1, 0, none⟩ 1 1 [.int .u64 x] rfl rfl (World.news_of_block (cs := #[.int .u64 x]) (t := 48) (fr := (0, 0)) (heap_two wr _ _)) (by simp [Value.oneCell']) (by unfold maxLen; omega) (by omega) (by have := hB.size; simp; omega) ?_; intro v5 w5 ho5 hg5 _))
            have hB5 := ((hB.alloc hB.size _).alloc (by have := hB.size; simp; omega) _).grown hg5 (by have := hB.size; simp; omega) (own_base HO.out)
            have HG5 : Hid (G (rdL q n B5) = false) := HG2.out _ _ HMk.out hi
            clear ho5 hg5 HO HIx HTk
            go_roundw
            case rel => exact ⟨hB5, k + 1, by omega, by go_num, .inr ⟨rfl, HG5⟩⟩
            case measure => simp [intOf]; omega
         · obtain rfl : k = n := by omega
           obtain ⟨e1, e2, e3, e4⟩ := HYe.out HG.out
           have HL : Hid (k = ll.length) := by show _ = _; rw [e3, rdL_len]
           have HO5 : Hid (wr.ownsRow w.heap.size 48 1 u10 ll.length (vals ll)) := by rw [<- HL.out, e3]; exact HO
           have hss : ((ss : Nat) : Int) = ((5 + k * q : Nat) : Int) := by rw [e4]
           have HSS := hide hss
           subst e1 e2
           clear HNo HYe HT HMm HSn HWk HWd HIn HKq HG HO e3 e4 hss
           rw [<- HSS.out]
           go_wp2
           (try simp only [Exit.inBlock, Exit.then]); refine bodyPost_ret (results_tmp4 rfl _ _ _) rfl ?_
           exact ⟨_, rfl, HO5.out, hB⟩
       · obtain ⟨e1, e2, e3, e4⟩ := HNo.out HB.out
         subst e1 e2 e3 e4
         clear HNo HYe HT HMm HSn HWk HWd HIn HKq HB
         by_cases hlt : k < n
         · go_wp2
           (try simp only [Exit.inBlock, Exit.then]); refine bodyPost_ret (results_tmp4 rfl _ _ _) rfl ?_
           exact ⟨_, rfl, World.ownsRow_nil _ _ _ _, hB⟩
         · go_wp2
           (try simp only [Exit.inBlock, Exit.then]); refine bodyPost_ret (results_tmp4 rfl _ _ _) rfl ?_
           exact ⟨_, rfl, World.ownsRow_nil _ _ _ _, hB⟩
end Go.Proofs.Ytaikhiodpieghaa
