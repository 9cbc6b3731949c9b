import Derived.Test.YtjhididlcdepdaaGreatBLodC
import Derived.Test.YtjhididlcdepdaaGreatBQMute
import Derived.Test.YtjhididlcdepdaaGreatBTkA
set_option linter.unusedVariables false
set_option linter.unusedSimpArgs false
set_option maxRecDepth 100000
set_option maxHeartbeats 4000000
namespace Go.Proofs.YtjhididlcdepdaaGreat
open Go.RowKit Fld Rnk
theorem rw_mid17 {w : World} {b off n cap : Nat} {xs : List Int} (h : Rw w (.slice (some ⟨b, off, none⟩) n cap) xs) {k m : Nat} (hk : k + m <= xs.length) : Rw w (.slice (some ⟨b, off + k, none⟩) m (cap - k)) ((xs.drop k).take m) := by
 obtain ⟨⟨ao', cap', h1, h2, h3, h4⟩, a, q, c, h5, h6⟩ := h
 cases h1; cases h5
 have hl : ((xs.drop k).take m).length = m := by rw [List.length_take, List.length_drop]; omega
 refine ⟨⟨_, _, by rw [hl], by omega, fun x hx => h3 x (List.mem_of_mem_drop (List.mem_of_mem_take hx)), fun hne => ?_⟩, _, _, _, rfl, by omega⟩
 have hm : 0 < m := by rw [<- hl]; exact List.length_pos_iff.2 hne
 obtain ⟨b', off', h7, hb, hc⟩ := h4 (by intro e; rw [e] at hk; simp at hk; omega)
 cases h7
 refine ⟨b, off + k, rfl, hb, fun i hi => ?_⟩
 rw [hl] at hi
 have := hc (k + i) (by omega)
 rw [show off + k + i = off + (k + i) by omega, this]
 rw [List.getD_eq_getElem?_getD, List.getD_eq_getElem?_getD, List.getElem?_take_of_lt hi, List.getElem?_drop]
theorem rw_tail17 {w : World} {g n u m o : Nat} {X : List Int} (h : Rw w (.slice (some ⟨g, 0, none⟩) u u) X) (hl : X.length = u) (hm : u - n = m) (ho : o = n ∨ m = 0) : Rw w (.slice (some ⟨g, o, none⟩) m m) (X.drop n) := by
 by_cases h0 : m = 0
 · have e : X.drop n = [] := List.drop_eq_nil_of_le (by omega)
   rw [e, h0]
   exact ⟨⟨_, _, rfl, by simp, (fun x hx => by cases hx), fun c => absurd rfl c⟩, _, _, _, rfl, Nat.le_refl _⟩
 · obtain rfl := ho.resolve_right h0
   have := rw_mid17 h (k := o) (m := m) (by omega)
   rw [Nat.zero_add, hm] at this
   have e : (X.drop o).take m = X.drop o := List.take_of_length_le (by rw [List.length_drop]; omega)
   rwa [e] at this
theorem al_list17 {n w : Nat} {X : List Int} {u : Nat} (hl : X.length = u) (hu : n + w = u) : X.drop n ++ [1] = al n w (co X) := by
 unfold al
 congr 1
 refine ext_co (by rw [mk_len, List.length_drop]; omega) (fun i hi => ?_)
 rw [List.length_drop] at hi
 rw [co_mk, if_pos (by omega)]
 simp [co, List.getD_eq_getElem?_getD, List.getElem?_drop]
theorem aq_list17 {n : Nat} {X : List Int} (hl : n <= X.length) : X.take n = aq n (co X) := by
 unfold aq
 refine ext_co (by rw [mk_len, List.length_take]; omega) (fun i hi => ?_)
 rw [List.length_take] at hi
 rw [co_mk, if_pos (by omega)]
 simp [co, List.getD_eq_getElem?_getD, List.getElem?_take_of_lt (show i < n by omega)]
theorem dWelch (f p : Int) (wd : Bool) (vx vy : Value) (xs ys : List Int) (d : Int) (D wn : Nat) (W : World) (h : Fi f p wd) (h1 : Rw W vx xs) (h2 : Rw W vy ys) (hx : Els p xs) (hy : Els p ys) (hl : xs.length = ys.length) (l5 : xs.length <= 512) (hn : xs.Nodup) (hd : d + 1 = (D : Int)) (hs : D + 2 * wn <= xs.length) :
 Calls Tryz.prog 67 #[.int .u8 f, vx, vy, .int .i64 d, .int .i64 wn] W fun e w' => ∃ v Q ok, e = .returned (.tuple #[v, .bool ok]) ∧ w'.ownsRow W.heap.size 64 1 v Q.length (vals Q) ∧ Tm p Q ∧ Q.length <= 512 ∧ (∀ P, Dec p D wn xs ys P -> ok = true ∧ Q = P) ∧ Below W.heap.size W w' := by
 have hp0 := h.pos
 have hp1 := h.top
 have hpb : 2048 < p := by rcases h with ⟨_, rfl, _⟩ | ⟨_, rfl, _⟩ <;> decide
 have HF := hide h
 have HP := hide (fun W => rP_yes f p wd W h)
 have HXe := hide (fun i => hx.co h.pos i)
 have HYe := hide (fun i => hy.co h.pos i)
 obtain ⟨n, Hn⟩ : ∃ n, Hid (D + wn = n) := ⟨_, rfl⟩
 have hn1 : d + (wn : Int) + 1 = (n : Int) := by have := Hn.out; omega
 have hnu : n + wn <= 512 := by have := Hn.out; omega
 have HX := hide hx
 have HND := hide hn
 have HSd := hide hs
 obtain ⟨ax, cx, rfl, _⟩ := h1.spell
 obtain ⟨ay, cy, rfl, _⟩ := h2.spell
 have H1 := hide h1
 have H2 := hide h2
 obtain ⟨r, Hr⟩ : ∃ r, Hid (xs.length = r) := ⟨_, rfl⟩
 have Hr2 : Hid (ys.length = r) := by show _ = _; rw [<- hl]; exact Hr.out
 rw [Hr.out] at H1 l5 ⊢
 rw [Hr2.out] at H2 ⊢
 have hda : -1 <= d ∧ d <= 512 := by omega
 clear h1 h2 hx hy hl hn hd hs h
 obtain ⟨hda, hdb⟩ := hda
 go_enter Tryz.func67, Tryz.ntmps67
 go_wp2_with (go_at_call 70; refine (HP.out _).mono ?_; rintro e w1 ⟨rfl, hw⟩; rw [hw]; clear hw)
 clear HP hn1
 go_loopw [14, 15] (fun v14 v15 wr => ∃ (i : Nat) (us : List Value) (av : Option Addr) (cv : Nat), v14 = .slice av i cv ∧ v15 = .int .i64 i ∧ i <= r ∧ Hid (Lss wr W.heap.size wr.heap.size (.slice av i cv) us (rwsl p n wn xs ys i)) ∧ Below W.heap.size W wr) (fun _ v15 _ => r - (intOf v15).toNat)
 case atStart => exact ⟨0, [], none, 0, rfl, rfl, Nat.zero_le _, Lss.nil _ _ _, Below.refl _ _⟩
 case round =>
  obtain ⟨i, us, av, cv, rfl, rfl, hir, HL, hB⟩ := hrel
  obtain ⟨w5, rfl⟩ : ∃ w5, w5 = wr := ⟨wr, rfl⟩
  by_cases hi : i < r
  · obtain ⟨bx, ox, rfl, hcx⟩ := H1.out.cellAt (by rw [Hr.out]; omega)
    obtain ⟨by', oy, rfl, hcy⟩ := H2.out.cellAt (by rw [Hr2.out]; omega)
    have HCX := hide (fun V (hb : Below w5.heap.size w5 V) => hcx V (Below.next hB hb) i (by rw [Hr.out]; exact hi))
    have HCY := hide (fun V (hb : Below w5.heap.size w5 V) => hcy V (Below.next hB hb) i (by rw [Hr2.out]; exact hi))
    have HCYW := hide (fun V (hb : Below W.heap.size W V) => hcy V hb i (by rw [Hr2.out]; exact hi))
    clear hcx hcy
    have i0 : (0 : Int) <= (i : Int) := Int.natCast_nonneg _
    have i1 : (i : Int) < (r : Int) := by omega
    have hxe := HXe.out i
    have hye := HYe.out i
    obtain ⟨x, Hx⟩ : ∃ x, Hid (co xs i = x) := ⟨_, rfl⟩
    obtain ⟨y, Hy⟩ : ∃ y, Hid (co ys i = y) := ⟨_, rfl⟩
    rw [Hx.out] at HCX hxe
    rw [Hy.out] at HCY HCYW hye
    have hxw := elWord hxe hp1
    have hyw := elWord hye hp1
    have HTi := hide (fun k V => rTimes_any p (px p x k) x V hp1 (px_el hp0 x k) hxw.1 hxw.2)
    have hp01 : px p x 0 = 1 := px_zero (by omega) x
    obtain ⟨N1, HN1⟩ : ∃ N1, Hid (n + wn + 1 = N1) := ⟨_, rfl⟩
    have hN1 : N1 <= 513 := by have := HN1.out; omega
    go_wp2_with fail
    go_loopw [17, 18, 19] (fun v17 v18 v19 wx => ∃ (k : Nat) (a : Option Addr) (c : Nat), v17 = .int .u64 (px p x k) ∧ v18 = .slice a k c ∧ v19 = .int .i64 k ∧ k <= N1 ∧ Hid (wx.ownsRow w5.heap.size 64 1 (.slice a k c) k (vals (mk k (px p x)))) ∧ Below w5.heap.size w5 wx) (fun _ _ v19 _ => N1 - (intOf v19).toNat)
    case atStart => exact ⟨0, none, 0, by rw [hp01], rfl, rfl, Nat.zero_le _, World.ownsRow_nil _ _ _ _, Below.refl _ _⟩
    case round =>
     obtain ⟨k, a, c, rfl, rfl, rfl, hk, HO, hB2⟩ := hrel
     by_cases hkn : k < N1
     · have hmk : (mk k (px p x)).length = k := mk_len _ _
       have c1 := HCX.out _ hB2
       obtain ⟨au, cu, W5, hr5, ho5, hb5⟩ := appV wr w5.heap.size (.slice a k c) (mk k (px p x)) (px p x k) (by rw [hmk]; exact HO.out) (by rw [hmk]; omega) hB2.size
       rw [hmk, mk_snoc] at ho5
       rw [hmk] at hr5
       have HO5 := hide ho5
       have hB5 := hB2.trans hb5
       have c2 := HCX.out _ hB5
       have HTk := hide (fun V => HTi.out k V)
       have e9 : mul p (px p x k) x = px p x (k + 1) := px_step p x k
       rw [e9] at HTk
       clear ho5 hmk e9 hb5 HTi
       have k1 : (k : Int) <= (n : Int) + (wn : Int) := by have := HN1.out; omega
       obtain ⟨z2, Hz2⟩ : ∃ z2, Hid (px p x (k + 1) = z2) := ⟨_, rfl⟩
       rw [Hz2.out] at HTk
       generalize px p x k = z1 at *
       go_wp2_with (first
        | (at_builtin; refine Lib.wpList_append_run _ rfl _ _ _ _ rfl _ _ rfl rfl _ _ hr5 ?_)
        | (go_at_call 71; refine (HTk.out _).mono ?_; rintro e w3 ⟨rfl, hw⟩; rw [hw]; clear hw))
       go_roundw
       case rel => exact ⟨k + 1, au, cu, by rw [Hz2.out], rfl, by go_num, by omega, HO5, hB5⟩
       case measure => simp [intOf]; omega
     · obtain rfl : N1 = k := by omega
       have k9 : ¬ (N1 : Int) <= (n : Int) + (wn : Int) := by have := HN1.out; omega
       obtain ⟨w6, rfl⟩ : ∃ w6, w6 = wr := ⟨wr, rfl⟩
       obtain ⟨gp, rfl⟩ : ∃ gp, a = some ⟨gp, 0, none⟩ := by
        rcases HO.out.2 with ⟨e, h0⟩ | ⟨g, cap, cur, e, _⟩
        · have := HN1.out; omega
        · injection e with e1 _ _; exact ⟨g, e1⟩
       have HCP : Hid (∀ V, Below w6.heap.size w6 V -> ∀ m, m < N1 -> V.cell? ⟨gp, m, none⟩ = some (.int .u64 (px p x m))) := fun V hb m hm => by
        have := own_cell (own_below HO.out hb) (mk_len _ _) hm
        rw [this]
        show some (Value.int .u64 (co (mk N1 (px p x)) m)) = _
        rw [co_mk, if_pos hm]
       have HPO := hide (fun V (hb : Below w6.heap.size w6 V) => own_below HO.out hb)
       have HL6 := hide (HL.out.below hB2)
       have hB6 := Below.next hB hB2
       have HCX6 := hide (fun V (hb : Below w6.heap.size w6 V) => HCX.out V (Below.next hB2 hb))
       have HCY6 := hide (fun V (hb : Below w6.heap.size w6 V) => HCY.out V (Below.next hB2 hb))
       have hsz := hB2.size
       clear HO HL hB HCX HCY HTi hp01 hk hkn
       go_wp2_with fail
       clear k9
       go_loopw [16, 20] (fun v16 v20 wx => ∃ (k : Nat) (a : Option Addr) (c : Nat), v16 = .slice a k c ∧ v20 = .int .i64 k ∧ k <= n ∧ Hid (wx.ownsRow w6.heap.size 64 1 (.slice a k c) k (vals (mk k (wrow p n wn x y)))) ∧ Below w6.heap.size w6 wx) (fun _ v20 _ => n - (intOf v20).toNat)
       case atStart => exact ⟨0, none, 0, rfl, rfl, Nat.zero_le _, World.ownsRow_nil _ _ _ _, Below.refl _ _⟩
       case round =>
        obtain ⟨k, a, c, rfl, rfl, hk, HO, hB3⟩ := hrel
        by_cases hkn : k < n
        · have hmk : (mk k (wrow p n wn x y)).length = k := mk_len _ _
          have c1 := HCP.out _ hB3 k (by have := HN1.out; omega)
          have e8 : px p x k = wrow p n wn x y k := by unfold wrow; rw [if_pos hkn]
          rw [e8] at c1
          obtain ⟨au, cu, W5, hr5, ho5, hb5⟩ := appV wr w6.heap.size (.slice a k c) (mk k (wrow p n wn x y)) (wrow p n wn x y k) (by rw [hmk]; exact HO.out) (by rw [hmk]; omega) hB3.size
          rw [hmk, mk_snoc] at ho5
          rw [hmk] at hr5
          have HO5 := hide ho5
          have hB5 := hB3.trans hb5
          have k0 : (0 : Int) <= (k : Int) := Int.natCast_nonneg _
          have k1 : (k : Int) < (N1 : Int) := by have := HN1.out; omega
          have k2 : (k : Int) < (n : Int) := by omega
          clear ho5 hmk hb5 e8 HO
          generalize wrow p n wn x y k = z1 at *
          go_wp2_with (at_builtin; refine Lib.wpList_append_run _ rfl _ _ _ _ rfl _ _ rfl rfl _ _ hr5 ?_)
          go_roundw
          case rel => exact ⟨k + 1, au, cu, rfl, by go_num, by omega, HO5, hB5⟩
          case measure => simp [intOf]; omega
        · obtain rfl : n = k := by omega
          go_wp2_with fail
          go_loopw [16, 21] (fun v16 v21 wx => ∃ (k : Nat) (a : Option Addr) (c : Nat), v16 = .slice a (n + k) c ∧ v21 = .int .i64 k ∧ k <= wn ∧ Hid (wx.ownsRow w6.heap.size 64 1 (.slice a (n + k) c) (n + k) (vals (mk (n + k) (wrow p n wn x y)))) ∧ Below w6.heap.size w6 wx) (fun _ v21 _ => wn - (intOf v21).toNat)
          case atStart => exact ⟨0, a, c, rfl, rfl, Nat.zero_le _, HO, hB3⟩
          case round =>
           clear HO hB3 hk hkn
           obtain ⟨k, a, c, rfl, rfl, hk, HO, hB3⟩ := hrel
           by_cases hkn : k < wn
           · have hmk : (mk (n + k) (wrow p n wn x y)).length = n + k := mk_len _ _
             have e8 : sub p 0 (mul p y (px p x k)) = wrow p n wn x y (n + k) := by
              unfold wrow; rw [if_neg (by omega), if_pos (by omega), Nat.add_sub_cancel_left]
             have pw := elWord (px_el hp0 x k) hp1
             have HTk := hide (fun V => rTimes_any p y (px p x k) V hp1 hye pw.1 pw.2)
             have HLk := hide (fun V => rLess_any p 0 (mul p y (px p x k)) V hp1 ⟨Int.le_refl _, hp0⟩ (mul_el hp0))
             rw [e8] at HLk
             have hdr : Below wr.heap.size wr wr.drew := (Below.refl _ wr).drew
             have hS0 := And.intro (HCY6.out _ (Below.next hB3 hdr)) (HCP.out _ (Below.next hB3 hdr) k (by have := HN1.out; omega))
             have hal : Below wr.heap.size wr (wr.alloc (.cells #[.int .u64 (wrow p n wn x y (n + k))] 64)).drew := (alloc_below wr (.cells #[.int .u64 (wrow p n wn x y (n + k))] 64)).drew
             have hS1 := And.intro (HCY6.out _ (Below.next hB3 hal)) (HCP.out _ (Below.next hB3 hal) k (by have := HN1.out; omega))
             obtain ⟨au, cu, W5, hr5, ho5, hb5, _, _⟩ := appW1 (wr.alloc (.cells #[.int .u64 (wrow p n wn x y (n + k))] 64)).drew w6.heap.size (.slice a (n + k) c) (mk (n + k) (wrow p n wn x y)) ⟨wr.heap.size, 0, none⟩ (wrow p n wn x y (n + k)) (by rw [hmk]; exact own_below HO.out hal) (by simp [go_sem]) (by rw [hmk]; omega) (Nat.le_trans hB3.size hal.size)
             rw [hmk, mk_snoc, mk_len] at ho5
             rw [hmk] at hr5
             have HO5 := hide ho5
             have hB5 := (Below.next hB3 hal).trans hb5
             have hS2 := And.intro (HCY6.out _ hB5) (HCP.out _ hB5 k (by have := HN1.out; omega))
             have k0 : (0 : Int) <= (k : Int) := Int.natCast_nonneg _
             have k1 : (k : Int) < (N1 : Int) := by have := HN1.out; omega
             have k2 : (k : Int) < (wn : Int) := by omega
             clear ho5 hmk hb5 e8 HO pw hal hdr
             generalize wrow p n wn x y (n + k) = z1 at *
             generalize mul p y (px p x k) = z2 at *
             generalize px p x k = z3 at *
             go_upto_region 22 with fail
             refine wp_region_held_drew (S := (fun V => V.cell? ⟨by', oy + i, none⟩ = some (.int .u64 y) ∧ V.cell? ⟨gp, k, none⟩ = some (.int .u64 z3))) (by kernel_rfl) (by ((try dsimp only) <;> (first | with_reducible exact hS2 | with_reducible exact hS1 | with_reducible exact hS0))) (fun hHeld => ?_)
             refine tkY 0 ?_
             refine tkY 1 ?_
             refine tkY 2 ?_
             refine tkY 3 ?_
             refine tkY 4 ?_
             refine tkY 5 ?_
             refine tkY 6 ?_
             refine tkY 7 ?_
             refine tkY 8 ?_
             refine tkY 9 ?_
             refine tkY 10 ?_
             refine rd1 11 (fun K hK => ?_)
             (try simp only [ly0, ly1, ly2, ly3, ly4, ly5, ly6, ly7])
             go_simp
             (first | (go_at_call 71; refine (HTk.out _).mono ?_; rintro e w3 ⟨rfl, hw⟩; rw [hw]; clear hw) | (refine app_mute (by rfl) _ _ _ _ (by rfl) _ _ (by rfl) (by rfl) _ W5 hr5 ?_))
             first | refine hK.out _ _ ?k8 (fun hHeld => ?_) | (go_wp2_with fail; refine hK.out _ _ ?k8 (fun hHeld => ?_))
             case k8 => ((try dsimp only) <;> (first | with_reducible exact hS2 | with_reducible exact hS1 | with_reducible exact hS0))
             clear hK K
             (try simp only [ly0, ly1, ly2, ly3, ly4, ly5, ly6, ly7])
             refine rd1 12 (fun K hK => ?_)
             (try simp only [ly0, ly1, ly2, ly3, ly4, ly5, ly6, ly7])
             go_simp
             (first | (go_at_call 97; refine (HLk.out _).mono ?_; rintro e w3 ⟨rfl, hw⟩; rw [hw]; clear hw) | (refine app_mute (by rfl) _ _ _ _ (by rfl) _ _ (by rfl) (by rfl) _ W5 hr5 ?_))
             first | refine hK.out _ _ ?k9 (fun hHeld => ?_) | (go_wp2_with fail; refine hK.out _ _ ?k9 (fun hHeld => ?_))
             case k9 => ((try dsimp only) <;> (first | with_reducible exact hS2 | with_reducible exact hS1 | with_reducible exact hS0))
             clear hK K
             (try simp only [ly0, ly1, ly2, ly3, ly4, ly5, ly6, ly7])
             refine rd1 13 (fun K hK => ?_)
             (try simp only [ly0, ly1, ly2, ly3, ly4, ly5, ly6, ly7])
             go_simp
             refine hK.out _ _ (by ((try dsimp only) <;> (first | with_reducible exact hS2 | with_reducible exact hS1 | with_reducible exact hS0))) (fun hHeld => ?_)
             clear hK K
             (try simp only [ly0, ly1, ly2, ly3, ly4, ly5, ly6, ly7])
             refine rd1 14 (fun K hK => ?_)
             (refine app_mute (by rfl) _ _ _ _ (by rfl) _ _ (by rfl) (by rfl) _ W5 hr5 ?_)
             refine hK.out _ _ (by ((try dsimp only) <;> (first | with_reducible exact hS2 | with_reducible exact hS1 | with_reducible exact hS0))) (fun hHeld => ?_)
             clear hK K
             (try simp only [ly0, ly1, ly2, ly3, ly4, ly5, ly6, ly7])
             refine tkY 15 ?_
             refine wpAnyH_done (by kernel_rfl) ?_ _
             go_wp2_with fail
             go_roundw
             case rel => exact ⟨k + 1, au, cu, rfl, by go_num, by omega, HO5, hB5⟩
             case measure => simp [intOf]; omega
           · obtain rfl : wn = k := by omega
             have hmk : (mk (n + wn) (wrow p n wn x y)).length = n + wn := mk_len _ _
             have e8 : mul p y (px p x wn) = wrow p n wn x y (n + wn) := by
              unfold wrow; rw [if_neg (by omega), if_neg (by omega)]
             have pw := elWord (px_el hp0 x wn) hp1
             have HTk := hide (fun V => rTimes_any p y (px p x wn) V hp1 hye pw.1 pw.2)
             rw [e8] at HTk
             have hdr : Below wr.heap.size wr wr.drew := (Below.refl _ wr).drew
             have hS0 := And.intro (HCY6.out _ (Below.next hB3 hdr)) (HCP.out _ (Below.next hB3 hdr) wn (by have := HN1.out; omega))
             have hal : Below wr.heap.size wr (wr.alloc (.cells #[.int .u64 (wrow p n wn x y (n + wn))] 64)).drew := (alloc_below wr (.cells #[.int .u64 (wrow p n wn x y (n + wn))] 64)).drew
             have hS1 := And.intro (HCY6.out _ (Below.next hB3 hal)) (HCP.out _ (Below.next hB3 hal) wn (by have := HN1.out; omega))
             obtain ⟨au, cu, W5, hr5, ho5, hb5, _, _⟩ := appW1 (wr.alloc (.cells #[.int .u64 (wrow p n wn x y (n + wn))] 64)).drew w6.heap.size (.slice a (n + wn) c) (mk (n + wn) (wrow p n wn x y)) ⟨wr.heap.size, 0, none⟩ (wrow p n wn x y (n + wn)) (by rw [hmk]; exact own_below HO.out hal) (by simp [go_sem]) (by rw [hmk]; omega) (Nat.le_trans hB3.size hal.size)
             rw [hmk, mk_snoc] at ho5
             rw [hmk] at hr5
             have hB5 := (Below.next hB3 hal).trans hb5
             have hS2 := And.intro (HCY6.out _ hB5) (HCP.out _ hB5 wn (by have := HN1.out; omega))
             have hL5 := HL6.out.below hB5
             have hrow : (mk (n + wn + 1) (wrow p n wn x y)) = rwl p n wn xs ys i := by unfold rwl; rw [Hx.out, Hy.out]
             rw [hrow] at ho5
             have hB5b := (hsz : w5.heap.size <= w6.heap.size)
             have hlo5 : W.heap.size <= W5.heap.size := Nat.le_trans hB6.size hB5.size
             have hO9 := hL5.row
             rw [rwsl_len] at hO9
             obtain ⟨av', cv', W6, hr6, ho6, hb6, hg6⟩ := appS1 (W5.alloc (.cells #[.slice au (n + wn + 1) cu] 36)) W.heap.size (.slice av i cv) i us ⟨W5.heap.size, 0, none⟩ au (n + wn + 1) cu (own_below hO9 (alloc_below _ _)) (box_cell (heap_alloc_new W5 _)).1 (by omega) (Nat.le_trans hlo5 (alloc_below _ _).size)
             have hrl := rwl_len p n wn xs ys i
             have hPu := Lss.push (w := W) (H := w6.heap.size) (T := 36) hL5 (by omega) hB6.size (Nat.le_refl _) (Below.next hB6 hB5) (by rw [hrl] at ho5 ⊢; exact ho5) (by rw [rwsl_len]; exact ho6) hg6
             rw [rwsl_snoc] at hPu
             have HL7 : Hid (Lss W6 W.heap.size W6.heap.size (.slice av' (i + 1) cv') (us ++ [.slice au (n + wn + 1) cu]) (rwsl p n wn xs ys (i + 1))) := ⟨hPu.1.row, hPu.1.each, hPu.1.from_, (fun j g hj => Nat.lt_of_lt_of_le (hPu.1.top j g hj) (Nat.le_trans (alloc_below _ _).size hg6.size)), hPu.1.up⟩
             have hB7 := hPu.2
             have hS3 := And.intro (HCY6.out (W5.alloc (.cells #[.slice au (n + wn + 1) cu] 36)) (Below.next hB5 (alloc_below _ _))) (HCP.out (W5.alloc (.cells #[.slice au (n + wn + 1) cu] 36)) (Below.next hB5 (alloc_below _ _)) wn (by have := HN1.out; omega))
             have hpo := HPO.out (W5.alloc (.cells #[.slice au (n + wn + 1) cu] 36)) (Below.next hB5 (alloc_below _ _))
             have hgp : W6.heap[gp]? = (W5.alloc (.cells #[.slice au (n + wn + 1) cu] 36)).heap[gp]? := hg6.block gp (own_top hpo gp rfl) (fun e => own_kind hpo (own_below hO9 (alloc_below W5 (.cells #[.slice au (n + wn + 1) cu] 36))) (Ne.symm ne_kinds) gp rfl e.symm)
             have hS4 := And.intro (HCYW.out W6 hB7) ((World.cell?_of_block (a := ⟨gp, wn, none⟩) hgp).trans hS3.2)
             clear hPu ho6 hb6 hg6 hrl hO9 hlo5 hB5b ho5 hrow hL5 hB5 hb5 hmk e8 pw hdr hal HO HL6 hpo hgp HPO
             generalize wrow p n wn x y (n + wn) = z1 at *
             generalize px p x wn = z3 at *
             have k0 : (0 : Int) <= (wn : Int) := Int.natCast_nonneg _
             have k1 : (wn : Int) < (N1 : Int) := by have := HN1.out; omega
             go_upto_region 23 with fail
             refine wp_region_held_drew (S := (fun V => V.cell? ⟨by', oy + i, none⟩ = some (.int .u64 y) ∧ V.cell? ⟨gp, wn, none⟩ = some (.int .u64 z3))) (by kernel_rfl) (by ((try dsimp only) <;> (first | with_reducible exact hS4 | with_reducible exact hS3 | with_reducible exact hS2 | with_reducible exact hS1 | with_reducible exact hS0))) (fun hHeld => ?_)
             refine tkY 0 ?_
             refine tkY 1 ?_
             refine tkY 2 ?_
             refine tkY 3 ?_
             refine tkY 4 ?_
             refine tkY 5 ?_
             refine tkY 6 ?_
             refine tkY 7 ?_
             refine tkY 8 ?_
             refine tkY 9 ?_
             refine tkY 10 ?_
             refine rd1 11 (fun K hK => ?_)
             (try simp only [ly0, ly1, ly2, ly3, ly4, ly5, ly6, ly7])
             go_simp
             (first | (go_at_call 71; refine (HTk.out _).mono ?_; rintro e w3 ⟨rfl, hw⟩; rw [hw]; clear hw) | (refine app_mute (by rfl) _ _ _ _ (by rfl) _ _ (by rfl) (by rfl) _ W5 hr5 ?_) | (refine app_mute (by rfl) _ _ _ _ (by rfl) _ _ (by rfl) (by rfl) _ W6 hr6 ?_))
             first | refine hK.out _ _ ?k10 (fun hHeld => ?_) | (go_wp2_with fail; refine hK.out _ _ ?k10 (fun hHeld => ?_))
             case k10 => ((try dsimp only) <;> (first | with_reducible exact hS4 | with_reducible exact hS3 | with_reducible exact hS2 | with_reducible exact hS1 | with_reducible exact hS0))
             clear hK K
             (try simp only [ly0, ly1, ly2, ly3, ly4, ly5, ly6, ly7])
             refine rd1 12 (fun K hK => ?_)
             (try simp only [ly0, ly1, ly2, ly3, ly4, ly5, ly6, ly7])
             go_simp
             refine hK.out _ _ (by ((try dsimp only) <;> (first | with_reducible exact hS4 | with_reducible exact hS3 | with_reducible exact hS2 | with_reducible exact hS1 | with_reducible exact hS0))) (fun hHeld => ?_)
             clear hK K
             (try simp only [ly0, ly1, ly2, ly3, ly4, ly5, ly6, ly7])
             refine rd1 13 (fun K hK => ?_)
             (first | (refine app_mute (by rfl) _ _ _ _ (by rfl) _ _ (by rfl) (by rfl) _ W5 hr5 ?_) | (refine app_mute (by rfl) _ _ _ _ (by rfl) _ _ (by rfl) (by rfl) _ W6 hr6 ?_))
             refine hK.out _ _ (by ((try dsimp only) <;> (first | with_reducible exact hS4 | with_reducible exact hS3 | with_reducible exact hS2 | with_reducible exact hS1 | with_reducible exact hS0))) (fun hHeld => ?_)
             clear hK K
             (try simp only [ly0, ly1, ly2, ly3, ly4, ly5, ly6, ly7])
             refine rd1 14 (fun K hK => ?_)
             (try simp only [ly0, ly1, ly2, ly3, ly4, ly5, ly6, ly7])
             go_simp
             refine hK.out _ _ (by ((try dsimp only) <;> (first | with_reducible exact hS4 | with_reducible exact hS3 | with_reducible exact hS2 | with_reducible exact hS1 | with_reducible exact hS0))) (fun hHeld => ?_)
             clear hK K
             (try simp only [ly0, ly1, ly2, ly3, ly4, ly5, ly6, ly7])
             refine rd1 15 (fun K hK => ?_)
             (first | (refine app_mute (by rfl) _ _ _ _ (by rfl) _ _ (by rfl) (by rfl) _ W5 hr5 ?_) | (refine app_mute (by rfl) _ _ _ _ (by rfl) _ _ (by rfl) (by rfl) _ W6 hr6 ?_))
             refine hK.out _ _ (by ((try dsimp only) <;> (first | with_reducible exact hS4 | with_reducible exact hS3 | with_reducible exact hS2 | with_reducible exact hS1 | with_reducible exact hS0))) (fun hHeld => ?_)
             clear hK K
             (try simp only [ly0, ly1, ly2, ly3, ly4, ly5, ly6, ly7])
             refine tkY 16 ?_
             refine wpAnyH_done (by kernel_rfl) ?_ _
             go_wp2_with fail
             go_roundw
             case rel => exact ⟨i + 1, _, av', cv', rfl, by go_num, by omega, HL7, hB7⟩
             case measure => simp [intOf]; omega
  · obtain rfl : r = i := by omega
    obtain ⟨u, Hu⟩ : ∃ u, Hid (n + wn = u) := ⟨_, rfl⟩
    have hu1 : (n : Int) + (wn : Int) = (u : Int) := by have := Hu.out; omega
    have hu5 : u <= 512 := by rw [<- Hu.out]; exact hnu
    have hSo := dSolve f p wd W.heap.size (.slice av r cv) us (rwsl p n wn xs ys r) r u w5 HF.out HL.out.mtx hB.size (rwsl_len _ _ _ _ _ _) l5 (by omega) (fun k hk => by rw [rwsl_at _ _ _ _ _ hk, rwl_len, Hu.out]) (fun k hk => by rw [rwsl_at _ _ _ _ _ hk]; exact rwl_els hp0 _ _ _ _ _)
    have HSo := hide hSo
    have HMx : Hid (∀ k m, k < r -> m <= D + wn + wn -> mx (rwsl p n wn xs ys r) k m = wrow p (D + wn) wn (co xs k) (co ys k) m) := fun k m hk hm => by
     rw [Hn.out] at hm ⊢
     exact rwsl_mx p n wn xs ys hk hm
    have HNo : Hid ((∀ x, ¬ Sol p r u (rwsl p n wn xs ys r) x) -> ∀ P, ¬ Dec p D wn xs ys P) := fun hno P hP => by
     obtain ⟨X, hX⟩ := welch_some HF.out.md HX.out (Hr.out.symm) HMx.out hP
     rw [Hn.out, Hu.out] at hX
     exact hno X hX
    have HYs : Hid (∀ X, Sol p r u (rwsl p n wn xs ys r) X -> ∀ P, Dec p D wn xs ys P -> Dv p (aq n X) (al n wn X) P []) := fun X hX P hP => by
     have := welch_only HF.out.md HX.out HND.out (Hr.out.symm) HMx.out HSd.out hP (X := X) (by rw [Hn.out, Hu.out]; exact hX)
     rwa [Hn.out] at this
    clear hSo HL HMx HXe HYe
    generalize rwsl p n wn xs ys r = l0 at *
    go_wp2_with fail
    refine HSo.out.mono ?_
    rintro e w7 ⟨v7, ok, rfl, hA, hb7⟩
    have hB7 := hB.trans hb7
    rcases hA with ⟨rfl, X, hXl, hXe, hXs, hXo, g, rfl⟩ | ⟨rfl, rfl, hno⟩
    · have hun : u - n = wn := by have := Hu.out; omega
      have hnu2 : n <= u := by have := Hu.out; omega
      have hWX : Wd X := wd_els hXe hp1 (by omega)
      have hRX := hWX.row hXo
      have HDl : Hid ((X.drop n).length = wn) := by show _ = _; rw [List.length_drop, hXl]; exact hun
      have HRd : Hid (∀ o, (o = n ∨ wn = 0) -> Rw w7 (.slice (some ⟨g, o, none⟩) wn wn) (X.drop n)) := fun o ho => rw_tail17 hRX hXl hun ho
      have HRt : Hid (Rw w7 (.slice (some ⟨g, 0, none⟩) n u) (X.take n)) := hRX.take (by omega)
      have Hal : Hid (X.drop n ++ [1] = al n wn (co X)) := al_list17 hXl (by omega)
      have Haq : Hid (X.take n = aq n (co X)) := aq_list17 (by omega)
      have HWl : Hid (Wd (al n wn (co X))) := by
       show Wd _
       rw [<- Hal.out]
       exact wd_els (p := p) (fun z hz => by
        rcases List.mem_append.1 hz with c | c
        · exact hXe z (List.mem_of_mem_drop c)
        · rw [List.mem_singleton.1 c]; exact ⟨by decide, by omega⟩) hp1 (by rw [List.length_append, HDl.out, List.length_singleton]; omega)
      have HEl : Hid (Els p (al n wn (co X))) := by
       show Els _ _
       rw [<- Hal.out]
       intro z hz
       rcases List.mem_append.1 hz with c | c
       · exact hXe z (List.mem_of_mem_drop c)
       · rw [List.mem_singleton.1 c]; exact ⟨by decide, by omega⟩
      have hEt : Els p (X.take n) := fun z hz => hXe z (List.mem_of_mem_take hz)
      have hdE : divE f (X.take n) (al n wn (co X)) = 0 := by
       unfold divE
       rw [er_yes HF.out (allIn_of hEt) (allIn_of HEl.out) (by rw [List.length_take]; omega) (by rw [al_len]; omega), if_pos rfl, if_neg (al_tr (p := p) n wn (co X))]
      have HDv := hide (fun W' vl (hb : Below w7.heap.size w7 W') (hr : Rw W' vl (al n wn (co X))) => dDivMod_any f (.slice (some ⟨g, 0, none⟩) n u) vl (X.take n) (al n wn (co X)) W' (HRt.out.below hb) hr)
      unfold PartsD at HDv
      rw [hdE] at HDv
      have HDd : Hid (∀ Q R, DvE f (X.take n) (al n wn (co X)) Q R -> Dv p (aq n (co X)) (al n wn (co X)) Q R) := fun Q R hS => by
       rw [<- Haq.out]; exact DvE.dv HF.out hdE hS
      have HPs := hide (fun P hP => HYs.out (co X) hXs P hP)
      have HQl : Hid (∀ Q R, Dv p (aq n (co X)) (al n wn (co X)) Q R -> Q.length <= 512) := fun Q R hv => by
       by_cases e : Q = []
       · rw [e]; exact Nat.zero_le _
       · have h1 := hv.len HF.out.md HEl.out e
         have h2 := List.length_pos_iff.2 (al_tr (p := p) n wn (co X))
         have h3 : (aq n (co X)).length = n := mk_len _ _
         omega
      clear HNo HSo hb7 hRX hWX hXo hXe hXs HYs hEt hdE
      have n0 : (0 : Int) <= (n : Int) := Int.natCast_nonneg _
      have n1 : (n : Int) <= (u : Int) := by omega
      by_cases hwn : wn = 0
      · subst hwn
        go_wp2_with (first
         | (go_at_call 99; refine (HDv.out _ _ hb79 HRl.out).mono ?_; rintro e w10 ⟨vq, vr, Q, R, rfl, hS, hOq, hOr, hb10⟩; obtain ⟨bq, cq, rfl⟩ := own_form hOq; obtain ⟨br, cr, rfl⟩ := own_form hOr; have HS := hide hS; have HOq := hide hOq; clear hS hOq hOr)
         | (at_builtin; refine Lib.wpList_append_run _ rfl _ _ _ _ rfl _ _ rfl rfl _ _ hr9 ?_)
         | (go_at_call 20; refine (Copy_any _ (X.drop n) w7 (HRd.out 0 (.inr (by first | trivial | rfl))).1).mono ?_; rintro e w8 ⟨v8, rfl, hO8, hb8⟩; rw [HDl.out] at hO8; obtain ⟨a8, c8, rfl⟩ := own_form hO8; obtain ⟨a9, c9, W9, hr9, ho9, hb9⟩ := appV w8 w7.heap.size (.slice a8 0 c8) (X.drop n) 1 (by rw [HDl.out]; exact hO8) (by rw [HDl.out]; omega) hb8.size; rw [HDl.out] at hr9 ho9; rw [Hal.out] at ho9; have HRl := hide (HWl.out.row ho9); clear hO8 ho9; have hb79 := hb8.trans hb9))
        go_ret2
        have hv := HDd.out Q R HS.out
        exact ⟨_, Q, _, rfl, own_mono HOq.out (Nat.le_trans hB7.size hb79.size), hv.rg.1, HQl.out Q R hv, (fun P hP => by
         obtain ⟨rfl, rfl⟩ := Dv.only HF.out.md HEl.out hv (HPs.out P hP)
         exact ⟨by simp, rfl⟩), Below.next (Below.next hB7 hb79) hb10⟩
      · have hwn2 : ¬ n = u := by omega
        go_wp2_with (first
         | (go_at_call 99; refine (HDv.out _ _ hb79 HRl.out).mono ?_; rintro e w10 ⟨vq, vr, Q, R, rfl, hS, hOq, hOr, hb10⟩; obtain ⟨bq, cq, rfl⟩ := own_form hOq; obtain ⟨br, cr, rfl⟩ := own_form hOr; have HS := hide hS; have HOq := hide hOq; clear hS hOq hOr)
         | (at_builtin; refine Lib.wpList_append_run _ rfl _ _ _ _ rfl _ _ rfl rfl _ _ hr9 ?_)
         | (go_at_call 20; refine (Copy_any _ (X.drop n) w7 (HRd.out n (.inl rfl)).1).mono ?_; rintro e w8 ⟨v8, rfl, hO8, hb8⟩; rw [HDl.out] at hO8; obtain ⟨a8, c8, rfl⟩ := own_form hO8; obtain ⟨a9, c9, W9, hr9, ho9, hb9⟩ := appV w8 w7.heap.size (.slice a8 wn c8) (X.drop n) 1 (by rw [HDl.out]; exact hO8) (by rw [HDl.out]; omega) hb8.size; rw [HDl.out] at hr9 ho9; rw [Hal.out] at ho9; have HRl := hide (HWl.out.row ho9); clear hO8 ho9; have hb79 := hb8.trans hb9))
        go_ret2
        have hv := HDd.out Q R HS.out
        exact ⟨_, Q, _, rfl, own_mono HOq.out (Nat.le_trans hB7.size hb79.size), hv.rg.1, HQl.out Q R hv, (fun P hP => by
         obtain ⟨rfl, rfl⟩ := Dv.only HF.out.md HEl.out hv (HPs.out P hP)
         exact ⟨by simp, rfl⟩), Below.next (Below.next hB7 hb79) hb10⟩
    · have HNP := hide (HNo.out hno)
      clear hno HNo HYs HSo
      go_wp2
      go_ret2
      exact ⟨.slice none 0 0, [], false, rfl, World.ownsRow_nil _ _ _ _, Tm.nil p, by simp, fun P hP => absurd hP (HNP.out P), hB7⟩
end Go.Proofs.YtjhididlcdepdaaGreat
