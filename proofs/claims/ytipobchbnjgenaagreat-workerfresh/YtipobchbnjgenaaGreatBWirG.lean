import Derived.Test.YtipobchbnjgenaaGreatBunQ
set_option linter.unusedVariables false
set_option linter.unusedSimpArgs false
set_option maxRecDepth 100000
set_option maxHeartbeats 4000000
namespace Go.Proofs.YtipobchbnjgenaaGreat
open Go.RowKit Fld
theorem inW_inF (f : Int) (l : List Int) : inF f l = inW f l := rfl
theorem wElementSize (f : Int) (w : World) (hf : f = 1 ∨ f = 2) :
 Calls Tryz.prog 178 #[.int .u8 f] w fun e w' => e = .returned (.int .i64 (wF f)) ∧ w' = w := by
 rcases hf with rfl | rfl
 all_goals
  go_enter Tryz.func178, Tryz.ntmps178
  go_wp2
  go_ret
  exact ⟨rfl, rfl⟩
theorem wF_or {f : Int} (hf : f = 1 ∨ f = 2) : wF f = 4 ∨ wF f = 8 := by
 rcases hf with rfl | rfl
 · exact .inl rfl
 · exact .inr rfl
theorem wListSize (f : Int) (n : Nat) (w : World) (hf : f = 1 ∨ f = 2) (hn : n <= 4096) :
 Calls Tryz.prog 177 #[.int .u8 f, .int .i64 n] w fun e w' => e = .returned (.int .i64 ((5 + n * wF f : Nat) : Int)) ∧ w' = w := by
 have H := hide (fun W => wElementSize f W hf)
 have hq : wF f = 4 ∨ wF f = 8 := wF_or hf
 clear hf
 generalize wF f = q at *
 rcases hq with rfl | rfl
 all_goals
  go_enter Tryz.func177, Tryz.ntmps177
  go_wp2_with (go_at_call 178; refine (H.out _).mono ?_; rintro e w1 ⟨rfl, hw1⟩; subst hw1)
  go_ret
  exact ⟨rfl, rfl⟩
theorem lsE_no {f : Int} {l : List Int} (h : inW f l = false) : lsE f l = 2 ∧ lsL f l = [] := by
 have e : lsE f l = 2 := by unfold lsE; rw [if_neg (by rw [h]; simp)]
 exact ⟨e, by unfold lsL; rw [if_neg (by rw [e]; decide)]⟩
theorem lsE_long {f : Int} {l : List Int} (h : inW f l = true) (hl : 4096 < l.length) : lsE f l = 4 ∧ lsL f l = [] := by
 have e : lsE f l = 4 := by unfold lsE; rw [if_pos h, if_pos hl]
 exact ⟨e, by unfold lsL; rw [if_neg (by rw [e]; decide)]⟩
theorem lsE_yes {f : Int} {l : List Int} (h : inW f l = true) (hl : l.length <= 4096) : lsE f l = 0 ∧ lsL f l = lsF f l := by
 have e : lsE f l = 0 := by unfold lsE; rw [if_pos h, if_neg (by omega)]
 exact ⟨e, by unfold lsL; rw [if_pos e]⟩
theorem wrL_step (q : Nat) (l : List Int) (k : Nat) (h : k < l.length) : wrL q (l.take (k + 1)) = wrL q (l.take k) ++ wd8 (l.getD k 0) q := by
 rw [take_snoc8 h, wrL_snoc]
theorem wList (f : Int) (v : Value) (l : List Int) (w : World) (hf : 0 <= f ∧ f <= 255) (hr : Row w v l) : GivesB 143 #[.int .u8 f, v] w (lsE f l) (lsL f l) := by
 unfold GivesB
 have HI := hide (In_any f v l w hr)
 rw [inW_inF] at HI
 obtain ⟨ao, cap, rfl, hlen, hw, hc⟩ := hr
 cases hi : inW f l with
 | false =>
  obtain ⟨e1, e2⟩ := lsE_no hi
  rw [e1, e2]
  rw [hi] at HI
  clear hi e1 e2 hc
  go_enter Tryz.func143, Tryz.ntmps143
  go_wp2_with (go_at_call 176; refine HI.out.mono ?_; rintro e w1 ⟨rfl, hb1⟩)
  go_ret2
  exact ⟨_, rfl, World.ownsRow_nil _ _ _ _, hb1⟩
 | true =>
  by_cases hl : 4096 < l.length
  · obtain ⟨e1, e2⟩ := lsE_long hi hl
    rw [e1, e2]
    rw [hi] at HI
    clear hi e1 e2 hc
    go_enter Tryz.func143, Tryz.ntmps143
    go_wp2_with (go_at_call 176; refine HI.out.mono ?_; rintro e w1 ⟨rfl, hb1⟩)
    go_ret2
    exact ⟨_, rfl, World.ownsRow_nil _ _ _ _, hb1⟩
  · obtain ⟨e1, e2⟩ := lsE_yes hi (by omega)
    have hff := inW_field hi
    have hn : l.length <= 4096 := by omega
    obtain ⟨i0, hi0, hz0, hz1, hz2⟩ := info_parts u8_info
    rw [e1, e2, lsF_len]
    rw [hi] at HI
    have HW := hide hw
    have HLS := hide (fun W => wListSize f l.length W hff hn)
    have HES := hide (fun W => wElementSize f W hff)
    have HF : Hid (lsF f l = [f] ++ wd8 (l.length : Int) 4 ++ wrL (wF f) (l.take l.length)) := by show _ = _; rw [List.take_length]; rfl
    have HF1 : Hid (wd8 f 1 = [f]) := by
     rcases hff with rfl | rfl <;> rfl
    have HST := hide (wrL_step (wF f) l)
    rw [HF.out]
    have hq : wF f = 4 ∨ wF f = 8 := wF_or hff
    have hq8 : wF f <= 8 := by omega
    have hm : l.length * wF f <= 32768 := Nat.le_trans (Nat.mul_le_mul_right _ hn) (by omega)
    have hfr : (0 : Int) <= f ∧ f <= 255 := hf
    obtain ⟨f0, f1⟩ := hf
    have HH : Hid (wrL (wF f) (l.take 0) = []) := rfl
    clear hi e1 e2 hff hq hw
    generalize wF f = q at *
    generalize hsz : 5 + l.length * q = sz at *
    obtain ⟨hd, HD⟩ : ∃ hd, Hid ([f] ++ wd8 (l.length : Int) 4 = hd) := ⟨_, rfl⟩
    obtain ⟨zs, HZ⟩ : ∃ zs, Hid (hd ++ wrL q (l.take l.length) = zs) := ⟨_, rfl⟩
    rw [HD.out, HZ.out]
    go_enter Tryz.func143, Tryz.ntmps143
    go_wp2_with (first
     | (go_at_call 176; refine HI.out.mono ?_; rintro e w1 ⟨rfl, hb1⟩)
     | (go_at_call 177; refine (HLS.out _).mono ?_; rintro e w2 ⟨rfl, hw2⟩; subst hw2)
     | (at_make; refine wpList_make_own _ rfl _ _ 30 rfl w.heap.size 5 i0 (.int .u8 0) 1 Tryz.underlying30 hi0 hz0 hz1 .i64 .i64 _ sz rfl rfl rfl (by rw [hz2]; omega) (by unfold maxLen; omega) hb1.size ?_; intro w3 hown3 hgrow3; have hB3 := Below.next hb1 (below_grown_none hgrow3))
     | (go_at_call 135; refine (wPut _ 1 4 [f] (l.length : Int) w w4 ⟨by omega, by omega⟩ (by decide) (by decide) (by have := ho4; rw [HF1.out] at this; exact this) hB4).mono ?_; rintro e w5 ⟨v5, rfl, ho5, hB5⟩)
     | (go_at_call 135; refine (wPut _ 0 1 [] f w w3 ⟨by omega, by omega⟩ (by decide) (by decide) hown3 hB3).mono ?_; rintro e w4 ⟨v4, rfl, ho4, hB4⟩; obtain ⟨a4, c4, hv4⟩ := own_form ho4; subst hv4))
    have HO5 : Hid (w5.ownsRow w.heap.size 5 1 v5 (5 + 0 * q) (valb (hd ++ wrL q (l.take 0)))) := by
     show World.ownsRow _ _ _ _ _ _ _
     rw [<- HD.out, HH.out, List.append_nil, Nat.zero_mul]; exact ho5
    clear ho5 ho4 hB4 hown3 hgrow3 hB3 HI HLS hb1
    go_loopw [6, 32] (fun vo vi wr => ∃ k : Nat, k <= l.length ∧ vi = .int .i64 k ∧ Hid (wr.ownsRow w.heap.size 5 1 vo (5 + k * q) (valb (hd ++ wrL q (l.take k)))) ∧ Below w.heap.size w wr) (fun _ vi _ => l.length - (intOf vi).toNat)
    case atStart => exact ⟨0, Nat.zero_le _, rfl, HO5, hB5⟩
    case round =>
     clear HO5 hB5
     obtain ⟨k, hk, rfl, HO, hB⟩ := hrel
     by_cases hlt : k < l.length
     · obtain ⟨b, off, rfl, hbl, hcell⟩ := hc (by intro h; rw [h] at hlt; simp at hlt)
       have hck := (hB.cell (p := ⟨b, off + k, none⟩) hbl).trans (hcell k hlt)
       have hx : 0 <= l.getD k 0 ∧ l.getD k 0 <= 18446744073709551615 := by
        have : l.getD k 0 = l[k] := by rw [List.getD_eq_getElem?_getD, List.getElem?_eq_getElem hlt]; rfl
        rw [this]; exact HW.out _ (List.getElem_mem hlt)
       have hkq : k * q <= 32768 := Nat.le_trans (Nat.mul_le_mul_right _ hk) hm
       have HP := hide (wPut _ (5 + k * q) q _ (l.getD k 0) w wr hx hq8 (by omega) HO.out hB)
       rw [List.append_assoc, <- HST.out k hlt, Nat.add_assoc, show k * q + q = (k + 1) * q by rw [Nat.add_mul, Nat.one_mul]] at HP
       obtain ⟨a6, c6, hv6⟩ := own_form HO.out
       subst hv6
       clear hx hcell hc HST hkq HO
       generalize l.getD k 0 = x at *
       go_wp2_with (first
        | (go_at_call 178; refine (HES.out _).mono ?_; rintro e w6 ⟨rfl, hw6⟩; subst hw6)
        | (go_at_call 135; refine HP.out.mono ?_; rintro e w7 ⟨v7, rfl, ho7, hB7⟩))
       have HO7 := hide ho7
       clear ho7
       go_roundw
       case rel => exact ⟨k + 1, by omega, by go_num, HO7, hB7⟩
       case measure => simp [intOf]; omega
     · obtain rfl : k = l.length := by omega
       clear hc
       rw [hsz, HZ.out] at HO
       go_wp2
       go_ret2
       exact ⟨_, rfl, HO.out, hB⟩
theorem rdL_words {q : Nat} (hq : q <= 8) : ∀ (n : Nat) (bs : List Int), By bs -> ∀ x ∈ rdL q n bs, 0 <= x ∧ x <= 18446744073709551615
 | 0, _, _, x, hx => by cases hx
 | n + 1, bs, hb, x, hx => by
  rcases List.mem_cons.1 hx with rfl | hx
  · have h1 := tk8_bd (hb.take q)
    have h2 : (256 : Int) ^ (bs.take q).length <= 256 ^ 8 := p256_le (by rw [List.length_take]; omega)
    have h3 : (256 : Int) ^ 8 = 18446744073709551616 := by decide
    omega
  · exact rdL_words hq n _ (hb.drop q) x hx
def fl8 (q n k : Nat) (bs : List Int) : List Int := rdL q k bs ++ List.replicate (n - k) 0
theorem fl8_zero (q n : Nat) (bs : List Int) : fl8 q n 0 bs = List.replicate n 0 := rfl
theorem fl8_end (q n : Nat) (bs : List Int) : fl8 q n n bs = rdL q n bs := by unfold fl8; rw [Nat.sub_self]; simp
theorem fl8_len {q n k : Nat} (bs : List Int) (h : k <= n) : (fl8 q n k bs).length = n := by unfold fl8; rw [List.length_append, rdL_len, List.length_replicate]; omega
theorem fl8_step {q n k : Nat} (bs : List Int) (h : k < n) : (fl8 q n k bs).set k (tk8 ((bs.drop (k * q)).take q)) = fl8 q n (k + 1) bs := by
 unfold fl8
 rw [rdL_snoc, List.append_assoc, List.set_append_right _ _ (by rw [rdL_len]; exact Nat.le_refl _), rdL_len, Nat.sub_self, show n - k = (n - (k + 1)) + 1 by omega, List.replicate_succ]
 rfl
def neE (f : Int) (n : Nat) (bs : List Int) : Int := if bs.length < n * wF f then 7 else if inW f (rdL (wF f) n bs) = true then 0 else 8
def neL (f : Int) (n : Nat) (bs : List Int) : List Int := if neE f n bs = 0 then rdL (wF f) n bs else []
theorem neE_short {f : Int} {n : Nat} {bs : List Int} (h : bs.length < n * wF f) : neE f n bs = 7 ∧ neL f n bs = [] := by
 have e : neE f n bs = 7 := by unfold neE; rw [if_pos h]
 exact ⟨e, by unfold neL; rw [if_neg (by rw [e]; decide)]⟩
theorem neE_no {f : Int} {n : Nat} {bs : List Int} (h : ¬ bs.length < n * wF f) (hi : inW f (rdL (wF f) n bs) = false) : neE f n bs = 8 ∧ neL f n bs = [] := by
 have e : neE f n bs = 8 := by unfold neE; rw [if_neg h, if_neg (by rw [hi]; simp)]
 exact ⟨e, by unfold neL; rw [if_neg (by rw [e]; decide)]⟩
theorem neE_yes {f : Int} {n : Nat} {bs : List Int} (h : ¬ bs.length < n * wF f) (hi : inW f (rdL (wF f) n bs) = true) : neE f n bs = 0 ∧ neL f n bs = rdL (wF f) n bs := by
 have e : neE f n bs = 0 := by unfold neE; rw [if_neg h, if_pos hi]
 exact ⟨e, by unfold neL; rw [if_pos e]⟩
theorem neE_or (f : Int) (n : Nat) (bs : List Int) : neE f n bs = 0 ∨ neE f n bs = 7 ∨ neE f n bs = 8 := by
 unfold neE; split
 · exact .inr (.inl rfl)
 · split
   · exact .inl rfl
   · exact .inr (.inr rfl)
theorem wNextElements (f : Int) (n g : Nat) (bs : List Int) (w0 w : World) (hf : f = 1 ∨ f = 2) (hn : n <= 4096) (hR : Rdr w0 w g bs) :
 Calls Tryz.prog 190 #[rdF g, .int .u8 f, .int .i64 n] w fun e w' => ∃ v', e = .returned (.tuple #[v', .int .i64 (neE f n bs)]) ∧ w'.ownsRow w.heap.size 83 1 v' (neL f n bs).length (vals (neL f n bs)) ∧ Kq (fun j => j < w.heap.size ∧ j ≠ g) w w' := by
 unfold rdF
 obtain ⟨i0, hi0, hz0, hz1, hz2⟩ := info_parts u64_info
 have hy : By bs := by obtain ⟨_, ⟨v, _, hv⟩, _, _⟩ := hR; exact hv.by
 have hgw : g < w.heap.size := by obtain ⟨_, ⟨v, hv, _⟩, _, _⟩ := hR; exact cell_in hv
 have HES := hide (fun W => wElementSize f W hf)
 have hq := wF_or hf
 have HI := hide (fun W v (hr : Row W v (rdL (wF f) n bs)) => In_any f v (rdL (wF f) n bs) W hr)
 have HSh := hide (fun (h : bs.length < n * wF f) => neE_short h)
 have HNo := hide (fun (h : ¬ bs.length < n * wF f) (hi : inW f (rdL (wF f) n bs) = false) => neE_no h hi)
 have HYe := hide (fun (h : ¬ bs.length < n * wF f) (hi : inW f (rdL (wF f) n bs) = true) => neE_yes h hi)
 have HR := hide hR
 have HY := hide hy
 clear hR hy hf
 generalize neE f n bs = ee at *
 generalize neL f n bs = ll at *
 generalize wF f = q at *
 have hq8 : q <= 8 := by omega
 have hq0 : 0 < q := by omega
 have HWd := hide (rdL_words hq8 n bs HY.out)
 clear hq
 go_enter Tryz.func190, Tryz.ntmps190
 go_wp2_with (at_make; refine wpList_make_full _ rfl _ _ 54 rfl w.heap.size 83 i0 (.int .u64 0) 1 Tryz.underlying54 hi0 hz0 hz1 .i64 .i64 _ _ n rfl rfl (by omega) (by omega) (by rw [hz2]; omega) (by unfold maxLen; omega) (Nat.le_refl _) ?_; intro w2 hown hgrow; have hO := hide (own_made hown); have hB := below_grown_none hgrow; clear hown)
 have HR2 : Hid (Rdr w0 w2 g (bs.drop (0 * q))) := by show Rdr _ _ _ _; rw [Nat.zero_mul]; exact HR.out.below hB
 have HK2 : Hid (Kq (fun j => j < w.heap.size ∧ j ≠ g) w w2) := Below.kq hB (fun j hj => hj.1)
 have HS2 : Hid (w.heap.size < w2.heap.size) := own_top hO.out _ rfl
 rw [<- fl8_zero q n bs] at hO
 clear HR hgrow
 go_loopw [16] (fun vi wr => ∃ k : Nat, k <= n ∧ vi = .int .i64 k ∧ Hid (k * q <= bs.length) ∧ Hid (Rdr w0 wr g (bs.drop (k * q))) ∧ Hid (wr.ownsRow w.heap.size 83 1 (.slice (some ⟨w.heap.size, 0, none⟩) n n) n (vals (fl8 q n k bs))) ∧ Hid (Kq (fun j => j < w.heap.size ∧ j ≠ g) w wr)) (fun vi _ => n - (intOf vi).toNat)
 case atStart => exact ⟨0, Nat.zero_le _, rfl, by show _ <= _; rw [Nat.zero_mul]; exact Nat.zero_le _, HR2, hO, HK2⟩
 case round =>
  clear HR2 hO HK2 HS2 hB
  obtain ⟨k, hk, rfl, HL, HR, HO, HK⟩ := hrel
  by_cases hlt : k < n
  · by_cases hs : bs.length < (k + 1) * q
    · have hs2 : bs.length < n * q := Nat.lt_of_lt_of_le hs (Nat.mul_le_mul_right _ (by omega))
      obtain ⟨e1, e2⟩ := HSh.out hs2
      have HN := hide (wNext_short q g _ w0 wr HR.out (by rw [List.length_drop]; rw [Nat.add_mul] at hs; omega) hq8)
      subst e1 e2
      clear hs hs2 HSh HNo HYe HR HO HL HI HWd HY
      go_wp2_with (first
       | (go_at_call 178; refine (HES.out _).mono ?_; rintro e w6 ⟨rfl, hw6⟩; subst hw6)
       | (go_at_call 188; refine HN.out.mono ?_; rintro e w7 ⟨rfl, hw7⟩; subst hw7))
      go_ret2
      exact ⟨_, rfl, World.ownsRow_nil _ _ _ _, HK.out⟩
    · have HN := hide (wNext_long q g _ w0 wr HR.out (by rw [List.length_drop]; rw [Nat.add_mul] at hs; omega) hq8 hq0)
      rw [List.drop_drop, show k * q + q = (k + 1) * q by rw [Nat.add_mul, Nat.one_mul]] at HN
      have HF := hide (fl8_step (q := q) (n := n) (k := k) bs hlt)
      have HFl := hide (fl8_len (q := q) (n := n) (k := k) bs hk)
      have hgt : w.heap.size < wr.heap.size := own_top HO.out _ rfl
      have HL2 : Hid ((k + 1) * q <= bs.length) := by show _ <= _; omega
      have HKW : Hid (∀ W, Kq (fun j => j < wr.heap.size ∧ j ≠ g) wr W -> Kq (fun j => j < w.heap.size ∧ j ≠ g) w W ∧ W.ownsRow w.heap.size 83 1 (.slice (some ⟨w.heap.size, 0, none⟩) n n) n (vals (fl8 q n k bs))) := fun W hk => by
       refine ⟨HK.out.trans (hk.mono (fun j hj => ⟨by omega, hj.2⟩)), hk.own HO.out (fun g' hg' => ?_)⟩
       cases hg'
       exact ⟨hgt, (by omega : w.heap.size ≠ g)⟩
      generalize tk8 ((bs.drop (k * q)).take q) = x at *
      clear hs HSh HNo HYe HR HO HL HI HWd HY HK
      go_wp2_with (first
       | (go_at_call 178; refine (HES.out _).mono ?_; rintro e w6 ⟨rfl, hw6⟩; subst hw6)
       | (go_at_call 188; refine HN.out.mono ?_; rintro e w7 ⟨rfl, hr7, hk7⟩; obtain ⟨hK7, hO7⟩ := HKW.out _ hk7; have hc7 := own_cell hO7 HFl.out hlt; have hz7 := hO7.frozenAt k))
      have R := hide (spoil_step (k := k) (x := x) hO7 (grown_refl w7 (some w.heap.size)) (.inl rfl))
      rw [HF.out] at R
      have HK8 : Hid (Kq (fun j => j < w.heap.size ∧ j ≠ g) w (w7.setCell ⟨w.heap.size, k, none⟩ (.int .u64 x))) := hK7.trans (grown_kq R.out.2 (fun j hj => by have := hK7.size; omega) (fun k' hk' hs => by cases hk'; omega))
      have HR8 : Hid (Rdr w0 (w7.setCell ⟨w.heap.size, k, none⟩ (.int .u64 x)) g (bs.drop ((k + 1) * q))) := hr7.kept (grown_kq R.out.2 (S := fun j => j < w.heap.size) (fun j hj => by have := hK7.size; omega) (fun k' hk' hs => by cases hk'; omega)) hgw (fun j hj => by have := hr7.lo; omega)
      clear hO7 hK7 hk7 hr7 hc7 hz7 HKW HFl
      go_roundw
      case rel => exact ⟨k + 1, by omega, by go_num, HL2, HR8, R.out.1, HK8⟩
      case measure => simp [intOf]; omega
  · obtain rfl : k = n := by omega
    rw [fl8_end] at HO
    have hr := row_of_own HO.out (by rw [rdL_len]) (by rw [rdL_len]; omega) HWd.out
    have HI2 := hide (HI.out wr _ hr)
    rw [inW_inF] at HI2
    have hnl : ¬ bs.length < k * q := by have := HL.out; omega
    cases hi : inW f (rdL q k bs) with
    | false =>
     obtain ⟨e1, e2⟩ := HNo.out hnl hi
     subst e1 e2
     rw [hi] at HI2
     clear HSh HNo HYe HR HL HI HWd HY hr hi hnl
     go_wp2_with (go_at_call 176; refine HI2.out.mono ?_; rintro e w7 ⟨rfl, hb7⟩)
     go_ret2
     exact ⟨_, rfl, World.ownsRow_nil _ _ _ _, HK.out.trans (Below.kq hb7 (fun j hj => by have := HK.out.size; omega))⟩
    | true =>
     obtain ⟨e1, e2⟩ := HYe.out hnl hi
     have HO' : Hid (wr.ownsRow w.heap.size 83 1 (.slice (some ⟨w.heap.size, 0, none⟩) k k) ll.length (vals ll)) := by
      rw [e2]; show World.ownsRow _ _ _ _ _ _ _; rw [rdL_len]; exact HO.out
     subst e1
     rw [hi] at HI2
     clear HSh HNo HYe HR HL HI HWd HY hr hi hnl HO e2
     go_wp2_with (go_at_call 176; refine HI2.out.mono ?_; rintro e w7 ⟨rfl, hb7⟩)
     go_ret2
     exact ⟨_, rfl, own_below HO'.out hb7, HK.out.trans (Below.kq hb7 (fun j hj => by have := HK.out.size; omega))⟩
theorem results_tmp4 {fn : Func} {t u v x : Tmp} (h : fn.results = #[.tmp t, .tmp u, .tmp v, .tmp x]) (tmps : Array Value) (P : Program) (w : World) :
 (results fn tmps).run P w = .ok (.tuple #[tmps.getD t undef, tmps.getD u undef, tmps.getD v undef, tmps.getD x undef]) w := by
 simp [results, h]
def rlFo (bs : List Int) : Int := if rlE bs = 0 then rlF bs else 0
def rlLo (bs : List Int) : List Int := if rlE bs = 0 then rlX bs else []
def rlSo (bs : List Int) : Nat := if rlE bs = 0 then 5 + rlN bs * wF (rlF bs) else 0
theorem rl_no {bs : List Int} {e : Int} (h : rlE bs = e) (he : e ≠ 0) : rlFo bs = 0 ∧ rlLo bs = [] ∧ rlSo bs = 0 := by
 have : rlE bs ≠ 0 := by rw [h]; exact he
 exact ⟨by unfold rlFo; rw [if_neg this], by unfold rlLo; rw [if_neg this], by unfold rlSo; rw [if_neg this]⟩
theorem rl_yes {bs : List Int} (h : rlE bs = 0) : rlFo bs = rlF bs ∧ rlLo bs = rlX bs ∧ rlSo bs = 5 + rlN bs * wF (rlF bs) :=
 ⟨by unfold rlFo; rw [if_pos h], by unfold rlLo; rw [if_pos h], by unfold rlSo; rw [if_pos h]⟩
theorem rl_cases (bs : List Int) : (bs.length = 0 ∧ rlE bs = 7) ∨ (0 < bs.length ∧ ¬ (rlF bs = 1 ∨ rlF bs = 2) ∧ rlE bs = 8) ∨
 (0 < bs.length ∧ (rlF bs = 1 ∨ rlF bs = 2) ∧ rcE (bs.drop 1) ≠ 0 ∧ rlE bs = rcE (bs.drop 1)) ∨
 (0 < bs.length ∧ (rlF bs = 1 ∨ rlF bs = 2) ∧ rcE (bs.drop 1) = 0 ∧ 4096 < rlN bs ∧ rlE bs = 4) ∨
 (5 <= bs.length ∧ (rlF bs = 1 ∨ rlF bs = 2) ∧ rcE (bs.drop 1) = 0 ∧ rlN bs <= 4096 ∧ rlE bs = neE (rlF bs) (rlN bs) (bs.drop 5)) := by
 unfold rlE
 by_cases h1 : bs.length = 0
 · left; exact ⟨h1, by rw [if_pos h1]⟩
 right
 by_cases h2 : rlF bs ≠ 1 ∧ rlF bs ≠ 2
 · left; exact ⟨by omega, by omega, by rw [if_neg h1, if_pos h2]⟩
 right
 by_cases h3 : rcE (bs.drop 1) ≠ 0
 · left; exact ⟨by omega, by omega, h3, by rw [if_neg h1, if_neg h2, if_pos h3]⟩
 right
 by_cases h4 : 4096 < rlN bs
 · left; exact ⟨by omega, by omega, by omega, h4, by rw [if_neg h1, if_neg h2, if_neg h3, if_pos h4]⟩
 right
 have h5 := (rcE_zero (bs := bs.drop 1) (by omega)).1
 rw [List.length_drop] at h5
 refine ⟨by omega, by omega, by omega, by omega, ?_⟩
 rw [if_neg h1, if_neg h2, if_neg h3, if_neg h4]
 unfold neE
 rw [List.length_drop]
 by_cases h6 : bs.length < 5 + rlN bs * wF (rlF bs)
 · rw [if_pos h6, if_pos (show bs.length - 5 < rlN bs * wF (rlF bs) by omega)]
 · rw [if_neg h6, if_neg (show ¬ bs.length - 5 < rlN bs * wF (rlF bs) by omega)]; rfl
theorem rlF_tk {bs : List Int} (h : 0 < bs.length) : tk8 (bs.take 1) = rlF bs := by
 cases bs with
 | nil => simp at h
 | cons b bs => show (0 : Int) * 256 + b = b; omega
theorem rcN_rlN {bs : List Int} (hy : By bs) (h : rcE (bs.drop 1) = 0) : rcN (bs.drop 1) = ((rlN bs : Nat) : Int) := by
 unfold rcN rlN
 rw [if_pos h, Int.toNat_of_nonneg (tk8_bd ((hy.drop 1).take 4)).1]
theorem rcN_no {bs : List Int} (h : rcE bs ≠ 0) : rcN bs = 0 := by unfold rcN; rw [if_neg h]
theorem inF_nilW (f : Int) : inF f [] = decide (f = 1 ∨ f = 2) := by
 unfold inF
 by_cases h1 : f = 1
 · rw [if_pos h1, h1]; rfl
 · by_cases h2 : f = 2
   · rw [if_neg h1, if_pos h2, h2]; rfl
   · rw [if_neg h1, if_neg h2, decide_eq_false (by omega)]
theorem neL_rlX {bs : List Int} (h : neE (rlF bs) (rlN bs) (bs.drop 5) = 0) : neL (rlF bs) (rlN bs) (bs.drop 5) = rlX bs := by
 unfold neL; rw [if_pos h]; rfl
def GivesR8 (N : Nat) (args : Array Value) (w : World) (bs : List Int) : Prop :=
 Calls Tryz.prog N args w fun r w' => ∃ v', r = .returned (.tuple #[.int .u8 (rlFo bs), v', .int .i64 (rlSo bs), .int .i64 (rlE bs)]) ∧ w'.ownsRow w.heap.size 83 1 v' (rlLo bs).length (vals (rlLo bs)) ∧ Below w.heap.size w w'
theorem wReadList (v : Value) (bs : List Int) (w : World) (h : Rb w v bs) : GivesR8 170 #[v] w bs := by
 unfold GivesR8
 have H1 := hide (wReader v bs w w h (Below.refl _ _))
 have hy := h.by
 obtain ⟨ao, cap, rfl, _⟩ := h.spell
 clear h
 rcases rl_cases bs with ⟨h0, he⟩ | ⟨h0, hf, he⟩ | ⟨h0, hf, hc, he⟩ | ⟨h0, hf, hc, hn, he⟩ | ⟨h0, hf, hc, hn, he⟩
 · obtain ⟨e1, e2, e3⟩ := rl_no he (by decide)
   rw [he, e1, e2, e3]
   have HN := hide (fun g W (hr : Rdr w W g bs) => wNext_short 1 g bs w W hr (by omega) (by decide))
   clear he e1 e2 e3 hy h0
   go_enter Tryz.func170, Tryz.ntmps170
   go_wp2_with (first
    | (go_at_call 164; refine H1.out.mono ?_; rintro e w1 ⟨g, rfl, hr1, hg1, hb1⟩)
    | (go_at_call 188; refine (HN.out _ _ hr1).mono ?_; rintro e w2 ⟨rfl, hw2⟩; subst hw2))
   (try simp only [Exit.inBlock, Exit.then]); refine bodyPost_ret (results_tmp4 rfl _ _ _) rfl ?_
   exact ⟨_, rfl, World.ownsRow_nil _ _ _ _, hb1⟩
 · obtain ⟨e1, e2, e3⟩ := rl_no he (by decide)
   rw [he, e1, e2, e3]
   have HN := hide (fun g W (hr : Rdr w W g bs) => wNext_long 1 g bs w W hr (by omega) (by decide) (by decide))
   have HI := hide (fun W => In_any (rlF bs) (.slice none 0 0) [] W ⟨none, 0, rfl, by simp, by simp, fun h => absurd rfl h⟩)
   rw [inF_nilW, decide_eq_false hf] at HI
   rw [rlF_tk h0] at HN
   have hb : 0 <= rlF bs ∧ rlF bs <= 255 := by
    have := tk8_bd (hy.take 1)
    rw [rlF_tk h0, List.length_take, Nat.min_eq_left (by omega)] at this
    omega
   obtain ⟨b0, b1⟩ := hb
   clear he e1 e2 e3 hf hy
   generalize rlF bs = f at *
   go_enter Tryz.func170, Tryz.ntmps170
   go_wp2_with (first
    | (go_at_call 164; refine H1.out.mono ?_; rintro e w1 ⟨g, rfl, hr1, hg1, hb1⟩)
    | (go_at_call 188; refine (HN.out _ _ hr1).mono ?_; rintro e w2 ⟨rfl, hr2, hk2⟩)
    | (go_at_call 176; refine (HI.out _).mono ?_; rintro e w3 ⟨rfl, hb3⟩))
   (try simp only [Exit.inBlock, Exit.then]); refine bodyPost_ret (results_tmp4 rfl _ _ _) rfl ?_
   have hB2 := hb1.trans (hk2.below (fun j hj => ⟨Nat.lt_of_lt_of_le hj hb1.size, by omega⟩))
   exact ⟨_, rfl, World.ownsRow_nil _ _ _ _, Below.next hB2 hb3⟩
 all_goals
  have HI := hide (fun W => In_any (rlF bs) (.slice none 0 0) [] W ⟨none, 0, rfl, by simp, by simp, fun h => absurd rfl h⟩)
  rw [inF_nilW, decide_eq_true hf] at HI
  have hb : 0 <= rlF bs ∧ rlF bs <= 255 := by omega
  obtain ⟨b0, b1⟩ := hb
  have HN := hide (fun g W (hr : Rdr w W g bs) => wNext_long 1 g bs w W hr (by omega) (by decide) (by decide))
  rw [rlF_tk (by omega)] at HN
  have HC := hide (fun g W (hr : Rdr w W g (bs.drop 1)) => wNextCount g (bs.drop 1) w W hr)
  unfold rdF at HC
 · obtain ⟨e1, e2, e3⟩ := rl_no he hc
   rw [he, e1, e2, e3]
   rw [rcN_no hc] at HC
   have hcc : rcE (bs.drop 1) = 7 ∨ rcE (bs.drop 1) = 8 := by have := rcE_or (bs.drop 1); omega
   clear he e1 e2 e3 hf hy h0 hc
   generalize rlF bs = f at *
   rcases hcc with hcc | hcc
   all_goals
    rw [hcc] at HC ⊢
    clear hcc
    go_enter Tryz.func170, Tryz.ntmps170
    go_wp2_with (first
     | (go_at_call 164; refine H1.out.mono ?_; rintro e w1 ⟨g, rfl, hr1, hg1, hb1⟩)
     | (go_at_call 188; refine (HN.out _ _ hr1).mono ?_; rintro e w2 ⟨rfl, hr2, hk2⟩)
     | (go_at_call 176; refine (HI.out _).mono ?_; rintro e w3 ⟨rfl, hb3⟩)
     | (go_at_call 163; refine (HC.out _ _ (hr2.below hb3)).mono ?_; rintro e w4 ⟨rfl, hr4, hk4⟩))
    (try simp only [Exit.inBlock, Exit.then]); refine bodyPost_ret (results_tmp4 rfl _ _ _) rfl ?_
    have hB2 := hb1.trans (hk2.below (fun j hj => ⟨Nat.lt_of_lt_of_le hj hb1.size, by omega⟩))
    have hB3 := Below.next hB2 hb3
    exact ⟨_, rfl, World.ownsRow_nil _ _ _ _, hB3.trans (hk4.below (fun j hj => ⟨Nat.lt_of_lt_of_le hj hB3.size, by omega⟩))⟩
 · obtain ⟨e1, e2, e3⟩ := rl_no he (by decide)
   rw [he, e1, e2, e3]
   rw [rcN_rlN hy hc, hc] at HC
   have hn2 : (4096 : Int) < ((rlN bs : Nat) : Int) := by omega
   clear he e1 e2 e3 hf hy h0 hc hn
   generalize rlF bs = f at *
   generalize ((rlN bs : Nat) : Int) = n at *
   go_enter Tryz.func170, Tryz.ntmps170
   go_wp2_with (first
    | (go_at_call 164; refine H1.out.mono ?_; rintro e w1 ⟨g, rfl, hr1, hg1, hb1⟩)
    | (go_at_call 188; refine (HN.out _ _ hr1).mono ?_; rintro e w2 ⟨rfl, hr2, hk2⟩)
    | (go_at_call 176; refine (HI.out _).mono ?_; rintro e w3 ⟨rfl, hb3⟩)
    | (go_at_call 163; refine (HC.out _ _ (hr2.below hb3)).mono ?_; rintro e w4 ⟨rfl, hr4, hk4⟩))
   (try simp only [Exit.inBlock, Exit.then]); refine bodyPost_ret (results_tmp4 rfl _ _ _) rfl ?_
   have hB2 := hb1.trans (hk2.below (fun j hj => ⟨Nat.lt_of_lt_of_le hj hb1.size, by omega⟩))
   have hB3 := Below.next hB2 hb3
   exact ⟨_, rfl, World.ownsRow_nil _ _ _ _, hB3.trans (hk4.below (fun j hj => ⟨Nat.lt_of_lt_of_le hj hB3.size, by omega⟩))⟩
 · have HE := hide (fun g W (hr : Rdr w W g (bs.drop 5)) => wNextElements (rlF bs) (rlN bs) g (bs.drop 5) w W hf hn hr)
   have HLS := hide (fun W => wListSize (rlF bs) (rlN bs) W hf hn)
   unfold rdF at HE
   rw [rcN_rlN hy hc, hc] at HC
   have HD : Hid ((bs.drop 1).drop 4 = bs.drop 5) := by show _ = _; rw [List.drop_drop]
   rw [HD.out] at HC
   have hnE := neE_or (rlF bs) (rlN bs) (bs.drop 5)
   rcases hnE with hE | hE
   · obtain ⟨e1, e2, e3⟩ := rl_yes (he.trans hE)
     rw [he, hE, e1, e2, e3]
     rw [hE, neL_rlX hE] at HE
     have hn2 : ((rlN bs : Nat) : Int) <= 4096 := by omega
     have hn3 : (0 : Int) <= ((rlN bs : Nat) : Int) := by omega
     clear he e1 e2 e3 hf hy h0 hc hn hE HD
     generalize 5 + rlN bs * wF (rlF bs) = sz at *
     generalize rlX bs = ll at *
     generalize rlF bs = f at *
     generalize ((rlN bs : Nat) : Int) = n at *
     go_enter Tryz.func170, Tryz.ntmps170
     go_wp2_with (first
      | (go_at_call 164; refine H1.out.mono ?_; rintro e w1 ⟨g, rfl, hr1, hg1, hb1⟩)
      | (go_at_call 188; refine (HN.out _ _ hr1).mono ?_; rintro e w2 ⟨rfl, hr2, hk2⟩)
      | (go_at_call 176; refine (HI.out _).mono ?_; rintro e w3 ⟨rfl, hb3⟩)
      | (go_at_call 163; refine (HC.out _ _ (hr2.below hb3)).mono ?_; rintro e w4 ⟨rfl, hr4, hk4⟩)
      | (go_at_call 190; refine (HE.out _ _ (hr4 (by first | trivial | rfl))).mono ?_; rintro e w5 ⟨v5, rfl, ho5, hk5⟩)
      | (go_at_call 177; refine (HLS.out _).mono ?_; rintro e w6 ⟨rfl, hw6⟩; subst hw6))
     (try simp only [Exit.inBlock, Exit.then]); refine bodyPost_ret (results_tmp4 rfl _ _ _) rfl ?_
     have hB2 := hb1.trans (hk2.below (fun j hj => ⟨Nat.lt_of_lt_of_le hj hb1.size, by omega⟩))
     have hB3 := Below.next hB2 hb3
     have hB4 := hB3.trans (hk4.below (fun j hj => ⟨Nat.lt_of_lt_of_le hj hB3.size, by omega⟩))
     exact ⟨_, rfl, own_mono ho5 hB4.size, hB4.trans (hk5.below (fun j hj => ⟨Nat.lt_of_lt_of_le hj hB4.size, by omega⟩))⟩
   · obtain ⟨e1, e2, e3⟩ := rl_no he (by omega)
     rw [he, e1, e2, e3]
     have hn2 : ((rlN bs : Nat) : Int) <= 4096 := by omega
     have hn3 : (0 : Int) <= ((rlN bs : Nat) : Int) := by omega
     clear he e1 e2 e3 hf hy h0 hc hn HD
     rcases hE with hE | hE
     all_goals
      rw [hE] at HE ⊢
      clear hE HLS
      generalize neL (rlF bs) (rlN bs) (bs.drop 5) = ll at *
      generalize rlF bs = f at *
      generalize ((rlN bs : Nat) : Int) = n at *
      go_enter Tryz.func170, Tryz.ntmps170
      go_wp2_with (first
       | (go_at_call 164; refine H1.out.mono ?_; rintro e w1 ⟨g, rfl, hr1, hg1, hb1⟩)
       | (go_at_call 188; refine (HN.out _ _ hr1).mono ?_; rintro e w2 ⟨rfl, hr2, hk2⟩)
       | (go_at_call 176; refine (HI.out _).mono ?_; rintro e w3 ⟨rfl, hb3⟩)
       | (go_at_call 163; refine (HC.out _ _ (hr2.below hb3)).mono ?_; rintro e w4 ⟨rfl, hr4, hk4⟩)
       | (go_at_call 190; refine (HE.out _ _ (hr4 (by first | trivial | rfl))).mono ?_; rintro e w5 ⟨v5, rfl, ho5, hk5⟩))
      (try simp only [Exit.inBlock, Exit.then]); refine bodyPost_ret (results_tmp4 rfl _ _ _) rfl ?_
      have hB2 := hb1.trans (hk2.below (fun j hj => ⟨Nat.lt_of_lt_of_le hj hb1.size, by omega⟩))
      have hB3 := Below.next hB2 hb3
      have hB4 := hB3.trans (hk4.below (fun j hj => ⟨Nat.lt_of_lt_of_le hj hB3.size, by omega⟩))
      exact ⟨_, rfl, World.ownsRow_nil _ _ _ _, hB4.trans (hk5.below (fun j hj => ⟨Nat.lt_of_lt_of_le hj hB4.size, by omega⟩))⟩
theorem rWidth (f : Int) (w : World) (hf : f = 1 ∨ f = 2) :
 Calls Tryz.prog 94 #[.int .u8 f] w fun e w' => e = .returned (.int .i64 (wF f)) ∧ w' = w := by
 rcases hf with rfl | rfl
 all_goals
  go_enter Tryz.func94, Tryz.ntmps94
  go_wp2
  go_ret
  exact ⟨rfl, rfl⟩
theorem own_one8 (w : World) (T : TypeId) (f : Int) : (w.alloc (.cells #[.int .u8 f] T)).ownsRow w.heap.size T 1 (.slice (some ⟨w.heap.size, 0, none⟩) 1 1) 1 (valb [f]) :=
 ⟨by simp [valb], .inr ⟨_, 1, #[.int .u8 f], rfl, Nat.le_refl _, heap_alloc_new w _, Nat.le_refl _, by unfold maxLen; omega, by simp, by simp [valb]⟩⟩
theorem rList (f : Int) (v : Value) (l : List Int) (w : World) (hf : 0 <= f ∧ f <= 255) (hr : Row w v l) : GivesB 69 #[.int .u8 f, v] w (lsE f l) (lsL f l) := by
 unfold GivesB
 have HI := hide (rIn_any f v l w hr)
 rw [inW_inF] at HI
 obtain ⟨ao, cap, rfl, hlen, hw, hc⟩ := hr
 cases hi : inW f l with
 | false =>
  obtain ⟨e1, e2⟩ := lsE_no hi
  rw [e1, e2]
  rw [hi] at HI
  clear hi e1 e2 hc
  go_enter Tryz.func69, Tryz.ntmps69
  go_wp2_with (go_at_call 33; refine HI.out.mono ?_; rintro e w1 ⟨rfl, hw1⟩; subst hw1)
  go_ret2
  exact ⟨_, rfl, World.ownsRow_nil _ _ _ _, Below.refl _ _⟩
 | true =>
  by_cases hl : 4096 < l.length
  · obtain ⟨e1, e2⟩ := lsE_long hi hl
    rw [e1, e2]
    rw [hi] at HI
    clear hi e1 e2 hc
    go_enter Tryz.func69, Tryz.ntmps69
    go_wp2_with (go_at_call 33; refine HI.out.mono ?_; rintro e w1 ⟨rfl, hw1⟩; subst hw1)
    go_ret2
    exact ⟨_, rfl, World.ownsRow_nil _ _ _ _, Below.refl _ _⟩
  · obtain ⟨e1, e2⟩ := lsE_yes hi (by omega)
    have hff := inW_field hi
    have hn : l.length <= 4096 := by omega
    obtain ⟨i0, hi0, hz0, hz1, hz2⟩ := info_parts u8_info
    rw [e1, e2, lsF_len]
    rw [hi] at HI
    have HW := hide hw
    have HES := hide (fun W => rWidth f W hff)
    have HF : Hid (lsF f l = [f] ++ wd8 (l.length : Int) 4 ++ wrL (wF f) (l.take l.length)) := by show _ = _; rw [List.take_length]; rfl
    have HST := hide (wrL_step (wF f) l)
    rw [HF.out]
    have hq : wF f = 4 ∨ wF f = 8 := wF_or hff
    have hq8 : wF f <= 8 := by omega
    have hq0 : 0 < wF f := by omega
    have hm : l.length * wF f <= 32768 := Nat.le_trans (Nat.mul_le_mul_right _ hn) (by omega)
    obtain ⟨f0, f1⟩ := hf
    have HH : Hid (wrL (wF f) (l.take 0) = []) := rfl
    clear hi e1 e2 hff hq hw
    generalize wF f = q at *
    generalize hsz : 5 + l.length * q = sz at *
    obtain ⟨hd, HD⟩ : ∃ hd, Hid ([f] ++ wd8 (l.length : Int) 4 = hd) := ⟨_, rfl⟩
    obtain ⟨zs, HZ⟩ : ∃ zs, Hid (hd ++ wrL q (l.take l.length) = zs) := ⟨_, rfl⟩
    rw [HD.out, HZ.out]
    have HA : Hid (valb [f] ++ valb (wd8 (l.length : Int) 4) = valb hd) := by show _ = _; rw [valb_app, HD.out]
    have HW8 : Hid ((valb (wd8 (l.length : Int) 4)).length = 4 * 1) := by show _ = _; rw [valb_length, wd8_len]
    have HW1 := hide (valb_one (wd8 (l.length : Int) 4))
    have HWb := hide (wd8_by (l.length : Int) 4)
    have HWl := hide (wd8_len (l.length : Int) 4)
    have hO1 := own_one8 w 5 f
    have hB1 := alloc_below w (.cells #[.int .u8 f] 5)
    go_enter Tryz.func69, Tryz.ntmps69
    go_wp2_with (first
     | (go_at_call 33; refine HI.out.mono ?_; rintro e w1 ⟨rfl, hw1⟩; subst hw1)
     | (go_at_call 68; refine (rWide 4 (l.length : Int) _ ⟨by omega, by omega⟩ (by decide)).mono ?_; rintro e w4 ⟨v4, rfl, ho4, hb4⟩; have hr4 := rb_of_own ho4 HWb.out (by rw [HWl.out]; omega); obtain ⟨g4, c4, hv4, _⟩ := ho4.form (by omega); subst hv4; have hB4 := Below.next hB1 hb4)
     | (at_builtin; refine wpList_append_own _ rfl _ _ _ rfl w1.heap.size 5 i0 _ 1 1 Tryz.underlying30 hi0 hz0 hz1 hz2 rfl (by omega) _ 1 _ rfl (own_below hO1 hb4) ⟨g4, 0, none⟩ 4 c4 (valb (wd8 (l.length : Int) 4)) rfl HW8.out hr4.news HW1.out (by unfold maxLen; omega) (by omega) (by have := hB4.size; omega) ?_; intro v5 w5 ho5 hg5 _; have hB5 := hB4.grown hg5 (by have := hB4.size; omega) (own_base hO1)))
    rw [HA.out] at ho5
    have HO5 : Hid (w5.ownsRow w1.heap.size 5 1 v5 (5 + 0 * q) (valb (hd ++ wrL q (l.take 0)))) := by
     show World.ownsRow _ _ _ _ _ _ _
     rw [HH.out, List.append_nil, Nat.zero_mul]; exact ho5
    clear ho5 ho4 hB4 hb4 hr4 HI hO1 hB1 hg5 HA HW8 HW1 HWb HWl
    go_loopw [6, 7] (fun vo vi wr => ∃ k : Nat, k <= l.length ∧ vi = .int .i64 k ∧ Hid (wr.ownsRow w1.heap.size 5 1 vo (5 + k * q) (valb (hd ++ wrL q (l.take k)))) ∧ Below w1.heap.size w1 wr) (fun _ vi _ => l.length - (intOf vi).toNat)
    case atStart => exact ⟨0, Nat.zero_le _, rfl, HO5, hB5⟩
    case round =>
     clear HO5 hB5
     obtain ⟨k, hk, rfl, HO, hB⟩ := hrel
     by_cases hlt : k < l.length
     · obtain ⟨b, off, rfl, hbl, hcell⟩ := hc (by intro h; rw [h] at hlt; simp at hlt)
       have hck := (hB.cell (p := ⟨b, off + k, none⟩) hbl).trans (hcell k hlt)
       have hx : 0 <= l.getD k 0 ∧ l.getD k 0 <= 18446744073709551615 := by
        have : l.getD k 0 = l[k] := by rw [List.getD_eq_getElem?_getD, List.getElem?_eq_getElem hlt]; rfl
        rw [this]; exact HW.out _ (List.getElem_mem hlt)
       have hkq : k * q <= 32768 := Nat.le_trans (Nat.mul_le_mul_right _ hk) hm
       have HS : Hid (valb (hd ++ wrL q (l.take k)) ++ valb (wd8 (l.getD k 0) q) = valb (hd ++ wrL q (l.take (k + 1)))) := by show _ = _; rw [valb_app, List.append_assoc, HST.out k hlt]
       have HQ : Hid (5 + k * q + q = 5 + (k + 1) * q) := by show _ = _; rw [Nat.add_mul, Nat.one_mul, Nat.add_assoc]
       have HV := hide (fun W => rWide q (l.getD k 0) W hx hq8)
       have HW8 : Hid ((valb (wd8 (l.getD k 0) q)).length = q * 1) := by show _ = _; rw [valb_length, wd8_len, Nat.mul_one]
       have HW1 := hide (valb_one (wd8 (l.getD k 0) q))
       have HWb := hide (wd8_by (l.getD k 0) q)
       have HWl := hide (wd8_len (l.getD k 0) q)
       obtain ⟨a6, c6, hv6⟩ := own_form HO.out
       have hbase := own_base HO.out
       subst hv6
       clear hx hcell hc HST
       generalize l.getD k 0 = x at *
       generalize hd ++ wrL q (l.take k) = cs at *
       generalize wd8 x q = ds at *
       have k0 : (0 : Int) <= (k : Int) := Int.natCast_nonneg _
       have k1 : (k : Int) < (l.length : Int) := by omega
       have hbs := hB.size
       have hBd := hB.drew
       have lb : b < wr.heap.size := Nat.lt_of_lt_of_le hbl hB.size
       have ab : (Value.slice a6 (5 + k * q) c6).ownBlock ≠ some b := fun h => by have := hbase b h; omega
       go_wp2_with fail
       go_region_held3 (fun w' => w'.cell? ⟨b, off + k, none⟩ = some (.int .u64 x))
        (first | go_keep | (with_reducible exact hS7) | (rw [hg8.cell_far _ (by have := hb7.size; simp at this ⊢; omega) (Ne.symm ab)]; exact hS7))
        (first
         | (refine step_append_lies _ (by rfl) _ _ _ (by rfl) w1.heap.size 5 i0 _ 1 1 Tryz.underlying30 hi0 hz0 hz1 hz2 rfl (by omega) (.slice a6 (5 + k * q) c6) (5 + k * q) _ (by rfl) (own_below (own_below HO.out (Below.refl wr.heap.size wr).drew) hb7) ⟨g7, 0, none⟩ q c7 (valb ds) (by rfl) HW8.out hr7.news HW1.out (by omega) (by unfold maxLen; omega) (by omega) (by have := hB7.size; omega) w7.heap.size rfl ?_; intro gg cap2 w8 ho8 hg8 hat hltg)
         | (go_at_call 94; refine (HES.out _).mono ?_; rintro e w6 ⟨rfl, hw6⟩; subst hw6)
         | (go_at_call 68; refine (HV.out _).mono ?_; rintro e w7 ⟨v7, rfl, ho7, hb7⟩; have hr7 := rb_of_own ho7 HWb.out (by rw [HWl.out]; omega); obtain ⟨g7, c7, hv7, _⟩ := ho7.form (by omega); subst hv7; have hB7 := Below.next hB.drew hb7; have hS7 := (hb7.cell (p := ⟨b, off + k, none⟩) lb).trans hck))
       have HO8 := hide ho8
       rw [HS.out, HQ.out] at HO8
       have hB8 := hB7.grown hg8 (by have := hB7.size; omega) hbase
       clear ho8 hg8 hat hltg HO hr7 ho7 hb7 hB7 hS7
       go_wp2
       go_roundw
       case rel => exact ⟨k + 1, by omega, by go_num, by rw [HQ.out]; exact HO8, hB8⟩
       case measure => simp [intOf]; omega
     · obtain rfl : k = l.length := by omega
       clear hc
       rw [hsz, HZ.out] at HO
       go_wp2
       go_ret2
       exact ⟨_, rfl, HO.out, hB⟩
theorem rdL_mem {q k : Nat} (bs : List Int) : ∀ n, k < n -> tk8 ((bs.drop (k * q)).take q) ∈ rdL q n bs
 | 0, h => by omega
 | n + 1, h => by
  rw [rdL_snoc]
  by_cases hk : k = n
  · subst hk; exact List.mem_append_right _ List.mem_cons_self
  · exact List.mem_append_left _ (rdL_mem bs n (by omega))
theorem inW_one {f : Int} {l : List Int} (h : inW f l = true) {x : Int} (hx : x ∈ l) : inW f [x] = true := by
 unfold inW at *
 by_cases h1 : f = 1
 · rw [if_pos h1] at h ⊢
   simp only [List.all_cons, List.all_nil, Bool.and_true]; exact List.all_eq_true.1 h x hx
 · rw [if_neg h1] at h ⊢
   by_cases h2 : f = 2
   · rw [if_pos h2] at h ⊢
     simp only [List.all_cons, List.all_nil, Bool.and_true]; exact List.all_eq_true.1 h x hx
   · rw [if_neg h2] at h; cases h
theorem inW_snoc {f : Int} {l : List Int} {x : Int} (h : inW f l = true) (hx : inW f [x] = true) : inW f (l ++ [x]) = true := by
 unfold inW at *
 by_cases h1 : f = 1
 · rw [if_pos h1] at h hx ⊢
   rw [List.all_append, h, hx]; rfl
 · rw [if_neg h1] at h hx ⊢
   by_cases h2 : f = 2
   · rw [if_pos h2] at h hx ⊢
     rw [List.all_append, h, hx]; rfl
   · rw [if_neg h2] at h; cases h
theorem inW_nil {f : Int} (h : f = 1 ∨ f = 2) : inW f [] = true := by
 rcases h with rfl | rfl <;> rfl
theorem row_one (w : World) (x : Int) (hx : 0 <= x ∧ x <= 18446744073709551615) (T : TypeId) : Row (w.alloc (.cells #[.int .u64 x] T)) (.slice (some ⟨w.heap.size, 0, none⟩) 1 1) [x] := by
 refine ⟨_, 1, rfl, by simp, fun y hy => by rw [List.mem_singleton.1 hy]; exact hx, fun _ => ⟨w.heap.size, 0, rfl, by simp, fun i hi => ?_⟩⟩
 have : i = 0 := by simp at hi; omega
 subst this
 simp [go_sem]
theorem heap_two (w : World) (o1 o2 : Obj) : ((w.alloc o1).alloc o2).heap[w.heap.size + 1]? = some o2 := by
 have := heap_alloc_new (w.alloc o1) o2
 simpa using this
theorem rReadList (v : Value) (bs : List Int) (w : World) (h : Rb w v bs) : GivesR8 63 #[v] w bs := by
 unfold GivesR8
 have hy := h.by
 have hlen := h.len
 rcases rl_cases bs with ⟨h0, he⟩ | ⟨h0, hf, he⟩ | ⟨h0, hf, hc, he⟩ | ⟨h0, hf, hc, hn, he⟩ | ⟨h0, hf, hc, hn, he⟩
 · obtain ⟨e1, e2, e3⟩ := rl_no he (by decide)
   rw [he, e1, e2, e3]
   obtain ⟨ao, cap, rfl, _⟩ := h.spell
   clear he e1 e2 e3 hy h
   rw [h0]
   go_enter Tryz.func63, Tryz.ntmps63
   go_wp2
   (try simp only [Exit.inBlock, Exit.then]); refine bodyPost_ret (results_tmp4 rfl _ _ _) rfl ?_
   exact ⟨_, rfl, World.ownsRow_nil _ _ _ _, Below.refl _ _⟩
 · obtain ⟨e1, e2, e3⟩ := rl_no he (by decide)
   rw [he, e1, e2, e3]
   obtain ⟨b, off, cap, rfl, hcp, _⟩ := h.form h0
   have hck : w.cell? ⟨b, off, none⟩ = some (.int .u8 (bs.getD 0 0)) := (h.at_ h0).2.1
   obtain ⟨b0, b1⟩ := h.byte h0
   have hf1 : (bs.getD 0 0 != 1) = true := by have : ¬ bs.getD 0 0 = 1 := fun e => hf (.inl e); simpa using this
   have hf2 : (bs.getD 0 0 != 2) = true := by have : ¬ bs.getD 0 0 = 2 := fun e => hf (.inr e); simpa using this
   have hl1 : (0 : Int) < (bs.length : Int) := by omega
   have hl2 : ¬ bs.length = 0 := by omega
   clear he e1 e2 e3 hy h hf
   generalize bs.getD 0 0 = f at *
   go_enter Tryz.func63, Tryz.ntmps63
   go_wp2
   (try simp only [Exit.inBlock, Exit.then]); refine bodyPost_ret (results_tmp4 rfl _ _ _) rfl ?_
   exact ⟨_, rfl, World.ownsRow_nil _ _ _ _, Below.refl _ _⟩
 all_goals
  obtain ⟨b, off, cap, rfl, hcp, _⟩ := h.form (by omega)
  have hck : w.cell? ⟨b, off, none⟩ = some (.int .u8 (bs.getD 0 0)) := (h.at_ (k := 0) (by omega)).2.1
  obtain ⟨b0, b1⟩ := h.byte (k := 0) (by omega)
  have hl1 : (0 : Int) < (bs.length : Int) := by omega
  have hl2 : ¬ bs.length = 0 := by omega
  have hff : bs.getD 0 0 = 1 ∨ bs.getD 0 0 = 2 := hf
  have HRC := hide (rReadCount (.slice (some ⟨b, off + 1, none⟩) (bs.length - 1) (cap - 1)) (bs.drop 1) w (by
   have := h.cut (o := 1) (n := bs.length - 1) (c := cap - 1) (by omega) (by omega)
   rw [List.take_of_length_le (by rw [List.length_drop]; exact Nat.le_refl _)] at this
   exact this))
  have HRF : Hid (rlF bs = bs.getD 0 0) := rfl
 · obtain ⟨e1, e2, e3⟩ := rl_no he hc
   rw [he, e1, e2, e3]
   have hcc : rcE (bs.drop 1) = 7 ∨ rcE (bs.drop 1) = 8 := by have := rcE_or (bs.drop 1); omega
   have hsz : rcS (bs.drop 1) = 0 := by unfold rcS; rw [if_neg hc]
   rw [rcN_no hc, hsz] at HRC
   have HE0 : Hid (cap = 1 -> rcE (bs.drop 1) = 7) := fun h => by unfold rcE; rw [if_pos (by rw [List.length_drop]; omega)]
   have HR0 := hide (fun ad => rReadCount (.slice (some ad) 0 0) [] w (rb_empty w ad 0))
   clear he e1 e2 e3 hy h hc hf hsz HRF
   generalize bs.getD 0 0 = f at *
   have HW := hide (fun W => rWidth f W hff)
   by_cases h1 : cap = 1
   · obtain rfl := h1
     rw [HE0.out rfl]
     have hb1 : bs.length = 1 := by omega
     clear hcc HRC HE0
     rw [hb1]
     clear hb1
     rcases hff with rfl | rfl
     all_goals
      go_enter Tryz.func63, Tryz.ntmps63
      go_wp2_with (go_at_call 92; refine (HR0.out _).mono ?_; rintro e w1 ⟨rfl, hw1⟩; subst hw1)
      refine wp_loop_rounds 1 ?_
      rw [rounds_succ]
      go_wp2
      (try simp only [Exit.inBlock, Exit.then]); refine bodyPost_ret (results_tmp4 rfl _ _ _) rfl ?_
      exact ⟨_, rfl, World.ownsRow_nil _ _ _ _, Below.refl _ _⟩
   · clear HE0 HR0
     rcases hcc with hcc | hcc
     all_goals
      rw [hcc] at HRC ⊢
      clear hcc
      rcases hff with rfl | rfl
      all_goals
       go_enter Tryz.func63, Tryz.ntmps63
       go_wp2_with (go_at_call 92; refine HRC.out.mono ?_; rintro e w1 ⟨rfl, hw1⟩; subst hw1)
       refine wp_loop_rounds 1 ?_
       rw [rounds_succ]
       go_wp2
       (try simp only [Exit.inBlock, Exit.then]); refine bodyPost_ret (results_tmp4 rfl _ _ _) rfl ?_
       exact ⟨_, rfl, World.ownsRow_nil _ _ _ _, Below.refl _ _⟩
 all_goals
  have hsz : rcS (bs.drop 1) = 4 := by unfold rcS; rw [if_pos hc]
  have hb5 := (rcE_zero hc).1
  rw [List.length_drop] at hb5
  have h1 : ¬ cap = 1 := by omega
  rw [rcN_rlN hy hc, hc, hsz] at HRC
 · obtain ⟨e1, e2, e3⟩ := rl_no he (by decide)
   rw [he, e1, e2, e3]
   have hn2 : (4096 : Int) < ((rlN bs : Nat) : Int) := by omega
   clear he e1 e2 e3 hy h hc hf hsz hn HRF
   generalize bs.getD 0 0 = f at *
   generalize ((rlN bs : Nat) : Int) = n at *
   rcases hff with rfl | rfl
   all_goals
    go_enter Tryz.func63, Tryz.ntmps63
    go_wp2_with (go_at_call 92; refine HRC.out.mono ?_; rintro e w1 ⟨rfl, hw1⟩; subst hw1)
    refine wp_loop_rounds 1 ?_
    rw [rounds_succ]
    go_wp2
    (try simp only [Exit.inBlock, Exit.then]); refine bodyPost_ret (results_tmp4 rfl _ _ _) rfl ?_
    exact ⟨_, rfl, World.ownsRow_nil _ _ _ _, Below.refl _ _⟩
 · have hwF := wF_or hf
   have HW := hide (fun W => rWidth (rlF bs) W hf)
   obtain ⟨D, hD⟩ : ∃ D, rlN bs * wF (rlF bs) = D := ⟨_, rfl⟩
   have hDi : ((rlN bs : Nat) : Int) * ((wF (rlF bs) : Nat) : Int) = (D : Int) := by rw [<- hD]; simp
   have hDb : D <= 32768 := by rw [<- hD]; exact Nat.le_trans (Nat.mul_le_mul_right _ hn) (by omega)
   by_cases hs : (bs.drop 5).length < rlN bs * wF (rlF bs)
   · have hE := (neE_short hs).1
     obtain ⟨e1, e2, e3⟩ := rl_no (he.trans hE) (by decide)
     rw [he, hE, e1, e2, e3]
     have hs2 : ((bs.length : Int) - 5) < (D : Int) := by rw [List.length_drop, hD] at hs; omega
     have hn0 : (0 : Int) < ((rlN bs : Nat) : Int) := by
      have : 0 < rlN bs := by apply Nat.pos_of_ne_zero; intro h0; rw [h0, Nat.zero_mul] at hs; omega
      omega
     rw [HRF.out] at HW hDi
     clear he e1 e2 e3 hy h hc hf hsz HRF hE hs hD hwF
     generalize bs.getD 0 0 = f at *
     generalize wF f = q at *
     generalize rlN bs = n at *
     rcases hff with rfl | rfl
     all_goals
      go_enter Tryz.func63, Tryz.ntmps63
      go_wp2_with (first
       | (go_at_call 92; refine HRC.out.mono ?_; rintro e w1 ⟨rfl, hw1⟩; subst hw1)
       | (go_at_call 94; refine (HW.out _).mono ?_; rintro e w2 ⟨rfl, hw2⟩; subst hw2))
      refine wp_loop_rounds 1 ?_
      rw [rounds_succ]
      go_wp2
      (try simp only [Exit.inBlock, Exit.then]); refine bodyPost_ret (results_tmp4 rfl _ _ _) rfl ?_
      exact ⟨_, rfl, World.ownsRow_nil _ _ _ _, Below.refl _ _⟩
   · have HNo : Hid (inW (rlF bs) (rdL (wF (rlF bs)) (rlN bs) (bs.drop 5)) = false -> rlE bs = 8 ∧ rlFo bs = 0 ∧ rlLo bs = [] ∧ rlSo bs = 0) := fun hi => by
      have e := he.trans (neE_no hs hi).1
      exact ⟨e, rl_no e (by decide)⟩
     have HYe : Hid (inW (rlF bs) (rdL (wF (rlF bs)) (rlN bs) (bs.drop 5)) = true -> rlE bs = 0 ∧ rlFo bs = rlF bs ∧ rlLo bs = rdL (wF (rlF bs)) (rlN bs) (bs.drop 5) ∧ rlSo bs = 5 + rlN bs * wF (rlF bs)) := fun hi => by
      have e := he.trans (neE_yes hs hi).1
      exact ⟨e, rl_yes e⟩
     have hs2 : ¬ ((bs.length : Int) - 5) < (D : Int) := by rw [List.length_drop, hD] at hs; omega
     have hs3 : 5 + D <= bs.length := by omega
     have HN0 := hide (inW_nil hf)
     have HRN : Hid (rdL (wF (rlF bs)) 0 (bs.drop 5) = []) := rfl
     have HT : Hid (∀ k, k < rlN bs -> ∀ W, Below w.heap.size w W -> Calls Tryz.prog 64 #[.slice (some ⟨b, off + (5 + k * wF (rlF bs)), none⟩) (wF (rlF bs)) (cap - (5 + k * wF (rlF bs)))] W fun e w' => e = .returned (.int .u64 (tk8 (((bs.drop 5).drop (k * wF (rlF bs))).take (wF (rlF bs))))) ∧ w' = W) := fun k hk W hb => by
      have hkq : (k + 1) * wF (rlF bs) <= D := by rw [<- hD]; exact Nat.mul_le_mul_right _ hk
      rw [Nat.add_mul, Nat.one_mul] at hkq
      rw [List.drop_drop]
      exact rTaken _ _ W ((h.cut (o := 5 + k * wF (rlF bs)) (n := wF (rlF bs)) (c := cap - (5 + k * wF (rlF bs))) (by omega) (by omega)).below hb) (by rw [List.length_take]; omega)
     have HKq : Hid (∀ k, k < rlN bs -> 5 + k * wF (rlF bs) + wF (rlF bs) <= bs.length) := fun k hk => by
      have hkq : (k + 1) * wF (rlF bs) <= D := by rw [<- hD]; exact Nat.mul_le_mul_right _ hk
      rw [Nat.add_mul, Nat.one_mul] at hkq
      omega
     have HWd := hide (fun k (hk : k < rlN bs) => rdL_words (by omega : wF (rlF bs) <= 8) (rlN bs) (bs.drop 5) (hy.drop 5) _ (rdL_mem (q := wF (rlF bs)) (k := k) (bs.drop 5) (rlN bs) hk))
     have HMm := hide (fun k (hk : k < rlN bs) => rdL_mem (q := wF (rlF bs)) (k := k) (bs.drop 5) (rlN bs) hk)
     have HSn := hide (fun k => rdL_snoc (wF (rlF bs)) k (bs.drop 5))
     have HWk := hide (fun k => rdL_words (by omega : wF (rlF bs) <= 8) k (bs.drop 5) (hy.drop 5))
     have HIn : Hid (∀ x : Int, (0 <= x ∧ x <= 18446744073709551615) -> ∀ (W : World) T, Calls Tryz.prog 33 #[.int .u8 (rlF bs), .slice (some ⟨W.heap.size, 0, none⟩) 1 1] (W.alloc (.cells #[.int .u64 x] T)) fun e w' => e = .returned (.bool (inW (rlF bs) [x])) ∧ w' = W.alloc (.cells #[.int .u64 x] T)) := fun x hx W T => rIn_any (rlF bs) _ [x] _ (row_one W x hx T)
     have HG1 : Hid (∀ (l : List Int) (x : Int), inW (rlF bs) l = true -> inW (rlF bs) [x] = true -> inW (rlF bs) (l ++ [x]) = true) := fun l x h1 h2 => inW_snoc h1 h2
     have HG2 : Hid (∀ (l : List Int) (x : Int), x ∈ l -> inW (rlF bs) [x] = false -> inW (rlF bs) l = false) := fun l x hx h1 => by
      cases h2 : inW (rlF bs) l with
      | false => rfl
      | true => rw [inW_one h2 hx] at h1; cases h1
     obtain ⟨i0, hi0, hz0, hz1, hz2⟩ := info_parts u64_info
     rw [HRF.out] at HW hDi HNo HYe HN0 HRN HT HKq HWd HMm HSn HWk HIn HG1 HG2 hwF
     clear he hy h hc hf hsz HRF hs hD
     generalize bs.getD 0 0 = f at *
     generalize wF f = q at *
     generalize rlN bs = n at *
     generalize rlE bs = ee at *
     generalize rlFo bs = ff at *
     generalize rlLo bs = ll at *
     generalize rlSo bs = ss at *
     generalize bs.drop 5 = B5 at *
     have hq8 : q <= 8 := by omega
     have hq0 : 0 < q := by omega
     clear hwF
     generalize inW f = G at *
     rcases hff with rfl | rfl
     all_goals
      go_enter Tryz.func63, Tryz.ntmps63
      go_wp2_with (first
       | (go_at_call 92; refine HRC.out.mono ?_; rintro e w1 ⟨rfl, hw1⟩; rw [hw1]; clear hw1 w1)
       | (go_at_call 94; refine (HW.out _).mono ?_; rintro e w2 ⟨rfl, hw2⟩; rw [hw2]; clear hw2 w2))
      clear HRC hDi hs2
      go_loopw [8, 9, 10, 11] (fun vs ve vl vi wr => Below w.heap.size w wr ∧ ∃ k : Nat, k <= n ∧ vi = .int .i64 k ∧ ((ve = .int .i64 0 ∧ vs = .int .i64 ((5 + k * q : Nat) : Int) ∧ Hid (G (rdL q k B5) = true) ∧ Hid (wr.ownsRow w.heap.size 83 1 vl k (vals (rdL q k B5)))) ∨ (ve = .int .i64 8 ∧ Hid (G (rdL q n B5) = false)))) (fun _ _ _ vi _ => n - (intOf vi).toNat)
      case atStart => exact ⟨Below.refl _ _, 0, Nat.zero_le _, rfl, .inl ⟨rfl, by rw [Nat.zero_mul]; rfl, HN0, by rw [HRN.out]; exact World.ownsRow_nil _ _ _ _⟩⟩
      case round =>
       obtain ⟨hB, k, hk, rfl, hrel⟩ := hrel
       rcases hrel with ⟨rfl, rfl, HG, HO⟩ | ⟨rfl, HB⟩
       · by_cases hlt : k < n
         · have hkl := HKq.out k hlt
           have hx := HWd.out k hlt
           have HTk := hide (HT.out k hlt wr hB)
           have HMk := hide (HMm.out k hlt)
           have HSk := hide (HSn.out k)
           have HWk1 := hide (HWk.out k)
           obtain ⟨x, HX⟩ : ∃ x, Hid (tk8 ((B5.drop (k * q)).take q) = x) := ⟨_, rfl⟩
           rw [HX.out] at hx HTk HMk HSk
           obtain ⟨x0, x1⟩ := hx
           have HIx := hide (fun W T => HIn.out x ⟨x0, x1⟩ W T)
           have HQ : Hid (5 + k * q + q = 5 + (k + 1) * q) := by show _ = _; rw [Nat.add_mul, Nat.one_mul, Nat.add_assoc]
           obtain ⟨ps, HP⟩ : ∃ ps, Hid (5 + k * q = ps) := ⟨_, rfl⟩
           rw [HP.out] at hkl HTk HQ ⊢
           clear HT HMm HSn HWk HWd HIn HX HKq
           have hcps : ¬ cap = ps := by omega
           cases hi : G [x] with
           | true =>
            rw [hi] at HIx
            go_wp2_with (first
             | (go_at_call 94; refine (HW.out _).mono ?_; rintro e w2 ⟨rfl, hw2⟩; rw [hw2]; clear hw2 w2)
             | (go_at_call 64; refine HTk.out.mono ?_; rintro e w3 ⟨rfl, hw3⟩; rw [hw3]; clear hw3 w3)
             | (go_at_call 33; refine (HIx.out _ _).mono ?_; rintro e w4 ⟨rfl, hw4⟩; rw [hw4]; clear hw4 w4)
             | (at_builtin; refine wpList_append_own _ rfl _ _ _ rfl w.heap.size 83 i0 _ 1 8 Tryz.underlying54 hi0 hz0 hz1 hz2 rfl (by omega) _ k (vals (rdL q k B5)) rfl ((HO.out.alloc _).alloc _) ⟨wr.heap.size + 1, 0, none⟩ 1 1 [.int .u64 x] rfl rfl (World.news_of_block (cs := #[.int .u64 x]) (t := 83) (fr := (0, 0)) (heap_two wr _ _)) (by simp [Value.oneCell']) (by unfold maxLen; omega) (by omega) (by have := hB.size; simp; omega) ?_; intro v5 w5 ho5 hg5 _))
            have hB5 := ((hB.alloc hB.size _).alloc (by have := hB.size; simp; omega) _).grown hg5 (by have := hB.size; simp; omega) (own_base HO.out)
            have HO5 : Hid (w5.ownsRow w.heap.size 83 1 v5 (k + 1) (vals (rdL q (k + 1) B5))) := by show World.ownsRow _ _ _ _ _ _ _; rw [HSk.out, <- vals_snoc]; exact ho5
            have HG5 : Hid (G (rdL q (k + 1) B5) = true) := by show _ = _; rw [HSk.out]; exact HG1.out _ _ HG.out hi
            clear ho5 hg5 HO HIx HTk
            go_roundw
            case rel => exact ⟨hB5, k + 1, by omega, by go_num, .inl ⟨rfl, by rw [<- HQ.out]; go_num, HG5, HO5⟩⟩
            case measure => simp [intOf]; omega
           | false =>
            rw [hi] at HIx
            go_wp2_with (first
             | (go_at_call 94; refine (HW.out _).mono ?_; rintro e w2 ⟨rfl, hw2⟩; rw [hw2]; clear hw2 w2)
             | (go_at_call 64; refine HTk.out.mono ?_; rintro e w3 ⟨rfl, hw3⟩; rw [hw3]; clear hw3 w3)
             | (go_at_call 33; refine (HIx.out _ _).mono ?_; rintro e w4 ⟨rfl, hw4⟩; rw [hw4]; clear hw4 w4)
             | (at_builtin; refine wpList_append_own _ rfl _ _ _ rfl w.heap.size 83 i0 _ 1 8 Tryz.underlying54 hi0 hz0 hz1 hz2 rfl (by omega) _ k (vals (rdL q k B5)) rfl ((HO.out.alloc _).alloc _) ⟨wr.heap.size + 1, 0, none⟩ 1 1 [.int .u64 x] rfl rfl (World.news_of_block (cs := #[.int .u64 x]) (t := 83) (fr := (0, 0)) (heap_two wr _ _)) (by simp [Value.oneCell']) (by unfold maxLen; omega) (by omega) (by have := hB.size; simp; omega) ?_; intro v5 w5 ho5 hg5 _))
            have hB5 := ((hB.alloc hB.size _).alloc (by have := hB.size; simp; omega) _).grown hg5 (by have := hB.size; simp; omega) (own_base HO.out)
            have HG5 : Hid (G (rdL q n B5) = false) := HG2.out _ _ HMk.out hi
            clear ho5 hg5 HO HIx HTk
            go_roundw
            case rel => exact ⟨hB5, k + 1, by omega, by go_num, .inr ⟨rfl, HG5⟩⟩
            case measure => simp [intOf]; omega
         · obtain rfl : k = n := by omega
           obtain ⟨e1, e2, e3, e4⟩ := HYe.out HG.out
           have HL : Hid (k = ll.length) := by show _ = _; rw [e3, rdL_len]
           have HO5 : Hid (wr.ownsRow w.heap.size 83 1 u10 ll.length (vals ll)) := by rw [<- HL.out, e3]; exact HO
           have hss : ((ss : Nat) : Int) = ((5 + k * q : Nat) : Int) := by rw [e4]
           have HSS := hide hss
           subst e1 e2
           clear HNo HYe HT HMm HSn HWk HWd HIn HKq HG HO e3 e4 hss
           rw [<- HSS.out]
           go_wp2
           (try simp only [Exit.inBlock, Exit.then]); refine bodyPost_ret (results_tmp4 rfl _ _ _) rfl ?_
           exact ⟨_, rfl, HO5.out, hB⟩
       · obtain ⟨e1, e2, e3, e4⟩ := HNo.out HB.out
         subst e1 e2 e3 e4
         clear HNo HYe HT HMm HSn HWk HWd HIn HKq HB
         by_cases hlt : k < n
         · go_wp2
           (try simp only [Exit.inBlock, Exit.then]); refine bodyPost_ret (results_tmp4 rfl _ _ _) rfl ?_
           exact ⟨_, rfl, World.ownsRow_nil _ _ _ _, hB⟩
         · go_wp2
           (try simp only [Exit.inBlock, Exit.then]); refine bodyPost_ret (results_tmp4 rfl _ _ _) rfl ?_
           exact ⟨_, rfl, World.ownsRow_nil _ _ _ _, hB⟩
def Ok8 (bs : List Int) : Prop := By bs ∧ bs.length <= 2097152
theorem usL_ok {bs : List Int} (hb : By bs) : Ok8 (usL sum8 bs) := by
 by_cases h : usE sum8 bs = 0
 · refine ⟨?_, by rw [usL_len h]; have := (usE_zero h).2.1; omega⟩
   unfold usL; rw [if_pos h]; exact (hb.drop 4).take _
 · unfold usL; rw [if_neg h]; exact ⟨By.nil, by simp⟩
theorem rlLo_ok {bs : List Int} (hb : By bs) : (rlLo bs).length <= 4096 ∧ ∀ x ∈ rlLo bs, 0 <= x ∧ x <= 18446744073709551615 := by
 by_cases h : rlE bs = 0
 · obtain ⟨_, hf, _, hn, _, _⟩ := rlE_zero h
   have hq := wF_or hf
   unfold rlLo; rw [if_pos h]
   exact ⟨by rw [rlX_len]; exact hn, rdL_words (by omega) _ _ (hb.drop 5)⟩
 · unfold rlLo; rw [if_neg h]; exact ⟨by simp, fun x hx => by cases hx⟩
theorem rlLo_row {bs : List Int} (hb : By bs) {w : World} {base : Nat} {v : Value} (ho : w.ownsRow base 83 1 v (rlLo bs).length (vals (rlLo bs))) : Row w v (rlLo bs) := row_of_own ho rfl (by have := (rlLo_ok hb).1; omega) (rlLo_ok hb).2
theorem valb_set8 (ys : List Int) (k : Nat) (x : Int) : (valb ys).set k (.int .u8 x) = valb (ys.set k x) := by simp [valb, List.map_set]
theorem own_cell8 {wr : World} {base g n cap k : Nat} {ys : List Int} {T : TypeId} (hO : wr.ownsRow base T 1 (.slice (some ⟨g, 0, none⟩) n cap) n (valb ys)) (hl : ys.length = n) (hk : k < n) : wr.cell? ⟨g, k, none⟩ = some (.int .u8 (ys.getD k 0)) := by
 rw [hO.cellAt k (by omega), valb_at ys k (by omega)]
theorem own_len8 {wr : World} {base n : Nat} {ys : List Int} {T : TypeId} {v : Value} (hO : wr.ownsRow base T 1 v n (valb ys)) : ys.length = n := by
 have := hO.1; rw [valb_length] at this; omega
theorem spoil_step8 {w wr : World} {base g n cap k : Nat} {ys : List Int} {r : Option Nat} {x : Int} {T : TypeId} (hO : wr.ownsRow base T 1 (.slice (some ⟨g, 0, none⟩) n cap) n (valb ys)) (hG : w.grownBy wr r) (hr : r = some g ∨ w.heap.size <= g) :
 (wr.setCell ⟨g, k, none⟩ (.int .u8 x)).ownsRow base T 1 (.slice (some ⟨g, 0, none⟩) n cap) n (valb (ys.set k x)) ∧ w.grownBy (wr.setCell ⟨g, k, none⟩ (.int .u8 x)) r := by
 have := hO.stored k (.int .u8 x)
 rw [valb_set8] at this
 exact ⟨this.1, grown_far hG this.2 hr⟩
theorem Spoil8 (v : Value) (n base : Nat) (xs : List Int) (m : Int) (w : World) (m0 : 0 <= m) (m1 : m <= 255) (hO : w.ownsRow base 5 1 v n (valb xs)) (hn : n <= 2097152) (hb : base <= w.heap.size) :
 Calls Tryz.prog 37 #[v, .int .u8 m] w fun e w' => e = .returned (.tuple #[]) ∧ w.grownBy w' v.ownBlock := by
 obtain ⟨i0, hi0, hz0, hz1, hz2⟩ := info_parts u8_info
 have hbk := own_base hO
 obtain ⟨ao, cap, r, hv, hvr⟩ : ∃ ao cap r, v = .slice ao n cap ∧ v.ownBlock = r := by
  rcases hO.2 with ⟨rfl, rfl⟩ | ⟨g, cap, _, rfl, _⟩
  · exact ⟨_, _, _, rfl, rfl⟩
  · exact ⟨_, _, _, rfl, rfl⟩
 have hfm : 0 < n -> ∃ g, ao = some ⟨g, 0, none⟩ ∧ r = some g := fun hp => by
  rcases hO.2 with ⟨h1, h2⟩ | ⟨g, c, _, h1, _⟩
  · omega
  · rw [hv] at h1 hvr
    cases h1
    exact ⟨g, rfl, hvr.symm⟩
 rw [hvr]
 rw [hvr] at hbk
 subst hv
 go_enter Tryz.func37, Tryz.ntmps37
 go_wp2
 go_loopw [4] (fun vi wr => ∃ (k : Nat) (ys : List Int), k <= n ∧ vi = .int .i64 k ∧ wr.ownsRow base 5 1 (.slice ao n cap) n (valb ys) ∧ w.grownBy wr r) (fun vi _ => n - (intOf vi).toNat)
 case atStart => exact ⟨0, xs, Nat.zero_le _, rfl, hO, grown_refl _ _⟩
 case round =>
  clear hO
  obtain ⟨k, ys, hk, rfl, hO, hG⟩ := hrel
  have hyl := own_len8 hO
  by_cases hlt : k < n
  · obtain ⟨g, rfl, rfl⟩ := hfm (by omega)
    have hck := own_cell8 hO hyl hlt
    have hfr := hO.frozenAt k
    generalize ys.getD k 0 = y at *
    go_wp2
    go_roundw
    case rel => exact ⟨k + 1, _, by omega, by go_num, (spoil_step8 hO hG (.inl rfl)).1, (spoil_step8 hO hG (.inl rfl)).2⟩
    case measure => simp [intOf]; omega
  · have hGs := hG.size
    clear hyl
    go_wp2_with (at_builtin; refine wpList_append_lies _ rfl _ _ _ rfl base 5 i0 _ 1 1 Tryz.underlying30 hi0 hz0 hz1 hz2 rfl (by omega) (.slice ao n cap) n (valb ys) rfl (hO.alloc _) ⟨wr.heap.size, 0, none⟩ 3 3 [.int .u8 m, .int .u8 m, .int .u8 m] rfl rfl (World.news_of_block (cs := #[.int .u8 m, .int .u8 m, .int .u8 m]) (t := 5) (fr := (0, 0)) (heap_alloc_new wr _)) (by simp [Value.oneCell']) (by omega) (by unfold maxLen; omega) (by omega) (by simp; omega) (wr.heap.size + 1) (by simp) ?_; intro gg cap2 w2 hO2 hgrow hat hltg)
    rw [hvr] at hgrow hat
    have hO2 : w2.ownsRow base 5 1 (.slice (some ⟨gg, 0, none⟩) (n + 3) cap2) (n + 3) (valb (ys ++ [m, m, m])) := by simpa [valb] using hO2
    have hG2 : w.grownBy w2 r := grown_trans (grown_alloc hG _) hgrow
    have hrow : r = some gg ∨ w.heap.size <= gg := by
     rcases hat with h | h
     · exact .inl h
     · right; omega
    clear hO hG hgrow hat hltg
    go_loopw [5] (fun vi wr => ∃ (k : Nat) (zs : List Int), k <= n + 3 ∧ vi = .int .i64 k ∧ wr.ownsRow base 5 1 (.slice (some ⟨gg, 0, none⟩) (n + 3) cap2) (n + 3) (valb zs) ∧ w.grownBy wr r) (fun vi _ => n + 3 - (intOf vi).toNat)
    case atStart => exact ⟨0, _, Nat.zero_le _, rfl, hO2, hG2⟩
    case round =>
     clear hO2 hG2
     obtain ⟨j, zs, hj, rfl, hO, hG⟩ := hrel
     have hzl := own_len8 hO
     by_cases hlt2 : j < n + 3
     · have hck := own_cell8 hO hzl hlt2
       have hfr := hO.frozenAt j
       generalize zs.getD j 0 = y at *
       go_wp2
       go_roundw
       case rel => exact ⟨j + 1, _, by omega, by go_num, (spoil_step8 hO hG hrow).1, (spoil_step8 hO hG hrow).2⟩
       case measure => simp [intOf]; omega
     · go_wp2
       go_end0
       exact ⟨rfl, hG⟩
end Go.Proofs.YtipobchbnjgenaaGreat
