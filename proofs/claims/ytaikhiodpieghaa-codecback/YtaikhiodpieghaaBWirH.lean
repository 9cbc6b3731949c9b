import Derived.Test.YtaikhiodpieghaaBWirG
set_option linter.unusedVariables false
set_option linter.unusedSimpArgs false
set_option maxRecDepth 100000
set_option maxHeartbeats 4000000
namespace Go.Proofs.Ytaikhiodpieghaa
open Go.RowKit Fld
theorem rdL_words {q : Nat} (hq : q <= 8) : ∀ (n : Nat) (bs : List Int), By bs -> ∀ x ∈ rdL q n bs, 0 <= x ∧ x <= 18446744073709551615
 | 0, _, _, x, hx => by cases hx
 | n + 1, bs, hb, x, hx => by
  rcases List.mem_cons.1 hx with rfl | hx
  · have h1 := tk8_bd (hb.take q)
    have h2 : (256 : Int) ^ (bs.take q).length <= 256 ^ 8 := p256_le (by rw [List.length_take]; omega)
    have h3 : (256 : Int) ^ 8 = 18446744073709551616 := by decide
    omega
  · exact rdL_words hq n _ (hb.drop q) x hx
def fl8 (q n k : Nat) (bs : List Int) : List Int := rdL q k bs ++ List.replicate (n - k) 0
theorem fl8_zero (q n : Nat) (bs : List Int) : fl8 q n 0 bs = List.replicate n 0 := rfl
theorem fl8_end (q n : Nat) (bs : List Int) : fl8 q n n bs = rdL q n bs := by unfold fl8; rw [Nat.sub_self]; simp
theorem fl8_len {q n k : Nat} (bs : List Int) (h : k <= n) : (fl8 q n k bs).length = n := by unfold fl8; rw [List.length_append, rdL_len, List.length_replicate]; omega
theorem fl8_step {q n k : Nat} (bs : List Int) (h : k < n) : (fl8 q n k bs).set k (tk8 ((bs.drop (k * q)).take q)) = fl8 q n (k + 1) bs := by
 unfold fl8
 rw [rdL_snoc, List.append_assoc, List.set_append_right _ _ (by rw [rdL_len]; exact Nat.le_refl _), rdL_len, Nat.sub_self, show n - k = (n - (k + 1)) + 1 by omega, List.replicate_succ]
 rfl
def neE (f : Int) (n : Nat) (bs : List Int) : Int := if bs.length < n * wF f then 7 else if inW f (rdL (wF f) n bs) = true then 0 else 8
def neL (f : Int) (n : Nat) (bs : List Int) : List Int := if neE f n bs = 0 then rdL (wF f) n bs else []
theorem neE_short {f : Int} {n : Nat} {bs : List Int} (h : bs.length < n * wF f) : neE f n bs = 7 ∧ neL f n bs = [] := by
 have e : neE f n bs = 7 := by unfold neE; rw [if_pos h]
 exact ⟨e, by unfold neL; rw [if_neg (by rw [e]; decide)]⟩
theorem neE_no {f : Int} {n : Nat} {bs : List Int} (h : ¬ bs.length < n * wF f) (hi : inW f (rdL (wF f) n bs) = false) : neE f n bs = 8 ∧ neL f n bs = [] := by
 have e : neE f n bs = 8 := by unfold neE; rw [if_neg h, if_neg (by rw [hi]; simp)]
 exact ⟨e, by unfold neL; rw [if_neg (by rw [e]; decide)]⟩
theorem neE_yes {f : Int} {n : Nat} {bs : List Int} (h : ¬ bs.length < n * wF f) (hi : inW f (rdL (wF f) n bs) = true) : neE f n bs = 0 ∧ neL f n bs = rdL (wF f) n bs := by
 have e : neE f n bs = 0 := by unfold neE; rw [if_neg h, if_pos hi]
 exact ⟨e, by unfold neL; rw [if_pos e]⟩
theorem neE_or (f : Int) (n : Nat) (bs : List Int) : neE f n bs = 0 ∨ neE f n bs = 7 ∨ neE f n bs = 8 := by
 unfold neE; split
 · exact .inr (.inl rfl)
 · split
   · exact .inl rfl
   · exact .inr (.inr rfl)
theorem wNextElements (f : Int) (n g : Nat) (bs : List Int) (w0 w : World) (hf : f = 1 ∨ f = 2) (hn : n <= 4096) (hR : Rdr w0 w g bs) :
 Calls Try.prog 59 #[rdF g, .int .u8 f, .int .i64 n] w fun e w' => ∃ v', e = .returned (.tuple #[v', .int .i64 (neE f n bs)]) ∧ w'.ownsRow w.heap.size 48 1 v' (neL f n bs).length (vals (neL f n bs)) ∧ Kq (fun j => j < w.heap.size ∧ j ≠ g) w w' := by
 unfold rdF
 obtain ⟨i0, hi0, hz0, hz1, hz2⟩ := info_parts u64_info
 have hy : By bs := by obtain ⟨_, ⟨v, _, hv⟩, _, _⟩ := hR; exact hv.by
 have hgw : g < w.heap.size := by obtain ⟨_, ⟨v, hv, _⟩, _, _⟩ := hR; exact cell_in hv
 have HES := hide (fun W => wElementSize f W hf)
 have hq := wF_or hf
 have HI := hide (fun W v (hr : Row W v (rdL (wF f) n bs)) => In_any f v (rdL (wF f) n bs) W hr)
 have HSh := hide (fun (h : bs.length < n * wF f) => neE_short h)
 have HNo := hide (fun (h : ¬ bs.length < n * wF f) (hi : inW f (rdL (wF f) n bs) = false) => neE_no h hi)
 have HYe := hide (fun (h : ¬ bs.length < n * wF f) (hi : inW f (rdL (wF f) n bs) = true) => neE_yes h hi)
 have HR := hide hR
 have HY := hide hy
 clear hR hy hf
 generalize neE f n bs = ee at *
 generalize neL f n bs = ll at *
 generalize wF f = q at *
 have hq8 : q <= 8 := by omega
 have hq0 : 0 < q := by omega
 have HWd := hide (rdL_words hq8 n bs HY.out)
 clear hq
 go_enter Try.func59, Try.ntmps59
 go_wp2_with (at_make; refine wpList_make_full _ rfl _ _ 24 rfl w.heap.size 48 i0 (.int .u64 0) 1 Try.underlying24 hi0 hz0 hz1 .i64 .i64 _ _ n rfl rfl (by omega) (by omega) (by rw [hz2]; omega) (by unfold maxLen; omega) (Nat.le_refl _) ?_; intro w2 hown hgrow; have hO := hide (own_made hown); have hB := below_grown_none hgrow; clear hown)
 have HR2 : Hid (Rdr w0 w2 g (bs.drop (0 * q))) := by show Rdr _ _ _ _; rw [Nat.zero_mul]; exact HR.out.below hB
 have HK2 : Hid (Kq (fun j => j < w.heap.size ∧ j ≠ g) w w2) := Below.kq hB (fun j hj => hj.1)
 have HS2 : Hid (w.heap.size < w2.heap.size) := own_top hO.out _ rfl
 rw [<- fl8_zero q n bs] at hO
 clear HR hgrow
 go_loopw [16] (fun vi wr => ∃ k : Nat, k <= n ∧ vi = .int .i64 k ∧ Hid (k * q <= bs.length) ∧ Hid (Rdr w0 wr g (bs.drop (k * q))) ∧ Hid (wr.ownsRow w.heap.size 48 1 (.slice (some ⟨w.heap.size, 0, none⟩) n n) n (vals (fl8 q n k bs))) ∧ Hid (Kq (fun j => j < w.heap.size ∧ j ≠ g) w wr)) (fun vi _ => n - (intOf vi).toNat)
 case atStart => exact ⟨0, Nat.zero_le _, rfl, by show _ <= _; rw [Nat.zero_mul]; exact Nat.zero_le _, HR2, hO, HK2⟩
 case round =>
  clear HR2 hO HK2 HS2 hB
  obtain ⟨k, hk, rfl, HL, HR, HO, HK⟩ := hrel
  by_cases hlt : k < n
  · by_cases hs : bs.length < (k + 1) * q
    · have hs2 : bs.length < n * q := Nat.lt_of_lt_of_le hs (Nat.mul_le_mul_right _ (by omega))
      obtain ⟨e1, e2⟩ := HSh.out hs2
      have HN := hide (wNext_short q g _ w0 wr HR.out (by rw [List.length_drop]; rw [Nat.add_mul] at hs; omega) hq8)
      subst e1 e2
      clear hs hs2 HSh HNo HYe HR HO HL HI HWd HY
      go_wp2_with (first
       | (go_at_call 49; refine (HES.out _).mono ?_; rintro e w6 ⟨rfl, hw6⟩; subst hw6)
       | (go_at_call 58; refine HN.out.mono ?_; rintro e w7 ⟨rfl, hw7⟩; subst hw7))
      go_ret2
      exact ⟨_, rfl, World.ownsRow_nil _ _ _ _, HK.out⟩
    · have HN := hide (wNext_long q g _ w0 wr HR.out (by rw [List.length_drop]; rw [Nat.add_mul] at hs; omega) hq8 hq0)
      rw [List.drop_drop, show k * q + q = (k + 1) * q by rw [Nat.add_mul, Nat.one_mul]] at HN
      have HF := hide (fl8_step (q := q) (n := n) (k := k) bs hlt)
      have HFl := hide (fl8_len (q := q) (n := n) (k := k) bs hk)
      have hgt : w.heap.size < wr.heap.size := own_top HO.out _ rfl
      have HL2 : Hid ((k + 1) * q <= bs.length) := by show _ <= _; omega
      have HKW : Hid (∀ W, Kq (fun j => j < wr.heap.size ∧ j ≠ g) wr W -> Kq (fun j => j < w.heap.size ∧ j ≠ g) w W ∧ W.ownsRow w.heap.size 48 1 (.slice (some ⟨w.heap.size, 0, none⟩) n n) n (vals (fl8 q n k bs))) := fun W hk => by
       refine ⟨HK.out.trans (hk.mono (fun j hj => ⟨by omega, hj.2⟩)), hk.own HO.out (fun g' hg' => ?_)⟩
       cases hg'
       exact ⟨hgt, (by omega : w.heap.size ≠ g)⟩
      generalize tk8 ((bs.drop (k * q)).take q) = x at *
      clear hs HSh HNo HYe HR HO HL HI HWd HY HK
      go_wp2_with (first
       | (go_at_call 49; refine (HES.out _).mono ?_; rintro e w6 ⟨rfl, hw6⟩; subst hw6)
       | (go_at_call 58; refine HN.out.mono ?_; rintro e w7 ⟨rfl, hr7, hk7⟩; obtain ⟨hK7, hO7⟩ := HKW.out _ hk7; have hc7 := own_cell hO7 HFl.out hlt; have hz7 := hO7.frozenAt k))
      have R := hide (spoil_step (k := k) (x := x) hO7 (grown_refl w7 (some w.heap.size)) (.inl rfl))
      rw [HF.out] at R
      have HK8 : Hid (Kq (fun j => j < w.heap.size ∧ j ≠ g) w (w7.setCell ⟨w.heap.size, k, none⟩ (.int .u64 x))) := hK7.trans (grown_kq R.out.2 (fun j hj => by have := hK7.size; omega) (fun k' hk' hs => by cases hk'; omega))
      have HR8 : Hid (Rdr w0 (w7.setCell ⟨w.heap.size, k, none⟩ (.int .u64 x)) g (bs.drop ((k + 1) * q))) := hr7.kept (grown_kq R.out.2 (S := fun j => j < w.heap.size) (fun j hj => by have := hK7.size; omega) (fun k' hk' hs => by cases hk'; omega)) hgw (fun j hj => by have := hr7.lo; omega)
      clear hO7 hK7 hk7 hr7 hc7 hz7 HKW HFl
      go_roundw
      case rel => exact ⟨k + 1, by omega, by go_num, HL2, HR8, R.out.1, HK8⟩
      case measure => simp [intOf]; omega
  · obtain rfl : k = n := by omega
    rw [fl8_end] at HO
    have hr := row_of_own HO.out (by rw [rdL_len]) (by rw [rdL_len]; omega) HWd.out
    have HI2 := hide (HI.out wr _ hr)
    rw [inW_inF] at HI2
    have hnl : ¬ bs.length < k * q := by have := HL.out; omega
    cases hi : inW f (rdL q k bs) with
    | false =>
     obtain ⟨e1, e2⟩ := HNo.out hnl hi
     subst e1 e2
     rw [hi] at HI2
     clear HSh HNo HYe HR HL HI HWd HY hr hi hnl
     go_wp2_with (go_at_call 47; refine HI2.out.mono ?_; rintro e w7 ⟨rfl, hb7⟩)
     go_ret2
     exact ⟨_, rfl, World.ownsRow_nil _ _ _ _, HK.out.trans (Below.kq hb7 (fun j hj => by have := HK.out.size; omega))⟩
    | true =>
     obtain ⟨e1, e2⟩ := HYe.out hnl hi
     have HO' : Hid (wr.ownsRow w.heap.size 48 1 (.slice (some ⟨w.heap.size, 0, none⟩) k k) ll.length (vals ll)) := by
      rw [e2]; show World.ownsRow _ _ _ _ _ _ _; rw [rdL_len]; exact HO.out
     subst e1
     rw [hi] at HI2
     clear HSh HNo HYe HR HL HI HWd HY hr hi hnl HO e2
     go_wp2_with (go_at_call 47; refine HI2.out.mono ?_; rintro e w7 ⟨rfl, hb7⟩)
     go_ret2
     exact ⟨_, rfl, own_below HO'.out hb7, HK.out.trans (Below.kq hb7 (fun j hj => by have := HK.out.size; omega))⟩
end Go.Proofs.Ytaikhiodpieghaa
