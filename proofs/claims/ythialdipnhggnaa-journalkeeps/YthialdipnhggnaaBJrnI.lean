import Derived.Test.YthialdipnhggnaaBJrnH
import Derived.Test.YthialdipnhggnaaBByU
set_option linter.unusedVariables false
set_option linter.unusedSimpArgs false
set_option maxRecDepth 100000
set_option maxHeartbeats 4000000
namespace Go.Proofs.Ythialdipnhggnaa
open Go.RowKit Fld
def nzB (x : Int) : Bool := decide (x ≠ 0)
theorem gNz (x : Int) (w : World) : Calls Try.prog 62 #[.int .u8 x] w fun e w' => e = .returned (.bool (nzB x)) ∧ w' = w := by
 unfold nzB
 by_cases h : x = 0
 · subst h
   go_enter Try.func62, Try.ntmps62
   go_wp2
   go_ret
   exact ⟨rfl, rfl⟩
 · rw [decide_eq_true h]
   have h1 : (x != 0) = true := bne_iff_ne.2 h
   clear h
   go_enter Try.func62, Try.ntmps62
   go_wp2
   go_ret
   exact ⟨rfl, rfl⟩
theorem gIndexN (v : Value) (bs : List Int) (w : World) (h : Rb w v bs) :
 Calls Try.prog 66 #[v, .func (.func 62) #[] #[]] w fun e w' => ∃ k : Int, e = .returned (.int .i64 k) ∧ decide (0 <= k) = bs.any nzB ∧ (-1 <= k ∧ k <= 187649984500000) ∧ w' = w := by
 have hl := h.len
 have HZ := hide h
 obtain ⟨ao, c, rfl, _⟩ := h.spell
 have HO := hide (fun x => gNz x w)
 obtain ⟨N, HN⟩ : ∃ N, Hid (bs.length = N) := ⟨_, rfl⟩
 rw [HN.out] at hl HZ ⊢
 clear h
 go_enter Try.func66, Try.ntmps66
 go_wp2_with fail
 go_loop [8] (fun v8 => ∃ k : Nat, k <= N ∧ v8 = .int .i64 k ∧ Hid (∀ j, j < k -> nzB (bs.getD j 0) = false)) (fun v8 => N - (intOf v8).toNat)
 case atStart => exact ⟨0, Nat.zero_le _, rfl, fun j h => by omega⟩
 case round =>
  obtain ⟨k, hk, rfl, HE⟩ := hrel
  by_cases hkn : k < N
  · obtain ⟨b, off, cc, e, _, _⟩ := HZ.out.form (by rw [HN.out]; omega)
    have e1 : ao = some ⟨b, off, none⟩ := by injection e
    subst e1
    obtain ⟨_, c1, _, _⟩ := HZ.out.at_ (k := k) (by rw [HN.out]; exact hkn)
    have HOk := hide (HO.out (bs.getD k 0))
    have k0 : (0 : Int) <= (k : Int) := Int.natCast_nonneg _
    have k1 : (k : Int) < (N : Int) := by omega
    have HM : Hid (bs.getD k 0 ∈ bs) := by
     show _ ∈ _
     rw [List.getD_eq_getElem?_getD, List.getElem?_eq_getElem (by rw [HN.out]; exact hkn)]
     exact List.getElem_mem _
    clear HO e
    cases hq : nzB (bs.getD k 0) with
    | true =>
     rw [hq] at HOk
     have HA : Hid (bs.any nzB = true) := List.any_eq_true.2 ⟨_, HM.out, hq⟩
     clear hq HE HM
     generalize bs.getD k 0 = x at *
     go_wp2_with (go_at_call 62; refine HOk.out.mono ?_; rintro e w1 ⟨rfl, hw1⟩; rw [hw1]; clear hw1)
     go_ret
     exact ⟨_, rfl, by rw [HA.out]; exact decide_eq_true k0, by omega, rfl⟩
    | false =>
     rw [hq] at HOk
     have HE2 : Hid (∀ j, j < k + 1 -> nzB (bs.getD j 0) = false) := fun j hj => by
      rcases Nat.lt_or_eq_of_le (Nat.le_of_lt_succ hj) with c | c
      · exact HE.out j c
      · rw [c]; exact hq
     clear hq HE HM
     generalize bs.getD k 0 = x at *
     go_wp2_with (go_at_call 62; refine HOk.out.mono ?_; rintro e w1 ⟨rfl, hw1⟩; rw [hw1]; clear hw1)
     go_round
     case rel => exact ⟨k + 1, by omega, by go_num, HE2⟩
     case measure => simp [intOf]; omega
  · obtain rfl : N = k := by omega
    have HA : Hid (bs.any nzB = false) := List.any_eq_false.2 (fun x hx => by
     obtain ⟨j, hj, rfl⟩ := List.mem_iff_getElem.1 hx
     have := HE.out j (by rw [<- HN.out]; exact hj)
     rw [List.getD_eq_getElem?_getD, List.getElem?_eq_getElem hj] at this
     have t : nzB bs[j] = false := this
     rw [t]; decide)
    clear HE HO
    go_wp2_with fail
    go_ret
    exact ⟨_, rfl, by rw [HA.out]; rfl, by omega, rfl⟩
theorem gContainsN (v : Value) (bs : List Int) (w : World) (h : Rb w v bs) : Calls Try.prog 61 #[v, .func (.func 62) #[] #[]] w fun e w' => e = .returned (.bool (bs.any nzB)) ∧ w' = w := by
 have HI := hide (gIndexN v bs w h)
 obtain ⟨ao, c, rfl, _⟩ := h.spell
 clear h
 generalize bs.any nzB = B at *
 generalize bs.length = n at *
 go_enter Try.func61, Try.ntmps61
 go_wp2_with (go_at_call 66; refine HI.out.mono ?_; rintro e w1 ⟨k, rfl, hB, hk, hw1⟩; rw [hw1]; clear hw1)
 go_ret
 exact ⟨rfl, rfl⟩
theorem gNoughts (v : Value) (bs : List Int) (w : World) (h : Rb w v bs) : Calls Try.prog 47 #[v] w fun e w' => e = .returned (.bool (!(bs.any nzB))) ∧ w' = w := by
 have HI := hide (gContainsN v bs w h)
 obtain ⟨ao, c, rfl, _⟩ := h.spell
 clear h
 generalize bs.any nzB = B at *
 generalize bs.length = n at *
 go_enter Try.func47, Try.ntmps47
 go_wp2_with (go_at_call 61; refine HI.out.mono ?_; rintro e w1 ⟨rfl, hw1⟩; rw [hw1]; clear hw1)
 go_ret
 exact ⟨rfl, rfl⟩
theorem jrH_case {zs : List Int} (hy : By zs) (hm : zs.length % 32 = 0) : (usE sum8 zs ≠ 0 ∧ jrH sum8 zs = false) ∨ (usE sum8 zs = 0 ∧ (usL sum8 zs).length = usN zs ∧ 12 + usN zs <= 32 * jrN (usN zs) ∧ 32 * jrN (usN zs) <= zs.length ∧ usN zs <= 1048576 ∧ jrH sum8 zs = !(((zs.drop (12 + usN zs)).take (32 * jrN (usN zs) - (12 + usN zs))).any nzB)) := by
 by_cases h : usE sum8 zs = 0
 · obtain ⟨h1, h2, h3, _⟩ := usE_zero h
   have hl := usL_len h
   have hs := (seal_unseal hy h).2
   have hn := jrN_bd (usN zs)
   have hle : 32 * jrN (usN zs) <= zs.length := by omega
   refine .inr ⟨h, hl, hn.1, hle, h2, ?_⟩
   unfold jrH
   rw [h, decide_eq_true rfl, Bool.true_and]
   have e : zs.take (32 * jrN (usN zs)) = zs.take (12 + usN zs) ++ (zs.drop (12 + usN zs)).take (32 * jrN (usN zs) - (12 + usN zs)) := by
    rw [<- List.take_add]; congr 1; omega
   have e2 : jrB sum8 (usL sum8 zs) = zs.take (12 + usN zs) ++ List.replicate (32 * jrN (usN zs) - (12 + usN zs)) 0 := by
    unfold jrB; rw [hs, hl]
   rw [e, e2]
   have hlen : ((zs.drop (12 + usN zs)).take (32 * jrN (usN zs) - (12 + usN zs))).length = 32 * jrN (usN zs) - (12 + usN zs) := by rw [List.length_take, List.length_drop]; omega
   generalize (zs.drop (12 + usN zs)).take (32 * jrN (usN zs) - (12 + usN zs)) = ys at *
   rw [<- hlen]
   cases hb : ys.any nzB with
   | true =>
    rw [List.any_eq_true] at hb
    obtain ⟨x, hx, hx2⟩ := hb
    refine decide_eq_false (fun hc => ?_)
    have hc := List.append_cancel_left hc
    rw [<- hc] at hx
    have := List.eq_of_mem_replicate hx
    rw [this] at hx2
    exact absurd hx2 (by decide)
   | false =>
    rw [List.any_eq_false] at hb
    refine decide_eq_true ?_
    congr 1
    symm
    rw [List.eq_replicate_iff]
    refine ⟨rfl, fun b hb2 => ?_⟩
    have := hb b hb2
    unfold nzB at this
    simpa using this
 · refine .inl ⟨h, ?_⟩
   unfold jrH
   rw [decide_eq_false h]; rfl
def GivesNx (N : Nat) (args : Array Value) (w : World) (zs : List Int) : Prop :=
 Calls Try.prog N args w fun r w' => ∃ v', r = .returned (.tuple #[v', .int .i64 (if jrH sum8 zs = true then ((jrN (usN zs) : Nat) : Int) else 0)]) ∧ (jrH sum8 zs = true -> w'.ownsRow w.heap.size 5 1 v' (usL sum8 zs).length (valb (usL sum8 zs))) ∧ (∃ a n c, v' = .slice a n c) ∧ Below w.heap.size w w'
theorem gNext (p : Nat) (v : Value) (zs : List Int) (w : World) (h : Ub w p v zs) (hm : zs.length % 32 = 0) : GivesNx 29 #[v] w zs := by
 unfold GivesNx
 have HU := hide (wUnseal v zs w h.1)
 unfold GivesU at HU
 have hzl := h.1.len
 rcases jrH_case h.1.by hm with ⟨he, hj⟩ | ⟨he, hl, hn1, hn2, hn3, hj⟩
 · rw [hj, if_neg (by decide)]
   obtain ⟨e1, e2⟩ := us_no (S := sum8) rfl he
   rw [e1, e2] at HU
   obtain ⟨a, c, rfl, _⟩ := h.1.spell
   have h1 : (usE sum8 zs != 0) = true := bne_iff_ne.2 he
   clear h he e1 e2 hj hm
   generalize usE sum8 zs = er at *
   go_enter Try.func29, Try.ntmps29
   go_wp2_with (go_at_call 46; refine HU.out.mono ?_; rintro e w1 ⟨v1, rfl, ho1, hb1⟩)
   go_ret2
   exact ⟨_, rfl, (fun h => by cases h), ⟨_, _, _, rfl⟩, hb1⟩
 · obtain ⟨e1, e2⟩ := us_yes he
   rw [he, e2] at HU
   rw [hj]
   obtain ⟨a2, hu2, hs2⟩ := cut3u h (k := 12 + usN zs) (m := 32 * jrN (usN zs)) hn1 hn2
   have HN := hide (fun W (hB : Below w.heap.size w W) => gNoughts _ _ W (hu2.1.below hB))
   have HS := hide (fun W x (hx : Rb W x (usL sum8 zs)) => gSize23 x (usL sum8 zs) W hx)
   have HB : Hid (By (usL sum8 zs)) := by
    show By _
    rw [e1]; exact (h.1.by.drop _).take _
   have HL := hide (show (usL sum8 zs).length <= 140737488500000 by omega)
   have HLn := hide hl
   rw [hl] at HU HS
   have HE : Hid (((jrN (usN zs) : Nat) : Int) * 32 = ((32 * jrN (usN zs) : Nat) : Int)) := by show _ = _; omega
   obtain ⟨a, c, rfl, _⟩ := h.1.spell
   have hr := hs2
   have q1 : 32 * jrN (usN zs) <= 2000000 := by have := jrN_bd (usN zs); omega
   clear h he e1 e2 hj hm hl hu2 hs2 hn1 hn2 hn3
   generalize ((zs.drop (12 + usN zs)).take (32 * jrN (usN zs) - (12 + usN zs))).any nzB = B at *
   obtain ⟨M, HM⟩ : ∃ M, Hid (((32 * jrN (usN zs) : Nat) : Int) = M) := ⟨_, rfl⟩
   rw [HM.out] at hr HE
   have hE := HE.out
   have qM : 0 <= M ∧ M <= 2000000 := by rw [<- HM.out]; omega
   obtain ⟨m, Hm⟩ : ∃ m, Hid (32 * jrN (usN zs) - (12 + usN zs) = m) := ⟨_, rfl⟩
   rw [Hm.out] at hr HN
   obtain ⟨J, HJ⟩ : ∃ J, Hid (jrN (usN zs) = J) := ⟨_, rfl⟩
   rw [HJ.out] at hE HS ⊢
   have qJ : (J : Int) <= 100000 := by omega
   obtain ⟨z, Hz⟩ : ∃ z, Hid (12 + usN zs = z) := ⟨_, rfl⟩
   rw [Hz.out] at hr HU
   generalize usL sum8 zs = us at *
   generalize usN zs = un at *
   generalize zs.length = zn at *
   cases B with
   | true =>
    rw [if_neg (by decide)]
    go_enter Try.func29, Try.ntmps29
    go_wp2_with (first
     | (go_at_call 46; refine HU.out.mono ?_; rintro e w1 ⟨v1, rfl, ho1, hb1⟩; have HS1 := hide (HS.out _ _ (rb_of_own ho1 HB.out HL.out)); have HN1 := hide (HN.out _ hb1); obtain ⟨a1, c1, hv1⟩ := own_form ho1; subst hv1)
     | (go_at_call 10; refine HS1.out.mono ?_; rintro e w2 ⟨rfl, hw2⟩; rw [hw2]; clear hw2)
     | (go_at_call 47; refine HN1.out.mono ?_; rintro e w3 ⟨rfl, hw3⟩; rw [hw3]; clear hw3))
    go_ret2
    exact ⟨_, rfl, (fun h => by cases h), ⟨_, _, _, rfl⟩, hb1⟩
   | false =>
    rw [if_pos (by decide)]
    go_enter Try.func29, Try.ntmps29
    go_wp2_with (first
     | (go_at_call 46; refine HU.out.mono ?_; rintro e w1 ⟨v1, rfl, ho1, hb1⟩; have HO1 := hide ho1; have HS1 := hide (HS.out _ _ (rb_of_own ho1 HB.out HL.out)); have HN1 := hide (HN.out _ hb1); obtain ⟨a1, c1, hv1⟩ := own_form ho1; subst hv1)
     | (go_at_call 10; refine HS1.out.mono ?_; rintro e w2 ⟨rfl, hw2⟩; rw [hw2]; clear hw2)
     | (go_at_call 47; refine HN1.out.mono ?_; rintro e w3 ⟨rfl, hw3⟩; rw [hw3]; clear hw3))
    go_ret2
    exact ⟨_, rfl, (fun _ => by rw [HLn.out]; exact HO1.out), ⟨_, _, _, rfl⟩, hb1⟩
end Go.Proofs.Ythialdipnhggnaa
