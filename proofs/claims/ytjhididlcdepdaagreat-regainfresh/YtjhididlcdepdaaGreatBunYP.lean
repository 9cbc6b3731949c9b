import Derived.Test.YtjhididlcdepdaaGreatBunO
import Derived.Test.YtjhididlcdepdaaGreatBunJ
set_option linter.unusedVariables false
set_option linter.unusedSimpArgs false
set_option maxRecDepth 100000
set_option maxHeartbeats 4000000
namespace Go.Proofs.YtjhididlcdepdaaGreat
open Go.RowKit Fld
def chk (f : Int) (xss : List (List Int)) : Int := if xss.all (inF f) then (if xss.any (fun xs => decide (2048 < xs.length)) then 4 else 0) else 2
theorem getD_mem {xss : List (List Int)} {i : Nat} (h : i < xss.length) : xss.getD i [] ∈ xss := by
 rw [List.getD_eq_getElem?_getD, List.getElem?_eq_getElem h]; exact List.getElem_mem h
theorem mem_getD {xss : List (List Int)} {xs : List Int} (h : xs ∈ xss) : ∃ i, i < xss.length ∧ xss.getD i [] = xs := by
 obtain ⟨i, hi, rfl⟩ := List.mem_iff_getElem.1 h
 exact ⟨i, hi, by rw [List.getD_eq_getElem?_getD, List.getElem?_eq_getElem hi]; rfl⟩
theorem chk_arg {f : Int} {xss : List (List Int)} {k : Nat} (hk : k < xss.length) (h : inF f (xss.getD k []) = false) : chk f xss = 2 := by
 unfold chk
 rw [if_neg]
 intro hc
 rw [List.all_eq_true] at hc
 rw [hc _ (getD_mem hk)] at h; cases h
theorem chk_all {f : Int} {xss : List (List Int)} (h : ∀ i, i < xss.length -> inF f (xss.getD i []) = true) : xss.all (inF f) = true := by
 rw [List.all_eq_true]
 intro x hx
 obtain ⟨i, hi, rfl⟩ := mem_getD hx
 exact h i hi
theorem chk_long {f : Int} {xss : List (List Int)} {k : Nat} (h : ∀ i, i < xss.length -> inF f (xss.getD i []) = true) (hk : k < xss.length) (hl : 2048 < (xss.getD k []).length) : chk f xss = 4 := by
 unfold chk
 rw [if_pos (chk_all h), if_pos]
 rw [List.any_eq_true]
 exact ⟨_, getD_mem hk, by simpa using hl⟩
theorem chk_ok {f : Int} {xss : List (List Int)} (h : ∀ i, i < xss.length -> inF f (xss.getD i []) = true) (hl : ∀ i, i < xss.length -> (xss.getD i []).length <= 2048) : chk f xss = 0 := by
 unfold chk
 rw [if_pos (chk_all h), if_neg]
 intro hc
 rw [List.any_eq_true] at hc
 obtain ⟨x, hx, h2⟩ := hc
 obtain ⟨i, hi, rfl⟩ := mem_getD hx
 have := hl i hi
 have h2 := of_decide_eq_true h2
 omega
theorem chk_zero {f : Int} {xss : List (List Int)} (h : chk f xss = 0) {xs : List Int} (hx : xs ∈ xss) : inF f xs = true ∧ xs.length <= 2048 := by
 unfold chk at h
 by_cases h1 : xss.all (inF f) = true
 · rw [if_pos h1] at h
   by_cases h2 : xss.any (fun xs => decide (2048 < xs.length)) = true
   · rw [if_pos h2] at h; exact absurd h (by decide)
   · rw [List.any_eq_true] at h2
     refine ⟨(List.all_eq_true.1 h1) xs hx, ?_⟩
     apply Nat.le_of_not_lt
     intro hc
     exact h2 ⟨xs, hx, by simpa using hc⟩
 · rw [if_neg h1] at h; exact absurd h (by decide)
theorem inF_fi {f : Int} {xs : List Int} (h : inF f xs = true) : ∃ p wd, Fi f p wd ∧ allIn p xs = true := by
 rcases Fi_or f with ⟨p, wd, hf⟩ | ⟨h1, h2⟩
 · rw [inF_yes hf] at h; exact ⟨p, wd, hf, h⟩
 · rw [inF_no h1 h2] at h; cases h
theorem inF_nil {f : Int} {xs : List Int} (h : inF f xs = true) : inF f [] = true := by
 obtain ⟨p, wd, hf, _⟩ := inF_fi h
 rw [inF_yes hf]; rfl
theorem er_no {f : Int} {xs : List Int} (h : inF f xs = false) (ys : List Int) : er f xs ys = 2 := by unfold er erb; rw [h]; rfl
theorem er_yes2 {f : Int} {xs ys : List Int} (h : inF f xs = true) (h2 : inF f ys = true) : (er f xs ys == 2) = false := by
 unfold er erb; rw [h, h2, if_pos (by rfl)]
 split <;> rfl
theorem tcheck_any (f : Int) (v : Value) (xss : List (List Int)) (w : World) (h : Rws w v xss) :
 Calls Tryz.prog 141 #[.int .u8 f, v] w fun e w' => e = .returned (.int .i64 (chk f xss)) ∧ Below w.heap.size w w' := by
 obtain ⟨ao, cap, rfl, hlen, hcap, hc⟩ := h
 obtain ⟨n, HN⟩ : ∃ n, Hid (xss.length = n) := ⟨_, rfl⟩
 rw [HN.out] at hlen hcap hc ⊢
 go_enter Tryz.func141, Tryz.ntmps141
 go_wp2
 go_loopw [13] (fun vk wr => ∃ k : Nat, k <= n ∧ vk = .int .i64 k ∧ Hid (∀ i, i < k -> inF f (xss.getD i []) = true) ∧ Below w.heap.size w wr) (fun vk _ => n - (intOf vk).toNat)
 case atStart => exact ⟨0, by omega, rfl, fun i hi => by omega, Below.refl _ _⟩
 case round =>
  obtain ⟨k, hk, rfl, HK, hB⟩ := hrel
  by_cases hlt : k < n
  · obtain ⟨b, off, rfl, hb, hcell⟩ := hc (by intro e; have := HN.out; rw [e] at this; simp at this; omega)
    obtain ⟨u, hu, hr⟩ := hcell k hlt
    have hck := (hB.cell (p := ⟨b, off + k, none⟩) hb).trans hu
    have HA := hide (pAdd_any f u (.slice none 0 0) (xss.getD k []) [] wr (hr.below hB) (rw0 wr))
    obtain ⟨au, cu, rfl, _⟩ := hr.spell
    clear hcell hu hc
    cases hin : inF f (xss.getD k []) with
    | false =>
     rw [er_no hin] at HA
     have HE := hide (chk_arg (by rw [HN.out]; exact hlt) hin)
     clear hin hr
     generalize (xss.getD k []).length = m at *
     go_wp2_with (go_at_call 118; refine HA.out.mono ?_; rintro e w1 ⟨v', rfl, _, hb1⟩)
     go_ret
     exact ⟨ret_i64 HE.out.symm, Below.next hB hb1⟩
    | true =>
     have ht := er_yes2 hin (inF_nil hin)
     have HK2 : Hid (∀ i, i < k + 1 -> inF f (xss.getD i []) = true) := fun i hi => by
      by_cases h : i = k
      · rw [h]; exact hin
      · exact HK.out i (by omega)
     clear hin hr HK
     generalize er f (xss.getD k []) [] = e0 at *
     generalize (xss.getD k []).length = m at *
     go_wp2_with (go_at_call 118; refine HA.out.mono ?_; rintro e w1 ⟨v', rfl, _, hb1⟩)
     go_roundw
     case rel => exact ⟨k + 1, by omega, by go_num, HK2, Below.next hB hb1⟩
     case measure => simp [intOf]; omega
  · obtain rfl : n = k := by omega
    have HA : Hid (∀ i, i < xss.length -> inF f (xss.getD i []) = true) := fun i hi => HK.out i (by rw [<- HN.out]; exact hi)
    clear HK
    go_wp2
    go_loopw [28] (fun vk wr => ∃ k : Nat, k <= n ∧ vk = .int .i64 k ∧ Hid (∀ i, i < k -> (xss.getD i []).length <= 2048) ∧ Below w.heap.size w wr) (fun vk _ => n - (intOf vk).toNat)
    case atStart => exact ⟨0, by omega, rfl, fun i hi => by omega, hB⟩
    case round =>
     clear hB
     obtain ⟨k, hk, rfl, HK, hB⟩ := hrel
     by_cases hlt : k < n
     · obtain ⟨b, off, rfl, hb, hcell⟩ := hc (by intro e; have := HN.out; rw [e] at this; simp at this; omega)
       obtain ⟨u, hu, hr⟩ := hcell k hlt
       have hck := (hB.cell (p := ⟨b, off + k, none⟩) hb).trans hu
       obtain ⟨au, cu, rfl, _⟩ := hr.spell
       have hml := hr.len
       clear hcell hu hc
       by_cases hm : 2048 < (xss.getD k []).length
       · have HE := hide (chk_long HA.out (by rw [HN.out]; exact hlt) hm)
         clear hr HK HA
         generalize (xss.getD k []).length = m at *
         go_wp2
         go_ret
         exact ⟨ret_i64 HE.out.symm, hB⟩
       · have HK2 : Hid (∀ i, i < k + 1 -> (xss.getD i []).length <= 2048) := fun i hi => by
          by_cases h : i = k
          · rw [h]; omega
          · exact HK.out i (by omega)
         clear hr HK HA
         generalize (xss.getD k []).length = m at *
         go_wp2
         go_roundw
         case rel => exact ⟨k + 1, by omega, by go_num, HK2, hB⟩
         case measure => simp [intOf]; omega
     · obtain rfl : n = k := by omega
       have HE := hide (chk_ok HA.out (fun i hi => HK.out i (by rw [<- HN.out]; exact hi)))
       clear HA HK hc
       go_wp2
       go_ret
       exact ⟨ret_i64 HE.out.symm, hB⟩
theorem rws_one (w : World) (v : Value) (xs : List Int) (h : Rw w v xs) (T : TypeId) : Rws (w.alloc (.cells #[v] T)) (.slice (some ⟨w.heap.size, 0, none⟩) 1 1) [xs] :=
 ⟨_, 1, rfl, by simp, by simp, fun _ => ⟨w.heap.size, 0, rfl, by simp, fun i hi => by
  have : i = 0 := by simp at hi; omega
  subst this
  exact ⟨v, by simp [go_sem], h.below (alloc_below _ _)⟩⟩⟩
theorem rws_two (w : World) (v u : Value) (xs ys : List Int) (h : Rw w v xs) (h2 : Rw w u ys) (T : TypeId) : Rws (w.alloc (.cells #[v, u] T)) (.slice (some ⟨w.heap.size, 0, none⟩) 2 2) [xs, ys] :=
 ⟨_, 2, rfl, by simp, by simp, fun _ => ⟨w.heap.size, 0, rfl, by simp, fun i hi => by
  obtain rfl | rfl : i = 0 ∨ i = 1 := by simp at hi; omega
  · exact ⟨v, by simp [go_sem], h.below (alloc_below _ _)⟩
  · exact ⟨u, by simp [go_sem], h2.below (alloc_below _ _)⟩⟩⟩
theorem tcheck_one (f : Int) (v : Value) (xs : List Int) (w : World) (h : Rw w v xs) (T : TypeId) :
 Calls Tryz.prog 141 #[.int .u8 f, .slice (some ⟨w.heap.size, 0, none⟩) 1 1] (w.alloc (.cells #[v] T)) fun e w' => e = .returned (.int .i64 (chk f [xs])) ∧ Below w.heap.size w w' :=
 (tcheck_any f _ [xs] _ (rws_one w v xs h T)).mono fun e w' ⟨he, hb⟩ => ⟨he, below_one hb⟩
theorem tcheck_two (f : Int) (v u : Value) (xs ys : List Int) (w : World) (h : Rw w v xs) (h2 : Rw w u ys) (T : TypeId) :
 Calls Tryz.prog 141 #[.int .u8 f, .slice (some ⟨w.heap.size, 0, none⟩) 2 2] (w.alloc (.cells #[v, u] T)) fun e w' => e = .returned (.int .i64 (chk f [xs, ys])) ∧ Below w.heap.size w w' :=
 (tcheck_any f _ [xs, ys] _ (rws_two w v u xs ys h h2 T)).mono fun e w' ⟨he, hb⟩ => ⟨he, below_one hb⟩
theorem drewN_below (w : World) (m : Nat) : Below w.heap.size w (w.drewN m) := below_drewN (Below.refl _ w) m
theorem eq_getD {α : Type} {xs ys : List α} {d : α} (hl : xs.length = ys.length) (h : ∀ j, j < xs.length -> xs.getD j d = ys.getD j d) : xs = ys := by
 refine List.ext_getElem hl (fun j h1 h2 => ?_)
 have := h j h1
 rw [List.getD_eq_getElem?_getD, List.getD_eq_getElem?_getD, List.getElem?_eq_getElem h1, List.getElem?_eq_getElem h2] at this
 exact this
theorem Same_dec (v1 v2 : Value) (xs ys : List Int) (w : World) (h1 : Row w v1 xs) (h2 : Row w v2 ys) :
 Calls Tryz.prog 21 #[v1, v2] w fun e w' => e = .returned (.bool (decide (xs = ys))) ∧ ∃ m, w' = w.drewN m := by
 obtain ⟨a1, c1, rfl, hlen, _, hc1⟩ := h1
 obtain ⟨a2, c2, rfl, hlen2, _, hc2⟩ := h2
 by_cases hl : xs.length = ys.length
 · rw [<- hl] at hlen2 ⊢
   have HL := hide hl
   go_enter Tryz.func21, Tryz.ntmps21
   clear hl
   go_wp2
   go_loopw [5] (fun vi wr => ∃ k m : Nat, k <= xs.length ∧ vi = .int .i64 k ∧ Hid (wr = w.drewN m) ∧ Hid (∀ j, j < k -> xs.getD j 0 = ys.getD j 0)) (fun vi _ => xs.length - (intOf vi).toNat)
   case atStart => exact ⟨0, 0, Nat.zero_le _, rfl, rfl, fun j hj => absurd hj (Nat.not_lt_zero _)⟩
   case round =>
    obtain ⟨k, m, hk, rfl, HM, HE⟩ := hrel
    have hB : Below w.heap.size w wr := by rw [HM.out]; exact drewN_below w m
    by_cases hlt : k < xs.length
    · have hne : xs ≠ [] := by intro h; rw [h] at hlt; simp at hlt
      have hne2 : ys ≠ [] := by intro h; have := HL.out; rw [h] at this; simp at this; rw [this] at hlt; simp at hlt
      obtain ⟨b1, o1, rfl, l1, g1⟩ := hc1 hne
      obtain ⟨b2, o2, rfl, l2, g2⟩ := hc2 hne2
      have d1 := (hB.cell (p := ⟨b1, o1 + k, none⟩) l1).trans (g1 k hlt)
      have d2 := (hB.cell (p := ⟨b2, o2 + k, none⟩) l2).trans (g2 k (by rw [<- HL.out]; exact hlt))
      have k0 : (0 : Int) <= (k : Int) := Int.natCast_nonneg _
      have k1 : (k : Int) < (xs.length : Int) := by omega
      by_cases hxy : xs.getD k 0 = ys.getD k 0
      · have HE2 : Hid (∀ j, j < k + 1 -> xs.getD j 0 = ys.getD j 0) := fun j hj => by
         rcases Nat.lt_succ_iff_lt_or_eq.1 hj with h | h
         · exact HE.out j h
         · rw [h]; exact hxy
        rw [<- hxy] at d2
        clear g1 g2 hc1 hc2 hne hne2 hB HE hxy
        generalize xs.getD k 0 = x at d1 d2
        go_wp2_with fail
        go_quiet (fail)
        have HM2 : Hid (wr.drewN nq = w.drewN (m + nq)) := by show _ = _; rw [HM.out, World.drewN_drewN]
        clear HM
        go_wp2
        go_roundw
        case rel => exact ⟨k + 1, m + nq, by omega, by go_num, HM2, HE2⟩
        case measure => simp [intOf]; omega
      · have hno : Hid (decide (xs = ys) = false) := by show _ = _; exact decide_eq_false (fun h => hxy (by rw [h]))
        clear g1 g2 hc1 hc2 hne hne2 hB HE
        generalize xs.getD k 0 = x at d1 hxy
        generalize ys.getD k 0 = y at d2 hxy
        go_wp2_with fail
        go_quiet (fail)
        have HM2 : Hid (wr.drewN nq = w.drewN (m + nq)) := by show _ = _; rw [HM.out, World.drewN_drewN]
        clear HM
        go_wp2
        go_ret
        exact ⟨by rw [hno.out]; rfl, m + nq, HM2.out⟩
    · have hyes : Hid (decide (xs = ys) = true) := by show _ = _; exact decide_eq_true (eq_getD HL.out (fun j hj => HE.out j (by omega)))
      clear hc1 hc2 hB HE
      go_wp2
      go_ret
      exact ⟨by rw [hyes.out]; rfl, m, HM.out⟩
 · have hno : Hid (decide (xs = ys) = false) := by show _ = _; exact decide_eq_false (fun h => hl (by rw [h]))
   rw [hno.out]
   have hl2 : ¬ ((xs.length : Int) = (ys.length : Int)) := by omega
   clear hc1 hc2
   generalize xs.length = n1 at *
   generalize ys.length = n2 at *
   go_enter Tryz.func21, Tryz.ntmps21
   go_wp2
   go_ret
   exact ⟨rfl, 0, rfl⟩
theorem Rows_dec (v1 v2 : Value) (xss yss : List (List Int)) (w : World) (h1 : Rws w v1 xss) (h2 : Rws w v2 yss) :
 Calls Tryz.prog 23 #[v1, v2] w fun e w' => e = .returned (.bool (decide (xss = yss))) ∧ Below w.heap.size w w' := by
 obtain ⟨a1, c1, rfl, hlen, _, hc1⟩ := h1
 obtain ⟨a2, c2, rfl, hlen2, _, hc2⟩ := h2
 by_cases hl : xss.length = yss.length
 · rw [<- hl] at hlen2 ⊢
   have HL := hide hl
   go_enter Tryz.func23, Tryz.ntmps23
   clear hl
   go_wp2
   go_loopw [5] (fun vi wr => ∃ k m : Nat, k <= xss.length ∧ vi = .int .i64 k ∧ Hid (wr = w.drewN m) ∧ Hid (∀ j, j < k -> xss.getD j [] = yss.getD j [])) (fun vi _ => xss.length - (intOf vi).toNat)
   case atStart => exact ⟨0, 0, Nat.zero_le _, rfl, rfl, fun j hj => absurd hj (Nat.not_lt_zero _)⟩
   case round =>
    obtain ⟨k, m, hk, rfl, HM, HE⟩ := hrel
    have hB : Below w.heap.size w wr := by rw [HM.out]; exact drewN_below w m
    by_cases hlt : k < xss.length
    · have hne : xss ≠ [] := by intro h; rw [h] at hlt; simp at hlt
      have hne2 : yss ≠ [] := by intro h; have := HL.out; rw [h] at this; simp at this; rw [this] at hlt; simp at hlt
      obtain ⟨b1, o1, rfl, l1, g1⟩ := hc1 hne
      obtain ⟨b2, o2, rfl, l2, g2⟩ := hc2 hne2
      obtain ⟨q1, e1, r1⟩ := g1 k hlt
      obtain ⟨q2, e2, r2⟩ := g2 k (by rw [<- HL.out]; exact hlt)
      have d1 := (hB.cell (p := ⟨b1, o1 + k, none⟩) l1).trans e1
      have d2 := (hB.cell (p := ⟨b2, o2 + k, none⟩) l2).trans e2
      have HS := hide (fun n => Same_dec q1 q2 _ _ (wr.drewN n) ((r1.below (Below.next hB (drewN_below wr n))).1) ((r2.below (Below.next hB (drewN_below wr n))).1))
      obtain ⟨z1, y1, rfl, _⟩ := r1.spell
      obtain ⟨z2, y2, rfl, _⟩ := r2.spell
      have k0 : (0 : Int) <= (k : Int) := Int.natCast_nonneg _
      have k1 : (k : Int) < (xss.length : Int) := by omega
      by_cases hxy : xss.getD k [] = yss.getD k []
      · have HE2 : Hid (∀ j, j < k + 1 -> xss.getD j [] = yss.getD j []) := fun j hj => by
         rcases Nat.lt_succ_iff_lt_or_eq.1 hj with h | h
         · exact HE.out j h
         · rw [h]; exact hxy
        have hd : decide (xss.getD k [] = yss.getD k []) = true := decide_eq_true hxy
        rw [hd] at HS
        clear g1 g2 hc1 hc2 hne hne2 hB e1 e2 r1 r2 HE hxy hd
        generalize (xss.getD k []).length = ln at *
        generalize (yss.getD k []).length = ln2 at *
        go_wp2_with fail
        go_quiet ((first
         | (go_at_call 21; exact Calls.quiet_of (HS.out _))))
        have HM2 : Hid (wr.drewN nq = w.drewN (m + nq)) := by show _ = _; rw [HM.out, World.drewN_drewN]
        clear HM
        go_wp2
        go_roundw
        case rel => exact ⟨k + 1, m + nq, by omega, by go_num, HM2, HE2⟩
        case measure => simp [intOf]; omega
      · have hd : decide (xss.getD k [] = yss.getD k []) = false := decide_eq_false hxy
        rw [hd] at HS
        have hno : Hid (decide (xss = yss) = false) := by show _ = _; exact decide_eq_false (fun h => hxy (by rw [h]))
        clear g1 g2 hc1 hc2 hne hne2 hB e1 e2 r1 r2 HE hxy hd
        generalize (xss.getD k []).length = ln at *
        generalize (yss.getD k []).length = ln2 at *
        go_wp2_with fail
        go_quiet ((first
         | (go_at_call 21; exact Calls.quiet_of (HS.out _))))
        have hB2 : Below w.heap.size w (wr.drewN nq) := by rw [HM.out]; exact below_drewN (drewN_below w m) nq
        clear HM
        go_wp2
        go_ret
        exact ⟨by rw [hno.out]; rfl, hB2⟩
    · have hyes : Hid (decide (xss = yss) = true) := by show _ = _; exact decide_eq_true (eq_getD HL.out (fun j hj => HE.out j (by omega)))
      clear hc1 hc2 HE
      go_wp2
      go_ret
      exact ⟨by rw [hyes.out]; rfl, hB⟩
 · have hno : Hid (decide (xss = yss) = false) := by show _ = _; exact decide_eq_false (fun h => hl (by rw [h]))
   rw [hno.out]
   have hl2 : ¬ ((xss.length : Int) = (yss.length : Int)) := by omega
   clear hc1 hc2
   generalize xss.length = n1 at *
   generalize yss.length = n2 at *
   go_enter Tryz.func23, Tryz.ntmps23
   go_wp2
   go_ret
   exact ⟨rfl, Below.refl _ _⟩
end Go.Proofs.YtjhididlcdepdaaGreat
