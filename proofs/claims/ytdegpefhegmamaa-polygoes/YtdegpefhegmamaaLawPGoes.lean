/-
  PolyGoes' walk: values go through sums, products and Into.
-/
import Derived.Test.YtdegpefhegmamaaLawPA
import Derived.Test.YtdegpefhegmamaaPolO
import Derived.Deep.QuietTactic
import Derived.BigQuiet
namespace Go.Proofs.Ytdegpefhegmamaa
open Go.RowKit Fld
set_option linter.unusedVariables false

theorem ev_arg {p t t' : Int} (h : t % p = t' % p) (n : Nat) : ∀ F : Nat → Int, ev t n F % p = ev t' n F % p := by
  induction n with
  | zero => intro F; rfl
  | succ n ih =>
    intro F
    show (F 0 + t * ev t n (fun i => F (i + 1))) % p = (F 0 + t' * ev t' n (fun i => F (i + 1))) % p
    rw [Int.add_emod, Int.mul_emod, h, ih (fun i => F (i + 1)), ← Int.mul_emod, ← Int.add_emod]
theorem ev_len {t : Int} {xs : List Int} {N : Nat} (h : xs.length ≤ N) : ev t N (co xs) = ev t xs.length (co xs) := by
  obtain ⟨k, rfl⟩ : ∃ k, N = xs.length + k := ⟨N - xs.length, by omega⟩
  exact ev_more t xs.length k (co xs) (fun i hi => co_out _ _ hi)
theorem vl_tr (p t : Int) (xs : List Int) : ev t (tr xs).length (co (tr xs)) = ev t xs.length (co xs) := by
  rw [← ev_len (xs := tr xs) (tr_len xs)]
  exact ev_congr t xs.length (fun i _ => co_tr xs i)
theorem vl_add {p t : Int} {xs ys zs : List Int} (h : Is p zs (fun i => co xs i + co ys i)) : vl p t zs = add p (vl p t xs) (vl p t ys) := by
  rw [vl_is (N := max xs.length ys.length) h.2.2 (fun i hi => by show co xs i + co ys i = 0; rw [co_out xs i (by omega), co_out ys i (by omega)]; rfl)]
  rw [ev_add t _ (co xs) (co ys), ev_len (xs := xs) (N := max xs.length ys.length) (by omega), ev_len (xs := ys) (N := max xs.length ys.length) (by omega)]
  unfold add vl
  rw [Int.add_emod]
theorem vl_mul {p t : Int} {xs ys zs : List Int} (h : Is p zs (cv (co xs) (co ys))) : vl p t zs = mul p (vl p t xs) (vl p t ys) := by
  rw [vl_is (N := xs.length + ys.length) h.2.2 (fun i hi => cv_end (m := xs.length) (n := ys.length) i (fun j hj => co_out _ _ hj) (fun j hj => co_out _ _ hj) (by omega))]
  rw [ev_mul t (co ys) ys.length (fun i hi => co_out _ _ hi) xs.length (co xs) (fun i hi => co_out _ _ hi)]
  unfold mul vl
  rw [Int.mul_emod]
theorem vl_into {p t : Int} {xs ys zs : List Int} (h : Is p zs (into (co (tr ys)) (tr xs))) : vl p t zs = vl p (vl p t ys) xs := by
  have hq : ∀ i, (tr ys).length - 1 < i → co (tr ys) i = 0 := fun i hi => co_out _ _ (by omega)
  rw [vl_is (N := ((tr xs).length - 1) * ((tr ys).length - 1) + 1) h.2.2 (fun i hi => into_end (co (tr ys)) ((tr ys).length - 1) hq (tr xs) i (by omega))]
  rw [ev_into t (co (tr ys)) ((tr ys).length - 1) hq (tr xs) _ (by omega), ev_len (xs := tr ys) (by omega), vl_tr p, vl_tr p]
  unfold vl
  exact ev_arg (Int.emod_emod_of_dvd _ (Int.dvd_refl p)).symm _ _

theorem len_mul {n m : Nat} (hn : n ≤ 4096) (hm : m ≤ 4096) (h : n * m ≤ 4000) : n + m - 1 ≤ 4096 ∧ (n - 1) * (m - 1) ≤ 4000 := by
  cases n with
  | zero => simp; omega
  | succ n =>
    cases m with
    | zero => simp; omega
    | succ m =>
      have e : (n + 1) * (m + 1) = n * m + n + m + 1 := by rw [Nat.add_mul, Nat.mul_add]; omega
      rw [e] at h
      simp only [Nat.add_sub_cancel]
      omega

theorem goes_facts {f p t : Int} {wd : Bool} {xs ys : List Int} (h : Fi f p wd) (hx : Els p xs) (hy : Els p ys) (ht : El p t) (l1 : xs.length ≤ 4096) (l2 : ys.length ≤ 4096) (hm : xs.length * ys.length ≤ 4000) :
    mulE f xs ys = 0 ∧ intoE f xs ys = 0 ∧ er f (addL f xs ys) [t] = 0 ∧ er f (mulL f xs ys) [t] = 0 ∧ er f (intoL f xs ys) [t] = 0 ∧ er f xs [vl p t ys] = 0 ∧
      vl p t (addL f xs ys) = add p (vl p t xs) (vl p t ys) ∧ vl p t (mulL f xs ys) = mul p (vl p t xs) (vl p t ys) ∧ vl p t (intoL f xs ys) = vl p (vl p t ys) xs ∧ Wd (addL f xs ys) ∧ Wd (mulL f xs ys) ∧ Wd (intoL f xs ys) := by
  have hp := h.pos
  have n1 := tr_len xs
  have n2 := tr_len ys
  have hmm : (tr xs).length * (tr ys).length ≤ 4000 := Nat.le_trans (Nat.mul_le_mul n1 n2) hm
  obtain ⟨q1, q2⟩ := len_mul (show (tr xs).length ≤ 4096 by omega) (show (tr ys).length ≤ 4096 by omega) hmm
  have he := er_yes h (allIn_of hx) (allIn_of hy) l1 l2
  have hte : Els p [t] := fun x hx => by rw [List.mem_singleton.1 hx]; exact ht
  have e1 : mulE f xs ys = 0 := by unfold mulE; rw [if_pos he, if_neg (by omega)]
  have e2 : intoE f xs ys = 0 := by unfold intoE; rw [if_pos he, if_neg (by omega)]
  have eA : addL f xs ys = tr (sm p 1 xs ys) := by unfold addL; rw [if_pos he, pOf_eq h]
  have iA := is_add hp xs ys
  rw [← eA] at iA
  have eM : mulL f xs ys = prd p (tr xs) (tr ys) := by unfold mulL; rw [if_pos e1, pOf_eq h]
  have iM := is_prd h.md (hx.tr hp) (hy.tr hp) (tr_tr xs) (tr_tr ys)
  rw [cv_tr, ← eM] at iM
  have eI : intoL f xs ys = tr (mk ((tr xs).length * (tr ys).length + 1) (fun i => into (co (tr ys)) (tr xs) i % p)) := by unfold intoL; rw [if_pos e2, pOf_eq h]
  have iI := is_into hp (tr xs) (tr ys)
  rw [← eI] at iI
  have lA : (addL f xs ys).length ≤ 4096 := by rw [eA]; exact Nat.le_trans (tr_len _) (by rw [sm_len]; omega)
  have lM := mulL_len f xs ys
  have lI : (intoL f xs ys).length ≤ 4096 := by rw [eI]; exact Nat.le_trans (tr_len _) (by rw [mk_len]; omega)
  exact ⟨e1, e2, er_yes h (allIn_of iA.1) (allIn_of hte) lA (by simp), er_yes h (allIn_of iM.1) (allIn_of hte) lM (by simp), er_yes h (allIn_of iI.1) (allIn_of hte) lI (by simp),
    er_yes h (allIn_of hx) (allIn_of (fun x hx => by rw [List.mem_singleton.1 hx]; exact vl_el hp t ys)) l1 (by simp), vl_add iA, vl_mul iM, vl_into iI, wd_els iA.1 h.top (by omega), wd_els iM.1 h.top (by omega), wd_els iI.1 h.top (by omega)⟩

theorem valE_yes {f p t : Int} {wd : Bool} {xs : List Int} (h : Fi f p wd) (he : er f xs [t] = 0) : valE f t xs = vl p t xs := by unfold valE; rw [if_pos he, pOf_eq h]
theorem er_nof (xs ys : List Int) : er 0 xs ys = 2 := by unfold er erb; rw [inF_no (by decide) (by decide)]; rfl
theorem valE_nof (t : Int) (xs : List Int) : valE 0 t xs = 0 := by unfold valE; rw [er_nof]; rfl

theorem rBad_lit (f x : Int) (w : World) (hx : 0 ≤ x ∧ x ≤ 18446744073709551615) (T : TypeId) :
    Calls Try.prog 28 #[.int .u8 f, .slice (some ⟨w.heap.size, 0, none⟩) 1 1, .slice none 0 0] (w.alloc (.cells #[.int .u64 x] T)) fun e w' => e = .returned (.int .i64 (er f [x] [])) ∧ w' = w.alloc (.cells #[.int .u64 x] T) :=
  rBad_any f _ _ [x] [] _ (rw1 w x hx T) (rw0 _)

set_option maxRecDepth 100000 in
set_option maxHeartbeats 1000000 in
theorem pgoes_any (f x : Int) (v1 v2 : Value) (xs ys : List Int) (w : World) (h1 : Rw w v1 xs) (h2 : Rw w v2 ys) (hx : 0 ≤ x ∧ x ≤ 18446744073709551615) :
    Calls Try.prog 7 #[.int .u8 f, .agg #[v1, v2], .int .u64 x] w fun e w' => e = .returned (.bool true) ∧ Below w.heap.size w w' := by
  obtain ⟨a1, c1, rfl, _⟩ := h1.spell
  obtain ⟨a2, c2, rfl, _⟩ := h2.spell
  have gb := hide (fun W (hb : Below w.heap.size w W) => rBad_any f _ _ xs ys W (h1.below hb) (h2.below hb))
  have gc := hide (fun W T => rBad_lit f x W hx T)
  have g0 := hide (fun W (hb : Below w.heap.size w W) => pEval_any 0 x _ xs W hx (h1.below hb))
  rw [er_nof, valE_nof] at g0
  have ga := hide (fun W => anch3 W)
  have HB0 := hide (fun (o : Obj) n => below_drewN (alloc_below w o) n)
  by_cases he : er f xs ys = 0
  · rw [he] at gb
    by_cases hc : er f [x] [] = 0
    · rw [hc] at gc
      obtain ⟨p, wd, h, i1, i2, m1, m2⟩ := er_zero he
      obtain ⟨p', wd', h', i3, _, _, _⟩ := er_zero hc
      have hpp : p' = p := by rw [← pOf_eq h', ← pOf_eq h]
      rw [hpp] at i3
      have hxe : El p x := els_of i3 (by simp [hx]) x (List.mem_singleton.2 rfl)
      obtain ⟨D, hD, d0, d1, d2⟩ : ∃ D : Int, (xs.length : Int) * (ys.length : Int) = D ∧ 0 ≤ D ∧ D ≤ 16777216 ∧ (D ≤ 4000 ↔ xs.length * ys.length ≤ 4000) := by
        refine ⟨_, rfl, ?_⟩
        rw [← Int.natCast_mul]
        have := Nat.mul_le_mul m1 m2
        omega
      by_cases hlim : 4000 < D
      · clear h1 h2 h h' d2 he hc
        go_enter Try.func7, Try.ntmps7
        go_wp2_with fail
        go_quiet (fail)
        have hb0 := HB0.out (.cells #[.slice a1 xs.length c1, .slice a2 ys.length c2] 47) nq
        generalize (w.alloc (.cells #[.slice a1 xs.length c1, .slice a2 ys.length c2] 47)).drewN nq = W1 at *
        go_wp2_with fail
        refine (gb.out _ hb0).mono ?_; rintro e w1 ⟨rfl, hw⟩; rw [hw]; clear hw
        go_wp2_with fail
        refine (gc.out _ _).mono ?_; rintro e w1 ⟨rfl, hw⟩; rw [hw]; clear hw
        have hb1 := Below.next hb0 (alloc_below W1 (.cells #[.int .u64 x] 34))
        go_wp2_with fail
        refine (g0.out _ hb1).mono ?_; rintro e w2 ⟨rfl, hb⟩
        have hb2 := Below.next hb1 hb
        go_wp2_with fail
        refine (ga.out _).mono ?_; rintro e w3 ⟨rfl, hb3⟩
        go_wp2
        go_ret
        exact ⟨rfl, Below.next hb2 hb3⟩
      · obtain ⟨f1, f2, f3, f4, f5, f6, f7, f8, f9, x1, x2, x3⟩ := goes_facts h (els_of i1 h1.words) (els_of i2 h2.words) hxe m1 m2 (d2.1 (by omega))
        have hte : Els p [x] := fun y hy => by rw [List.mem_singleton.1 hy]; exact hxe
        have q1 := er_yes h i1 (allIn_of hte) m1 (by simp)
        have q2 := er_yes h i2 (allIn_of hte) m2 (by simp)
        have uE := vl_el h.pos x xs
        have vE := vl_el h.pos x ys
        have G1 := hide (fun W (hb : Below w.heap.size w W) => pAdd_any f _ _ xs ys W (h1.below hb) (h2.below hb))
        have G2 := hide (fun W (hb : Below w.heap.size w W) => pMul_any f _ _ xs ys W (h1.below hb) (h2.below hb))
        have G3 := hide (fun W (hb : Below w.heap.size w W) => pInto_any f _ _ xs ys W (h1.below hb) (h2.below hb))
        unfold Gives at G1 G2 G3
        rw [he] at G1
        rw [f1] at G2
        rw [f2] at G3
        have E1 := hide (fun W (hb : Below w.heap.size w W) => pEval_any f x _ xs W hx (h1.below hb))
        have E2 := hide (fun W (hb : Below w.heap.size w W) => pEval_any f x _ ys W hx (h2.below hb))
        have E3 := hide (fun W v hr => pEval_any f x v (addL f xs ys) W hx hr)
        have E4 := hide (fun W v hr => pEval_any f x v (mulL f xs ys) W hx hr)
        have E5 := hide (fun W v hr => pEval_any f x v (intoL f xs ys) W hx hr)
        have E6 := hide (fun W (hb : Below w.heap.size w W) => pEval_any f (vl p x ys) _ xs W (elWord vE h.top) (h1.below hb))
        rw [q1, valE_yes h q1] at E1
        rw [q2, valE_yes h q2] at E2
        rw [f3, valE_yes h f3, f7] at E3
        rw [f4, valE_yes h f4, f8] at E4
        rw [f5, valE_yes h f5, f9] at E5
        rw [f6, valE_yes h f6] at E6
        have gP := hide (fun W => rP_yes f p wd W h)
        have gS := hide (fun W => rSum_any p (vl p x xs) (vl p x ys) W h.top uE vE)
        have gT := hide (fun W => rTimes_any p (vl p x xs) (vl p x ys) W h.top uE vE.1 (elWord vE h.top).2)
        have X1 := hide x1
        have X2 := hide x2
        have X3 := hide x3
        clear h1 h2 h h' d2 he hc f1 f2 f3 f4 f5 f6 f7 f8 f9 x1 x2 x3 q1 q2 uE vE hte hxe
        generalize addL f xs ys = S at *
        generalize mulL f xs ys = M at *
        generalize intoL f xs ys = C at *
        generalize vl p (vl p x ys) xs = z at *
        generalize vl p x xs = u at *
        generalize vl p x ys = v at *
        generalize add p u v = suv at *
        generalize mul p u v = muv at *
        go_enter Try.func7, Try.ntmps7
        go_wp2_with fail
        go_quiet (fail)
        have hb0 := HB0.out (.cells #[.slice a1 xs.length c1, .slice a2 ys.length c2] 47) nq
        generalize (w.alloc (.cells #[.slice a1 xs.length c1, .slice a2 ys.length c2] 47)).drewN nq = W1 at *
        go_wp2_with fail
        refine (gb.out _ hb0).mono ?_; rintro e w1 ⟨rfl, hw⟩; rw [hw]; clear hw
        go_wp2_with fail
        refine (gc.out _ _).mono ?_; rintro e w1 ⟨rfl, hw⟩; rw [hw]; clear hw
        have hb1 := Below.next hb0 (alloc_below W1 (.cells #[.int .u64 x] 34))
        go_wp2_with fail
        refine (G1.out _ hb1).mono ?_; rintro e w2 ⟨s1, rfl, hO, hb⟩
        have r1 := hide (X1.out.row hO)
        have hb2 := Below.next hb1 hb
        clear hO hb
        go_wp2_with fail
        refine (G2.out _ hb2).mono ?_; rintro e w3 ⟨s2, rfl, hO, hb⟩
        have r1 := hide (r1.out.below hb)
        have r2 := hide (X2.out.row hO)
        have hb3 := Below.next hb2 hb
        clear hO hb
        go_wp2_with fail
        refine (G3.out _ hb3).mono ?_; rintro e w4 ⟨s3, rfl, hO, hb⟩
        have r1 := hide (r1.out.below hb)
        have r2 := hide (r2.out.below hb)
        have r3 := hide (X3.out.row hO)
        have hb4 := Below.next hb3 hb
        clear hO hb
        go_wp2_with fail
        refine (E1.out _ hb4).mono ?_; rintro e w5 ⟨rfl, hb⟩
        have r1 := hide (r1.out.below hb)
        have r2 := hide (r2.out.below hb)
        have r3 := hide (r3.out.below hb)
        have hb5 := Below.next hb4 hb
        clear hb
        go_wp2_with fail
        refine (E2.out _ hb5).mono ?_; rintro e w6 ⟨rfl, hb⟩
        have r1 := hide (r1.out.below hb)
        have r2 := hide (r2.out.below hb)
        have r3 := hide (r3.out.below hb)
        have hb6 := Below.next hb5 hb
        clear hb
        go_wp2_with fail
        refine (E3.out _ _ r1.out).mono ?_; rintro e w7 ⟨rfl, hb⟩
        have r2 := hide (r2.out.below hb)
        have r3 := hide (r3.out.below hb)
        have hb7 := Below.next hb6 hb
        clear hb
        go_wp2_with fail
        refine (E4.out _ _ r2.out).mono ?_; rintro e w8 ⟨rfl, hb⟩
        have r3 := hide (r3.out.below hb)
        have hb8 := Below.next hb7 hb
        clear hb
        go_wp2_with fail
        refine (E5.out _ _ r3.out).mono ?_; rintro e w9 ⟨rfl, hb⟩
        have hb9 := Below.next hb8 hb
        clear hb r1 r2 r3
        go_wp2_with fail
        refine (E6.out _ hb9).mono ?_; rintro e w10 ⟨rfl, hb⟩
        have hb10 := Below.next hb9 hb
        clear hb
        go_wp2_with (first
          | (go_at_call 29; refine (gP.out _).mono ?_; rintro e w11 ⟨rfl, hw⟩; rw [hw]; clear hw)
          | (go_at_call 23; refine (ga.out _).mono ?_; rintro e w12 ⟨rfl, hb12⟩)
          | (go_at_call 30; refine (gS.out _).mono ?_; rintro e w13 ⟨rfl, hw⟩; rw [hw]; clear hw)
          | (go_at_call 31; refine (gT.out _).mono ?_; rintro e w14 ⟨rfl, hw⟩; rw [hw]; clear hw))
        go_ret
        exact ⟨by simp, Below.next hb10 hb12⟩
    · have hz : (er f [x] [] != 0) = true := bne_iff_ne.2 hc
      clear h1 h2 he hc
      generalize er f [x] [] = e1 at *
      go_enter Try.func7, Try.ntmps7
      go_wp2_with fail
      go_quiet (fail)
      have hb0 := HB0.out (.cells #[.slice a1 xs.length c1, .slice a2 ys.length c2] 47) nq
      generalize (w.alloc (.cells #[.slice a1 xs.length c1, .slice a2 ys.length c2] 47)).drewN nq = W1 at *
      go_wp2_with fail
      refine (gb.out _ hb0).mono ?_; rintro e w1 ⟨rfl, hw⟩; rw [hw]; clear hw
      go_wp2_with fail
      refine (gc.out _ _).mono ?_; rintro e w1 ⟨rfl, hw⟩; rw [hw]; clear hw
      have hb1 := Below.next hb0 (alloc_below W1 (.cells #[.int .u64 x] 34))
      go_wp2_with fail
      refine (g0.out _ hb1).mono ?_; rintro e w2 ⟨rfl, hb⟩
      have hb2 := Below.next hb1 hb
      go_wp2_with fail
      refine (ga.out _).mono ?_; rintro e w3 ⟨rfl, hb3⟩
      go_wp2
      go_ret
      exact ⟨rfl, Below.next hb2 hb3⟩
  · have hz : (er f xs ys != 0) = true := bne_iff_ne.2 he
    clear h1 h2 he
    generalize er f xs ys = e1 at *
    go_enter Try.func7, Try.ntmps7
    go_wp2_with fail
    go_quiet (fail)
    have hb0 := HB0.out (.cells #[.slice a1 xs.length c1, .slice a2 ys.length c2] 47) nq
    generalize (w.alloc (.cells #[.slice a1 xs.length c1, .slice a2 ys.length c2] 47)).drewN nq = W1 at *
    go_wp2_with fail
    refine (gb.out _ hb0).mono ?_; rintro e w1 ⟨rfl, hw⟩; rw [hw]; clear hw
    go_wp2_with fail
    refine (g0.out _ hb0).mono ?_; rintro e w2 ⟨rfl, hb⟩
    have hb2 := Below.next hb0 hb
    go_wp2_with fail
    refine (ga.out _).mono ?_; rintro e w3 ⟨rfl, hb3⟩
    go_wp2
    go_ret
    exact ⟨rfl, Below.next hb2 hb3⟩

end Go.Proofs.Ytdegpefhegmamaa
