/-
  Layer 7: inverses of a list, the weights, the basis at an element.
-/
import Derived.Test.YtifilgmjpflekaaBIntF
namespace Go.Proofs.Ytifilgmjpflekaa
open Go.RowKit Fld
set_option linter.unusedVariables false

theorem dv_one {p c : Int} {wd : Bool} (hm : Md p wd) (hc : Un p c) : Dv p [1] [c] [inv p c] [] := by
  have hi := inv_un hm hc
  have ht : tr [c] = [c] := (Tm.single hc.1 hc.2).2
  refine Dv.of (Tm.single hi.1 hi.2) (Tm.nil p) (by rw [ht]; simp) ?_
  rw [pl_add_nil, ← pl_two]
  have : (inv p c * c) % p = 1 := by have := mul_inv hm c hc.1 hc.2; rw [ring_comm] at this; exact this
  rw [this]
theorem dv_out {p : Int} {wd : Bool} (hm : Md p wd) {xs : List Int} {i : Nat} (hi : i < xs.length) : Dv p (zl p xs) (zl p [co xs i]) (zl p (xs.eraseIdx i)) [] := by
  have h1 := zl_facts hm (xs.eraseIdx i)
  have h2 := zl_facts hm [co xs i]
  have ht : tr (zl p [co xs i]) = zl p [co xs i] := h2.1.2
  refine Dv.of h1.1 (Tm.nil p) (by rw [ht, h2.2.2]; simp) ?_
  rw [pl_add_nil, h1.2.1, (zl_facts hm xs).2.1, zr_take_out p xs i hi, ← fac_zl hm, co_at hi, qm_comm]
theorem div_yes {f p : Int} {wd : Bool} (h : Fi f p wd) {xs ys A : List Int} (hx : Els p xs) (hy : Els p ys) (l1 : xs.length ≤ 4096) (l2 : ys.length ≤ 4096) (hd : Dv p xs ys A []) : divE f xs ys = 0 ∧ ∀ Q R, DvE f xs ys Q R → Q = A ∧ R = [] := by
  have hne : tr ys ≠ [] := by intro e; have := hd.rg.2.2.1; rw [e] at this; simp at this
  have he : divE f xs ys = 0 := by unfold divE; rw [er_yes h (allIn_of hx) (allIn_of hy) l1 l2, if_pos rfl, if_neg hne]
  refine ⟨he, fun Q R hQ => ?_⟩
  have := hQ.2 he
  rw [pOf_eq h] at this
  exact Dv.only h.md hy this hd
/-- The quotient of 1. -/
theorem divOne (w : World) (T T2 : TypeId) {f p c : Int} {wd : Bool} (h : Fi f p wd) (hc : Un p c) :
    Calls Try.prog 79 #[.int .u8 f, .slice (some ⟨w.heap.size, 0, none⟩) 1 1, .slice (some ⟨w.heap.size + 1, 0, none⟩) 1 1] ((w.alloc (.cells #[.int .u64 1] T)).alloc (.cells #[.int .u64 c] T2)) fun e w' => ∃ b cap vr, e = .returned (.tuple #[.slice (some ⟨b, 0, none⟩) 1 cap, vr, .int .i64 0]) ∧ w'.cell? ⟨b, 0, none⟩ = some (.int .u64 (inv p c)) ∧ Below w.heap.size w w' := by
  have hb := h.md.bounds
  have b1 := alloc_below w (.cells #[.int .u64 1] T)
  have b2 := alloc_below (w.alloc (.cells #[.int .u64 1] T)) (.cells #[.int .u64 c] T2)
  have e2 : (w.alloc (.cells #[.int .u64 1] T)).heap.size = w.heap.size + 1 := by simp
  have r1 := (rw1 w 1 (by decide) T).below b2
  have r2 := rw1 (w.alloc (.cells #[.int .u64 1] T)) c (elWord hc.1 h.top) T2
  rw [e2] at r2
  have hq := div_yes h (xs := [1]) (ys := [c]) (fun x hx => by rw [List.mem_singleton.1 hx]; exact ⟨by decide, by omega⟩) (fun x hx => by rw [List.mem_singleton.1 hx]; exact hc.1) (by simp) (by simp) (dv_one h.md hc)
  have := pDivMod_any f _ _ [1] [c] _ r1 r2
  unfold Parts at this
  rw [hq.1] at this
  refine this.mono fun e w' ⟨vq, vr, A, B, b, he, hS, hA, hB, _, _, hbl⟩ => ?_
  obtain ⟨rfl, rfl⟩ := hq.2 A B hS
  obtain ⟨g, cap, rfl, _, _⟩ := hA.form (by simp)
  refine ⟨g, cap, vr, he, ?_, Below.next (Below.next b1 b2) hbl⟩
  rw [hA.cellAt 0 (by simp)]; rfl

theorem scl_inv {f p : Int} {wd : Bool} (h : Fi f p wd) {l : List Int} (hl : ∀ x ∈ l, Un p x) (hn : l.length ≤ 4096) : er f [inv p (pd p l)] (mk l.length (ot p l)) = 0 ∧ sclL f (inv p (pd p l)) (mk l.length (ot p l)) = mk l.length (fun i => inv p (co l i)) := by
  have hp := h.pos
  have hw := pd_un h.md l hl
  have hi := inv_un h.md hw
  have he : er f [inv p (pd p l)] (mk l.length (ot p l)) = 0 := er_yes h (allIn_of (fun x hx => by rw [List.mem_singleton.1 hx]; exact hi.1)) (allIn_of (Els.mk _ (fun i _ => ot_el hp l i))) (by simp) (by rw [mk_len]; exact hn)
  refine ⟨he, ?_⟩
  unfold sclL
  rw [if_pos he, pOf_eq h]
  have e : sm p (inv p (pd p l)) [] (mk l.length (ot p l)) = mk l.length (fun i => inv p (co l i)) := by
    apply ext_co
    · rw [sm_len, mk_len, mk_len]; simp
    · intro i hi2
      rw [sm_len, mk_len] at hi2
      have hi3 : i < l.length := by simpa using hi2
      unfold sm
      rw [co_mk, if_pos (by rw [mk_len]; simpa using hi3), co_mk, if_pos hi3, co_mk, if_pos hi3, ← ot_inv h.md hl hi3]
      show (0 + _) % p = _
      rw [Int.zero_add]; rfl
  rw [e]
  refine tr_full ?_
  by_cases h0 : l.length = 0
  · left; rw [h0]; rfl
  · right
    rw [mk_len, co_mk, if_pos (by omega)]
    exact (inv_un h.md (by rw [co_at (show l.length - 1 < l.length by omega)]; exact hl _ (List.getElem_mem _))).2

set_option maxRecDepth 100000 in
set_option maxHeartbeats 400000 in
theorem ipInverses (f p : Int) (wd : Bool) (v : Value) (l : List Int) (w : World) (h : Fi f p wd) (h1 : Rw w v l) (hu : ∀ x ∈ l, Un p x) (hl : l.length ≤ 512) :
    Calls Try.prog 67 #[.int .u8 f, v] w fun e w' => ∃ v', e = .returned v' ∧ w'.ownsRow w.heap.size 25 1 v' l.length (vals (mk l.length (fun i => inv p (co l i)))) ∧ Below w.heap.size w w' := by
  have he : Els p l := fun x hx => (hu x hx).1
  have hp0 := h.pos
  have HT := hide (fun W a b (ha : El p a) (hb : El p b) => ipTimes f p a b wd W h ha hb)
  have HO := hide (fun W (hb : Below w.heap.size w W) => ipOthers f p wd v l W h (h1.below hb) he hl)
  have HD := hide (fun W T T2 => divOne W T T2 h (pd_un h.md l hu))
  have HS := hide (scl_inv h hu (by omega))
  have HC := hide (fun W u (hr : Rw W u (mk l.length (ot p l))) => pScale_any f (inv p (pd p l)) u (mk l.length (ot p l)) W (elWord (inv_un h.md (pd_un h.md l hu)).1 h.top) hr)
  unfold Gives at HC
  rw [HS.out.1, HS.out.2] at HC
  have HR := hide (fun W u base (hO : World.ownsRow W base 25 1 u l.length (vals (mk l.length (ot p l)))) => rw_of_own hO (by rw [mk_len]; omega) (els_words (Els.mk _ (fun i _ => ot_el hp0 l i)) h.top))
  have HA := hide (fun k (hk : k < l.length) => pd_ahead h.md he hk)
  have HP := hide (fun k => pd_el h.md (l.take k))
  have HE := hide he
  have HLn : Hid ((mk l.length (fun i => inv p (co l i))).length = l.length) := mk_len _ _
  obtain ⟨⟨ao, cap, rfl, hlen, hw, hc⟩, _⟩ := h1
  obtain ⟨n, HN⟩ : ∃ n, Hid (l.length = n) := ⟨_, rfl⟩
  have hlen : n ≤ 512 := by rw [← HN.out]; exact hl
  have HTk : Hid (l.take n = l) := by show _ = _; rw [← HN.out]; exact List.take_length
  rw [HLn.out] at HC
  rw [HN.out] at HO HC HR hc HA ⊢
  clear HS h hu he hl hw HLn
  generalize mk n (ot p l) = ots at *
  generalize mk n (fun i => inv p (co l i)) = ivs at *
  go_enter Try.func67, Try.ntmps67
  go_wp2
  go_loopw [5, 15] (fun va vi wr => ∃ k : Nat, k ≤ n ∧ vi = .int .i64 k ∧ va = .int .u64 (pd p (l.take k)) ∧ Below w.heap.size w wr) (fun _ vi _ => n - (intOf vi).toNat)
  case atStart => exact ⟨0, Nat.zero_le _, rfl, rfl, Below.refl _ _⟩
  case round =>
    obtain ⟨k, hk, rfl, rfl, hB⟩ := hrel
    by_cases hlt : k < n
    · obtain ⟨b, off, rfl, hbl, hcell⟩ := hc (by intro e; have := HN.out; rw [e] at this; simp at this; omega)
      have hck := (hB.cell (p := ⟨b, off + k, none⟩) hbl).trans (hcell k hlt)
      have hel : El p (l.getD k 0) := HE.out.co hp0 k
      have hT := hide (fun W => HT.out W _ _ (HP.out k) hel)
      have HA2 : Hid (mul p (pd p (l.take k)) (l.getD k 0) = pd p (l.take (k + 1))) := (HA.out k hlt).symm
      rw [HA2.out] at hT
      obtain ⟨ah2, HAh⟩ : ∃ ah2, Hid (pd p (l.take (k + 1)) = ah2) := ⟨_, rfl⟩
      rw [HAh.out] at hT
      clear HA2 hel hcell hc
      generalize l.getD k 0 = a at *
      generalize pd p (l.take k) = ah at *
      go_wp2_with (go_at_call 59; refine (hT.out _).mono ?_; rintro e w4 ⟨rfl, hb4⟩)
      have hB4 := Below.next hB hb4
      go_roundw
      case rel => exact ⟨k + 1, by omega, by go_num, by rw [HAh.out], hB4⟩
      case measure => simp [intOf]; omega
    · obtain rfl : k = n := by omega
      rw [HTk.out]
      clear hc HA HP HE HT HTk
      generalize pd p l = wh at *
      generalize inv p wh = iw at *
      go_wp2_with (go_at_call 79; refine (HD.out _ _ _).mono ?_; rintro e w2 ⟨b2, c2, vr, rfl, hcd, hb2⟩)
      have hB2 := Below.next hB hb2
      have hbd := cell_lt hcd
      have hcd1 : w2.drew.cell? ⟨b2, 0, none⟩ = some (.int .u64 iw) := hcd
      go_region_held3 (fun W' => W'.cell? ⟨b2, 0, none⟩ = some (.int .u64 iw)) (first | with_reducible exact hS4 | with_reducible exact hS3 | with_reducible exact hcd1) (first
        | (go_at_call 80; refine (HC.out _ _ hr3).mono ?_; rintro e w4 ⟨v4, rfl, hO4, hb4⟩; have hS4 := (hb4.cell (p := ⟨b2, 0, none⟩) (by have := hb3.size; exact Nat.lt_of_lt_of_le hbd this)).trans hS3)
        | (go_at_call 57; refine (HO.out _ hB2.drew).mono ?_; rintro e w3 ⟨v3, rfl, hO3, hb3⟩; have hS3 := (hb3.cell (p := ⟨b2, 0, none⟩) hbd).trans hcd1; have hr3 := HR.out _ _ _ hO3; obtain ⟨a3, c3, rfl⟩ := own_form hO3))
      have hB3 := Below.next hB2.drew hb3
      have hB4 := Below.next hB3 hb4
      have HO4 := hide (own_mono hO4 hB3.size)
      clear hO4 hO3 hr3
      go_wp2
      go_ret
      exact ⟨_, rfl, HO4.out, hB4⟩

theorem chk_els {f p : Int} {wd : Bool} (h : Fi f p wd) {xss : List (List Int)} (hx : ∀ xs ∈ xss, Els p xs ∧ xs.length ≤ 2048) : chk f xss = 0 :=
  chk_ok (fun i hi => by rw [inF_yes h]; exact allIn_of (hx _ (getD_mem hi)).1) (fun i hi => (hx _ (getD_mem hi)).2)
theorem slp_len (p : Int) (xs : List Int) : (slp p xs).length ≤ xs.length - 1 := by
  unfold slp
  refine Nat.le_trans (tr_len _) ?_
  rw [mk_len]; exact Nat.le_refl _
theorem slp_els {p : Int} (hp : 0 < p) (xs : List Int) : Els p (slp p xs) := (is_slp hp xs).tm.1.1
/-- The products of the differences. -/
def dps (p : Int) (xs : List Int) : List Int := xs.map (fun x => vl p x (slp p (zl p xs)))
theorem dps_at {p : Int} {wd : Bool} (hm : Md p wd) {xs : List Int} {i : Nat} (hi : i < xs.length) : co (dps p xs) i = dp p (co xs i) (xs.eraseIdx i) := by
  unfold dps
  rw [co_map _ _ _ hi]; exact slp_place hm hi
theorem dps_un {p : Int} {wd : Bool} (hm : Md p wd) {xs : List Int} (hx : Els p xs) (hn : xs.Nodup) : ∀ x ∈ dps p xs, Un p x := fun x hx2 => by
  obtain ⟨i, hi, rfl⟩ := List.mem_iff_getElem.1 hx2
  have hi2 : i < xs.length := by simpa [dps] using hi
  rw [← co_at hi, dps_at hm hi2]
  exact dp_un hm hx hn hi2
theorem dps_inv {p : Int} {wd : Bool} (hm : Md p wd) (xs : List Int) : mk (dps p xs).length (fun i => inv p (co (dps p xs) i)) = wts p xs := by
  have e : (dps p xs).length = xs.length := by simp [dps]
  apply ext_co
  · rw [mk_len, e, wts_len]
  · intro i hi
    rw [mk_len, e] at hi
    rw [co_mk, if_pos (by rw [e]; exact hi), wts_at hi, dps_at hm hi]; rfl

set_option maxHeartbeats 400000 in
theorem ipWeigh (f p : Int) (wd : Bool) (v : Value) (xs : List Int) (w : World) (h : Fi f p wd) (h1 : Rw w v xs) (he : Els p xs) (hn : xs.Nodup) (hl : xs.length ≤ 512) :
    Calls Try.prog 55 #[.int .u8 f, v] w fun e w' => ∃ v', e = .returned v' ∧ w'.ownsRow w.heap.size 25 1 v' xs.length (vals (wts p xs)) ∧ Below w.heap.size w w' := by
  have hp := h.pos
  have hz := zl_facts h.md xs
  have k1 : chk f [xs] = 0 := chk_els h (fun l hl' => by rw [List.mem_singleton.1 hl']; exact ⟨he, by omega⟩)
  have k2 : chk f [zl p xs] = 0 := chk_els h (fun l hl' => by rw [List.mem_singleton.1 hl']; exact ⟨hz.1.1, by rw [hz.2.2]; omega⟩)
  have hsl := slp_len p (zl p xs)
  have k3 : chk f [slp p (zl p xs), xs] = 0 := chk_els h (fun l hl' => by
    have : l = slp p (zl p xs) ∨ l = xs := by simpa using hl'
    rcases this with rfl | rfl
    · exact ⟨slp_els hp _, by rw [hz.2.2] at hsl; omega⟩
    · exact ⟨he, by omega⟩)
  have H1 := hide (tZero_any f v xs w h1)
  have H2 := hide (fun W u (hr : Rw W u (zl p xs)) => tSlope_any f u (zl p xs) W hr)
  have H3 := hide (fun W u (hb : Below w.heap.size w W) (hr : Rw W u (slp p (zl p xs))) => tValues_any f u v (slp p (zl p xs)) xs W hr (h1.below hb))
  unfold Gives at H1 H2 H3
  have e1 : zeroL f xs = zl p xs := by unfold zeroL; rw [if_pos k1, pOf_eq h]
  have e2 : slpL f (zl p xs) = slp p (zl p xs) := by unfold slpL; rw [if_pos k2, pOf_eq h]
  have e3 : valsL f (slp p (zl p xs)) xs = dps p xs := by unfold valsL; rw [if_pos k3, pOf_eq h]; rfl
  rw [k1, e1] at H1
  rw [k2, e2] at H2
  rw [k3, e3] at H3
  have hdl : (dps p xs).length = xs.length := by simp [dps]
  have H4 := hide (fun W u (hr : Rw W u (dps p xs)) => ipInverses f p wd u (dps p xs) W h hr (dps_un h.md he hn) (by rw [hdl]; omega))
  rw [dps_inv h.md xs, hdl] at H4
  have R1 := hide (fun W u base (hO : World.ownsRow W base 25 1 u (zl p xs).length (vals (zl p xs))) => rw_of_own hO (by rw [hz.2.2]; omega) (els_words hz.1.1 h.top))
  have R2 := hide (fun W u base (hO : World.ownsRow W base 25 1 u (slp p (zl p xs)).length (vals (slp p (zl p xs)))) => rw_of_own hO (by rw [hz.2.2] at hsl; omega) (els_words (slp_els hp _) h.top))
  have R3 := hide (fun W u base (hO : World.ownsRow W base 25 1 u (dps p xs).length (vals (dps p xs))) => rw_of_own hO (by rw [hdl]; omega) (els_words (fun x hx => (dps_un h.md he hn x hx).1) h.top))
  obtain ⟨a1, c1, rfl, _⟩ := h1.spell
  clear h1 h he hn hl hz k1 k2 k3 hsl e1 e2 e3 hdl
  generalize slp p (zl p xs) = sl at *
  generalize zl p xs = zz at *
  generalize dps p xs = dd at *
  generalize wts p xs = ww at *
  generalize xs.length = n at *
  go_enter Try.func55, Try.ntmps55
  go_wp2_with (first
    | (go_at_call 64; refine H1.out.mono ?_; rintro e w1 ⟨v1, rfl, hO1, hb1⟩; have hr1 := R1.out _ _ _ hO1; obtain ⟨b1, k1, rfl⟩ := own_form hO1; clear hO1)
    | (go_at_call 65; refine (H2.out _ _ hr1).mono ?_; rintro e w2 ⟨v2, rfl, hO2, hb2⟩; have hr2 := R2.out _ _ _ hO2; have hB2 := Below.next hb1 hb2; obtain ⟨b2, k2, rfl⟩ := own_form hO2; clear hO2)
    | (go_at_call 66; refine (H3.out _ _ hB2 hr2).mono ?_; rintro e w3 ⟨v3, rfl, hO3, hb3⟩; have hr3 := R3.out _ _ _ hO3; have hB3 := Below.next hB2 hb3; obtain ⟨b3, k3, rfl⟩ := own_form hO3; clear hO3)
    | (go_at_call 67; refine (H4.out _ _ hr3).mono ?_; rintro e w4 ⟨v4, rfl, hO4, hb4⟩))
  go_ret
  exact ⟨_, rfl, own_mono hO4 hB3.size, Below.next hB3 hb4⟩

/-- What the function that basis answers has at hand. -/
structure Bas (W : World) (f p : Int) (xs : List Int) (bf bx bw : Nat) : Prop where
  fb : W.cell? ⟨bf, 0, none⟩ = some (.int .u8 f)
  xb : ∃ v, W.cell? ⟨bx, 0, none⟩ = some v ∧ Rw W v xs
  wb : ∃ v, W.cell? ⟨bw, 0, none⟩ = some v ∧ Rw W v (wts p xs)
theorem Bas.below {W W' : World} {f p : Int} {xs : List Int} {bf bx bw : Nat} (h : Bas W f p xs bf bx bw) (hb : Below W.heap.size W W') : Bas W' f p xs bf bx bw := by
  obtain ⟨h1, ⟨v2, h2, r2⟩, ⟨v3, h3, r3⟩⟩ := h
  exact ⟨(hb.cell (cell_lt h1)).trans h1, ⟨v2, (hb.cell (cell_lt h2)).trans h2, r2.below hb⟩, ⟨v3, (hb.cell (cell_lt h3)).trans h3, r3.below hb⟩⟩

set_option maxHeartbeats 400000 in
theorem ipBasis (f p : Int) (wd : Bool) (v : Value) (xs : List Int) (w : World) (h : Fi f p wd) (h1 : Rw w v xs) (he : Els p xs) (hn : xs.Nodup) (hl : xs.length ≤ 512) :
    Calls Try.prog 45 #[.int .u8 f, v] w fun e w' => ∃ bf bx bw, e = .returned (.func (.func 56) #[] #[.pointer (some ⟨bf, 0, none⟩), .pointer (some ⟨bx, 0, none⟩), .pointer (some ⟨bw, 0, none⟩)]) ∧ Bas w' f p xs bf bx bw ∧ Below w.heap.size w w' := by
  have HW := hide (fun W (hb : Below w.heap.size w W) => ipWeigh f p wd v xs W h (h1.below hb) he hn hl)
  have R1 := hide (fun W u base (hO : World.ownsRow W base 25 1 u xs.length (vals (wts p xs))) => rw_of_own hO (by rw [wts_len]; omega) (els_words (wts_els h.pos xs) h.top))
  have H1 := hide h1
  obtain ⟨a1, c1, rfl, _⟩ := h1.spell
  clear h1 h he hn hl
  have hal : Below w.heap.size w ((w.alloc (.cells #[.int .u8 f] 22)).alloc (.cells #[.slice a1 xs.length c1] 26)) := Below.next (alloc_below w _) (alloc_below _ _)
  have q1 : ((w.alloc (.cells #[.int .u8 f] 22)).alloc (.cells #[.slice a1 xs.length c1] 26)).cell? ⟨w.heap.size, 0, none⟩ = some (.int .u8 f) := by
    rw [(alloc_below (w.alloc (.cells #[.int .u8 f] 22)) _).cell (p := ⟨w.heap.size, 0, none⟩) (by simp)]; simp [go_sem]
  have q2 : ((w.alloc (.cells #[.int .u8 f] 22)).alloc (.cells #[.slice a1 xs.length c1] 26)).cell? ⟨w.heap.size + 1, 0, none⟩ = some (.slice a1 xs.length c1) := by
    have e : (w.alloc (.cells #[.int .u8 f] 22)).heap.size = w.heap.size + 1 := by simp
    rw [← e]; simp [go_sem]
  have HQ : Hid (∀ w2 v2, Below ((w.alloc (.cells #[.int .u8 f] 22)).alloc (.cells #[.slice a1 xs.length c1] 26)).heap.size ((w.alloc (.cells #[.int .u8 f] 22)).alloc (.cells #[.slice a1 xs.length c1] 26)) w2 → Rw w2 v2 (wts p xs) → Bas (w2.alloc (.cells #[v2] 26)) f p xs w.heap.size (w.heap.size + 1) w2.heap.size) := fun w2 v2 hb2 hr2 => by
    have a2 := alloc_below w2 (.cells #[v2] 26)
    have d1 := (hb2.cell (cell_lt q1)).trans q1
    have d2 := (hb2.cell (cell_lt q2)).trans q2
    exact ⟨(a2.cell (cell_lt d1)).trans d1, ⟨_, (a2.cell (cell_lt d2)).trans d2, (H1.out.below (Below.next hal hb2)).below a2⟩, ⟨v2, by simp [go_sem], hr2.below a2⟩⟩
  have HAl := hide hal
  clear hal
  go_enter Try.func45, Try.ntmps45
  go_wp2_with (go_at_call 55; refine (HW.out _ HAl.out).mono ?_; rintro e w2 ⟨v2, rfl, hO2, hb2⟩; have hr2 := R1.out _ _ _ hO2; obtain ⟨b2, k2, rfl⟩ := own_form hO2; clear hO2)
  have hB2 := Below.next HAl.out hb2
  have HB := hide (HQ.out _ _ hb2 hr2)
  go_ret
  exact ⟨_, _, _, rfl, HB.out, hB2.alloc hB2.size _⟩

/-- A row of which the first places have their weight. -/
def fl7 (p : Int) (xs : List Int) (x : Int) (n k : Nat) : List Int := mk n (fun j => if j < k then bs p xs x j else dp p x (xs.eraseIdx j))
theorem fl7_len (p : Int) (xs : List Int) (x : Int) (n k : Nat) : (fl7 p xs x n k).length = n := mk_len _ _
theorem fl7_zero (p : Int) (xs : List Int) (x : Int) (n : Nat) : fl7 p xs x n 0 = mk n (fun i => dp p x (xs.eraseIdx i)) := by
  unfold fl7; congr 1
theorem fl7_end (p : Int) (xs : List Int) (x : Int) (n : Nat) : fl7 p xs x n n = mk n (bs p xs x) := by
  apply ext_co
  · rw [fl7_len, mk_len]
  · intro i hi
    rw [fl7_len] at hi
    unfold fl7
    rw [co_mk, co_mk, if_pos hi, if_pos hi, if_pos hi]
theorem fl7_at (p : Int) (xs : List Int) (x : Int) {n k : Nat} (hk : k < n) : co (fl7 p xs x n k) k = dp p x (xs.eraseIdx k) := by
  unfold fl7
  rw [co_mk, if_pos hk, if_neg (by omega)]
theorem fl7_step (p : Int) (xs : List Int) (x : Int) {n k : Nat} (hk : k < n) : (fl7 p xs x n k).set k (bs p xs x k) = fl7 p xs x n (k + 1) := by
  apply ext_co
  · rw [List.length_set, fl7_len, fl7_len]
  · intro i hi
    rw [List.length_set, fl7_len] at hi
    rw [co_set _ _ _ _ (by rw [fl7_len]; exact hk)]
    unfold fl7
    rw [co_mk, co_mk, if_pos hi, if_pos hi]
    by_cases h : i = k
    · subst h; rw [if_pos rfl, if_pos (by omega)]
    · rw [if_neg h]
      by_cases h2 : i < k
      · rw [if_pos h2, if_pos (by omega)]
      · rw [if_neg h2, if_neg (by omega)]

theorem mk_diff {p x : Int} {wd : Bool} (hm : Md p wd) (xs : List Int) : mk (xs.map (fun z => sub p x z)).length (ot p (xs.map (fun z => sub p x z))) = mk xs.length (fun i => dp p x (xs.eraseIdx i)) := by
  apply ext_co
  · rw [mk_len, mk_len]; simp
  · intro i hi
    rw [mk_len] at hi
    have hi2 : i < xs.length := by simpa using hi
    rw [co_mk, if_pos hi, co_mk, if_pos hi2, ot_diff hm]

set_option maxRecDepth 100000 in
set_option maxHeartbeats 400000 in
theorem ipRow (f p x : Int) (wd : Bool) (xs : List Int) (bf bx bw : Nat) (w : World) (h : Fi f p wd) (hx : El p x) (he : Els p xs) (hl : xs.length ≤ 512) (hB0 : Bas w f p xs bf bx bw) :
    Calls Try.prog 56 #[.int .u64 x, .pointer (some ⟨bf, 0, none⟩), .pointer (some ⟨bx, 0, none⟩), .pointer (some ⟨bw, 0, none⟩)] w fun e w' => ∃ v', e = .returned v' ∧ w'.ownsRow w.heap.size 25 1 v' xs.length (vals (bsl p xs x)) ∧ Below w.heap.size w w' := by
  have hp0 := h.pos
  obtain ⟨hfb, ⟨vx, hxb, hrx⟩, ⟨vw, hwb, hrw⟩⟩ := hB0
  have HT := hide (fun W a b (ha : El p a) (hb : El p b) => ipTimes f p a b wd W h ha hb)
  have HD := hide (fun W (hb : Below w.heap.size w W) => ipDiffs f p x wd vx xs W h hx (hrx.below hb) he hl)
  have hml : (xs.map (fun z => sub p x z)).length = xs.length := by simp
  have hme : Els p (xs.map (fun z => sub p x z)) := fun y hy => by obtain ⟨z, _, rfl⟩ := List.mem_map.1 hy; exact sub_el hp0
  have HO := hide (fun W u (hr : Rw W u (xs.map (fun z => sub p x z))) => ipOthers f p wd u (xs.map (fun z => sub p x z)) W h hr hme (by rw [hml]; exact hl))
  rw [mk_diff h.md xs, hml] at HO
  have HR := hide (fun W u base (hO : World.ownsRow W base 25 1 u xs.length (vals (xs.map (fun z => sub p x z)))) => rw_of_own hO (by rw [hml]; omega) (els_words hme h.top))
  have HSt : Hid (∀ k, k < xs.length → mul p (dp p x (xs.eraseIdx k)) (wt p xs k) = bs p xs x k) := fun k _ => by unfold bs; rw [ring_comm]
  have HWl := hide (wts_len p xs)
  have HWe := hide (wts_els hp0 xs)
  have HDe := hide (fun k => dp_el hp0 x (xs.eraseIdx k))
  have HWa := hide (fun k (hk : k < xs.length) => wts_at (p := p) hk)
  obtain ⟨ax, cx, rfl, _⟩ := hrx.spell
  obtain ⟨aw, cw, rfl, _⟩ := hrw.spell
  obtain ⟨⟨aw', cw', hvw, _, _, hcw⟩, _⟩ := hrw
  cases hvw
  obtain ⟨n, HN⟩ : ∃ n, Hid (xs.length = n) := ⟨_, rfl⟩
  rw [HWl.out] at hcw hwb
  unfold bsl
  rw [HN.out] at HD HO HR HSt HWa hcw hwb hxb hl ⊢
  have HCw : Hid (∀ W, Below w.heap.size w W → ∀ j, j < n → ∃ b off, aw = some ⟨b, off, none⟩ ∧ W.cell? ⟨b, off + j, none⟩ = some (.int .u64 ((wts p xs).getD j 0))) := fun W hb j hj => by
    obtain ⟨b, off, e, h2, h3⟩ := hcw (by intro e; have := HWl.out; rw [e, HN.out] at this; simp at this; omega)
    exact ⟨b, off, e, (hb.cell (p := ⟨b, off + j, none⟩) h2).trans (h3 j hj)⟩
  have lf := cell_lt hfb
  have lx := cell_lt hxb
  have lw := cell_lt hwb
  have HK : Hid (∀ W, Below w.heap.size w W → W.cell? ⟨bf, 0, none⟩ = some (.int .u8 f) ∧ W.cell? ⟨bx, 0, none⟩ = some (.slice ax n cx) ∧ W.cell? ⟨bw, 0, none⟩ = some (.slice aw n cw)) := fun W hb => ⟨(hb.cell lf).trans hfb, (hb.cell lx).trans hxb, (hb.cell lw).trans hwb⟩
  clear hcw h hx he hrx hme hml hfb hxb hwb
  generalize xs.map (fun z => sub p x z) = dl at *
  have hd0 := HK.out w.drew (Below.refl _ w).drew
  have hk0 := HK.out w (Below.refl _ w)
  obtain ⟨hf0, hx0, hw0⟩ := hk0
  go_enter Try.func56, Try.ntmps56
  go_wp2_with fail
  go_region_held3 (fun W' => W'.cell? ⟨bf, 0, none⟩ = some (.int .u8 f) ∧ W'.cell? ⟨bx, 0, none⟩ = some (.slice ax n cx) ∧ W'.cell? ⟨bw, 0, none⟩ = some (.slice aw n cw)) (first | with_reducible exact hS2 | with_reducible exact hS1 | with_reducible exact hd0) (first
    | (go_at_call 57; refine (HO.out _ _ hr1).mono ?_; rintro e w2 ⟨v2, rfl, hO2, hb2⟩; have hB2 := Below.next hB1 hb2; have hS2 := HK.out _ hB2; obtain ⟨a2, k2, rfl⟩ := own_form hO2)
    | (go_at_call 58; refine (HD.out _ (Below.refl _ w).drew).mono ?_; rintro e w1 ⟨v1, rfl, hO1, hb1⟩; have hB1 := Below.next (Below.refl _ w).drew hb1; have hS1 := HK.out _ hB1; have hr1 := HR.out _ _ _ hO1; obtain ⟨a1, k1, rfl⟩ := own_form hO1; clear hO1))
  have HO2 := hide (own_mono hO2 hB1.size)
  clear hO2 hS1 hr1 hd0 hf0 hx0 hw0 HD HO HR
  obtain ⟨hf0, hx0, hw0⟩ := hS2
  rw [← fl7_zero] at HO2
  go_wp2
  go_loopw [17] (fun vi wr => ∃ k : Nat, k ≤ n ∧ vi = .int .i64 k ∧ Hid (wr.ownsRow w.heap.size 25 1 (.slice a2 n k2) n (vals (fl7 p xs x n k))) ∧ Below w.heap.size w wr) (fun vi _ => n - (intOf vi).toNat)
  case atStart => exact ⟨0, Nat.zero_le _, rfl, HO2, hB2⟩
  case round =>
    clear HO2 hB2 hf0 hx0 hw0
    obtain ⟨k, hk, rfl, HO, hB⟩ := hrel
    by_cases hlt : k < n
    · obtain ⟨bb, ob, rfl, hcw⟩ := HCw.out wr hB k hlt
      obtain ⟨g, cg, hvg, hgl, _⟩ := HO.out.form (by omega)
      injection hvg with hvg _ hcg
      subst hvg hcg
      have hfl := fl7_len p xs x n k
      have hgc : wr.cell? ⟨g, k, none⟩ = some (.int .u64 (dp p x (xs.eraseIdx k))) := by
        rw [← fl7_at p xs x hlt]; exact own_cell HO.out hfl hlt
      have hgd : wr.drew.cell? ⟨g, k, none⟩ = some (.int .u64 (dp p x (xs.eraseIdx k))) := hgc
      have HG2 : Hid (∀ W, Below wr.heap.size wr W → W.cell? ⟨g, k, none⟩ = some (.int .u64 (dp p x (xs.eraseIdx k))) ∧ W.frozen? ⟨g, k, none⟩ = false) := fun W hb => by
        have := own_below HO.out hb
        exact ⟨by rw [← fl7_at p xs x hlt]; exact own_cell this hfl hlt, this.frozenAt k⟩
      have hew : El p ((wts p xs).getD k 0) := HWe.out.co hp0 k
      have hT := hide (fun W => HT.out W _ _ (HDe.out k) hew)
      have HM : Hid (mul p (dp p x (xs.eraseIdx k)) ((wts p xs).getD k 0) = bs p xs x k) := by
        show _ = _
        rw [← HSt.out k hlt, ← HWa.out k hlt]; rfl
      rw [HM.out] at hT
      have HStp := hide (fl7_step p xs x hlt)
      have hd1 := HK.out wr.drew hB.drew
      have hgn : w.heap.size ≤ g := hgl
      generalize dp p x (xs.eraseIdx k) = y at *
      generalize (wts p xs).getD k 0 = wk at *
      generalize bs p xs x k = bk at *
      clear HM hfl HSt HWa HWe HDe HCw
      go_wp2_with fail
      obtain ⟨hfd, _, _⟩ := hd1
      go_region_with (go_at_call 59; refine (hT.out _).mono ?_; rintro e w4 ⟨rfl, hb4⟩; have hb4' := Below.next (Below.refl wr.heap.size wr).drew hb4; have hB4 := Below.next hB hb4'; have d1 := (HG2.out _ hb4').1; have d2 := (HG2.out _ hb4').2; have hB5 := hB4.setCell (p := ⟨g, k, none⟩) hgn (.int .u64 bk))
      all_goals
        have R := hide (own_here (k := k) (z := bk) (own_below HO.out hb4'))
        rw [HStp.out] at R
        go_wp2
        go_roundw
        case rel => exact ⟨k + 1, by omega, by go_num, R, hB5⟩
        case measure => simp [intOf]; omega
    · obtain rfl : k = n := by omega
      rw [fl7_end] at HO
      go_wp2
      go_ret
      exact ⟨_, rfl, HO.out, hB⟩

end Go.Proofs.Ytifilgmjpflekaa
