/-
  Layer 13: the program's Rows.
-/
import Derived.Test.YtifilgmjpflekaaBPntC
import Derived.Test.YtifilgmjpflekaaBIntI
import Derived.Deep.RegionHeld3
import Derived.Deep.CutRange
namespace Go.Proofs.Ytifilgmjpflekaa
open Go.RowKit Fld Pln
set_option linter.unusedVariables false
set_option linter.unusedSimpArgs false

/-- The inner points and the workers'. -/
def innL (p : Pn) : List Int := pts 0 (p.k + p.t).toNat
def outL (p : Pn) : List Int := pts (p.k + p.t) p.n.toNat
theorem inn_app {p : Pn} (h : mayP p = true) : pts 0 p.k.toNat ++ pts p.k p.t.toNat = innL p := by
  obtain ⟨_, ⟨k0, k1⟩, ⟨t0, t1⟩, _⟩ := may_facts h
  unfold innL
  have e : (p.k + p.t).toNat = p.k.toNat + p.t.toNat := by omega
  have e2 : (0 : Int) + (p.k.toNat : Int) = p.k := by omega
  rw [e, pts_add, e2]
theorem may_field {p : Pn} (h : mayP p = true) : ∃ q wd, Fi p.f q wd := by
  have := (may_iff.1 h).1
  unfold fdB at this
  rw [Bool.or_eq_true] at this
  rcases this with h1 | h1
  · exact ⟨_, _, .inl ⟨by simpa using h1, rfl, rfl⟩⟩
  · exact ⟨_, _, .inr ⟨by simpa using h1, rfl, rfl⟩⟩
theorem pts_els {f q : Int} {wd : Bool} (h : Fi f q wd) {a : Int} {n : Nat} (ha : 0 ≤ a) (hn : a + n ≤ 1000) : Els q (pts a n) := fun x hx => by
  have := pts_mem.1 hx
  have := h.big
  exact ⟨by omega, by omega⟩
theorem pts_words {a : Int} {n : Nat} (ha : 0 ≤ a) (hn : a + n ≤ 1000) : ∀ x ∈ pts a n, 0 ≤ x ∧ x ≤ 18446744073709551615 := fun x hx => by
  have := pts_mem.1 hx
  omega
theorem row_bac {p : Pn} (h : mayP p = true) : bac p.f (innL p) (outL p) = 0 := by
  obtain ⟨⟨n0, n1⟩, ⟨k0, k1⟩, ⟨t0, t1⟩, _⟩ := may_facts h
  obtain ⟨q, wd, hf⟩ := may_field h
  have e1 : inF p.f (innL p) = true := by rw [inF_yes hf]; exact allIn_of (pts_els hf (by omega) (by omega))
  have e2 : inF p.f (outL p) = true := by rw [inF_yes hf]; exact allIn_of (pts_els hf (by omega) (by omega))
  have hl : (innL p).length = (p.k + p.t).toNat := pts_len _ _
  have hl2 : (outL p).length = p.n.toNat := pts_len _ _
  have hb : bad p.f (innL p) (outL p) (innL p).length = 0 := by
    rw [bad_end e1 e2 rfl (by omega), if_pos (show (innL p).Nodup from pts_nodup _ _)]
  unfold bac
  rw [if_neg (by omega), hb]
/-- What Rows answers. -/
def rwsL (p : Pn) : List (List Int) := if mayP p = true then chgL p.f (innL p) (outL p) else []

set_option maxRecDepth 100000 in
set_option maxHeartbeats 400000 in
theorem gRows (p : Pn) (w : World) (h : Ok8p p) : GivesL 15 #[plv p] w (rwsL p) (erP p) := by
  have HM := hide (gMay p h)
  obtain ⟨pb, hA⟩ := pb_box (w := w) p
  cases hm : mayP p with
  | false =>
    rw [hm] at HM
    rw [show rwsL p = [] by unfold rwsL; rw [hm]; rfl, erP_no hm]
    clear hm h
    show Calls _ _ _ _ _
    unfold plv plw at *
    go_enter Try.func15, Try.ntmps15
    go_wp2_with (go_at_call 23; refine (HM.out _).mono ?_; rintro e w1 ⟨rfl, hb1⟩)
    go_ret2
    exact ⟨_, [], rfl, Lss.nil _ _ _, Below.next hA hb1⟩
  | true =>
    rw [hm] at HM
    obtain ⟨⟨n0, n1⟩, ⟨k0, k1⟩, ⟨t0, t1⟩, _⟩ := may_facts hm
    rw [show rwsL p = chgL p.f (innL p) (outL p) from if_pos hm, erP_yes hm]
    have HD := hide (fun W => gOfData p W)
    have HP := hide (fun W => gOfPads p W)
    have HW := hide (fun W => gOfWorkers p W hm)
    have L0 := hide (fun u W hr => gListed_nil u 0 p.k W hr (by omega) (by omega) (by omega))
    have L1 := hide (fun v u W base hb (hO : World.ownsRow W base 25 1 v (pts 0 p.k.toNat).length (vals (pts 0 p.k.toNat))) hr => gListed_rnn base v u (pts 0 p.k.toNat) p.k p.t W hr (by omega) hO hb (by omega) (by omega) (by rw [pts_len]; omega))
    rw [inn_app hm] at L1
    have L2 := hide (fun u W hr => gListed_nil u (p.k + p.t) p.n W hr (by omega) (by omega) (by omega))
    rw [show pts (p.k + p.t) p.n.toNat = outL p from rfl] at L2
    have HC := hide (fun v1 v2 W h1 h2 => iChange p.f v1 v2 (innL p) (outL p) W h1 h2)
    unfold GivesL at HC
    rw [row_bac hm] at HC
    have R1 := hide (fun W v base n (hO : World.ownsRow W base 25 1 v n (vals (innL p))) => rw_of_own hO (by unfold innL; rw [pts_len]; omega) (pts_words (by omega) (by omega)))
    have R2 := hide (fun W v base n (hO : World.ownsRow W base 25 1 v n (vals (outL p))) => rw_of_own hO (by unfold outL; rw [pts_len]; omega) (pts_words (by omega) (by omega)))
    generalize chgL p.f (innL p) (outL p) = rs at *
    generalize innL p = xs at *
    generalize outL p = zs at *
    generalize pts 0 p.k.toNat = ds at *
    clear hm h
    show Calls _ _ _ _ _
    unfold plv plw at *
    go_enter Try.func15, Try.ntmps15
    go_upto_region 3 with (go_at_call 23; refine (HM.out _).mono ?_; rintro e w1 ⟨rfl, hb1⟩)
    have pb1 := pb.below hb1
    have hA1 := Below.next hA hb1
    clear pb hA hb1
    have HS := hide (fun W' (hb : Below w1.heap.size w1 W') => (pb1.below hb).cells)
    have hg := pb1.lt
    clear pb1 HM
    go_cut [4] from 8 to 13 (fun v4 wx => ∃ a c, v4 = .slice a xs.length c ∧ Hid (wx.ownsRow w1.heap.size 25 1 (.slice a xs.length c) xs.length (vals xs)) ∧ Below w1.heap.size w1 wx)
    case first =>
      have hS0 := HS.out _ ((Below.refl _ w1).drew)
      go_region_held3 (fun W' => W'.cell? ⟨w.heap.size, 0, none⟩ = some (.int .u8 p.f) ∧ W'.cell? ⟨w.heap.size, 1, none⟩ = some (.int .i64 p.n) ∧ W'.cell? ⟨w.heap.size, 2, none⟩ = some (.int .i64 p.k) ∧ W'.cell? ⟨w.heap.size, 3, none⟩ = some (.int .i64 p.t) ∧ W'.cell? ⟨w.heap.size, 4, none⟩ = some (.int .i64 p.s) ∧ W'.cell? ⟨w.heap.size, 5, none⟩ = some (.int .i64 p.e) ∧ W'.cell? ⟨w.heap.size, 6, none⟩ = some (.int .i64 p.d) ∧ W'.cell? ⟨w.heap.size, 7, none⟩ = some (.int .i64 p.w)) (first | with_reducible exact hS4 | with_reducible exact hS3 | with_reducible exact hS2 | with_reducible exact hS1 | with_reducible exact hS0) (first
        | (go_at_call 25; refine (HD.out _).mono ?_; rintro e w2 ⟨u1, rfl, hr1, hb2⟩; (first | (have hC2 := Below.next hC3 hb2; have hr2 := hr2.below hb2) | (have hC2 : Below w1.heap.size w1 w2 := (Below.refl _ w1).drew.trans hb2)); have hS1 := HS.out _ hC2)
        | (go_at_call 28; refine (HP.out _).mono ?_; rintro e w3 ⟨u2, rfl, hr2, hb3⟩; (first | (have hC3 := Below.next hC4 hb3; have hO1 := own_below hO1 hb3) | (have hC3 := Below.next hC2 hb3; have hr1 := hr1.below hb3) | (have hC3 : Below w1.heap.size w1 w3 := (Below.refl _ w1).drew.trans hb3)); have hS2 := HS.out _ hC3)
        | (go_at_call 24; (first | with_reducible refine (L1.out _ _ _ w1.heap.size hC4.size hO1 hr2).mono ?_ | with_reducible refine (L1.out _ _ _ w1.heap.size hC3.size hO1 hr2).mono ?_); rintro e w5 ⟨v5, rfl, hO5, hb5⟩; (first | have hC5 : Below w1.heap.size w1 w5 := hC4.trans hb5 | have hC5 : Below w1.heap.size w1 w5 := hC3.trans hb5); have hS4 := HS.out _ hC5; obtain ⟨a5, c5, rfl⟩ := own_form hO5; have HO5 := hide hO5)
        | (go_at_call 24; with_reducible refine (L0.out _ _ hr1).mono ?_; rintro e w4 ⟨v4, rfl, hO1, hb4⟩; (first | (have hC4 := Below.next hC2 hb4; have hO1 := own_mono hO1 hC2.size) | (have hC4 := Below.next hC3 hb4; have hO1 := own_mono hO1 hC3.size)); (try have hr2 := hr2.below hb4); have hS3 := HS.out _ hC4; obtain ⟨a4, k4, rfl⟩ := own_form hO1))
      all_goals
        go_wp2_with fail
        go_meet
        exact ⟨_, _, rfl, HO5, hC5⟩
    case rest =>
      obtain ⟨a4, c4, rfl, HO4, hC4⟩ := hcut
      have hS0 := HS.out _ hC4.drew
      go_upto_region 4 with fail
      go_region_held3 (fun W' => W'.cell? ⟨w.heap.size, 0, none⟩ = some (.int .u8 p.f) ∧ W'.cell? ⟨w.heap.size, 1, none⟩ = some (.int .i64 p.n) ∧ W'.cell? ⟨w.heap.size, 2, none⟩ = some (.int .i64 p.k) ∧ W'.cell? ⟨w.heap.size, 3, none⟩ = some (.int .i64 p.t) ∧ W'.cell? ⟨w.heap.size, 4, none⟩ = some (.int .i64 p.s) ∧ W'.cell? ⟨w.heap.size, 5, none⟩ = some (.int .i64 p.e) ∧ W'.cell? ⟨w.heap.size, 6, none⟩ = some (.int .i64 p.d) ∧ W'.cell? ⟨w.heap.size, 7, none⟩ = some (.int .i64 p.w)) (first | with_reducible exact hS3 | with_reducible exact hS2 | with_reducible exact hS1 | with_reducible exact hS0) (first
        | (go_at_call 29; refine (HW.out _).mono ?_; rintro e w5 ⟨u5, rfl, hr5, hb5⟩; have hC5 := hC4.drew.trans (hb5.mono hC4.size); have hR5 := own_below HO4.out ((Below.refl _ wc).drew.trans hb5); have hS1 := HS.out _ hC5)
        | (go_at_call 24; with_reducible refine (L2.out _ _ hr5).mono ?_; rintro e w6 ⟨v6, rfl, hO6, hb6⟩; have hC6 := Below.next hC5 hb6; have hR6 := R1.out _ _ _ _ (own_below hR5 hb6); have hQ6 := R2.out _ _ _ _ hO6; have hS2 := HS.out _ hC6; obtain ⟨a6, k6, rfl⟩ := own_form hO6)
        | (go_at_call 32; with_reducible refine (HC.out _ _ _ hR6 hQ6).mono ?_; rintro e w7 ⟨v7, us, rfl, hL7, hb7⟩; have hC7 := Below.next hC6 hb7; have hS3 := HS.out _ hC7))
      go_wp2
      go_ret2
      exact ⟨_, us, rfl, hL7.low (Nat.le_trans hA1.size hC6.size), Below.next hA1 hC7⟩

end Go.Proofs.Ytifilgmjpflekaa
