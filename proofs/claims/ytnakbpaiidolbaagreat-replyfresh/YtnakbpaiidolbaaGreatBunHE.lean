import Derived.Test.YtnakbpaiidolbaaGreatBunHC
import Derived.Test.YtnakbpaiidolbaaGreatBPlrA
import Derived.Test.YtnakbpaiidolbaaGreatBTkA
import Derived.Test.YtnakbpaiidolbaaGreatBunAU
import Derived.Test.YtnakbpaiidolbaaGreatBunQ
import Derived.Test.YtnakbpaiidolbaaGreatBunIB
namespace Go.Proofs.YtnakbpaiidolbaaGreat
open Go.RowKit Fld Pln Shr
set_option linter.unusedVariables false
set_option linter.unusedSimpArgs false
def bdE (p : Pn) (l : List (List Int)) (n : Int) : Int := if elsB p.f l then (if blkB p.w n l then 0 else 3) else 2
theorem blkB_len {w n : Int} {l : List (List Int)} (h : ¬ (l.length : Int) = n) : blkB w n l = false := by
 unfold blkB
 rw [decide_eq_false h, Bool.and_false]
set_option maxRecDepth 100000 in
set_option maxHeartbeats 800000 in
theorem dBad1 (p : Pn) (n : Int) (v : Value) (l : List (List Int)) (w : World) (h : Rws w v l) : Calls Tryz.prog 41 #[plv p, v, .int .i64 n] w fun e w' => e = .returned (.int .i64 (bdE p l n)) ∧ Below w.heap.size w w' := by
 have HI := hide (fun W u xs (hr : Rw W u xs) => rIn_any p.f u xs W hr.1)
 have HN := hide (fun k hk hf => elsB_no (f := p.f) (l := l) (k := k) hk hf)
 have HY := hide (fun hy => elsB_yes (f := p.f) (l := l) hy)
 have HN2 := hide (fun k hk hf => blkB_no (w := p.w) (n := n) (l := l) (k := k) hk hf)
 have HY2 := hide (fun hy => blkB_yes (w := p.w) (n := n) (l := l) hy)
 have HL2 := hide (fun hy => blkB_len (w := p.w) (n := n) (l := l) hy)
 obtain ⟨pb, hA⟩ := pb_box (w := w) p
 have HS := hide (fun W' (hb : Below (w.alloc (.cells #[.int .u8 p.f, .int .i64 p.n, .int .i64 p.k, .int .i64 p.t, .int .i64 p.s, .int .i64 p.e, .int .i64 p.d, .int .i64 p.w] 24)).heap.size _ W') => (pb.below hb).cells)
 obtain ⟨ao, cap, rfl, hlen, hcap, hc⟩ := h
 unfold bdE
 generalize elsB p.f l = b1 at *
 generalize blkB p.w n l = b2 at *
 obtain ⟨res, HX⟩ : ∃ r : Int, Hid ((if b1 = true then (if b2 = true then 0 else 3) else 2) = r) := ⟨_, rfl⟩
 rw [HX.out]
 clear pb
 rw [plan_eq] at *
 go_enter Tryz.func41, Tryz.ntmps41
 go_wp2_with fail
 generalize w.alloc (.cells #[.int .u8 p.f, .int .i64 p.n, .int .i64 p.k, .int .i64 p.t, .int .i64 p.s, .int .i64 p.e, .int .i64 p.d, .int .i64 p.w] 24) = W0 at *
 go_loopw [7] (fun vi wr => ∃ k : Nat, k ≤ l.length ∧ vi = .int .i64 k ∧ Hid (∀ i, i < k → inF p.f (l.getD i []) = true) ∧ Below W0.heap.size W0 wr) (fun vi _ => l.length - (intOf vi).toNat)
 case atStart => exact ⟨0, Nat.zero_le _, rfl, fun i hi => by omega, Below.refl _ _⟩
 case round =>
  obtain ⟨k, hk, rfl, HQ, hB⟩ := hrel
  by_cases hlt : k < l.length
  · obtain ⟨b, off, rfl, hbl, hcell⟩ := hc (by intro h; rw [h] at hlt; simp at hlt)
    obtain ⟨u, hu, hR⟩ := hcell k hlt
    have hck := ((Below.next hA hB).cell (p := ⟨b, off + k, none⟩) hbl).trans hu
    have hin := hide (fun V (hb : Below w.heap.size w V) => HI.out V u _ (hR.below hb))
    obtain ⟨au, cu, rfl, _⟩ := hR.spell
    have k0 : (0 : Int) ≤ (k : Int) := by omega
    have k1 : (k : Int) < (l.length : Int) := by omega
    obtain ⟨c0, c1, c2, c3, c4, c5, c6, c7⟩ := HS.out _ hB
    have hBw := hide (fun nq => Below.next hA (below_drewN hB nq))
    clear hcell hc hR hu HI
    cases hi : inF p.f (l.getD k []) with
    | false =>
     have HR := hide (HN.out k hlt hi)
     rw [hi] at hin
     clear HN HY HN2 HY2 HL2 HQ hi
     generalize l.getD k [] = xs at *
     go_upto_region 4 with fail
     go_quiet (exact Calls.quiet_of_same (hin.out _ (hBw.out _)))
     go_wp2
     go_ret
     exact ⟨by have hr := HR.out; subst hr; rw [← HX.out]; rfl, hBw.out _⟩
    | true =>
     have HA2 : Hid (∀ i, i < k + 1 → inF p.f (l.getD i []) = true) := fun i h' => by
      rcases Nat.lt_or_eq_of_le (Nat.le_of_lt_succ h') with h1 | h1
      · exact HQ.out i h1
      · rw [h1]; exact hi
     rw [hi] at hin
     clear HN HY HN2 HY2 HL2 HQ hi
     generalize l.getD k [] = xs at *
     go_upto_region 4 with fail
     go_quiet (exact Calls.quiet_of_same (hin.out _ (hBw.out _)))
     have hB2 := below_drewN hB nq
     go_wp2
     go_roundw
     case rel => exact ⟨k + 1, by omega, by go_num, HA2, hB2⟩
     case measure => simp [intOf]; omega
  · obtain rfl : k = l.length := by omega
    have HR := hide (HY.out HQ.out)
    have hr := HR.out
    subst hr
    clear HN HY HQ HI HR
    obtain ⟨m, hm⟩ : ∃ m, m = l.length := ⟨_, rfl⟩
    have Hm := hide hm
    by_cases hi : (l.length : Int) = n
    · have hi2 : ((l.length : Int) != n) = false := by rw [hi]; simp
      have HY3 := HY2
      rw [decide_eq_true hi] at HY3
      clear hi hm HY2 HL2
      go_wp2_with fail
      obtain ⟨w9, Hw9⟩ : ∃ w9, Hid (wr = w9) := ⟨_, rfl⟩
      go_loopw [8] (fun vi wq => ∃ k : Nat, k ≤ l.length ∧ vi = .int .i64 k ∧ Hid (∀ i, i < k → ((l.getD i []).length : Int) = p.w) ∧ Below W0.heap.size W0 wq) (fun vi _ => l.length - (intOf vi).toNat)
      case atStart => exact ⟨0, Nat.zero_le _, rfl, fun i hi => by omega, hB⟩
      case round =>
       clear hB Hw9
       obtain ⟨k, hk, rfl, HQ, hB⟩ := hrel
       by_cases hlt : k < l.length
       · obtain ⟨b, off, rfl, hbl, hcell⟩ := hc (by intro h; rw [h] at hlt; simp at hlt)
         obtain ⟨u, hu, hR⟩ := hcell k hlt
         have hck := ((Below.next hA hB).cell (p := ⟨b, off + k, none⟩) hbl).trans hu
         obtain ⟨au, cu, rfl, _⟩ := hR.spell
         have k0 : (0 : Int) ≤ (k : Int) := by omega
         have k1 : (k : Int) < (l.length : Int) := by omega
         have hll := hR.len
         obtain ⟨c0, c1, c2, c3, c4, c5, c6, c7⟩ := HS.out _ hB
         clear hcell hc hR hu
         by_cases hi : ((l.getD k []).length : Int) = p.w
         · have HA2 : Hid (∀ i, i < k + 1 → ((l.getD i []).length : Int) = p.w) := fun i h' => by
            rcases Nat.lt_or_eq_of_le (Nat.le_of_lt_succ h') with h1 | h1
            · exact HQ.out i h1
            · rw [h1]; exact hi
           clear HN2 HY3 HQ
           generalize (l.getD k []).length = m2 at *
           have ht : ((m2 : Int) != p.w) = false := by rw [hi]; simp
           clear hi
           go_upto_region 11 with fail
           go_quiet (fail)
           have hB2 := below_drewN hB nq
           go_wp2
           go_roundw
           case rel => exact ⟨k + 1, by omega, by go_num, HA2, hB2⟩
           case measure => simp [intOf]; omega
         · have HR := hide (HN2.out k hlt hi)
           clear HN2 HY3 HQ
           generalize (l.getD k []).length = m2 at *
           have ht : ((m2 : Int) != p.w) = true := bne_iff_ne.2 hi
           clear hi
           go_upto_region 11 with fail
           go_quiet (fail)
           have hB2 := below_drewN hB nq
           go_wp2
           go_ret
           exact ⟨by have hr := HR.out; subst hr; rw [← HX.out]; rfl, Below.next hA hB2⟩
       · obtain rfl : k = l.length := by omega
         have HR := hide (HY3.out HQ.out)
         clear HN2 HY3 HQ hc
         go_wp2
         go_ret
         exact ⟨by have hr := HR.out; subst hr; rw [← HX.out]; rfl, Below.next hA hB⟩
    · have HR := hide (HL2.out hi)
      have ht : ((l.length : Int) != n) = true := bne_iff_ne.2 hi
      clear hi HN2 HY2 HL2 hc hm
      go_wp2
      go_ret
      exact ⟨by have hr := HR.out; subst hr; rw [← HX.out]; rfl, Below.next hA hB⟩
theorem bd_three (p : Pn) (l : List (List Int)) (n : Int) : bdE p l n = 0 ∨ bdE p l n = 2 ∨ bdE p l n = 3 := by
 unfold bdE; split
 · split
   · exact .inl rfl
   · exact .inr (.inr rfl)
 · exact .inr (.inl rfl)
theorem bk_bd {p : Pn} {dl pl : List (List Int)} (hm : mayP p = true) : bkE p dl pl [] = if bdE p dl p.k = 2 ∨ bdE p pl p.t = 2 then 2 else if bdE p dl p.k < bdE p pl p.t then bdE p pl p.t else bdE p dl p.k := by
 rw [bk_none, hm, Bool.true_and]
 unfold bdE
 cases elsB p.f dl <;> cases elsB p.f pl <;> cases blkB p.w p.k dl <;> cases blkB p.w p.t pl <;> simp
set_option maxRecDepth 100000 in
set_option maxHeartbeats 800000 in
theorem dBad14 (p : Pn) (vd vp : Value) (dl pl : List (List Int)) (w : World) (hp : Ok8p p) (h1 : Rws w vd dl) (h2 : Rws w vp pl) : Calls Tryz.prog 20 #[plv p, vd, vp] w fun e w' => e = .returned (.int .i64 (bkE p dl pl [])) ∧ Below w.heap.size w w' := by
 have HM := hide (dMayP p hp)
 have H1 := hide (fun W (hb : Below w.heap.size w W) => dBad1 p p.k vd dl W (h1.below hb))
 have H2 := hide (fun W (hb : Below w.heap.size w W) => dBad1 p p.t vp pl W (h2.below hb))
 have HB := hide (fun hm => bk_bd (p := p) (dl := dl) (pl := pl) hm)
 have HF : Hid (mayP p = false → bkE p dl pl [] = 2) := fun hm => by rw [bk_none, hm]; rfl
 have a3 := bd_three p dl p.k
 have b3 := bd_three p pl p.t
 obtain ⟨pb, hA⟩ := pb_box (w := w) p
 have HS := hide (fun W' (hb : Below (w.alloc (.cells #[.int .u8 p.f, .int .i64 p.n, .int .i64 p.k, .int .i64 p.t, .int .i64 p.s, .int .i64 p.e, .int .i64 p.d, .int .i64 p.w] 24)).heap.size _ W') => (pb.below hb).cells)
 obtain ⟨c0, c1, c2, c3, c4, c5, c6, c7⟩ := pb.cells
 obtain ⟨ad, cd, rfl, _, _, _⟩ := h1
 obtain ⟨ap, cp, rfl, _, _, _⟩ := h2
 clear pb hp
 generalize bkE p dl pl [] = res at *
 generalize bdE p dl p.k = ea at *
 generalize bdE p pl p.t = eb at *
 generalize dl.length = nd at *
 generalize pl.length = np at *
 rw [plan_eq] at *
 cases hm : mayP p with
 | false =>
  have hr := HF.out hm
  subst hr
  rw [hm] at HM
  clear HB HF H1 H2 a3 b3 hm
  go_enter Tryz.func20, Tryz.ntmps20
  go_wp2_with (go_at_call 33; refine (HM.out _).mono ?_; rintro e w1 ⟨rfl, hb1⟩)
  go_ret
  exact ⟨rfl, Below.next hA hb1⟩
 | true =>
  have HR := hide (HB.out hm)
  rw [hm] at HM
  clear HB HF hm
  go_enter Tryz.func20, Tryz.ntmps20
  go_upto_region 3 with (go_at_call 33; refine (HM.out _).mono ?_; rintro e w1 ⟨rfl, hb1⟩)
  have hC1 := hb1
  have hdr : Below w1.heap.size w1 w1.drew := (Below.refl _ w1).drew
  have hS0 := HS.out _ (Below.next hC1 hdr)
  have hB1 := Below.next hA (Below.next hC1 hdr)
  clear c0 c1 c2 c3 c4 c5 c6 c7
  refine wp_region_held_drew (S := (fun V => V.cell? ⟨w.heap.size, 0, none⟩ = some (.int .u8 p.f) ∧ V.cell? ⟨w.heap.size, 1, none⟩ = some (.int .i64 p.n) ∧ V.cell? ⟨w.heap.size, 2, none⟩ = some (.int .i64 p.k) ∧ V.cell? ⟨w.heap.size, 3, none⟩ = some (.int .i64 p.t) ∧ V.cell? ⟨w.heap.size, 4, none⟩ = some (.int .i64 p.s) ∧ V.cell? ⟨w.heap.size, 5, none⟩ = some (.int .i64 p.e) ∧ V.cell? ⟨w.heap.size, 6, none⟩ = some (.int .i64 p.d) ∧ V.cell? ⟨w.heap.size, 7, none⟩ = some (.int .i64 p.w))) (by kernel_rfl) (by ((try dsimp only) <;> (first | with_reducible exact hS2 | with_reducible exact hS1 | with_reducible exact hS0))) (fun hHeld => ?_)
  (refine tkY 0 ?_; (try simp only [ly0, ly1, ly2, ly3, ly4, ly5, ly6, ly7]))
  (refine tkY 1 ?_; (try simp only [ly0, ly1, ly2, ly3, ly4, ly5, ly6, ly7]))
  (refine tkY 2 ?_; (try simp only [ly0, ly1, ly2, ly3, ly4, ly5, ly6, ly7]))
  (refine tkY 3 ?_; (try simp only [ly0, ly1, ly2, ly3, ly4, ly5, ly6, ly7]))
  (refine tkY 5 ?_; (try simp only [ly0, ly1, ly2, ly3, ly4, ly5, ly6, ly7]))
  (refine tkY 6 ?_; (try simp only [ly0, ly1, ly2, ly3, ly4, ly5, ly6, ly7]))
  (refine tkY 7 ?_; (try simp only [ly0, ly1, ly2, ly3, ly4, ly5, ly6, ly7]))
  (refine tkY 8 ?_; (try simp only [ly0, ly1, ly2, ly3, ly4, ly5, ly6, ly7]))
  refine rd1 4 (fun K hK => ?_)
  (try simp only [ly0, ly1, ly2, ly3, ly4, ly5, ly6, ly7])
  go_simp
  (first | (go_at_call 41; with_reducible refine (H2.out _ hB2).mono ?_; rintro e w3 ⟨rfl, hb3⟩; have hC3 := Below.next hC2 hb3; have hB3 := Below.next hA hC3; have hS2 := HS.out _ hC3) | (go_at_call 41; with_reducible refine (H1.out _ hB1).mono ?_; rintro e w2 ⟨rfl, hb2⟩; have hC2 := Below.next (Below.next hC1 hdr) hb2; have hB2 := Below.next hA hC2; have hS1 := HS.out _ hC2))
  first | (refine hK.out _ _ (by ((try dsimp only) <;> (first | with_reducible exact hS2 | with_reducible exact hS1 | with_reducible exact hS0))) (fun hHeld => ?_)) | (go_wp2_with fail; refine hK.out _ _ (by ((try dsimp only) <;> (first | with_reducible exact hS2 | with_reducible exact hS1 | with_reducible exact hS0))) (fun hHeld => ?_))
  clear hK K
  (try simp only [ly0, ly1, ly2, ly3, ly4, ly5, ly6, ly7])
  refine rd1 9 (fun K hK => ?_)
  (try simp only [ly0, ly1, ly2, ly3, ly4, ly5, ly6, ly7])
  go_simp
  (first | (go_at_call 41; with_reducible refine (H2.out _ hB2).mono ?_; rintro e w3 ⟨rfl, hb3⟩; have hC3 := Below.next hC2 hb3; have hB3 := Below.next hA hC3; have hS2 := HS.out _ hC3) | (go_at_call 41; with_reducible refine (H1.out _ hB1).mono ?_; rintro e w2 ⟨rfl, hb2⟩; have hC2 := Below.next (Below.next hC1 hdr) hb2; have hB2 := Below.next hA hC2; have hS1 := HS.out _ hC2))
  first | (refine hK.out _ _ (by ((try dsimp only) <;> (first | with_reducible exact hS2 | with_reducible exact hS1 | with_reducible exact hS0))) (fun hHeld => ?_)) | (go_wp2_with fail; refine hK.out _ _ (by ((try dsimp only) <;> (first | with_reducible exact hS2 | with_reducible exact hS1 | with_reducible exact hS0))) (fun hHeld => ?_))
  clear hK K
  (try simp only [ly0, ly1, ly2, ly3, ly4, ly5, ly6, ly7])
  (refine tkY 10 ?_; (try simp only [ly0, ly1, ly2, ly3, ly4, ly5, ly6, ly7]))
  (refine tkY 11 ?_; (try simp only [ly0, ly1, ly2, ly3, ly4, ly5, ly6, ly7]))
  refine wpAnyH_done (by kernel_rfl) ?_ _
  rcases a3 with rfl | rfl | rfl <;> rcases b3 with rfl | rfl | rfl
  all_goals
   go_wp2
   go_ret
   exact ⟨by have hr := HR.out; subst hr; rfl, hB3⟩
end Go.Proofs.YtnakbpaiidolbaaGreat
namespace Go.Proofs.YtnakbpaiidolbaaGreat
open Go.RowKit Fld Pln Shr
set_option linter.unusedVariables false
set_option linter.unusedSimpArgs false
end Go.Proofs.YtnakbpaiidolbaaGreat
namespace Go.Proofs.YtnakbpaiidolbaaGreat
open Go.RowKit Fld Pln Shr
set_option linter.unusedVariables false
set_option linter.unusedSimpArgs false
end Go.Proofs.YtnakbpaiidolbaaGreat
namespace Go.Proofs.YtnakbpaiidolbaaGreat
open Go.RowKit Fld Pln Shr
set_option linter.unusedVariables false
set_option linter.unusedSimpArgs false
theorem pys_facts {q : Int} {wd : Bool} (hm : Md q wd) {xs : List Int} (hx : Els q xs) (hn : xs.Nodup) {bl : List (List Int)} (hb : ∀ b ∈ bl, Els q b) (w : Nat) : ∀ b ∈ pys q xs w bl, Els q b ∧ b.length ≤ xs.length := fun b h => by
 unfold pys at h
 obtain ⟨t, _, rfl⟩ := List.mem_map.1 h
 have := py_thr hm hx hn hb t
 exact ⟨this.1.1, this.2.1⟩
theorem pys_len (q : Int) (xs : List Int) (w : Nat) (bl : List (List Int)) : (pys q xs w bl).length = w := by simp [pys]
end Go.Proofs.YtnakbpaiidolbaaGreat
