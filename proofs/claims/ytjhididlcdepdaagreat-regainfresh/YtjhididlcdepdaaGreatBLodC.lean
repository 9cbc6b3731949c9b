import Derived.Test.YtjhididlcdepdaaGreatBLodB
import Derived.Deep.CutRange
set_option linter.unusedVariables false
set_option linter.unusedSimpArgs false
set_option maxRecDepth 100000
set_option maxHeartbeats 4000000
namespace Go.Proofs.YtjhididlcdepdaaGreat
open Go.RowKit Fld Rnk
theorem slv_free {w : World} {lo G r cap : Nat} {us : List Value} {l : List (List Int)} (h : Mtx w lo (.slice (some ⟨G, 0, none⟩) r cap) us l) (k : Nat) : w.frozen? ⟨G, k, none⟩ = false := by
 rcases h.row.2 with ⟨e, _⟩ | ⟨g', cap', cur, e, h2, h3, _⟩
 · cases e
 · cases e
   simp [World.frozen?, h3]
theorem sub_self {p c : Int} (hc : El p c) : sub p c (mul p c 1) = 0 := by
 unfold sub mul
 rw [Int.mul_one, Int.emod_eq_of_lt hc.1 hc.2, Int.sub_self, Int.zero_emod]
theorem one_dvd {p y d : Int} (h : mul p y d = 1) : p ∣ y * d - 1 := by
 have e := Int.mul_ediv_add_emod (y * d) p
 unfold mul at h
 rw [h] at e
 exact ⟨y * d / p, by omega⟩
def SlvA (p : Int) (r u : Nat) (l0 : List (List Int)) (lo : Nat) (w' : World) (v' : Value) (ok : Bool) : Prop :=
 (ok = true ∧ ∃ X : List Int, X.length = u ∧ Els p X ∧ Sol p r u l0 (co X) ∧ w'.ownsRow lo 64 1 v' u (vals X) ∧ ∃ g, v' = .slice (some ⟨g, 0, none⟩) u u) ∨ (ok = false ∧ v' = .slice none 0 0 ∧ ∀ x, ¬ Sol p r u l0 x)
structure SlvX (p : Int) (u : Nat) (l : List (List Int)) (ps : List Nat) (i : Nat) (X : List Int) : Prop where
 els : Els p X
 here : ∀ i', i' < i -> co X (ps.getD i' 0) = mx l i' u
 none : ∀ m, m < u -> m ∉ ps.take i -> co X m = 0
theorem slv_begin {p : Int} {u : Nat} {l : List (List Int)} {ps : List Nat} {W1 : World} {b : Nat} {v : Value} (hp : 0 < p) (h : W1.ownsRow b 64 1 v u (zrX u)) : Hid (SlvX p u l ps 0 (List.replicate u 0)) ∧ Hid (W1.ownsRow b 64 1 v u (vals (List.replicate u 0))) :=
 ⟨⟨fun x hx => by rw [(List.mem_replicate.1 hx).2]; exact ⟨Int.le_refl _, hp⟩, fun i' h => by omega, fun m hm _ => by simp [co, List.getD_eq_getElem?_getD, hm]⟩, h⟩
theorem SlvX.next {p : Int} {u : Nat} {l : List (List Int)} {ps : List Nat} {i : Nat} {X : List Int} (h : SlvX p u l ps i X) (hn : ps.Nodup) (hi : i < ps.length) (hX : ps.getD i 0 < X.length) (he : El p (mx l i u)) : SlvX p u l ps (i + 1) (X.set (ps.getD i 0) (mx l i u)) := by
 have hgi : ∀ k (hk : k < ps.length), ps.getD k 0 = ps[k] := fun k hk => by rw [List.getD_eq_getElem?_getD, List.getElem?_eq_getElem hk]; rfl
 refine ⟨fun x hx => ?_, fun i' h' => ?_, fun m hm hno => ?_⟩
 · rcases List.mem_or_eq_of_mem_set hx with c | c
   · exact h.els x c
   · rw [c]; exact he
 · rw [co_set _ _ _ _ hX]
   by_cases e : i' = i
   · rw [e, if_pos rfl]
   · rw [if_neg (fun c => ?_)]
     · exact h.here i' (by omega)
     · rw [hgi i' (by omega), hgi i hi] at c
       exact e ((List.getElem_inj hn).1 c)
 · have hsn : ps.take (i + 1) = ps.take i ++ [ps[i]] := by rw [List.take_add_one, List.getElem?_eq_getElem hi]; rfl
   rw [hsn] at hno
   rw [co_set _ _ _ _ hX, if_neg (fun c => hno (List.mem_append_right _ (by rw [c, hgi i hi]; exact List.mem_singleton_self _)))]
   exact h.none m hm (fun c => hno (List.mem_append_left _ c))
theorem nms_cell {W : World} {base : Nat} {aa : Option Addr} {n ca : Nat} {ps : List Nat} (h : W.ownsRow base 3 1 (.slice aa n ca) ps.length (nms ps)) {i : Nat} (hi : i < ps.length) : ∃ ga, aa = some ⟨ga, 0, none⟩ ∧ W.cell? ⟨ga, i, none⟩ = some (.int .i64 ((ps.getD i 0 : Nat) : Int)) := by
 rcases h.2 with ⟨e, h0⟩ | ⟨g, cap, cur, e, _⟩
 · omega
 · injection e with e1 e2 e3
   subst e1
   subst e2
   refine ⟨g, rfl, ?_⟩
   have := h.cellAt i (by omega)
   rw [this]
   simp [nms, List.getD_eq_getElem?_getD, hi]
theorem dSolve (f p : Int) (wd : Bool) (lo : Nat) (v : Value) (us0 : List Value) (l0 : List (List Int)) (r u : Nat) (w : World) (h : Fi f p wd) (h1 : Mtx w lo v us0 l0) (hlo : lo <= w.heap.size) (hr : l0.length = r) (hr5 : r <= 512) (hu5 : u <= 600) (h2 : ∀ k, k < r -> (l0.getD k []).length = u + 1) (h3 : ∀ k, k < r -> Els p (l0.getD k [])) :
 Calls Tryz.prog 98 #[.int .u8 f, v, .int .i64 u] w fun e w' => ∃ v' ok, e = .returned (.tuple #[v', .bool ok]) ∧ SlvA p r u l0 lo w' v' ok ∧ Below lo w w' := by
 have hp0 := h.pos
 have hp1 := h.top
 have hpb : 2048 < p := by rcases h with ⟨_, rfl, _⟩ | ⟨_, rfl, _⟩ <;> decide
 have HM := hide h.md
 have HP := hide (fun W => rP_yes f p wd W h)
 have HE := hide (Gau.first hr h2 h3)
 have hO := h1.row
 rw [hr] at hO
 obtain ⟨ao, CAP, rfl⟩ := own_form hO
 have HS0 : Hid (Slv w w lo (.slice ao r CAP) us0 l0 (.slice none 0 0) []) := ⟨h1, World.ownsRow_nil _ _ _ _, Below.refl _ _, hlo⟩
 clear h1 h2 h3 hO h
 go_enter Tryz.func98, Tryz.ntmps98
 go_wp2_with (go_at_call 70; refine (HP.out _).mono ?_; rintro e w1 ⟨rfl, hw⟩; rw [hw]; clear hw)
 go_loopw [9, 10] (fun v9 v10 wr => ∃ (j : Nat) (ps : List Nat) (us : List Value) (l : List (List Int)) (aa : Option Addr) (ca : Nat), v9 = .slice aa ps.length ca ∧ v10 = .int .i64 j ∧ j <= u + 1 ∧ Hid (Gau p r u j ps l0 l) ∧ Hid (∀ c ∈ ps, c < u) ∧ Hid (Slv w wr lo (.slice ao r CAP) us l (.slice aa ps.length ca) ps)) (fun _ v10 _ => u + 1 - (intOf v10).toNat)
 case atStart => exact ⟨0, [], us0, l0, none, 0, rfl, rfl, by omega, HE, (fun c hc => by cases hc), HS0⟩
 case round =>
  clear HE HS0 HP
  obtain ⟨j, ps, us, l, aa, ca, rfl, rfl, hj, HE, HC, HX⟩ := hrel
  have hnr := HE.out.le
  obtain ⟨n, Hn⟩ : ∃ n, Hid (ps.length = n) := ⟨_, rfl⟩
  rw [Hn.out] at hnr HX ⊢
  by_cases hjc : j <= u
  · go_wp2_with fail
    go_loopw [9, 12] (fun v9 v12 wx => ∃ i : Nat, v9 = .slice aa n ca ∧ v12 = .int .i64 i ∧ n <= i ∧ i <= r ∧ Hid (∀ k, n <= k -> k < i -> mx l k j = 0) ∧ Hid (Slv w wx lo (.slice ao r CAP) us l (.slice aa n ca) ps)) (fun _ v12 _ => r - (intOf v12).toNat)
    case atStart => exact ⟨n, rfl, rfl, Nat.le_refl _, hnr, (fun k h1 h2 => by omega), HX⟩
    case round =>
     clear HX
     obtain ⟨i, rfl, rfl, hni, hir, HZ, HX⟩ := hrel
     by_cases hlt : i < r
     · have hl := HE.out.len
       obtain ⟨gi, ki, hui, _, _, _, hcc⟩ := HX.out.mtx.one (i := i) (by omega) (by rw [HE.out.cols i hlt]; omega)
       rw [HE.out.cols i hlt] at hui hcc
       obtain ⟨G, cG, hG, hGl, hGt, hGc⟩ := HX.out.mtx.spell (by omega)
       injection hG with hG1 hG2 hG3
       subst hG1
       subst hG3
       clear hG2
       have c1 := HX.out.mtx.cell (i := i) (by omega)
       have c2 := hcc j (by omega)
       rw [hui] at c1
       clear hcc
       have hu1 : ((u + 1 : Nat) : Int) = (u : Int) + 1 := by omega
       by_cases hz : mx l i j = 0
       · have HZ2 : Hid (∀ k, n <= k -> k < i + 1 -> mx l k j = 0) := fun k h1 h2 => by
          rcases Nat.lt_or_eq_of_le (Nat.le_of_lt_succ h2) with h3 | h3
          · exact HZ.out k h1 h3
          · rw [h3]; exact hz
         rw [hz] at c2
         clear HZ hz hl hui
         go_wp2
         go_roundw
         case rel => exact ⟨i + 1, rfl, by go_num, by omega, by omega, HZ2, HX⟩
         case measure => simp [intOf]; omega
       · have hz2 : (mx l i j == 0) = false := beq_eq_false_iff_ne.2 hz
         by_cases hju : j = u
         · have HN := hide (fun x => (show Gau p r u u ps l0 l by have := HE.out; rwa [hju] at this).no hp0 (i := i) (by rw [Hn.out]; exact hni) hlt (by rw [<- hju]; exact hz) x)
           have hB := HX.out.below
           subst hju
           generalize mx l i j = y at *
           clear HZ hl hui HE HX
           go_wp2
           go_ret2
           exact ⟨_, _, rfl, .inr ⟨rfl, rfl, HN.out⟩, hB⟩
         · have hjl : j < u := by omega
           have hjn : ((j : Int) == (u : Int)) = false := beq_eq_false_iff_ne.2 (by omega)
           obtain ⟨gn, kn, hun, _, _, _, _⟩ := HX.out.mtx.one (i := n) (by omega) (by rw [HE.out.cols n (by omega)]; omega)
           rw [HE.out.cols n (by omega)] at hun
           have c3 := HX.out.mtx.cell (i := n) (by omega)
           rw [hun] at c3
           have f1 := slv_free HX.out.mtx i
           have f2 := slv_free HX.out.mtx n
           have HT := hide (HX.out.turn hl.symm hGl (a := i) (b := n) (by omega) (by omega) hun hui)
           have HE2 := hide (HE.out.turn (i := i) (by rw [Hn.out]; exact hni) hlt)
           rw [Hn.out] at HE2
           have HY : Hid (mx (swp [] l i n) n j = mx l i j) := by
            show _ = _
            unfold mx
            rw [swp_at _ _ (by omega) (by omega), if_pos rfl]
           have hni0 : (0 : Int) <= (n : Int) := Int.natCast_nonneg _
           have hii0 : (0 : Int) <= (i : Int) := Int.natCast_nonneg _
           have hnI : (n : Int) < (r : Int) := by omega
           have hiI : (i : Int) < (r : Int) := by omega
           obtain ⟨y, Hy⟩ : ∃ y, Hid (mx l i j = y) := ⟨_, rfl⟩
           rw [Hy.out] at c2 hz hz2 HY
           obtain ⟨us2, Hus⟩ : ∃ us2, Hid (swp nov us i n = us2) := ⟨_, rfl⟩
           obtain ⟨l2, Hl2⟩ : ∃ l2, Hid (swp [] l i n = l2) := ⟨_, rfl⟩
           rw [Hus.out, Hl2.out] at HT
           rw [Hl2.out] at HE2 HY
           clear hl HX HE HZ hui hun Hy Hus Hl2 hju
           go_upto_region 13 with fail
           go_cut [] from 47 to 146 (fun wx => Hid (Slv w wx lo (.slice (some ⟨G, 0, none⟩) r CAP) us2 l2 (.slice aa n ca) ps))
           case first =>
            by_cases hin : i = n
            · subst hin
              rw [c1] at c3
              injection c3 with c3
              injection c3 with c4 _ c5
              injection c4 with c4
              injection c4 with c4 _ _
              subst c4 c5
              go_region
              go_wp2_with fail
              go_meet
              exact HT
            · have hin2 : ¬ n = i := fun e => hin e.symm
              go_region
              go_wp2_with fail
              go_meet
              exact HT
           case rest =>
            have HT2 := hcut
            clear HT c1 c2 c3 f1 f2 hir hlt hni hz2
            have hnlt : n < r := by omega
            have hl2 := HE2.out.len
            obtain ⟨gm, km, hum, hgm0, hgm1, _, hcm⟩ := HT2.out.mtx.one (i := n) (by omega) (by rw [HE2.out.cols n hnlt]; omega)
            rw [HE2.out.cols n hnlt] at hum hcm
            have c1 := HT2.out.mtx.cell (i := n) (by omega)
            rw [hum] at c1
            have c2 := hcm j (by omega)
            rw [HY.out] at c2
            have Hum := hide hum
            have hye : El p y := by rw [<- HY.out]; exact gau_el HE2.out hp0 hnlt j
            have HTu := hide (fun W => rTurned_any p y W hp1 (by omega) hye)
            have HYu := hide (And.intro hye hz)
            have hdd : El p (inv p y) := pow_el hp0
            have HDD := hide hdd
            obtain ⟨dd, Hdd⟩ : ∃ dd, Hid (inv p y = dd) := ⟨_, rfl⟩
            rw [Hdd.out] at HTu HDD
            have HYd : Hid (mul p y dd = 1) := by show _ = _; rw [<- Hdd.out]; exact mul_inv HM.out y HYu.out.1 HYu.out.2
            have hMs := HT2.out
            rw [<- set_same l2 [] (k := n) (by omega)] at hMs
            have HMs := hide hMs
            have hcl := HE2.out.cols n hnlt
            clear hcm hum hl2 hye hz hdd HT2 hMs
            go_wp2_with (go_at_call 126; refine (HTu.out _).mono ?_; rintro e w3 ⟨rfl, hw⟩; rw [hw]; clear hw)
            clear c1 c2 HTu
            go_loopw [14] (fun v14 wk => ∃ (m : Nat) (rw : List Int), v14 = .int .i64 m ∧ m <= u + 1 ∧ rw.length = u + 1 ∧ Hid (∀ m', m' < m -> co rw m' = mul p (mx l2 n m') dd) ∧ Hid (∀ m', m <= m' -> m' < u + 1 -> co rw m' = mx l2 n m') ∧ Hid (Slv w wk lo (.slice (some ⟨G, 0, none⟩) r CAP) us2 (l2.set n rw) (.slice aa n ca) ps)) (fun v14 _ => u + 1 - (intOf v14).toNat)
            case atStart => exact ⟨0, l2.getD n [], rfl, Nat.zero_le _, hcl, (fun m' h => by omega), (fun m' _ _ => rfl), HMs⟩
            case round =>
             clear HMs hcl
             obtain ⟨m, rw, rfl, hmc, hrl, HD1, HD2, HX4⟩ := hrel
             have hl2 := HE2.out.len
             have hset : ∀ i, (l2.set n rw).getD i [] = if i = n then rw else l2.getD i [] := fun i => Rnk.getD_set l2 [] rw (by omega) i
             have c1 := HX4.out.mtx.cell (i := n) (by rw [List.length_set]; omega)
             rw [Hum.out] at c1
             by_cases hm : m <= u
             · have d1 := HX4.out.mtx.at (i := n) (by rw [List.length_set]; omega) Hum.out (by rw [hset, if_pos rfl]; exact hrl) (show m < u + 1 by omega)
               have e1 : mx (l2.set n rw) n m = mx l2 n m := by
                show co ((l2.set n rw).getD n []) m = _
                rw [hset, if_pos rfl]; exact HD2.out m (Nat.le_refl _) (by omega)
               rw [e1] at d1
               obtain ⟨d1, d1f⟩ := d1
               have ye := gau_el HE2.out hp0 hnlt m
               have yw := elWord HDD.out hp1
               have HTi := hide (fun W => rTimes_any p (mx l2 n m) dd W hp1 ye yw.1 yw.2)
               have HP4 := hide (fun nq => (HX4.out.drewN nq).put (k := n) (by rw [List.length_set]; omega) Hum.out (by rw [hset, if_pos rfl]; exact hrl.symm) hgm0 m (mul p (mx l2 n m) dd))
               have e5 : (l2.set n rw).set n (((l2.set n rw).getD n []).set m (mul p (mx l2 n m) dd)) = l2.set n (rw.set m (mul p (mx l2 n m) dd)) := by
                rw [hset, if_pos rfl, List.set_set]
               rw [e5] at HP4
               have HD3 : Hid (∀ m', m' < m + 1 -> co (rw.set m (mul p (mx l2 n m) dd)) m' = mul p (mx l2 n m') dd) := fun m' h' => by
                rw [co_set _ _ _ _ (by omega)]
                by_cases e : m' = m
                · rw [if_pos e, e]
                · rw [if_neg e]; exact HD1.out m' (by omega)
               have HD4 : Hid (∀ m', m + 1 <= m' -> m' < u + 1 -> co (rw.set m (mul p (mx l2 n m) dd)) m' = mx l2 n m') := fun m' h' h'' => by
                rw [co_set _ _ _ _ (by omega), if_neg (by omega)]; exact HD2.out m' (by omega) h''
               have hrl2 : (rw.set m (mul p (mx l2 n m) dd)).length = u + 1 := by rw [List.length_set]; exact hrl
               have n0 : (0 : Int) <= (n : Int) := Int.natCast_nonneg _
               have m0 : (0 : Int) <= (m : Int) := Int.natCast_nonneg _
               have n1 : (n : Int) < (r : Int) := by omega
               have m1 : (m : Int) < ((u + 1 : Nat) : Int) := by omega
               have m2 : (m : Int) <= (u : Int) := by omega
               clear e1 e5 hset hl2 ye yw HD1 HD2 HX4 hu1
               generalize rw.set m (mul p (mx l2 n m) dd) = rw2 at *
               generalize hz9 : mul p (mx l2 n m) dd = z at *
               clear hz9
               generalize mx l2 n m = xx at *
               go_upto_region 18 with fail
               refine wp_region_last (by kernel_rfl) (by kernel_rfl) (by kernel_rfl) ?_
               simp only [List.dropLast]
               repeat (go_big_quiet_step (first
                | (go_at_call 71; exact Calls.quiet_of_same (HTi.out _))))
               refine wpQuiet_nil ?_
               intro _ hw'
               obtain ⟨nq, hw''⟩ := hw'
               subst hw''
               simp only [lastL]
               go_wp2
               have R1 := hide (HP4.out nq)
               go_roundw
               case rel => exact ⟨m + 1, rw2, by go_num, by omega, hrl2, HD3, HD4, R1⟩
               case measure => simp [intOf]; omega
             · have hE3 := HE2.out.one hp0 hjc (by rw [Hn.out]; exact hnlt) (one_dvd HYd.out) (row := rw) hrl (by rw [Hn.out]; exact fun m' h' => HD1.out m' (by omega))
               rw [Hn.out] at hE3
               have HE3 := hide hE3
               have H31 : Hid (mx (l2.set n rw) n j = 1) := by
                show co ((l2.set n rw).getD n []) j = 1
                rw [hset, if_pos rfl, HD1.out j (by omega), HY.out]; exact HYd.out
               obtain ⟨l3, Hl3⟩ : ∃ l3, Hid (l2.set n rw = l3) := ⟨_, rfl⟩
               rw [Hl3.out] at HE3 H31 HX4
               have hmu : m = u + 1 := by omega
               subst hmu
               clear hE3 HE2 HD1 HD2 hset hl2 Hl3 HY HYd HYu HDD Hdd c1 hrl hmc
               go_wp2_with fail
               go_loopw [15] (fun v15 wk => ∃ (k : Nat) (l4 : List (List Int)), v15 = .int .i64 k ∧ k <= r ∧ Hid (Gau p r u j ps l0 l4) ∧ Hid (mx l4 n j = 1) ∧ Hid (∀ k', k' < k -> k' ≠ n -> mx l4 k' j = 0) ∧ Hid (Slv w wk lo (.slice (some ⟨G, 0, none⟩) r CAP) us2 l4 (.slice aa n ca) ps)) (fun v15 _ => r - (intOf v15).toNat)
               case atStart => exact ⟨0, l3, rfl, Nat.zero_le _, HE3, H31, (fun k' h _ => by omega), HX4⟩
               case round =>
                clear HE3 H31 HX4
                obtain ⟨k, l4, rfl, hkr, HE4, H41, HZ4, HX5⟩ := hrel
                by_cases hk : k < r
                · have hl4 := HE4.out.len
                  obtain ⟨gk, kk, huk, hgk0, hgk1, _, hck⟩ := HX5.out.mtx.one (i := k) (by omega) (by rw [HE4.out.cols k hk]; omega)
                  rw [HE4.out.cols k hk] at huk hck
                  have c1 := HX5.out.mtx.cell (i := k) (by omega)
                  rw [huk] at c1
                  have c2 := hck j (by omega)
                  have k0 : (0 : Int) <= (k : Int) := Int.natCast_nonneg _
                  have k1 : (k : Int) < (r : Int) := by omega
                  by_cases hkn : k = n
                  · have HZ5 : Hid (∀ k', k' < k + 1 -> k' ≠ n -> mx l4 k' j = 0) := fun k' h1 h2 => HZ4.out k' (by omega) h2
                    subst hkn
                    rw [H41.out] at c2
                    clear hck huk hl4 HZ4
                    go_wp2_with fail
                    refine wp_loop_rounds 1 ?_
                    rw [rounds_succ]
                    go_wp2
                    go_roundw
                    case rel => exact ⟨k + 1, l4, by go_num, by omega, HE4, H41, HZ5, HX5⟩
                    case measure => simp [intOf]; omega
                  · have hkb : ((k : Int) != (n : Int)) = true := bne_iff_ne.2 (by omega)
                    have hce : El p (mx l4 k j) := gau_el HE4.out hp0 hk j
                    obtain ⟨c, Hc⟩ : ∃ c, Hid (mx l4 k j = c) := ⟨_, rfl⟩
                    rw [Hc.out] at c2 hce
                    by_cases hc0 : c = 0
                    · have HZ5 : Hid (∀ k', k' < k + 1 -> k' ≠ n -> mx l4 k' j = 0) := fun k' h1 h2 => by
                       rcases Nat.lt_or_eq_of_le (Nat.le_of_lt_succ h1) with h3 | h3
                       · exact HZ4.out k' h3 h2
                       · rw [h3, Hc.out]; exact hc0
                      subst hc0
                      clear hck huk hl4 HZ4 hce Hc
                      go_wp2_with fail
                      refine wp_loop_rounds 1 ?_
                      rw [rounds_succ]
                      go_wp2
                      go_roundw
                      case rel => exact ⟨k + 1, l4, by go_num, by omega, HE4, H41, HZ5, HX5⟩
                      case measure => simp [intOf]; omega
                    · have hcb : (c != 0) = true := bne_iff_ne.2 hc0
                      have hcl := HE4.out.cols k hk
                      have Huk := hide huk
                      have hMs := HX5.out
                      rw [<- set_same l4 [] (k := k) (by omega)] at hMs
                      have HMs := hide hMs
                      have HCe := hide hce
                      clear hck huk hl4 HX5 hMs hce hc0
                      go_wp2_with fail
                      clear c1 c2
                      go_loopw [17] (fun v17 wm => ∃ (m : Nat) (rw : List Int), v17 = .int .i64 m ∧ m <= u + 1 ∧ rw.length = u + 1 ∧ Hid (∀ m', m' < m -> co rw m' = sub p (mx l4 k m') (mul p c (mx l4 n m'))) ∧ Hid (∀ m', m <= m' -> m' < u + 1 -> co rw m' = mx l4 k m') ∧ Hid (Slv w wm lo (.slice (some ⟨G, 0, none⟩) r CAP) us2 (l4.set k rw) (.slice aa n ca) ps)) (fun v17 _ => u + 1 - (intOf v17).toNat)
                      case atStart => exact ⟨0, l4.getD k [], rfl, Nat.zero_le _, hcl, (fun m' h => by omega), (fun m' _ _ => rfl), HMs⟩
                      case round =>
                       clear HMs hcl
                       obtain ⟨m, rw, rfl, hmc, hrl, HD1, HD2, HX4⟩ := hrel
                       have hl3 := HE4.out.len
                       have hset : ∀ i, (l4.set k rw).getD i [] = if i = k then rw else l4.getD i [] := fun i => Rnk.getD_set l4 [] rw (by omega) i
                       have c1 := HX4.out.mtx.cell (i := k) (by rw [List.length_set]; omega)
                       have c3 := HX4.out.mtx.cell (i := n) (by rw [List.length_set]; omega)
                       rw [Huk.out] at c1
                       rw [Hum.out] at c3
                       by_cases hm : m <= u
                       · have d1 := HX4.out.mtx.at (i := k) (by rw [List.length_set]; omega) Huk.out (by rw [hset, if_pos rfl]; exact hrl) (show m < u + 1 by omega)
                         have d2 := HX4.out.mtx.at (i := n) (by rw [List.length_set]; omega) Hum.out (by rw [hset, if_neg (fun e => hkn e.symm)]; exact HE4.out.cols n hnlt) (show m < u + 1 by omega)
                         have e1 : mx (l4.set k rw) k m = mx l4 k m := by
                          show co ((l4.set k rw).getD k []) m = _
                          rw [hset, if_pos rfl]; exact HD2.out m (Nat.le_refl _) (by omega)
                         have e2 : mx (l4.set k rw) n m = mx l4 n m := by
                          show co ((l4.set k rw).getD n []) m = _
                          rw [hset, if_neg (fun e => hkn e.symm)]; rfl
                         rw [e1] at d1
                         rw [e2] at d2
                         obtain ⟨d1, d1f⟩ := d1
                         obtain ⟨d2, _⟩ := d2
                         have xe := gau_el HE4.out hp0 hk m
                         have ye := gau_el HE4.out hp0 hnlt m
                         have yw := elWord ye hp1
                         have HTi := hide (fun W => rTimes_any p c (mx l4 n m) W hp1 HCe.out yw.1 yw.2)
                         have HLe := hide (fun W => rLess_any p (mx l4 k m) (mul p c (mx l4 n m)) W hp1 xe (mul_el hp0))
                         have HP4 := hide (fun nq => (HX4.out.drewN nq).put (k := k) (by rw [List.length_set]; omega) Huk.out (by rw [hset, if_pos rfl]; exact hrl.symm) hgk0 m (sub p (mx l4 k m) (mul p c (mx l4 n m))))
                         have e5 : (l4.set k rw).set k (((l4.set k rw).getD k []).set m (sub p (mx l4 k m) (mul p c (mx l4 n m)))) = l4.set k (rw.set m (sub p (mx l4 k m) (mul p c (mx l4 n m)))) := by
                          rw [hset, if_pos rfl, List.set_set]
                         rw [e5] at HP4
                         have HD3 : Hid (∀ m', m' < m + 1 -> co (rw.set m (sub p (mx l4 k m) (mul p c (mx l4 n m)))) m' = sub p (mx l4 k m') (mul p c (mx l4 n m'))) := fun m' h' => by
                          rw [co_set _ _ _ _ (by omega)]
                          by_cases e : m' = m
                          · rw [if_pos e, e]
                          · rw [if_neg e]; exact HD1.out m' (by omega)
                         have HD4 : Hid (∀ m', m + 1 <= m' -> m' < u + 1 -> co (rw.set m (sub p (mx l4 k m) (mul p c (mx l4 n m)))) m' = mx l4 k m') := fun m' h' h'' => by
                          rw [co_set _ _ _ _ (by omega), if_neg (by omega)]; exact HD2.out m' (by omega) h''
                         have hrl2 : (rw.set m (sub p (mx l4 k m) (mul p c (mx l4 n m)))).length = u + 1 := by rw [List.length_set]; exact hrl
                         have n0 : (0 : Int) <= (n : Int) := Int.natCast_nonneg _
                         have m0 : (0 : Int) <= (m : Int) := Int.natCast_nonneg _
                         have n1 : (n : Int) < (r : Int) := by omega
                         have m1 : (m : Int) < ((u + 1 : Nat) : Int) := by omega
                         have m2 : (m : Int) <= (u : Int) := by omega
                         clear e1 e2 e5 hset hl3 xe ye yw HD1 HD2 HX4 hu1
                         generalize rw.set m (sub p (mx l4 k m) (mul p c (mx l4 n m))) = rw2 at *
                         generalize hz9 : sub p (mx l4 k m) (mul p c (mx l4 n m)) = z at *
                         clear hz9
                         generalize hz8 : mul p c (mx l4 n m) = q at *
                         clear hz8
                         generalize mx l4 k m = xx at *
                         generalize mx l4 n m = yy at *
                         go_upto_region 26 with fail
                         refine wp_region_last (by kernel_rfl) (by kernel_rfl) (by kernel_rfl) ?_
                         simp only [List.dropLast]
                         repeat (go_big_quiet_step (first
                          | (go_at_call 71; exact Calls.quiet_of_same (HTi.out _))
                          | (go_at_call 97; exact Calls.quiet_of_same (HLe.out _))))
                         refine wpQuiet_nil ?_
                         intro _ hw'
                         obtain ⟨nq, hw''⟩ := hw'
                         subst hw''
                         simp only [lastL]
                         go_wp2
                         have R1 := hide (HP4.out nq)
                         go_roundw
                         case rel => exact ⟨m + 1, rw2, by go_num, by omega, hrl2, HD3, HD4, R1⟩
                         case measure => simp [intOf]; omega
                       · have hE5 := HE4.out.off hp0 hjc (by rw [Hn.out]; exact hnlt) (k := k) hk (by rw [Hn.out]; exact hkn) (c := c) hrl (by rw [Hn.out]; exact fun m' h' => HD1.out m' (by omega))
                         have HE5 := hide hE5
                         have H51 : Hid (mx (l4.set k rw) n j = 1) := by
                          show co ((l4.set k rw).getD n []) j = 1
                          rw [hset, if_neg (fun e => hkn e.symm)]; exact H41.out
                         have HZ5 : Hid (∀ k', k' < k + 1 -> k' ≠ n -> mx (l4.set k rw) k' j = 0) := fun k' h' h'' => by
                          show co ((l4.set k rw).getD k' []) j = 0
                          rw [hset]
                          by_cases e : k' = k
                          · rw [if_pos e, HD1.out j (by omega), H41.out, Hc.out]
                            exact sub_self HCe.out
                          · rw [if_neg e]; exact HZ4.out k' (by omega) h''
                         have hmu : m = u + 1 := by omega
                         subst hmu
                         clear hE5 HE4 H41 HZ4 HD1 HD2 hset hl3 Hc hrl hmc
                         go_wp2
                         go_roundw
                         case rel => exact ⟨k + 1, by go_num, by omega, l4.set k rw, HE5, H51, HZ5, HX4⟩
                         case measure => simp [intOf]; omega
                · obtain rfl : k = r := by omega
                  have hE6 := HE4.out.found (by rw [Hn.out]; exact hnlt) (fun k' h' => by
                   rw [Hn.out]
                   by_cases e : k' = n
                   · rw [if_pos e, e]; exact H41.out
                   · rw [if_neg e]; exact HZ4.out k' h' e)
                  have HE6 := hide hE6
                  have HC6 : Hid (∀ c ∈ ps ++ [j], c < u) := fun c hc => by
                   rcases List.mem_append.1 hc with e | e
                   · exact HC.out c e
                   · rw [List.mem_singleton.1 e]; exact hjl
                  have hX5 := HX5.out
                  have hps : ps.length <= 100000 := by rw [Hn.out]; omega
                  obtain ⟨au, cu, W5, hr9, hS5⟩ := hX5.app j hps
                  rw [Hn.out] at hr9 hS5
                  have HS5 := hide hS5
                  have hpl : (ps ++ [j]).length = n + 1 := by rw [List.length_append, List.length_singleton, Hn.out]
                  have HPL := hide hpl
                  clear hE6 HE4 H41 HZ4 HX5 hX5 hS5 hpl hps
                  go_wp2_with (at_builtin; refine Lib.wpList_append_run _ rfl _ _ _ _ rfl _ _ rfl rfl _ _ hr9 ?_)
                  go_roundw
                  case rel => exact ⟨j + 1, ps ++ [j], us2, l4, au, cu, by rw [HPL.out], by go_num, by omega, HE6, HC6, by rw [HPL.out]; exact HS5⟩
                  case measure => simp [intOf]; omega
     · obtain rfl : i = r := by omega
       have HE2 := hide (HE.out.none (by rw [Hn.out]; exact HZ.out))
       clear HE HZ
       go_wp2
       go_roundw
       case rel => exact ⟨j + 1, ps, us, l, aa, ca, by rw [Hn.out], by go_num, by omega, HE2, HC, by rw [Hn.out]; exact HX⟩
       case measure => simp [intOf]; omega
  · obtain rfl : j = u + 1 := by omega
    obtain ⟨w9, rfl⟩ : ∃ w9, w9 = wr := ⟨wr, rfl⟩
    have HMk := makeX u (by omega)
    have hB9 := own_newX (W := w9) (base := w9.heap.size) (T := 64) (n := u) (Nat.le_refl _) (zrX_len u) (by omega)
    have HO9 := hide hB9
    have HA9 := hide (alloc_below w9 (.cells (zrX u).toArray 64))
    clear hB9 hj hjc
    go_wp2_with fail
    generalize w9.alloc (.cells (zrX u).toArray 64) = W1 at *
    have HQ0 := hide (slv_begin (p := p) (l := l) (ps := ps) hp0 HO9.out)
    clear HO9 HMk
    go_loopw [19] (fun v19 wx => ∃ (i : Nat) (X : List Int), v19 = .int .i64 i ∧ i <= n ∧ X.length = u ∧ Hid (SlvX p u l ps i X) ∧ Hid (wx.ownsRow w9.heap.size 64 1 (.slice (some ⟨w9.heap.size, 0, none⟩) u u) u (vals X)) ∧ Below w9.heap.size w9 wx) (fun v19 _ => n - (intOf v19).toNat)
    case atStart => exact ⟨0, List.replicate u 0, rfl, Nat.zero_le _, by simp, HQ0.out.1, HQ0.out.2, HA9.out⟩
    case round =>
     clear HQ0 HA9
     obtain ⟨i, X, rfl, hin, hXl, HQ, HO, hB⟩ := hrel
     by_cases hi : i < n
     · have hl := HE.out.len
       have hS := HX.out.next hB
       have hir : i < r := by omega
       obtain ⟨gi, ki, hui, _, _, _, hcc⟩ := hS.mtx.one (i := i) (by omega) (by rw [HE.out.cols i hir]; omega)
       rw [HE.out.cols i hir] at hui hcc
       obtain ⟨G, cG, hG, hGl, hGt, hGc⟩ := hS.mtx.spell (by omega)
       injection hG with hG1 hG2 hG3
       subst hG1
       subst hG3
       clear hG2
       have c1 := hS.mtx.cell (i := i) (by omega)
       have c2 := hcc u (by omega)
       rw [hui] at c1
       obtain ⟨ga, rfl, c3⟩ := nms_cell hS.row (i := i) (by rw [Hn.out]; exact hi)
       have hpu : ps.getD i 0 < u := HC.out _ (by rw [List.getD_eq_getElem?_getD, List.getElem?_eq_getElem (by rw [Hn.out]; exact hi)]; exact List.getElem_mem _)
       have xe := gau_el HE.out hp0 hir u
       have c4 := own_cell HO.out hXl hpu
       have f4 := free_own HO.out (ps.getD i 0)
       have HQ2 := hide (HQ.out.next HE.out.nd (by rw [Hn.out]; exact hi) (by rw [hXl]; exact hpu) xe)
       have hXl2 : (X.set (ps.getD i 0) (mx l i u)).length = u := by rw [List.length_set]; exact hXl
       have i0 : (0 : Int) <= (i : Int) := Int.natCast_nonneg _
       have i1 : (i : Int) < (r : Int) := by omega
       have i2 : (i : Int) < (n : Int) := by omega
       have u0 : (0 : Int) <= (u : Int) := Int.natCast_nonneg _
       have u1 : (u : Int) < ((u + 1 : Nat) : Int) := by omega
       have q0 : (0 : Int) <= ((ps.getD i 0 : Nat) : Int) := Int.natCast_nonneg _
       have q1 : ((ps.getD i 0 : Nat) : Int) < (u : Int) := by omega
       have HOO := hide HO.out
       clear HQ hS hui hcc hl xe HO
       generalize hz7 : X.set (ps.getD i 0) (mx l i u) = X2 at *
       generalize hz8 : ps.getD i 0 = q at *
       generalize hz9 : mx l i u = z at *
       generalize X.getD q 0 = zo at *
       have HX2 : Hid (X.set q z = X2) := by show _ = _; rw [<- hz7]
       clear hz7 hz8 hz9
       go_upto_region 32 with fail
       refine wp_region_last (by kernel_rfl) (by kernel_rfl) (by kernel_rfl) ?_
       simp only [List.dropLast]
       repeat (go_big_quiet_step (fail))
       refine wpQuiet_nil ?_
       intro _ hw'
       obtain ⟨nq, hw''⟩ := hw'
       subst hw''
       simp only [lastL]
       go_wp2
       have R1 := own_here (k := q) (z := z) (own_below HOO.out (below_drewN (Below.refl _ _) nq))
       rw [HX2.out] at R1
       have R2 := hide R1
       have R3 := (below_drewN hB nq).setCell (p := ⟨w9.heap.size, q, none⟩) (Nat.le_refl _) (.int .u64 z)
       clear R1
       go_roundw
       case rel => exact ⟨i + 1, X2, by go_num, by omega, hXl2, HQ2, R2, R3⟩
       case measure => simp [intOf]; omega
     · obtain rfl : i = n := by omega
       have hX9 := HX.out
       have hB9 := hX9.below.trans (hB.mono hX9.low)
       have hsol : Sol p r u l0 (co X) := HE.out.yes HC.out (fun i' hi' => by
        have := HQ.out.here i' (by rw [<- Hn.out]; exact hi')
        rwa [List.getD_eq_getElem?_getD, List.getElem?_eq_getElem hi'] at this) (fun m hm hno => HQ.out.none m hm (fun c => hno (List.mem_of_mem_take c)))
       have HSA : Hid (∀ w', SlvA p r u l0 lo w' (.slice (some ⟨w9.heap.size, 0, none⟩) u u) true ∨ ¬ w'.ownsRow lo 64 1 (.slice (some ⟨w9.heap.size, 0, none⟩) u u) u (vals X)) := fun w' => by
        by_cases c : w'.ownsRow lo 64 1 (.slice (some ⟨w9.heap.size, 0, none⟩) u u) u (vals X)
        · exact .inl (.inl ⟨rfl, X, hXl, HQ.out.els, hsol, c, _, rfl⟩)
        · exact .inr c
       have HOO := hide (own_mono HO.out hX9.low)
       clear hX9 hsol HQ HE HX HC HO
       go_wp2
       go_ret2
       exact ⟨_, _, rfl, (HSA.out _).resolve_right (fun c => c HOO.out), hB9⟩
end Go.Proofs.YtjhididlcdepdaaGreat
namespace Go.Proofs.YtjhididlcdepdaaGreat
open Go.RowKit Fld
theorem vals_append (a b : List Int) : vals (a ++ b) = vals a ++ vals b := by unfold vals; rw [List.map_append]
theorem appW1 (W : World) (base : Nat) (u : Value) (A : List Int) (a : Addr) (x : Int) (hO : W.ownsRow base 64 1 u A.length (vals A)) (hc : W.cell? a = some (.int .u64 x)) (hl : A.length <= 100000) (hb : base <= W.heap.size) :
 ∃ (au' : Option Addr) (cu' : Nat) (W' : World), (Builtin.append_ #[36, 36] 36 #[u, .slice (some a) 1 1]).run Tryz.prog W = .ok (.slice au' (A.length + 1) cu') W' ∧ W'.ownsRow base 64 1 (.slice au' (A.length + 1) cu') (A ++ [x]).length (vals (A ++ [x])) ∧ Below base W W' ∧ W.grownBy W' u.ownBlock ∧ ((Value.slice au' (A.length + 1) cu').ownBlock = u.ownBlock ∨ (Value.slice au' (A.length + 1) cu').ownBlock = some W.heap.size) := by
 obtain ⟨i0, hi0, hz0, hz1, hz2⟩ := info_parts u64_info
 obtain ⟨v', W', hr, ho, hg, _, hbk⟩ := run_append_own_at (P := Tryz.prog) (w := W) base 36 36 64 i0 (.int .u64 0) 1 8 Tryz.underlying36 hi0 hz0 hz1 hz2 rfl (by decide) u A.length (vals A) hO a 1 1 [.int .u64 x] rfl (fun j u hj => by
  cases j with
  | zero => simp at hj; rw [<- hj]; exact hc
  | succ j => simp at hj) (by simp [Value.oneCell']) (by unfold maxLen; omega) (by omega) hb
 obtain ⟨au', cu', rfl⟩ := own_form ho
 refine ⟨au', cu', W', hr, ?_, (Below.refl base W).grown hg hb (fun k hk => own_base hO k hk), hg, hbk⟩
 rw [vals_append, List.length_append]; exact ho
end Go.Proofs.YtjhididlcdepdaaGreat
namespace Go.Proofs.YtjhididlcdepdaaGreat
open Go.RowKit Fld Rnk
def rwl (p : Int) (n w : Nat) (xs ys : List Int) (i : Nat) : List Int := mk (n + w + 1) (wrow p n w (co xs i) (co ys i))
def rwsl (p : Int) (n w : Nat) (xs ys : List Int) (k : Nat) : List (List Int) := (List.range k).map (rwl p n w xs ys)
theorem rwl_len (p : Int) (n w : Nat) (xs ys : List Int) (i : Nat) : (rwl p n w xs ys i).length = n + w + 1 := mk_len _ _
theorem rwsl_len (p : Int) (n w : Nat) (xs ys : List Int) (k : Nat) : (rwsl p n w xs ys k).length = k := by simp [rwsl]
theorem rwsl_snoc (p : Int) (n w : Nat) (xs ys : List Int) (k : Nat) : rwsl p n w xs ys k ++ [rwl p n w xs ys k] = rwsl p n w xs ys (k + 1) := by simp [rwsl, List.range_succ]
theorem rwsl_at (p : Int) (n w : Nat) (xs ys : List Int) {k i : Nat} (hi : i < k) : (rwsl p n w xs ys k).getD i [] = rwl p n w xs ys i := by
 simp [rwsl, List.getD_eq_getElem?_getD, hi]
theorem wrow_el {p : Int} (hp : 0 < p) (n w : Nat) (x y : Int) (m : Nat) : El p (wrow p n w x y m) := by
 unfold wrow
 split
 · exact px_el hp _ _
 · split
   · exact sub_el hp
   · exact mul_el hp
theorem rwl_els {p : Int} (hp : 0 < p) (n w : Nat) (xs ys : List Int) (i : Nat) : Els p (rwl p n w xs ys i) := Els.mk _ (fun m _ => wrow_el hp n w _ _ m)
theorem rwsl_mx (p : Int) (n w : Nat) (xs ys : List Int) {k i m : Nat} (hi : i < k) (hm : m <= n + w) : mx (rwsl p n w xs ys k) i m = wrow p n w (co xs i) (co ys i) m := by
 unfold mx
 rw [rwsl_at _ _ _ _ _ hi]
 unfold rwl
 rw [co_mk, if_pos (by omega)]
theorem sl_info17 : (Tryz.prog.info? 36).map (fun i => (i.zero, i.size, i.bytes)) = some (some (.slice none 0 0), 1, 24) := by kernel_rfl
theorem appS1 (W : World) (base : Nat) (u : Value) (n : Nat) (us : List Value) (a : Addr) (ao : Option Addr) (m c : Nat) (hO : W.ownsRow base 36 1 u n us) (hc : W.cell? a = some (.slice ao m c)) (hl : n <= 100000) (hb : base <= W.heap.size) :
 ∃ (au' : Option Addr) (cu' : Nat) (W' : World), (Builtin.append_ #[26, 26] 26 #[u, .slice (some a) 1 1]).run Tryz.prog W = .ok (.slice au' (n + 1) cu') W' ∧ W'.ownsRow base 36 1 (.slice au' (n + 1) cu') (n + 1) (us ++ [.slice ao m c]) ∧ Below base W W' ∧ W.grownBy W' u.ownBlock := by
 obtain ⟨i0, hi0, hz0, hz1, hz2⟩ := info_parts sl_info17
 obtain ⟨v', W', hr, ho, hg, _, hbk⟩ := run_append_own_at (P := Tryz.prog) (w := W) base 26 26 36 i0 (.slice none 0 0) 1 24 Tryz.underlying26 hi0 hz0 hz1 hz2 rfl (by decide) u n us hO a 1 1 [.slice ao m c] rfl (fun j u hj => by
  cases j with
  | zero => simp at hj; rw [<- hj]; exact hc
  | succ j => simp at hj) (by simp [Value.oneCell']) (by unfold maxLen; omega) (by omega) hb
 obtain ⟨au', cu', rfl⟩ := own_form ho
 exact ⟨au', cu', W', hr, ho, (Below.refl base W).grown hg hb (fun k hk => own_base hO k hk), hg⟩
theorem appV (W : World) (base : Nat) (u : Value) (l : List Int) (x : Int) (hO : W.ownsRow base 64 1 u l.length (vals l)) (hl : l.length <= 100000) (hb : base <= W.heap.size) :
 ∃ (au' : Option Addr) (cu' : Nat) (W' : World), (Builtin.append_ #[36, 36] 36 #[u, .slice (some ⟨W.heap.size, 0, none⟩) 1 1]).run Tryz.prog (W.alloc (.cells #[.int .u64 x] 64)) = .ok (.slice au' (l.length + 1) cu') W' ∧ W'.ownsRow base 64 1 (.slice au' (l.length + 1) cu') (l.length + 1) (vals (l ++ [x])) ∧ Below base W W' := by
 have hab := alloc_below W (.cells #[.int .u64 x] 64)
 obtain ⟨au, cu, W', h1, h2, h3, _⟩ := appW1 (W.alloc (.cells #[.int .u64 x] 64)) base u l ⟨W.heap.size, 0, none⟩ x (own_below hO hab) (box_cell (heap_alloc_new W _)).1 hl (Nat.le_trans hb hab.size)
 rw [List.length_append, List.length_singleton] at h2
 exact ⟨au, cu, W', h1, h2, ((Below.refl base W).trans (hab.mono hb)).trans h3⟩
end Go.Proofs.YtjhididlcdepdaaGreat
