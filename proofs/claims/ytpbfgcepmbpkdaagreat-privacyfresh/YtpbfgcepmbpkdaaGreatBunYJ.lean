/- Texts laid together: ShdE, ShdF, PrdA, AppW, PrdB, PrdC, PrdD, PrdE. -/
import Derived.Test.YtpbfgcepmbpkdaaGreatBunHF
import Derived.Test.YtpbfgcepmbpkdaaGreatBunHD
import Derived.Test.YtpbfgcepmbpkdaaGreatBunYB
import Derived.Test.YtpbfgcepmbpkdaaGreatBunQ
import Derived.Maps.AppendAt
import Derived.Laws.OwnMore
import Derived.Lib.AppendZeros
import Derived.Test.YtpbfgcepmbpkdaaGreatBQMute
import Derived.Test.YtpbfgcepmbpkdaaGreatBunAU
import Derived.Test.YtpbfgcepmbpkdaaGreatBunYC
import Derived.Test.YtpbfgcepmbpkdaaGreatBunYH
import Derived.Test.YtpbfgcepmbpkdaaGreatBunIC
namespace Go.Proofs.YtpbfgcepmbpkdaaGreat
open Go.RowKit Fld Pln Shr
set_option linter.unusedVariables false
set_option linter.unusedSimpArgs false

/-- The error behind the names' bounds, and behind their number. -/
def opA (p : Pn) (who : List Int) (l : List (List Int)) : Int := if whoB p.n who then bdE p l (p.k + p.t) else 2
def opB (p : Pn) (who : List Int) (l : List (List Int)) : Int := if opA p who l = 0 ∧ ¬ (who.length : Int) = p.k + p.t then 3 else opA p who l
/-- The error while the names' bounds are asked. -/
def whE (n b0 : Int) (who : List Int) (k : Nat) : Int := if whoB n (who.take k) then b0 else 2
end Go.Proofs.YtpbfgcepmbpkdaaGreat

namespace Go.Proofs.YtpbfgcepmbpkdaaGreat
open Go.RowKit Fld Pln Shr
set_option linter.unusedVariables false
set_option linter.unusedSimpArgs false

/-- The error while names are held against each other. -/
def ndE (who : List Int) (k : Nat) : Int := if (who.take k).Nodup then 0 else 6
def inE (who : List Int) (k j : Nat) : Int := if who.getD k 0 ∈ who.take j then 6 else 0
theorem inE_eq {who : List Int} {k j : Nat} (hj : j < who.length) (h : who.getD k 0 = who.getD j 0) : inE who k (j + 1) = 6 := by
  unfold inE
  rw [← take_snocI hj, if_pos (List.mem_append.2 (.inr (List.mem_singleton.2 h)))]
theorem inE_ne {who : List Int} {k j : Nat} (hj : j < who.length) (h : ¬ who.getD k 0 = who.getD j 0) : inE who k (j + 1) = inE who k j := by
  unfold inE
  rw [← take_snocI hj]
  by_cases hc : who.getD k 0 ∈ who.take j
  · rw [if_pos hc, if_pos (List.mem_append.2 (.inl hc))]
  · rw [if_neg hc, if_neg (fun h2 => by
      rcases List.mem_append.1 h2 with h3 | h3
      · exact hc h3
      · exact h (List.mem_singleton.1 h3))]
theorem inE_end {who : List Int} {k : Nat} (hk : k < who.length) (hn : (who.take k).Nodup) : inE who k k = ndE who (k + 1) := by
  unfold inE ndE
  rw [← take_snocI hk]
  by_cases hc : who.getD k 0 ∈ who.take k
  · rw [if_pos hc, if_neg (fun h2 => (List.nodup_append.1 h2).2.2 _ hc _ (List.mem_singleton.2 rfl) rfl)]
  · rw [if_neg hc, if_pos (List.nodup_append.2 ⟨hn, by simp, fun a ha b hb e => hc (by rw [← List.mem_singleton.1 hb, ← e]; exact ha)⟩)]
end Go.Proofs.YtpbfgcepmbpkdaaGreat

namespace Go.Proofs.YtpbfgcepmbpkdaaGreat
open Go.RowKit Fld Pln Shr
set_option linter.unusedVariables false
set_option linter.unusedSimpArgs false

theorem pw_two {p : Pn} {who : List Int} {e : Int} (h : e = 2 ∨ whoB p.n who = false) : pwE p who e = 2 := by
  unfold pwE
  rw [if_neg]
  rintro ⟨h1, h2⟩
  rcases h with h | h
  · exact h1 h
  · rw [h] at h2; cases h2
theorem pw_else {p : Pn} {who : List Int} {e : Int} (h : e ≠ 2) (hw : whoB p.n who = true) (h0 : e ≠ 0) : pwE p who e = e := by
  unfold pwE
  rw [if_pos ⟨h, hw⟩, if_neg h0]
theorem pw_three {p : Pn} {who : List Int} (hw : whoB p.n who = true) (h : ¬ (who.length : Int) ≤ p.t) : pwE p who 0 = 3 := by
  unfold pwE
  rw [if_pos ⟨by decide, hw⟩, if_pos rfl, if_neg h]
theorem pw_nd {p : Pn} {who : List Int} (hw : whoB p.n who = true) (h : (who.length : Int) ≤ p.t) : pwE p who 0 = ndE who who.length := by
  unfold pwE ndE
  rw [if_pos ⟨by decide, hw⟩, if_pos rfl, if_pos h, List.take_length]
theorem nd_six {who : List Int} {k : Nat} (hk : k ≤ who.length) (h : ¬ ndE who k = 0) : ndE who who.length = 6 := by
  unfold ndE at h ⊢
  rw [List.take_length]
  refine if_neg (fun hn => h (if_pos ?_))
  exact hn.sublist (List.take_sublist k who)

set_option maxRecDepth 100000 in
set_option maxHeartbeats 800000 in
theorem dWorkers (p : Pn) (v : Value) (who : List Int) (e : Int) (w : World) (h : Lm iw 1 w v who) : Calls Tryz.prog 26 #[plv p, v, .int .i64 e] w fun e' w' => e' = .returned (.int .i64 (pwE p who e)) ∧ Below w.heap.size w w' := by
  have HN := hide (fun k hk hf => whoB_no (n := p.n) (l := who) (k := k) hk hf)
  have HY := hide (fun hy => whoB_yes (n := p.n) (l := who) hy)
  have HP2 := hide (fun h => pw_two (p := p) (who := who) (e := e) h)
  have HPe := hide (fun h hw h0 => pw_else (p := p) (who := who) (e := e) h hw h0)
  have HP3 : Hid (e = 0 → whoB p.n who = true → p.t < (who.length : Int) → pwE p who e = 3) := fun h0 hw h => by rw [h0]; exact pw_three hw (by omega)
  have HPn : Hid (e = 0 → whoB p.n who = true → (who.length : Int) ≤ p.t → pwE p who e = ndE who who.length) := fun h0 hw h => by rw [h0]; exact pw_nd hw h
  have HI1 := hide (fun k j hj h => inE_eq (who := who) (k := k) (j := j) hj h)
  have HI2 := hide (fun k j hj h => inE_ne (who := who) (k := k) (j := j) hj h)
  have HI3 := hide (fun k hk hn => inE_end (who := who) (k := k) hk hn)
  have HN6 := hide (fun k hk h => nd_six (who := who) (k := k) hk h)
  have HN0 : Hid (∀ k, ndE who k = 0 → (who.take k).Nodup) := fun k hk => by
    unfold ndE at hk
    split at hk
    · assumption
    · cases hk
  have HI0 : Hid (∀ k, inE who k 0 = 0) := fun k => by unfold inE; rw [List.take_zero]; simp
  obtain ⟨pb, hA⟩ := pb_box (w := w) p
  have HL := hide h
  have hlen := h.len
  obtain ⟨ao, cap, rfl, hcap⟩ := h.spell
  have HPb := hide pb
  clear h pb
  rw [plan_eq] at *
  generalize pwE p who e = res at *
  go_enter Tryz.func26, Tryz.ntmps26
  go_wp2_with fail
  generalize w.alloc (.cells #[.int .u8 p.f, .int .i64 p.n, .int .i64 p.k, .int .i64 p.t, .int .i64 p.s, .int .i64 p.e, .int .i64 p.d, .int .i64 p.w] 24) = W0 at *
  -- the walk
  go_loopw [2, 7] (fun ve vi wr => ∃ k : Nat, k ≤ who.length ∧ vi = .int .i64 k ∧ ((ve = .int .i64 e ∧ Hid (∀ i, i < k → 0 ≤ who.getD i 0 ∧ who.getD i 0 < p.n)) ∨ (ve = .int .i64 2 ∧ Hid (res = 2))) ∧ Below W0.heap.size W0 wr) (fun _ vi _ => who.length - (intOf vi).toNat)
  case atStart => exact ⟨0, Nat.zero_le _, rfl, .inl ⟨rfl, fun i hi => by omega⟩, Below.refl _ _⟩
  case round =>
    obtain ⟨k, hk, rfl, hst, hB⟩ := hrel
    rcases hst with ⟨rfl, HQ⟩ | ⟨rfl, HR⟩
    · by_cases he2 : e = 2
      · have HR := hide (HP2.out (.inl he2))
        subst he2
        clear HQ HN HY HP2 HPe HP3 HPn HI1 HI2 HI3 HN6 HN0 HI0 HL HPb
        by_cases hlt : k < who.length
        · have k1 : (k : Int) < (who.length : Int) := by omega
          go_wp2_with fail
          go_loopw [2, 8] (fun ve vi wr => ve = .int .i64 2 ∧ vi = .int .i64 0 ∧ Below W0.heap.size W0 wr) (fun _ _ _ => 0)
          case atStart => exact ⟨rfl, rfl, hB⟩
          case round =>
            clear hB
            obtain ⟨rfl, rfl, hB⟩ := hrel
            by_cases hl0 : 0 < who.length
            · have hl1 : (0 : Int) < (who.length : Int) := by omega
              go_wp2_with fail
              go_ret
              exact ⟨by have hr := HR.out; rw [hr]; rfl, Below.next hA hB⟩
            · have hl1 : ¬ (0 : Int) < (who.length : Int) := by omega
              go_wp2_with fail
              go_ret
              exact ⟨by have hr := HR.out; rw [hr]; rfl, Below.next hA hB⟩
        · have k1 : ¬ (k : Int) < (who.length : Int) := by omega
          go_wp2_with fail
          go_loopw [2, 8] (fun ve vi wr => ve = .int .i64 2 ∧ vi = .int .i64 0 ∧ Below W0.heap.size W0 wr) (fun _ _ _ => 0)
          case atStart => exact ⟨rfl, rfl, hB⟩
          case round =>
            clear hB
            obtain ⟨rfl, rfl, hB⟩ := hrel
            by_cases hl0 : 0 < who.length
            · have hl1 : (0 : Int) < (who.length : Int) := by omega
              go_wp2_with fail
              go_ret
              exact ⟨by have hr := HR.out; rw [hr]; rfl, Below.next hA hB⟩
            · have hl1 : ¬ (0 : Int) < (who.length : Int) := by omega
              go_wp2_with fail
              go_ret
              exact ⟨by have hr := HR.out; rw [hr]; rfl, Below.next hA hB⟩
      · have hne2 : (e != 2) = true := bne_iff_ne.2 he2
        by_cases hlt : k < who.length
        · obtain ⟨b, off, cp, heq, _, _⟩ := HL.out.form (by omega)
          cases heq
          obtain ⟨c0, c1, c2, c3, c4, c5, c6, c7⟩ := (HPb.out.below hB).cells
          have hck := (lmi_cell HL.out (Below.next hA hB) hlt).2
          have k0 : (0 : Int) ≤ (k : Int) := by omega
          have k1 : (k : Int) < (who.length : Int) := by omega
          have HBq := hide (fun nq => below_drewN hB nq)
          by_cases hi : 0 ≤ who.getD k 0 ∧ who.getD k 0 < p.n
          · have HA2 : Hid (∀ i, i < k + 1 → 0 ≤ who.getD i 0 ∧ who.getD i 0 < p.n) := fun i h' => by
              rcases Nat.lt_or_eq_of_le (Nat.le_of_lt_succ h') with h1 | h1
              · exact HQ.out i h1
              · rw [h1]; exact hi
            obtain ⟨q1, q2⟩ := hi
            clear HN HY HQ HP2 HPe HP3 HPn HI1 HI2 HI3 HN6 HN0 HI0 HL HPb he2
            generalize who.getD k 0 = x at *
            go_upto_region 4 with fail
            go_quiet (fail)
            have hBq := HBq.out nq
            go_wp2_with fail
            go_roundw
            case rel => exact ⟨k + 1, by omega, by go_num, .inl ⟨rfl, HA2⟩, hBq⟩
            case measure => simp [intOf]; omega
          · have HR := hide (HP2.out (.inr (HN.out k hlt hi)))
            clear HN HY HQ HP2 HPe HP3 HPn HI1 HI2 HI3 HN6 HN0 HI0 HL HPb he2
            generalize who.getD k 0 = x at *
            by_cases hx : x < 0
            · clear hi
              go_upto_region 4 with fail
              go_quiet (fail)
              have hBq := HBq.out nq
              go_wp2_with fail
              go_roundw
              case rel => exact ⟨k + 1, by omega, by go_num, .inr ⟨rfl, HR⟩, hBq⟩
              case measure => simp [intOf]; omega
            · have hx2 : p.n ≤ x := by omega
              clear hi
              go_upto_region 4 with fail
              go_quiet (fail)
              have hBq := HBq.out nq
              go_wp2_with fail
              go_roundw
              case rel => exact ⟨k + 1, by omega, by go_num, .inr ⟨rfl, HR⟩, hBq⟩
              case measure => simp [intOf]; omega
        · obtain rfl : k = who.length := by omega
          have hw := HY.out HQ.out
          have k1 : ¬ (who.length : Int) < (who.length : Int) := by omega
          by_cases he0 : e = 0
          · have HPn1 := hide (HPn.out he0 hw)
            have HP31 := hide (HP3.out he0 hw)
            subst he0
            obtain ⟨c0, c1, c2, c3, c4, c5, c6, c7⟩ := (HPb.out.below hB).cells
            by_cases hl : (who.length : Int) ≤ p.t
            · have HR := hide (HPn1.out hl)
              clear HN HY HQ HP2 HPe HP3 HPn HPn1 HP31 hw hne2 he2
              go_wp2_with fail
              clear c0 c1 c2 c3 c4 c5 c6 c7
              go_loopw [2, 8] (fun ve vi wr => ∃ k : Nat, k ≤ who.length ∧ vi = .int .i64 k ∧ ve = .int .i64 (ndE who k) ∧ Below W0.heap.size W0 wr) (fun _ vi _ => who.length - (intOf vi).toNat)
              case atStart => exact ⟨0, Nat.zero_le _, rfl, by show Value.int .i64 0 = _; unfold ndE; simp, hB⟩
              case round =>
                clear hB
                obtain ⟨k, hk, rfl, rfl, hB⟩ := hrel
                by_cases hlt : k < who.length
                · have k0 : (0 : Int) ≤ (k : Int) := by omega
                  have k1 : (k : Int) < (who.length : Int) := by omega
                  by_cases hz : ndE who k = 0
                  · have HZ := hide (HN0.out k hz)
                    rw [hz]
                    go_wp2_with fail
                    go_loopw [2, 9] (fun ve vj wr => ∃ j : Nat, j ≤ k ∧ vj = .int .i64 j ∧ ve = .int .i64 (inE who k j) ∧ Below W0.heap.size W0 wr) (fun _ vj _ => k - (intOf vj).toNat)
                    case atStart => exact ⟨0, Nat.zero_le _, rfl, by rw [HI0.out], hB⟩
                    case round =>
                      clear hB
                      obtain ⟨j, hj, rfl, rfl, hB⟩ := hrel
                      by_cases hjk : j < k
                      · obtain ⟨b, off, cp, heq, _, _⟩ := HL.out.form (by omega)
                        cases heq
                        have d1 := (lmi_cell HL.out (Below.next hA hB) hlt).2
                        have d2 := (lmi_cell HL.out (Below.next hA hB) (k := j) (by omega)).2
                        have j0 : (0 : Int) ≤ (j : Int) := by omega
                        have j1 : (j : Int) < (k : Int) := by omega
                        have j2 : (j : Int) < (who.length : Int) := by omega
                        have HBq := hide (fun nq => below_drewN hB nq)
                        by_cases hxy : who.getD k 0 = who.getD j 0
                        · have HI := hide (HI1.out k j (by omega) hxy)
                          have ht : (who.getD k 0 == who.getD j 0) = true := beq_iff_eq.2 hxy
                          clear HI1 HI2 HI3 HN6 HN0 HI0 HL hxy
                          generalize hgi : inE who k (j + 1) = i2 at *
                          generalize inE who k j = i1 at *
                          have Hg := hide hgi
                          clear hgi
                          generalize who.getD k 0 = x at *
                          generalize who.getD j 0 = y at *
                          go_upto_region 14 with fail
                          go_quiet (fail)
                          have hBq := HBq.out nq
                          go_wp2_with fail
                          go_roundw
                          case rel => exact ⟨j + 1, by omega, by go_num, by rw [Hg.out, HI.out], hBq⟩
                          case measure => simp [intOf]; omega
                        · have HI := hide (HI2.out k j (by omega) hxy)
                          have ht : (who.getD k 0 == who.getD j 0) = false := beq_eq_false_iff_ne.2 hxy
                          clear HI1 HI2 HI3 HN6 HN0 HI0 HL hxy
                          generalize hgi : inE who k (j + 1) = i2 at *
                          generalize inE who k j = i1 at *
                          have Hg := hide hgi
                          clear hgi
                          generalize who.getD k 0 = x at *
                          generalize who.getD j 0 = y at *
                          go_upto_region 14 with fail
                          go_quiet (fail)
                          have hBq := HBq.out nq
                          go_wp2_with fail
                          go_roundw
                          case rel => exact ⟨j + 1, by omega, by go_num, by rw [Hg.out, HI.out], hBq⟩
                          case measure => simp [intOf]; omega
                      · obtain rfl : j = k := by omega
                        have HI := hide (HI3.out j hlt HZ.out)
                        have jj : ¬ (j : Int) < (j : Int) := by omega
                        clear HI1 HI2 HI3 HN6 HN0 HI0 HL
                        rw [HI.out]
                        generalize hgi : ndE who (j + 1) = i2 at *
                        have Hg := hide hgi
                        clear hgi
                        go_wp2_with fail
                        go_roundw
                        case rel => exact ⟨j + 1, by omega, by go_num, by rw [Hg.out], hB⟩
                        case measure => simp [intOf]; omega
                  · have h6 := HN6.out k (by omega) hz
                    have ht : (ndE who k == 0) = false := beq_eq_false_iff_ne.2 hz
                    have H6 : Hid (ndE who k = 6) := by
                      have : ndE who k = 0 ∨ ndE who k = 6 := by unfold ndE; split <;> simp
                      show _ = _
                      omega
                    have HR2 : Hid (res = 6) := by show _ = _; rw [HR.out, h6]
                    clear HI1 HI2 HI3 HN6 HN0 HI0 HL h6 hz HR
                    generalize ndE who k = i1 at *
                    go_wp2_with fail
                    go_ret
                    exact ⟨by have hr := HR2.out; have h6 := H6.out; subst hr h6; rfl, Below.next hA hB⟩
                · obtain rfl : k = who.length := by omega
                  clear HI1 HI2 HI3 HN6 HN0 HI0 HL
                  generalize ndE who who.length = i1 at *
                  go_wp2_with fail
                  go_ret
                  exact ⟨by have hr := HR.out; rw [hr]; rfl, Below.next hA hB⟩
            · have hl2 : p.t < (who.length : Int) := by omega
              have HR := hide (HP31.out hl2)
              clear HPn1 HP31 HN HY HQ HP2 HPe HP3 HPn HI1 HI2 HI3 HN6 HN0 HI0 HL HPb hw hne2 he2 hl
              go_wp2_with fail
              go_loopw [2, 8] (fun ve vi wr => ve = .int .i64 3 ∧ vi = .int .i64 0 ∧ Below W0.heap.size W0 wr) (fun _ _ _ => 0)
              case atStart => exact ⟨rfl, rfl, hB⟩
              case round =>
                clear hB
                obtain ⟨rfl, rfl, hB⟩ := hrel
                by_cases hl0 : 0 < who.length
                · have hl1 : (0 : Int) < (who.length : Int) := by omega
                  go_wp2_with fail
                  go_ret
                  exact ⟨by have hr := HR.out; rw [hr]; rfl, Below.next hA hB⟩
                · have hl1 : ¬ (0 : Int) < (who.length : Int) := by omega
                  go_wp2_with fail
                  go_ret
                  exact ⟨by have hr := HR.out; rw [hr]; rfl, Below.next hA hB⟩
          · have HR := hide (HPe.out he2 hw he0)
            have hne0 : (e == 0) = false := beq_eq_false_iff_ne.2 he0
            clear HN HY HQ HP2 HPe HP3 HPn HI1 HI2 HI3 HN6 HN0 HI0 HL HPb hw he0 he2
            go_wp2_with fail
            go_loopw [2, 8] (fun ve vi wr => ve = .int .i64 e ∧ vi = .int .i64 0 ∧ Below W0.heap.size W0 wr) (fun _ _ _ => 0)
            case atStart => exact ⟨rfl, rfl, hB⟩
            case round =>
              clear hB
              obtain ⟨rfl, rfl, hB⟩ := hrel
              by_cases hl0 : 0 < who.length
              · have hl1 : (0 : Int) < (who.length : Int) := by omega
                go_wp2_with fail
                go_ret
                exact ⟨by have hr := HR.out; rw [hr]; rfl, Below.next hA hB⟩
              · have hl1 : ¬ (0 : Int) < (who.length : Int) := by omega
                go_wp2_with fail
                go_ret
                exact ⟨by have hr := HR.out; rw [hr]; rfl, Below.next hA hB⟩
    · clear HN HY HP2 HPe HP3 HPn HI1 HI2 HI3 HN6 HN0 HI0 HL HPb
      by_cases hlt : k < who.length
      · have k1 : (k : Int) < (who.length : Int) := by omega
        go_wp2_with fail
        go_loopw [2, 8] (fun ve vi wr => ve = .int .i64 2 ∧ vi = .int .i64 0 ∧ Below W0.heap.size W0 wr) (fun _ _ _ => 0)
        case atStart => exact ⟨rfl, rfl, hB⟩
        case round =>
          clear hB
          obtain ⟨rfl, rfl, hB⟩ := hrel
          by_cases hl0 : 0 < who.length
          · have hl1 : (0 : Int) < (who.length : Int) := by omega
            go_wp2_with fail
            go_ret
            exact ⟨by have hr := HR.out; rw [hr]; rfl, Below.next hA hB⟩
          · have hl1 : ¬ (0 : Int) < (who.length : Int) := by omega
            go_wp2_with fail
            go_ret
            exact ⟨by have hr := HR.out; rw [hr]; rfl, Below.next hA hB⟩
      · have k1 : ¬ (k : Int) < (who.length : Int) := by omega
        go_wp2_with fail
        go_loopw [2, 8] (fun ve vi wr => ve = .int .i64 2 ∧ vi = .int .i64 0 ∧ Below W0.heap.size W0 wr) (fun _ _ _ => 0)
        case atStart => exact ⟨rfl, rfl, hB⟩
        case round =>
          clear hB
          obtain ⟨rfl, rfl, hB⟩ := hrel
          by_cases hl0 : 0 < who.length
          · have hl1 : (0 : Int) < (who.length : Int) := by omega
            go_wp2_with fail
            go_ret
            exact ⟨by have hr := HR.out; rw [hr]; rfl, Below.next hA hB⟩
          · have hl1 : ¬ (0 : Int) < (who.length : Int) := by omega
            go_wp2_with fail
            go_ret
            exact ⟨by have hr := HR.out; rw [hr]; rfl, Below.next hA hB⟩

end Go.Proofs.YtpbfgcepmbpkdaaGreat

namespace Go.Proofs.YtpbfgcepmbpkdaaGreat
open Go.RowKit Fld
set_option linter.unusedVariables false
set_option linter.unusedSimpArgs false

theorem vals_append (a b : List Int) : vals (a ++ b) = vals a ++ vals b := by unfold vals; rw [List.map_append]
/-- A list of the call's own, of none or more. -/
theorem appWO (W : World) (base lo : Nat) (u : Value) (A B : List Int) (vb : Value) (hO : W.ownsRow base 50 1 u A.length (vals A)) (hB : W.ownsRow lo 50 1 vb B.length (vals B)) (hl : A.length + B.length ≤ 100000) (hb : base ≤ W.heap.size) :
    ∃ v' W', (Builtin.append_ #[45, 45] 45 #[u, vb]).run Tryz.prog W = .ok v' W' ∧ W'.ownsRow base 50 1 v' (A ++ B).length (vals (A ++ B)) ∧ Below base W W' := by
  obtain ⟨i0, hi0, hz0, hz1, hz2⟩ := info_parts u64_info
  rcases hB.2 with ⟨rfl, h0⟩ | ⟨g, cap, cur, rfl, h2, h3, h4, h5, h6, h7⟩
  · have hB0 : B = [] := List.length_eq_zero_iff.1 h0
    subst hB0
    exact ⟨u, W, run_append_owned_none (P := Tryz.prog) W base 45 45 50 i0 1 Tryz.underlying45 hi0 u A.length (vals A) hO, by rw [List.append_nil]; exact hO, Below.refl _ _⟩
  · obtain ⟨v', W', hr, ho, hg, _, hbk⟩ := run_append_own_at (P := Tryz.prog) (w := W) base 45 45 50 i0 (.int .u64 0) 1 8 Tryz.underlying45 hi0 hz0 hz1 hz2 rfl (by decide) u A.length (vals A) hO ⟨g, 0, none⟩ B.length cap (vals B) (by rw [vals_length, Nat.mul_one]) (fun j u hj => by
      have hjl : j < B.length := by
        have := (List.getElem?_eq_some_iff.1 hj).1
        rwa [vals_length] at this
      have hadd : (⟨g, 0, none⟩ : Addr).add j = ⟨g, j, none⟩ := by unfold Addr.add; split <;> simp_all
      rw [vals_at B j hjl] at hj
      rw [hadd, own_cell hB rfl hjl]; exact hj) (vals_one B) (by unfold maxLen; omega) (by omega) hb
    refine ⟨v', W', hr, ?_, (Below.refl base W).grown hg hb (fun k hk => own_base hO k hk)⟩
    rw [vals_append, List.length_append]; exact ho
/-- One word. -/
theorem appW1 (W : World) (base : Nat) (u : Value) (A : List Int) (a : Addr) (x : Int) (hO : W.ownsRow base 50 1 u A.length (vals A)) (hc : W.cell? a = some (.int .u64 x)) (hl : A.length ≤ 100000) (hb : base ≤ W.heap.size) :
    ∃ (au' : Option Addr) (cu' : Nat) (W' : World), (Builtin.append_ #[45, 45] 45 #[u, .slice (some a) 1 1]).run Tryz.prog W = .ok (.slice au' (A.length + 1) cu') W' ∧ W'.ownsRow base 50 1 (.slice au' (A.length + 1) cu') (A ++ [x]).length (vals (A ++ [x])) ∧ Below base W W' ∧ W.grownBy W' u.ownBlock ∧ ((Value.slice au' (A.length + 1) cu').ownBlock = u.ownBlock ∨ (Value.slice au' (A.length + 1) cu').ownBlock = some W.heap.size) := by
  obtain ⟨i0, hi0, hz0, hz1, hz2⟩ := info_parts u64_info
  obtain ⟨v', W', hr, ho, hg, _, hbk⟩ := run_append_own_at (P := Tryz.prog) (w := W) base 45 45 50 i0 (.int .u64 0) 1 8 Tryz.underlying45 hi0 hz0 hz1 hz2 rfl (by decide) u A.length (vals A) hO a 1 1 [.int .u64 x] rfl (fun j u hj => by
    cases j with
    | zero => simp at hj; rw [← hj]; exact hc
    | succ j => simp at hj) (by simp [Value.oneCell']) (by unfold maxLen; omega) (by omega) hb
  obtain ⟨au', cu', rfl⟩ := own_form ho
  refine ⟨au', cu', W', hr, ?_, (Below.refl base W).grown hg hb (fun k hk => own_base hO k hk), hg, hbk⟩
  rw [vals_append, List.length_append]; exact ho

end Go.Proofs.YtpbfgcepmbpkdaaGreat

namespace Go.Proofs.YtpbfgcepmbpkdaaGreat
open Go.RowKit Fld Pln Shr
set_option linter.unusedVariables false
set_option linter.unusedSimpArgs false

/-- How far it has come. -/
def fxA (c : Int) (who : List Int) (k : Nat) : List Int := (who.take k).map (fun x => c + x)
def fxB (c : Int) (who : List Int) (i : Nat) : List Int := (who ++ oth who i).map (fun x => c + x)
theorem fxA_len {c : Int} {who : List Int} {k : Nat} (hk : k ≤ who.length) : (fxA c who k).length = k := by unfold fxA; rw [List.length_map, List.length_take]; omega
theorem fxA_snoc {c : Int} {who : List Int} {k : Nat} (hk : k < who.length) : fxA c who k ++ [c + who.getD k 0] = fxA c who (k + 1) := by
  unfold fxA
  rw [← take_snocI hk, List.map_append]; rfl
theorem fxA_all (c : Int) (who : List Int) : fxA c who who.length = fxB c who 0 := by
  unfold fxA fxB
  rw [List.take_length, oth_zero, List.append_nil]
theorem fxB_len (c : Int) (who : List Int) (i : Nat) : (fxB c who i).length = who.length + (oth who i).length := by unfold fxB; rw [List.length_map, List.length_append]
theorem fxB_yes {c : Int} {who : List Int} {i : Nat} (h : (i : Int) ∈ who) : fxB c who (i + 1) = fxB c who i := by
  unfold fxB; rw [oth_yes (List.contains_iff_mem.2 h)]
theorem fxB_no {c : Int} {who : List Int} {i : Nat} (h : ¬ (i : Int) ∈ who) : fxB c who i ++ [c + (i : Int)] = fxB c who (i + 1) := by
  unfold fxB
  rw [oth_no (by cases hc : who.contains (i : Int) with | false => rfl | true => exact absurd (List.contains_iff_mem.1 hc) h), ← List.append_assoc, List.map_append (l₁ := who ++ oth who i)]; rfl
theorem mem_takeS {who : List Int} {x : Int} {k : Nat} (hk : k < who.length) : x ∈ who.take (k + 1) ↔ (x ∈ who.take k ∨ who.getD k 0 = x) := by
  rw [← take_snocI hk, List.mem_append, List.mem_singleton]
  exact or_congr_right ⟨fun e => e.symm, fun e => e.symm⟩

set_option maxRecDepth 100000 in
set_option maxHeartbeats 800000 in
theorem dFixed (p : Pn) (v : Value) (who : List Int) (w : World) (h : Lm iw 1 w v who) (hm : mayP p = true) (hw : ∀ x ∈ who, 0 ≤ x ∧ x < p.n) (hl : (who.length : Int) ≤ p.t) :
    Calls Tryz.prog 30 #[plv p, v] w fun e w' => ∃ v', e = .returned v' ∧ w'.ownsRow w.heap.size 50 1 v' (fxL p who).length (vals (fxL p who)) ∧ Below w.heap.size w w' := by
  obtain ⟨⟨n0, n1⟩, ⟨k0, k1⟩, ⟨t0, t1⟩, _⟩ := may_facts hm
  obtain ⟨t, Ht⟩ : ∃ t : Nat, Hid (p.t.toNat = t) := ⟨_, rfl⟩
  have hpt : p.t = (t : Int) := by have := Ht.out; omega
  have HX : Hid (∀ k, k < who.length → 0 ≤ who.getD k 0 ∧ who.getD k 0 < 64) := fun k hk => by
    have := hw _ (getD_memA 0 hk); omega
  have HA1 := hide (fun k hk => fxA_len (c := p.k + p.t) (who := who) (k := k) hk)
  have HA2 := hide (fun k hk => fxA_snoc (c := p.k + p.t) (who := who) (k := k) hk)
  have HA3 := hide (fxA_all (p.k + p.t) who)
  have HB1 := hide (fun i => fxB_len (p.k + p.t) who i)
  have HB2 := hide (fun i h => fxB_yes (c := p.k + p.t) (who := who) (i := i) h)
  have HB3 := hide (fun i h => fxB_no (c := p.k + p.t) (who := who) (i := i) h)
  have HE : Hid (∀ i, i ≤ t → (fxB (p.k + p.t) who i).length = t → fxB (p.k + p.t) who i = fxL p who) := fun i hi he => by
    unfold fxB fxL
    rw [fx_end (t := t) (by rw [fxB_len] at he; exact he) hi, Ht.out]
  have HMo : Hid (∀ i, (fxB (p.k + p.t) who i).length < t → i < t) := fun i h1 => fx_more (who := who) (by rw [fxB_len] at h1; omega)
  have HMt := hide (fun k x hk => mem_takeS (who := who) (x := x) (k := k) hk)
  have HTl := hide (List.take_length (l := who))
  obtain ⟨pb, hA⟩ := pb_box (w := w) p
  have HPb := hide pb
  have HL := hide h
  have hlen := h.len
  obtain ⟨ao, cap, rfl, hcap⟩ := h.spell
  have hlt : who.length ≤ t := by omega
  have ht63 : t ≤ 63 := by omega
  have hkb : 0 ≤ p.k ∧ p.k ≤ 64 := by omega
  obtain ⟨hk0, hk1⟩ := hkb
  clear pb h hw hl Ht hm
  generalize fxL p who = res at *
  obtain ⟨pf, pn, pk, pt, ps, pe, pw, pd⟩ := p
  dsimp only at *
  subst hpt
  rw [plan_eq] at *
  dsimp only at *
  go_enter Tryz.func30, Tryz.ntmps30
  go_wp2_with fail
  generalize w.alloc (.cells #[.int .u8 pf, .int .i64 pn, .int .i64 pk, .int .i64 (t : Int), .int .i64 ps, .int .i64 pe, .int .i64 pd, .int .i64 pw] 24) = W0 at *
  go_loopw [5, 6] (fun va vi wr => ∃ (k : Nat) (a : Option Addr) (c : Nat), k ≤ who.length ∧ vi = .int .i64 k ∧ va = .slice a k c ∧ Hid (wr.ownsRow W0.heap.size 50 1 (.slice a k c) (fxA (pk + (t : Int)) who k).length (vals (fxA (pk + (t : Int)) who k))) ∧ Below W0.heap.size W0 wr) (fun _ vi _ => who.length - (intOf vi).toNat)
  case atStart => exact ⟨0, none, 0, Nat.zero_le _, rfl, rfl, World.ownsRow_nil _ _ _ _, Below.refl _ _⟩
  case round =>
    obtain ⟨k, a, c, hk, rfl, rfl, HO, hB⟩ := hrel
    by_cases hkl : k < who.length
    · obtain ⟨b, off, cp, heq, _, hbw⟩ := HL.out.form (by omega)
      cases heq
      have kk0 : (0 : Int) ≤ (k : Int) := by omega
      have kk1 : (k : Int) < (who.length : Int) := by omega
      obtain ⟨x0, x1⟩ := HX.out k hkl
      have hln := HA1.out k (by omega)
      have hsn := HA2.out k hkl
      have HS : Hid (∀ V, Below W0.heap.size W0 V → V.cell? ⟨w.heap.size, 2, none⟩ = some (.int .i64 pk) ∧ V.cell? ⟨w.heap.size, 3, none⟩ = some (.int .i64 (t : Int)) ∧ V.cell? ⟨b, off + k, none⟩ = some (.int .i64 (who.getD k 0))) := fun V hb => by
        have hc := (HPb.out.below hb).cells
        exact ⟨hc.2.2.1, hc.2.2.2.1, (lmi_cell HL.out (Below.next hA hb) hkl).2⟩
      have hdr : Below wr.heap.size wr wr.drew := (Below.refl _ wr).drew
      have hS0 := HS.out _ (hB.trans (hdr.mono hB.size))
      have hS1 := fun ob => HS.out (wr.alloc ob).drew (hB.trans (((alloc_below _ ob).drew).mono hB.size))
      have hal : Below wr.heap.size wr (wr.alloc (.cells #[.int .u64 (pk + (t : Int) + who.getD k 0)] 50)).drew := (alloc_below wr (.cells #[.int .u64 (pk + (t : Int) + who.getD k 0)] 50)).drew
      obtain ⟨au, cu, W5, hr5, ho5, hb5, _, _⟩ := appW1 (wr.alloc (.cells #[.int .u64 (pk + (t : Int) + who.getD k 0)] 50)).drew W0.heap.size (.slice a k c) (fxA (pk + (t : Int)) who k) ⟨wr.heap.size, 0, none⟩ (pk + (t : Int) + who.getD k 0) (own_below HO.out hal) (by simp [go_sem]) (by omega) (Nat.le_trans hB.size hal.size)
      rw [hsn, hln] at ho5
      rw [hln] at hr5
      have HO5 := hide ho5
      have hB5 := (hB.trans (hal.mono hB.size)).trans hb5
      have hS2 := HS.out _ hB5
      generalize who.getD k 0 = x at *
      clear HS HO ho5 hal hb5
      have HO6 : Hid (W5.ownsRow W0.heap.size 50 1 (.slice au (k + 1) cu) (fxA (pk + (t : Int)) who (k + 1)).length (vals (fxA (pk + (t : Int)) who (k + 1)))) := HO5.out
      clear HO5 hln hsn
      have ew : IntKind.u64.wrap (IntKind.i64.wrap (IntKind.i64.wrap (pk + (t : Int)) + x)) = pk + (t : Int) + x := by
        rw [IntKind.wrap_i64, IntKind.wrap_i64, IntKind.wrap_u64]; omega
      rw [← ew] at hr5
      clear ew
      go_upto_region 5 with fail
      refine wp_region_held_drew (S := (fun V => V.cell? ⟨w.heap.size, 2, none⟩ = some (.int .i64 pk) ∧ V.cell? ⟨w.heap.size, 3, none⟩ = some (.int .i64 (t : Int)) ∧ V.cell? ⟨b, off + k, none⟩ = some (.int .i64 x))) (by kernel_rfl) (by ((try dsimp only) <;> (first | with_reducible exact hS2 | with_reducible exact hS1 _ | with_reducible exact hS0))) (fun hHeld => ?_)
      (refine wpAnyH_take (i := 0) (oi := _) (v := ?v103) rfl (by kernel_rfl) (by kernel_rfl) (by kernel_rfl) (fun _ _ _ h => h) (Or.inl ⟨by rfl, ?hy103⟩) (by assumption) ?rest103; (case hy103 => (first | (intro w hSw; (try dsimp only at hSw); go_simp; done) | (intro w hSw; (try dsimp only at hSw); go_simp; with_reducible rfl))); (try simp only [Act.put, List.getElem_toArray, List.getElem_cons_succ, List.getElem_cons_zero, List.setIfInBounds_toArray, List.set_cons_zero, List.set_cons_succ]))
      (refine wpAnyH_take (i := 1) (oi := _) (v := ?v104) rfl (by kernel_rfl) (by kernel_rfl) (by kernel_rfl) (fun _ _ _ h => h) (Or.inl ⟨by rfl, ?hy104⟩) (by assumption) ?rest104; (case hy104 => (first | (intro w hSw; (try dsimp only at hSw); go_simp; done) | (intro w hSw; (try dsimp only at hSw); go_simp; with_reducible rfl))); (try simp only [Act.put, List.getElem_toArray, List.getElem_cons_succ, List.getElem_cons_zero, List.setIfInBounds_toArray, List.set_cons_zero, List.set_cons_succ]))
      (refine wpAnyH_take (i := 2) (oi := _) (v := ?v105) rfl (by kernel_rfl) (by kernel_rfl) (by kernel_rfl) (fun _ _ _ h => h) (Or.inl ⟨by rfl, ?hy105⟩) (by assumption) ?rest105; (case hy105 => (first | (intro w hSw; (try dsimp only at hSw); go_simp; done) | (intro w hSw; (try dsimp only at hSw); go_simp; with_reducible rfl))); (try simp only [Act.put, List.getElem_toArray, List.getElem_cons_succ, List.getElem_cons_zero, List.setIfInBounds_toArray, List.set_cons_zero, List.set_cons_succ]))
      (refine wpAnyH_take (i := 3) (oi := _) (v := ?v106) rfl (by kernel_rfl) (by kernel_rfl) (by kernel_rfl) (fun _ _ _ h => h) (Or.inl ⟨by rfl, ?hy106⟩) (by assumption) ?rest106; (case hy106 => (first | (intro w hSw; (try dsimp only at hSw); go_simp; done) | (intro w hSw; (try dsimp only at hSw); go_simp; with_reducible rfl))); (try simp only [Act.put, List.getElem_toArray, List.getElem_cons_succ, List.getElem_cons_zero, List.setIfInBounds_toArray, List.set_cons_zero, List.set_cons_succ]))
      (refine wpAnyH_take (i := 4) (oi := _) (v := ?v107) rfl (by kernel_rfl) (by kernel_rfl) (by kernel_rfl) (fun _ _ _ h => h) (Or.inl ⟨by rfl, ?hy107⟩) (by assumption) ?rest107; (case hy107 => (first | (intro w hSw; (try dsimp only at hSw); go_simp; done) | (intro w hSw; (try dsimp only at hSw); go_simp; with_reducible rfl))); (try simp only [Act.put, List.getElem_toArray, List.getElem_cons_succ, List.getElem_cons_zero, List.setIfInBounds_toArray, List.set_cons_zero, List.set_cons_succ]))
      (refine wpAnyH_take (i := 5) (oi := _) (v := ?v108) rfl (by kernel_rfl) (by kernel_rfl) (by kernel_rfl) (fun _ _ _ h => h) (Or.inl ⟨by rfl, ?hy108⟩) (by assumption) ?rest108; (case hy108 => (first | (intro w hSw; (try dsimp only at hSw); go_simp; done) | (intro w hSw; (try dsimp only at hSw); go_simp; with_reducible rfl))); (try simp only [Act.put, List.getElem_toArray, List.getElem_cons_succ, List.getElem_cons_zero, List.setIfInBounds_toArray, List.set_cons_zero, List.set_cons_succ]))
      (refine wpAnyH_take (i := 6) (oi := _) (v := ?v109) rfl (by kernel_rfl) (by kernel_rfl) (by kernel_rfl) (fun _ _ _ h => h) (Or.inl ⟨by rfl, ?hy109⟩) (by assumption) ?rest109; (case hy109 => (first | (intro w hSw; (try dsimp only at hSw); go_simp; done) | (intro w hSw; (try dsimp only at hSw); go_simp; with_reducible rfl))); (try simp only [Act.put, List.getElem_toArray, List.getElem_cons_succ, List.getElem_cons_zero, List.setIfInBounds_toArray, List.set_cons_zero, List.set_cons_succ]))
      (refine wpAnyH_take (i := 7) (oi := _) (v := ?v110) rfl (by kernel_rfl) (by kernel_rfl) (by kernel_rfl) (fun _ _ _ h => h) (Or.inl ⟨by rfl, ?hy110⟩) (by assumption) ?rest110; (case hy110 => (first | (intro w hSw; (try dsimp only at hSw); go_simp; done) | (intro w hSw; (try dsimp only at hSw); go_simp; with_reducible rfl))); (try simp only [Act.put, List.getElem_toArray, List.getElem_cons_succ, List.getElem_cons_zero, List.setIfInBounds_toArray, List.set_cons_zero, List.set_cons_succ]))
      (refine wpAnyH_take (i := 8) (oi := _) (v := ?v111) rfl (by kernel_rfl) (by kernel_rfl) (by kernel_rfl) (fun _ _ _ h => h) (Or.inl ⟨by rfl, ?hy111⟩) (by assumption) ?rest111; (case hy111 => (first | (intro w hSw; (try dsimp only at hSw); go_simp; done) | (intro w hSw; (try dsimp only at hSw); go_simp; with_reducible rfl))); (try simp only [Act.put, List.getElem_toArray, List.getElem_cons_succ, List.getElem_cons_zero, List.setIfInBounds_toArray, List.set_cons_zero, List.set_cons_succ]))
      (refine wpAnyH_take (i := 9) (oi := _) (v := ?v112) rfl (by kernel_rfl) (by kernel_rfl) (by kernel_rfl) (fun _ _ _ h => h) (Or.inl ⟨by rfl, ?hy112⟩) (by assumption) ?rest112; (case hy112 => (first | (intro w hSw; (try dsimp only at hSw); go_simp; done) | (intro w hSw; (try dsimp only at hSw); go_simp; with_reducible rfl))); (try simp only [Act.put, List.getElem_toArray, List.getElem_cons_succ, List.getElem_cons_zero, List.setIfInBounds_toArray, List.set_cons_zero, List.set_cons_succ]))
      (refine wpAnyH_take (i := 10) (oi := _) (v := ?v113) rfl (by kernel_rfl) (by kernel_rfl) (by kernel_rfl) (fun _ _ _ h => h) (Or.inl ⟨by rfl, ?hy113⟩) (by assumption) ?rest113; (case hy113 => (first | (intro w hSw; (try dsimp only at hSw); go_simp; done) | (intro w hSw; (try dsimp only at hSw); go_simp; with_reducible rfl))); (try simp only [Act.put, List.getElem_toArray, List.getElem_cons_succ, List.getElem_cons_zero, List.setIfInBounds_toArray, List.set_cons_zero, List.set_cons_succ]))
      (refine wpAnyH_take (i := 11) (oi := _) (v := ?v114) rfl (by kernel_rfl) (by kernel_rfl) (by kernel_rfl) (fun _ _ _ h => h) (Or.inl ⟨by rfl, ?hy114⟩) (by assumption) ?rest114; (case hy114 => (first | (intro w hSw; (try dsimp only at hSw); go_simp; done) | (intro w hSw; (try dsimp only at hSw); go_simp; with_reducible rfl))); (try simp only [Act.put, List.getElem_toArray, List.getElem_cons_succ, List.getElem_cons_zero, List.setIfInBounds_toArray, List.set_cons_zero, List.set_cons_succ]))
      refine wpAnyH_ready (rs := [12]) (by kernel_rfl) (by simp) ?_
      refine AllReadyH.cons (o := _) rfl (fun K hK => ?_) AllReadyH.nil
      try simp only [List.getElem_toArray, List.getElem_cons_succ, List.getElem_cons_zero]
      go_simp
      refine hK.out _ _ (by ((try dsimp only) <;> (first | with_reducible exact hS2 | with_reducible exact hS1 _ | with_reducible exact hS0))) (fun hHeld => ?_)
      clear hK K
      (try simp only [Act.put, List.getElem_toArray, List.getElem_cons_succ, List.getElem_cons_zero, List.setIfInBounds_toArray, List.set_cons_zero, List.set_cons_succ])
      refine wpAnyH_ready (rs := [13]) (by kernel_rfl) (by simp) ?_
      refine AllReadyH.cons (o := _) rfl (fun K hK => ?_) AllReadyH.nil
      (first
            | (refine app_mute (by rfl) _ _ _ _ (by rfl) _ _ (by rfl) (by rfl) _ W5 hr5 ?_))
      refine hK.out _ _ (by ((try dsimp only) <;> (first | with_reducible exact hS2 | with_reducible exact hS1 _ | with_reducible exact hS0))) (fun hHeld => ?_)
      clear hK K
      (try simp only [Act.put, List.getElem_toArray, List.getElem_cons_succ, List.getElem_cons_zero, List.setIfInBounds_toArray, List.set_cons_zero, List.set_cons_succ])
      (refine wpAnyH_take (i := 14) (oi := _) (v := ?v115) rfl (by kernel_rfl) (by kernel_rfl) (by kernel_rfl) (fun _ _ _ h => h) (Or.inl ⟨by rfl, ?hy115⟩) (by assumption) ?rest115; (case hy115 => (first | (intro w hSw; (try dsimp only at hSw); go_simp; done) | (intro w hSw; (try dsimp only at hSw); go_simp; with_reducible rfl))); (try simp only [Act.put, List.getElem_toArray, List.getElem_cons_succ, List.getElem_cons_zero, List.setIfInBounds_toArray, List.set_cons_zero, List.set_cons_succ]))
      refine wpAnyH_done (by kernel_rfl) ?_ _
      go_wp2_with fail
      go_roundw
      case rel => exact ⟨k + 1, au, cu, by omega, by go_num, rfl, HO6, hB5⟩
      case measure => simp [intOf]; omega
    · obtain rfl : k = who.length := by omega
      rw [HA3.out] at HO
      have hl0 := HB1.out 0
      have e0 : who.length = (fxB (pk + (t : Int)) who 0).length := by rw [hl0, oth_zero]; rfl
      have hl1 : (fxB (pk + (t : Int)) who 0).length ≤ t := by rw [← e0]; exact hlt
      clear HA1 HA2 HA3 hl0
      go_wp2_with fail
      go_loopw [5, 7] (fun va vi wr => ∃ (i : Nat) (a : Option Addr) (c : Nat), i ≤ t ∧ vi = .int .i64 i ∧ va = .slice a (fxB (pk + (t : Int)) who i).length c ∧ (fxB (pk + (t : Int)) who i).length ≤ t ∧ Hid (wr.ownsRow W0.heap.size 50 1 (.slice a (fxB (pk + (t : Int)) who i).length c) (fxB (pk + (t : Int)) who i).length (vals (fxB (pk + (t : Int)) who i))) ∧ Below W0.heap.size W0 wr) (fun _ vi _ => t - (intOf vi).toNat)
      case atStart => exact ⟨0, a, c, Nat.zero_le _, rfl, by rw [← e0], hl1, by rw [← e0]; rw [← e0] at HO; exact HO, hB⟩
      case round =>
        clear hB HO e0 hl1
        obtain ⟨i, a, c, hi, rfl, rfl, hl, HO, hB⟩ := hrel
        obtain ⟨c0, c1, c2, c3, c4, c5, c6, c7⟩ := (HPb.out.below hB).cells
        dsimp only at c0 c1 c2 c3 c4 c5 c6 c7
        by_cases hlt2 : (fxB (pk + (t : Int)) who i).length < t
        · have hit := HMo.out i hlt2
          have hj : ((fxB (pk + (t : Int)) who i).length : Int) < (t : Int) := by omega
          go_wp2_with fail
          -- whether it is named
          go_loopw [8, 9] (fun vn vj wr => ∃ (j : Nat), j ≤ who.length ∧ vj = .int .i64 j ∧ vn = .bool (decide ((i : Int) ∈ who.take j)) ∧ Hid (wr.ownsRow W0.heap.size 50 1 (.slice a (fxB (pk + (t : Int)) who i).length c) (fxB (pk + (t : Int)) who i).length (vals (fxB (pk + (t : Int)) who i))) ∧ Below W0.heap.size W0 wr) (fun _ vj _ => who.length - (intOf vj).toNat)
          case atStart => exact ⟨0, Nat.zero_le _, rfl, by rw [List.take_zero]; rfl, HO, hB⟩
          case round =>
            clear hB HO c0 c1 c2 c3 c4 c5 c6 c7
            obtain ⟨j, hjl, rfl, rfl, HO, hB⟩ := hrel
            by_cases hjw : j < who.length
            · obtain ⟨b, off, cp, heq, _, hbw⟩ := HL.out.form (by omega)
              cases heq
              have hck := (lmi_cell HL.out (Below.next hA hB) hjw).2
              have j0 : (0 : Int) ≤ (j : Int) := by omega
              have j1 : (j : Int) < (who.length : Int) := by omega
              have hmt := HMt.out j (i : Int) hjw
              generalize hd2 : decide ((i : Int) ∈ who.take (j + 1)) = d2 at *
              have Hd2 := hide hd2
              generalize hd1 : decide ((i : Int) ∈ who.take j) = d1 at *
              cases d1 with
              | true =>
                have e2 : d2 = true := by rw [← hd2]; exact decide_eq_true (hmt.2 (.inl (of_decide_eq_true hd1)))
                have HD : Hid (decide ((i : Int) ∈ who.take (j + 1)) = true) := by show _ = _; rw [hd2, e2]
                clear hmt hd1 hd2 Hd2 e2
                go_wp2_with fail
                go_roundw
                case rel => exact ⟨j + 1, by omega, by go_num, by rw [HD.out], HO, hB⟩
                case measure => simp [intOf]; omega
              | false =>
                have hn1 : ¬ (i : Int) ∈ who.take j := of_decide_eq_false hd1
                by_cases hx : who.getD j 0 = (i : Int)
                · have HD : Hid (decide ((i : Int) ∈ who.take (j + 1)) = true) := decide_eq_true (hmt.2 (.inr hx))
                  have ht : (who.getD j 0 == (i : Int)) = true := beq_iff_eq.2 hx
                  clear hmt hd1 hd2 Hd2 hn1 hx
                  generalize who.getD j 0 = x at *
                  go_wp2_with fail
                  go_roundw
                  case rel => exact ⟨j + 1, by omega, by go_num, by rw [HD.out], HO, hB⟩
                  case measure => simp [intOf]; omega
                · have HD : Hid (decide ((i : Int) ∈ who.take (j + 1)) = false) := decide_eq_false (fun h => by
                    rcases hmt.1 h with h1 | h1
                    · exact hn1 h1
                    · exact hx h1)
                  have ht : (who.getD j 0 == (i : Int)) = false := beq_eq_false_iff_ne.2 hx
                  clear hmt hd1 hd2 Hd2 hn1 hx
                  generalize who.getD j 0 = x at *
                  go_wp2_with fail
                  go_roundw
                  case rel => exact ⟨j + 1, by omega, by go_num, by rw [HD.out], HO, hB⟩
                  case measure => simp [intOf]; omega
            · obtain rfl : j = who.length := by omega
              rw [HTl.out]
              obtain ⟨c0, c1, c2, c3, c4, c5, c6, c7⟩ := (HPb.out.below hB).cells
              dsimp only at c0 c1 c2 c3 c4 c5 c6 c7
              by_cases hmem : (i : Int) ∈ who
              · have HY := hide (HB2.out i hmem)
                rw [decide_eq_true hmem]
                have HO2 := HO
                rw [← HY.out] at HO2
                have hl2 : (fxB (pk + (t : Int)) who (i + 1)).length ≤ t := by rw [HY.out]; exact hl
                have HV : Hid (Value.slice a (fxB (pk + (t : Int)) who i).length c = .slice a (fxB (pk + (t : Int)) who (i + 1)).length c) := by show _ = _; rw [HY.out]
                clear HE HMo HMt HO hmem HB1 HB2 HB3
                generalize hgm : (fxB (pk + (t : Int)) who i).length = m at *
                clear hgm
                go_wp2_with fail
                go_roundw
                case rel => exact ⟨i + 1, a, c, by omega, by go_num, HV.out, hl2, HO2, hB⟩
                case measure => simp [intOf]; omega
              · have HY := hide (HB3.out i hmem)
                rw [decide_eq_false hmem]
                have i0 : (0 : Int) ≤ (i : Int) := by omega
                have i1 : (i : Int) < 64 := by omega
                have hal := alloc_below wr (.cells #[.int .u64 (pk + (t : Int) + (i : Int))] 50)
                obtain ⟨au, cu, W5, hr5, ho5, hb5, _, _⟩ := appW1 (wr.alloc (.cells #[.int .u64 (pk + (t : Int) + (i : Int))] 50)) W0.heap.size _ (fxB (pk + (t : Int)) who i) ⟨wr.heap.size, 0, none⟩ (pk + (t : Int) + (i : Int)) (own_below HO.out hal) (by simp [go_sem]) (by omega) (Nat.le_trans hB.size hal.size)
                rw [HY.out] at ho5
                have HL2 : Hid ((fxB (pk + (t : Int)) who (i + 1)).length = (fxB (pk + (t : Int)) who i).length + 1) := by show _ = _; rw [← HY.out, List.length_append]; rfl
                have HO5 := hide ho5
                have hB5 := (hB.trans (hal.mono hB.size)).trans hb5
                have hl2 : (fxB (pk + (t : Int)) who (i + 1)).length ≤ t := by rw [HL2.out]; omega
                clear HE HMo HMt HO hmem HB1 HB2 HB3 ho5 hal hb5
                generalize hgm : (fxB (pk + (t : Int)) who i).length = m at *
                clear hgm
                go_wp2_with (at_builtin; refine Lib.wpList_append_run _ rfl _ _ _ _ rfl _ _ rfl rfl _ _ hr5 ?_)
                go_roundw
                case rel => exact ⟨i + 1, au, cu, by omega, by go_num, by rw [HL2.out], hl2, by rw [← HL2.out] at HO5; exact HO5, hB5⟩
                case measure => simp [intOf]; omega
        · have he : (fxB (pk + (t : Int)) who i).length = t := by omega
          have HR := hide (HE.out i hi he)
          have hj : ¬ ((fxB (pk + (t : Int)) who i).length : Int) < (t : Int) := by omega
          have HF : Hid (wr.ownsRow W0.heap.size 50 1 (.slice a (fxB (pk + (t : Int)) who i).length c) res.length (vals res)) := by
            have := HO.out
            rw [HR.out] at this ⊢
            exact this
          clear HE HMo HMt HO HB1 HB2 HB3 HR he
          generalize (fxB (pk + (t : Int)) who i).length = m at *
          go_wp2_with fail
          go_ret
          exact ⟨_, rfl, own_mono HF.out hA.size, Below.next hA hB⟩

end Go.Proofs.YtpbfgcepmbpkdaaGreat

namespace Go.Proofs.YtpbfgcepmbpkdaaGreat
open Go.RowKit Fld Pln Shr
set_option linter.unusedVariables false
set_option linter.unusedSimpArgs false

/-- A call that answers rows for reading, and an error. -/
def GivesW (k : FuncId) (args : Array Value) (W : World) (xss : List (List Int)) (e0 : Int) : Prop :=
  Calls Tryz.prog k args W fun e w' => ∃ v', e = .returned (.tuple #[v', .int .i64 e0]) ∧ Rws w' v' xss ∧ Below W.heap.size W w'

end Go.Proofs.YtpbfgcepmbpkdaaGreat

namespace Go.Proofs.YtpbfgcepmbpkdaaGreat
open Go.RowKit Fld Pln Shr
set_option linter.unusedVariables false
set_option linter.unusedSimpArgs false

theorem getD_words {zs : List Int} (h : Wd zs) (i : Nat) : 0 ≤ zs.getD i 0 ∧ zs.getD i 0 ≤ 18446744073709551615 := by
  by_cases hi : i < zs.length
  · exact h.2 _ (getD_memA 0 hi)
  · rw [List.getD_eq_getElem?_getD, List.getElem?_eq_none (by omega)]; show (0 : Int) ≤ 0 ∧ (0 : Int) ≤ _; omega
/-- Where an error is told. -/
theorem ot_yes {p : Pn} {dl pl ol : List (List Int)} (h : bkE p dl pl [] = 0 ∨ bkE p ol pl [] = 2) : otE p dl pl ol = bkE p ol pl [] := if_pos h
theorem ot_no {p : Pn} {dl pl ol : List (List Int)} (h : ¬ (bkE p dl pl [] = 0 ∨ bkE p ol pl [] = 2)) : otE p dl pl ol = bkE p dl pl [] := if_neg h

set_option maxRecDepth 100000 in
set_option maxHeartbeats 400000 in
theorem dTwin_no (p : Pn) (vw vd vp vo : Value) (who : List Int) (dl pl ol : List (List Int)) (w : World) (hp : Ok8p p) (h3 : Lm iw 1 w vw who) (h1 : Rws w vd dl) (h2 : Rws w vp pl) (h4 : Rws w vo ol) (hz : ¬ twE p who dl pl ol = 0) : GivesW 9 #[plv p, vw, vd, vp, vo] w (twL p who dl pl ol) (twE p who dl pl ol) := by
  have HB1 := hide (fun W (hb : Below w.heap.size w W) => dBad14 p vd vp dl pl W hp (h1.below hb) (h2.below hb))
  have HB2 := hide (fun W (hb : Below w.heap.size w W) => dBad14 p vo vp ol pl W hp (h4.below hb) (h2.below hb))
  have HK := hide (fun W (hb : Below w.heap.size w W) => dWorkers p vw who (otE p dl pl ol) W (h3.below hb))
  rw [show pwE p who (otE p dl pl ol) = twE p who dl pl ol from rfl] at HK
  obtain ⟨pb, hA⟩ := pb_box (w := w) p
  have HPb := hide pb
  obtain ⟨c0, c1, c2, c3, c4, c5, c6, c7⟩ := pb.cells
  have ht : (twE p who dl pl ol != 0) = true := bne_iff_ne.2 hz
  have HV : Hid (twL p who dl pl ol = []) := by show _ = _; unfold twL; rw [if_neg hz]
  rw [HV.out]
  have hO1 := fun h => ot_yes (p := p) (dl := dl) (pl := pl) (ol := ol) h
  have hO2 := fun h => ot_no (p := p) (dl := dl) (pl := pl) (ol := ol) h
  have hwl := h3.len
  obtain ⟨aw, cw, rfl, _⟩ := h3.spell
  obtain ⟨ad, cd, rfl, _, _, _⟩ := h1
  obtain ⟨ap, cp, rfl, _, _, _⟩ := h2
  obtain ⟨ao, co', rfl, _, _, _⟩ := h4
  clear hz pb h3 HV hp
  generalize twE p who dl pl ol = e0 at *
  generalize otE p dl pl ol = eo at *
  generalize bkE p dl pl [] = e1 at *
  generalize bkE p ol pl [] = e2 at *
  generalize who.length = nw at *
  generalize dl.length = nd at *
  generalize pl.length = np at *
  generalize ol.length = no at *
  rw [plan_eq] at *
  by_cases hc : e1 = 0 ∨ e2 = 2
  · have ho := hO1 hc
    subst ho
    have hcs : (e1 == 0) = true ∨ ((e1 == 0) = false ∧ (eo == 2) = true) := by
      by_cases h : e1 = 0
      · exact .inl (beq_iff_eq.2 h)
      · exact .inr ⟨beq_eq_false_iff_ne.2 h, beq_iff_eq.2 (hc.resolve_left h)⟩
    clear hc hO1 hO2
    rcases hcs with hx | ⟨hx, hy⟩
    all_goals
      show Calls _ _ _ _ _
      go_enter Tryz.func9, Tryz.ntmps9
      go_upto_region 1 with fail
      generalize w.alloc (.cells #[.int .u8 p.f, .int .i64 p.n, .int .i64 p.k, .int .i64 p.t, .int .i64 p.s, .int .i64 p.e, .int .i64 p.d, .int .i64 p.w] 24) = W0 at *
      go_wp2_with (first
        | (go_at_call 26; refine (HK.out _ hB2).mono ?_; rintro e w3 ⟨rfl, hb3⟩)
        | (go_at_call 25; with_reducible refine (HB2.out _ hB1).mono ?_; rintro e w2 ⟨rfl, hb2⟩; have hC2 := Below.next hb1 hb2; have hB2 := Below.next hA hC2; clear c0 c1 c2 c3 c4 c5 c6 c7; obtain ⟨c0, c1, c2, c3, c4, c5, c6, c7⟩ := (HPb.out.below hC2).cells)
        | (go_at_call 25; with_reducible refine (HB1.out _ hA).mono ?_; rintro e w1 ⟨rfl, hb1⟩; have hB1 := Below.next hA hb1; clear c0 c1 c2 c3 c4 c5 c6 c7; obtain ⟨c0, c1, c2, c3, c4, c5, c6, c7⟩ := (HPb.out.below hb1).cells))
      go_ret2
      exact ⟨_, rfl, rws_nil _, Below.next hB2 hb3⟩
  · have ho := hO2 hc
    subst ho
    have hx : (eo == 0) = false := beq_eq_false_iff_ne.2 (fun h => hc (.inl h))
    have hy : (e2 == 2) = false := beq_eq_false_iff_ne.2 (fun h => hc (.inr h))
    clear hc hO1 hO2
    show Calls _ _ _ _ _
    go_enter Tryz.func9, Tryz.ntmps9
    go_upto_region 1 with fail
    generalize w.alloc (.cells #[.int .u8 p.f, .int .i64 p.n, .int .i64 p.k, .int .i64 p.t, .int .i64 p.s, .int .i64 p.e, .int .i64 p.d, .int .i64 p.w] 24) = W0 at *
    go_wp2_with (first
      | (go_at_call 26; refine (HK.out _ hB2).mono ?_; rintro e w3 ⟨rfl, hb3⟩)
      | (go_at_call 25; with_reducible refine (HB2.out _ hB1).mono ?_; rintro e w2 ⟨rfl, hb2⟩; have hC2 := Below.next hb1 hb2; have hB2 := Below.next hA hC2; clear c0 c1 c2 c3 c4 c5 c6 c7; obtain ⟨c0, c1, c2, c3, c4, c5, c6, c7⟩ := (HPb.out.below hC2).cells)
      | (go_at_call 25; with_reducible refine (HB1.out _ hA).mono ?_; rintro e w1 ⟨rfl, hb1⟩; have hB1 := Below.next hA hb1; clear c0 c1 c2 c3 c4 c5 c6 c7; obtain ⟨c0, c1, c2, c3, c4, c5, c6, c7⟩ := (HPb.out.below hb1).cells))
    go_ret2
    exact ⟨_, rfl, rws_nil _, Below.next hB2 hb3⟩

end Go.Proofs.YtpbfgcepmbpkdaaGreat

namespace Go.Proofs.YtpbfgcepmbpkdaaGreat
open Go.RowKit Fld Pln Shr
set_option linter.unusedVariables false
set_option linter.unusedSimpArgs false

set_option maxRecDepth 100000 in
set_option maxHeartbeats 1600000 in
theorem dTwin_yes (p : Pn) (vw vd vp vo : Value) (who : List Int) (dl pl ol : List (List Int)) (w : World) (hp : Ok8p p) (h3 : Lm iw 1 w vw who) (h1 : Rws w vd dl) (h2 : Rws w vp pl) (h4 : Rws w vo ol) (hz : twE p who dl pl ol = 0) : GivesW 9 #[plv p, vw, vd, vp, vo] w (twL p who dl pl ol) 0 := by
  obtain ⟨q, wd, h⟩ := tw_facts hz h1.wordsH h2.wordsH h4.wordsH
  have hzz := tw_zero.1 hz
  obtain ⟨z1, z2⟩ := hzz.1
  have D := td_facts h z1
  obtain ⟨⟨n0, n1⟩, ⟨k0, k1⟩, ⟨t0, t1⟩, _, _, _, w0, w1⟩ := may_facts h.may
  obtain ⟨Kd, hk⟩ : ∃ Kd : Nat, p.k = (Kd : Int) := ⟨p.k.toNat, by omega⟩
  obtain ⟨T, ht⟩ : ∃ T : Nat, p.t = (T : Int) := ⟨p.t.toNat, by omega⟩
  obtain ⟨W, hw⟩ : ∃ W : Nat, p.w = (W : Int) := ⟨p.w.toNat, by omega⟩
  have eK : p.k.toNat = Kd := by omega
  have eT : p.t.toNat = T := by omega
  have eW : p.w.toNat = W := by omega
  rw [eT, eW] at D
  have hK : Kd ≤ 64 := by omega
  have hK1 : 0 < Kd := by omega
  have hT : T ≤ 64 := by omega
  have hWb : W ≤ 64 := by omega
  have HB1 := hide (fun W' (hb : Below w.heap.size w W') => dBad14 p vd vp dl pl W' hp (h1.below hb) (h2.below hb))
  have HB2 := hide (fun W' (hb : Below w.heap.size w W') => dBad14 p vo vp ol pl W' hp (h4.below hb) (h2.below hb))
  rw [z1] at HB1
  rw [z2] at HB2
  have HK : Hid (∀ W', Below w.heap.size w W' → Calls Tryz.prog 26 #[plv p, vw, .int .i64 0] W' fun e w' => e = .returned (.int .i64 0) ∧ Below W'.heap.size W' w') := fun W' hb => by
    have := dWorkers p vw who 0 W' (h3.below hb)
    rw [pw_zero.2 ⟨rfl, hzz.2⟩] at this
    exact this
  have HPo := hide (fun W' (hb : Below w.heap.size w W') => dPolys p vd vp dl pl W' hp (h1.below hb) (h2.below hb))
  unfold GivesL at HPo
  rw [z1] at HPo
  have HIn := hide (fun W' => dInner p W' h.may)
  have hil : (innL p).length = Kd + T := by unfold innL; rw [pts_len]; omega
  have HCo : Hid (∀ W' g c lo, W'.ownsRow lo 50 1 (.slice (some ⟨g, 0, none⟩) (Kd + T) c) (innL p).length (vals (innL p)) → Calls Tryz.prog 28 #[.slice (some ⟨g, 0, none⟩) Kd c] W' fun e w' => ∃ v', e = .returned v' ∧ w'.ownsRow W'.heap.size 50 1 v' (pts 0 Kd).length (vals (pts 0 Kd)) ∧ Below W'.heap.size W' w') := fun W' g c lo hO => by
    have hR := rw_of_own hO (by rw [hil]; omega) (pts_words (by omega) (by omega))
    have hR2 := hR.take (k := Kd) (by rw [hil]; omega)
    have e : (innL p).take Kd = pts 0 Kd := by
      rw [← inn_app h.may, eK, List.take_append_of_le_length (by rw [pts_len]; exact Nat.le_refl _), List.take_of_length_le (by rw [pts_len]; exact Nat.le_refl _)]
    rw [e] at hR2
    exact Copy_any _ _ W' hR2.1
  have HFx := hide (fun W' (hb : Below w.heap.size w W') => dFixed p vw who W' (h3.below hb) h.may h.who_ h.len)
  have hfl : (fxL p who).length = T := by have := h.pts.len; rw [this, pts_len]; exact eT
  have eX : tdX p who = pts 0 Kd ++ fxL p who := by unfold tdX; rw [eK]
  have HAp : Hid (∀ (W' : World) base lo u vb, W'.ownsRow base 50 1 u (pts 0 Kd).length (vals (pts 0 Kd)) → W'.ownsRow lo 50 1 vb (fxL p who).length (vals (fxL p who)) → base ≤ W'.heap.size → ∃ v' W'', (Builtin.append_ #[45, 45] 45 #[u, vb]).run Tryz.prog W' = .ok v' W'' ∧ W''.ownsRow base 50 1 v' (tdX p who).length (vals (tdX p who)) ∧ Below base W' W'') := fun W' base lo u vb x1 x2 x3 => by
    have := appWO W' base lo u (pts 0 Kd) (fxL p who) vb x1 x2 (by rw [hfl, pts_len]; omega) x3
    rw [← eX] at this
    exact this
  have HXl : Hid ((tdX p who).length = Kd + T) := by show _ = _; rw [eX, List.length_append, pts_len, hfl]
  have HXg : Hid (∀ j, j < T → co (tdX p who) (Kd + j) = (fxL p who).getD j 0) := fun j hj => by
    rw [eX]
    have e2 := co_right (a := pts 0 Kd) (b := fxL p who) (i := j) (by omega)
    rw [pts_len] at e2
    exact e2
  have HXr : Hid (∀ V v lo, V.ownsRow lo 50 1 v (tdX p who).length (vals (tdX p who)) → Rw V v (tdX p who)) := fun V v lo hO => D.wx.row hO
  have HEv1 : Hid (∀ m j W' u, m < W → j < T → Rw W' u ((polL p dl pl).getD m []) → Calls Tryz.prog 31 #[.int .u8 p.f, u, .int .u64 (co (tdX p who) (Kd + j))] W' fun e w' => ∃ e0, e = .returned (.tuple #[.int .u64 (tdV p dl pl m ((fxL p who).getD j 0)), .int .i64 e0]) ∧ Below W'.heap.size W' w') := fun m j W' u hm hj hR => by
    rw [HXg.out j hj]
    have hwx := getD_words D.wx (Kd + j)
    have e1 : (tdX p who).getD (Kd + j) 0 = (fxL p who).getD j 0 := HXg.out j hj
    rw [e1] at hwx
    exact (dEval_any p.f _ u _ W' hwx hR).mono (fun e w' ⟨x1, x2⟩ => ⟨_, x1, x2⟩)
  have HTh : Hid (∀ m W' vx vy, m < W → Rw W' vx (tdX p who) → Rw W' vy (tdY p who dl pl ol m) → Calls Tryz.prog 32 #[.int .u8 p.f, vx, vy] W' fun e w' => ∃ v' e0, e = .returned (.tuple #[v', .int .i64 e0]) ∧ w'.ownsRow W'.heap.size 50 1 v' (tdQ p who dl pl ol m).length (vals (tdQ p who dl pl ol m)) ∧ Below W'.heap.size W' w') := fun m W' vx vy hm x1 x2 =>
    (dThrough p.f vx vy _ _ W' x1 x2).mono (fun e w' ⟨v', y1, y2, y3⟩ => ⟨v', _, y1, y2, y3⟩)
  have HEv2 : Hid (∀ m r W' u, m < W → r < T → Rw W' u (tdQ p who dl pl ol m) → Calls Tryz.prog 31 #[.int .u8 p.f, u, .int .u64 ((Kd : Int) + (r : Int))] W' fun e w' => ∃ e0, e = .returned (.tuple #[.int .u64 (tdR p who dl pl ol m r), .int .i64 e0]) ∧ Below W'.heap.size W' w') := fun m r W' u hm hr hR => by
    have := dEval_any p.f ((Kd : Int) + (r : Int)) u _ W' (by omega) hR
    unfold tdR
    rw [hk]
    exact this.mono (fun e w' ⟨x1, x2⟩ => ⟨_, x1, x2⟩)
  have HWq := hide (fun m (hm : m < W) V v lo (hO : World.ownsRow V lo 50 1 v (tdQ p who dl pl ol m).length (vals (tdQ p who dl pl ol m))) => (D.wq m hm).row hO)
  have HWy := hide (fun m (hm : m < W) V v lo n (hO : World.ownsRow V lo 50 1 v n (vals (tdY p who dl pl ol m))) => (D.wy m hm).row hO)
  have HPm : Hid (∀ V lo v us m, Mtx V lo v us (polL p dl pl) → m < W → m < (polL p dl pl).length ∧ Rw V (us.getD m nov) ((polL p dl pl).getD m [])) := fun V lo v us m hM hm => ⟨D.pol m hm, (D.wp m).row (hM.each m (D.pol m hm))⟩
  have HYe : Hid (∀ m, tdY p who dl pl ol m = col ol m ++ ((fxL p who).take T).map (tdV p dl pl m)) := fun m => by unfold tdY; rw [← hfl, List.take_length]
  have HYs : Hid (∀ m j, j < T → (col ol m ++ ((fxL p who).take j).map (tdV p dl pl m)) ++ [tdV p dl pl m ((fxL p who).getD j 0)] = col ol m ++ ((fxL p who).take (j + 1)).map (tdV p dl pl m)) := fun m j hj => by
    rw [List.append_assoc, ← take_snocI (show j < (fxL p who).length by omega), List.map_append]; rfl
  have HYl : Hid (∀ m j, j ≤ T → (col ol m ++ ((fxL p who).take j).map (tdV p dl pl m)).length = Kd + j) := fun m j hj => by
    rw [List.length_append, col_len, h.lo, List.length_map, List.length_take, eK]; omega
  have Hol : Hid (ol.length = Kd) := by show _ = _; rw [h.lo]; exact eK
  have How : Hid (∀ k, k < Kd → (ol.getD k []).length = W) := fun k hk' => by
    have := h.wo _ (getD_memA [] (show k < ol.length by rw [h.lo]; omega))
    rw [this]; exact eW
  have HCt := hide (fun k m (hk' : k < ol.length) => col_take (l := ol) (k := k) (t := m) hk')
  have HCl : Hid (∀ k m, k ≤ Kd → (col (ol.take k) m).length = k) := fun k m hk' => by rw [col_len, List.length_take, h.lo]; omega
  have hmk := makeN T (by omega)
  have HM0 : Hid (∀ (V : World) lo, lo ≤ V.heap.size → Mtx (V.alloc (.cells (nvs T).toArray 45)) lo (.slice (some ⟨V.heap.size, 0, none⟩) T T) (nvs T) (tdM (tdR p who dl pl ol) T 0 0)) := fun V lo hlo => by
    have := mtx_new V (lo := lo) (n := T) hlo (by omega) (fun r => mk 0 (fun j => tdR p who dl pl ol j r)) (fun t _ => rfl)
    rw [tdM_end]; exact this
  have HEnd : Hid (∀ V lo v us, Mtx V lo v us (tdM (tdR p who dl pl ol) T W 0) → Rws V v (twL p who dl pl ol)) := fun V lo v us hM => by
    rw [tdM_end, D.res] at hM
    have hwd := tw_wd (p := p) (who := who) h1.wordsH h2.wordsH h4.wordsH
    exact hM.rws (fun i => getD_wd hwd.1 i) (by have := hwd.2; omega)
  have H1 := hide h1
  have H3 := hide h3
  have H4 := hide h4
  obtain ⟨pb, hA⟩ := pb_box (w := w) p
  have HPb := hide pb
  obtain ⟨a1, c1, rfl, _, _, _⟩ := h1
  obtain ⟨a2, c2, rfl, _, _, _⟩ := h2
  obtain ⟨a4, c4, rfl, _, _, _⟩ := h4
  obtain ⟨a3, c3, rfl, _⟩ := h3.spell
  have hwl := H3.out.len
  have HIl := hide hil
  clear pb h3 hp h hzz z1 z2 D hz n0 n1 k0 k1 t0 t1 w0 w1 eK eT eW hil hfl eX
  generalize twL p who dl pl ol = res at *
  generalize tdR p who dl pl ol = R at *
  generalize tdQ p who dl pl ol = Q at *
  generalize tdY p who dl pl ol = Y at *
  generalize tdV p dl pl = V at *
  generalize tdX p who = XS at *
  generalize fxL p who = fx at *
  generalize polL p dl pl = PL at *
  generalize innL p = IN at *
  generalize pts 0 Kd = P0 at *
  obtain ⟨pf, pn, pk, pt, ps, pe, pw, pd⟩ := p
  dsimp only at *
  subst hk ht hw
  rw [plan_eq] at *
  dsimp only at *
  rw [Hol.out]
  rw [Hol.out] at H4 HB2
  generalize dl.length = nd at *
  generalize pl.length = np at *
  generalize who.length = nw at *
  show Calls _ _ _ _ _
  go_enter Tryz.func9, Tryz.ntmps9
  go_upto_region 1 with fail
  generalize w.alloc (.cells #[.int .u8 pf, .int .i64 pn, .int .i64 (Kd : Int), .int .i64 (T : Int), .int .i64 ps, .int .i64 pe, .int .i64 pd, .int .i64 (W : Int)] 24) = W0 at *
  have HS := hide (fun W' (hb : Below W0.heap.size W0 W') => (HPb.out.below hb).cells)
  dsimp only at HS
  obtain ⟨c0, c1', c2', c3', c4', c5, c6, c7⟩ := HS.out _ (Below.refl _ W0)
  go_upto_region 9 with (first
    | (go_at_call 27; refine (HPo.out _ hB3).mono ?_; rintro e w4 ⟨v4, us4, rfl, hL4, hb4⟩; have HM4 := hide hL4.mtx; obtain ⟨a5, k5, rfl⟩ := own_form hL4.row; clear hL4; have hC4 := Below.next hC3 hb4; have hB4 := Below.next hA hC4)
    | (go_at_call 26; refine (HK.out _ hB2).mono ?_; rintro e w3 ⟨rfl, hb3⟩; have hC3 := Below.next hC2 hb3; have hB3 := Below.next hA hC3; clear c0 c1' c2' c3' c4' c5 c6 c7; obtain ⟨c0, c1', c2', c3', c4', c5, c6, c7⟩ := HS.out _ hC3)
    | (go_at_call 25; with_reducible refine (HB2.out _ hB1).mono ?_; rintro e w2 ⟨rfl, hb2⟩; have hC2 := Below.next hb1 hb2; have hB2 := Below.next hA hC2; clear c0 c1' c2' c3' c4' c5 c6 c7; obtain ⟨c0, c1', c2', c3', c4', c5, c6, c7⟩ := HS.out _ hC2)
    | (go_at_call 25; with_reducible refine (HB1.out _ hA).mono ?_; rintro e w1 ⟨rfl, hb1⟩; have hB1 := Below.next hA hb1; clear c0 c1' c2' c3' c4' c5 c6 c7; obtain ⟨c0, c1', c2', c3', c4', c5, c6, c7⟩ := HS.out _ hb1))
  clear c0 c1' c2' c3' c4' c5 c6 c7 HB1 HB2 HK HPo hB1 hB2 hB3
  have hdr : Below w4.heap.size w4 w4.drew := (Below.refl _ w4).drew
  have hD0 := hdr
  have hS0 := HS.out _ (Below.next hC4 hD0)
  have HIn2 : Hid (∀ W', Calls Tryz.prog 29 #[.agg #[.int .u8 pf, .int .i64 pn, .int .i64 (Kd : Int), .int .i64 (T : Int), .int .i64 ps, .int .i64 pe, .int .i64 pd, .int .i64 (W : Int)]] W' fun e w' => ∃ g c, e = .returned (.slice (some ⟨g, 0, none⟩) (Kd + T) c) ∧ Kd + T ≤ c ∧ w'.ownsRow W'.heap.size 50 1 (.slice (some ⟨g, 0, none⟩) (Kd + T) c) IN.length (vals IN) ∧ Below W'.heap.size W' w') := fun W' => (HIn.out W').mono (fun e w' ⟨v', x1, x2, x3⟩ => by
    rcases x2.2 with ⟨_, hl⟩ | ⟨g, cap, cur, e1, e2, e3, e4, _⟩
    · rw [HIl.out] at hl; omega
    · subst e1
      rw [HIl.out] at x1 e4
      have x2' : w'.ownsRow W'.heap.size 50 1 (.slice (some ⟨g, 0, none⟩) (Kd + T) cap) IN.length (vals IN) := by
        have := x2
        rw [HIl.out] at this ⊢
        exact this
      exact ⟨g, cap, x1, e4, x2', x3⟩)
  have kk0 : (0 : Int) ≤ (Kd : Int) := by omega
  have HAp2 := hide (fun W' lo u vb x1 x2 x3 => HAp.out W' w4.heap.size lo u vb x1 x2 x3)
  clear HIn HAp HIl
  generalize hKT : Kd + T = KT at *
  have HKT := hide hKT
  refine wp_region_held_drew (S := (fun V => V.cell? ⟨w.heap.size, 0, none⟩ = some (.int .u8 pf) ∧ V.cell? ⟨w.heap.size, 1, none⟩ = some (.int .i64 pn) ∧ V.cell? ⟨w.heap.size, 2, none⟩ = some (.int .i64 (Kd : Int)) ∧ V.cell? ⟨w.heap.size, 3, none⟩ = some (.int .i64 (T : Int)) ∧ V.cell? ⟨w.heap.size, 4, none⟩ = some (.int .i64 ps) ∧ V.cell? ⟨w.heap.size, 5, none⟩ = some (.int .i64 pe) ∧ V.cell? ⟨w.heap.size, 6, none⟩ = some (.int .i64 pd) ∧ V.cell? ⟨w.heap.size, 7, none⟩ = some (.int .i64 (W : Int)))) (by kernel_rfl) (by ((try dsimp only) <;> (first | with_reducible exact hS4 | with_reducible exact hS3 | with_reducible exact hS2 | with_reducible exact hS1 | with_reducible exact hS0))) (fun hHeld => ?_)
  (refine wpAnyH_take (i := 0) (oi := _) (v := ?v128) rfl (by kernel_rfl) (by kernel_rfl) (by kernel_rfl) (fun _ _ _ h => h) (Or.inl ⟨by rfl, ?hy128⟩) (by assumption) ?rest128; (case hy128 => (first | (intro w hSw; (try dsimp only at hSw); go_simp; done) | (intro w hSw; (try dsimp only at hSw); go_simp; with_reducible rfl))); (try simp only [Act.put, List.getElem_toArray, List.getElem_cons_succ, List.getElem_cons_zero, List.setIfInBounds_toArray, List.set_cons_zero, List.set_cons_succ]))
  (refine wpAnyH_take (i := 2) (oi := _) (v := ?v129) rfl (by kernel_rfl) (by kernel_rfl) (by kernel_rfl) (fun _ _ _ h => h) (Or.inl ⟨by rfl, ?hy129⟩) (by assumption) ?rest129; (case hy129 => (first | (intro w hSw; (try dsimp only at hSw); go_simp; done) | (intro w hSw; (try dsimp only at hSw); go_simp; with_reducible rfl))); (try simp only [Act.put, List.getElem_toArray, List.getElem_cons_succ, List.getElem_cons_zero, List.setIfInBounds_toArray, List.set_cons_zero, List.set_cons_succ]))
  (refine wpAnyH_take (i := 3) (oi := _) (v := ?v130) rfl (by kernel_rfl) (by kernel_rfl) (by kernel_rfl) (fun _ _ _ h => h) (Or.inl ⟨by rfl, ?hy130⟩) (by assumption) ?rest130; (case hy130 => (first | (intro w hSw; (try dsimp only at hSw); go_simp; done) | (intro w hSw; (try dsimp only at hSw); go_simp; with_reducible rfl))); (try simp only [Act.put, List.getElem_toArray, List.getElem_cons_succ, List.getElem_cons_zero, List.setIfInBounds_toArray, List.set_cons_zero, List.set_cons_succ]))
  (refine wpAnyH_take (i := 6) (oi := _) (v := ?v131) rfl (by kernel_rfl) (by kernel_rfl) (by kernel_rfl) (fun _ _ _ h => h) (Or.inl ⟨by rfl, ?hy131⟩) (by assumption) ?rest131; (case hy131 => (first | (intro w hSw; (try dsimp only at hSw); go_simp; done) | (intro w hSw; (try dsimp only at hSw); go_simp; with_reducible rfl))); (try simp only [Act.put, List.getElem_toArray, List.getElem_cons_succ, List.getElem_cons_zero, List.setIfInBounds_toArray, List.set_cons_zero, List.set_cons_succ]))
  (refine wpAnyH_take (i := 7) (oi := _) (v := ?v132) rfl (by kernel_rfl) (by kernel_rfl) (by kernel_rfl) (fun _ _ _ h => h) (Or.inl ⟨by rfl, ?hy132⟩) (by assumption) ?rest132; (case hy132 => (first | (intro w hSw; (try dsimp only at hSw); go_simp; done) | (intro w hSw; (try dsimp only at hSw); go_simp; with_reducible rfl))); (try simp only [Act.put, List.getElem_toArray, List.getElem_cons_succ, List.getElem_cons_zero, List.setIfInBounds_toArray, List.set_cons_zero, List.set_cons_succ]))
  refine wpAnyH_ready (rs := [1]) (by kernel_rfl) (by simp) ?_
  refine AllReadyH.cons (o := _) rfl (fun K hK => ?_) AllReadyH.nil
  try simp only [List.getElem_toArray, List.getElem_cons_succ, List.getElem_cons_zero]
  go_simp
  (first
        | (go_at_call 29; refine (HIn2.out _).mono ?_; rintro e w5 ⟨g5, c5, rfl, hc5, hO5, hb5⟩; have hD5 := Below.next hD0 hb5; have hS1 := HS.out _ (Below.next hC4 hD5); have i1 : (Kd : Int) ≤ (c5 : Int) := by omega)
        | (go_at_call 28; refine (HCo.out _ _ _ _ hO5).mono ?_; rintro e w6 ⟨v6, rfl, hO6, hb6⟩; have hD6 := Below.next hD5 hb6; have hS2 := HS.out _ (Below.next hC4 hD6))
        | (go_at_call 30; refine (HFx.out _ (Below.next hA (Below.next hC4 hD6))).mono ?_; rintro e w7 ⟨v7, rfl, hO7, hb7⟩; have hD7 := Below.next hD6 hb7; have hS3 := HS.out _ (Below.next hC4 hD7); obtain ⟨v8, w8, hr8, hO8, hb8⟩ := HAp2.out w7 _ v6 v7 (own_mono (own_below hO6 hb7) hD5.size) hO7 hD7.size; have hD8 := hD7.trans hb8; have hS4 := HS.out _ (Below.next hC4 hD8))
        | (refine app_mute (by rfl) _ _ _ _ (by rfl) _ _ (by rfl) (by rfl) _ w8 hr8 ?_))
  first | (refine hK.out _ _ (by ((try dsimp only) <;> (first | with_reducible exact hS4 | with_reducible exact hS3 | with_reducible exact hS2 | with_reducible exact hS1 | with_reducible exact hS0))) (fun hHeld => ?_)) | (go_wp2_with fail; refine hK.out _ _ (by ((try dsimp only) <;> (first | with_reducible exact hS4 | with_reducible exact hS3 | with_reducible exact hS2 | with_reducible exact hS1 | with_reducible exact hS0))) (fun hHeld => ?_))
  clear hK K
  (try simp only [Act.put, List.getElem_toArray, List.getElem_cons_succ, List.getElem_cons_zero, List.setIfInBounds_toArray, List.set_cons_zero, List.set_cons_succ])
  refine wpAnyH_ready (rs := [4]) (by kernel_rfl) (by simp) ?_
  refine AllReadyH.cons (o := _) rfl (fun K hK => ?_) AllReadyH.nil
  try simp only [List.getElem_toArray, List.getElem_cons_succ, List.getElem_cons_zero]
  go_simp
  refine hK.out _ _ (by ((try dsimp only) <;> (first | with_reducible exact hS4 | with_reducible exact hS3 | with_reducible exact hS2 | with_reducible exact hS1 | with_reducible exact hS0))) (fun hHeld => ?_)
  clear hK K
  (try simp only [Act.put, List.getElem_toArray, List.getElem_cons_succ, List.getElem_cons_zero, List.setIfInBounds_toArray, List.set_cons_zero, List.set_cons_succ])
  refine wpAnyH_ready (rs := [5]) (by kernel_rfl) (by simp) ?_
  refine AllReadyH.cons (o := _) rfl (fun K hK => ?_) AllReadyH.nil
  try simp only [List.getElem_toArray, List.getElem_cons_succ, List.getElem_cons_zero]
  go_simp
  (first
        | (go_at_call 29; refine (HIn2.out _).mono ?_; rintro e w5 ⟨g5, c5, rfl, hc5, hO5, hb5⟩; have hD5 := Below.next hD0 hb5; have hS1 := HS.out _ (Below.next hC4 hD5); have i1 : (Kd : Int) ≤ (c5 : Int) := by omega)
        | (go_at_call 28; refine (HCo.out _ _ _ _ hO5).mono ?_; rintro e w6 ⟨v6, rfl, hO6, hb6⟩; have hD6 := Below.next hD5 hb6; have hS2 := HS.out _ (Below.next hC4 hD6))
        | (go_at_call 30; refine (HFx.out _ (Below.next hA (Below.next hC4 hD6))).mono ?_; rintro e w7 ⟨v7, rfl, hO7, hb7⟩; have hD7 := Below.next hD6 hb7; have hS3 := HS.out _ (Below.next hC4 hD7); obtain ⟨v8, w8, hr8, hO8, hb8⟩ := HAp2.out w7 _ v6 v7 (own_mono (own_below hO6 hb7) hD5.size) hO7 hD7.size; have hD8 := hD7.trans hb8; have hS4 := HS.out _ (Below.next hC4 hD8))
        | (refine app_mute (by rfl) _ _ _ _ (by rfl) _ _ (by rfl) (by rfl) _ w8 hr8 ?_))
  first | (refine hK.out _ _ (by ((try dsimp only) <;> (first | with_reducible exact hS4 | with_reducible exact hS3 | with_reducible exact hS2 | with_reducible exact hS1 | with_reducible exact hS0))) (fun hHeld => ?_)) | (go_wp2_with fail; refine hK.out _ _ (by ((try dsimp only) <;> (first | with_reducible exact hS4 | with_reducible exact hS3 | with_reducible exact hS2 | with_reducible exact hS1 | with_reducible exact hS0))) (fun hHeld => ?_))
  clear hK K
  (try simp only [Act.put, List.getElem_toArray, List.getElem_cons_succ, List.getElem_cons_zero, List.setIfInBounds_toArray, List.set_cons_zero, List.set_cons_succ])
  refine wpAnyH_ready (rs := [8]) (by kernel_rfl) (by simp) ?_
  refine AllReadyH.cons (o := _) rfl (fun K hK => ?_) AllReadyH.nil
  try simp only [List.getElem_toArray, List.getElem_cons_succ, List.getElem_cons_zero]
  go_simp
  (first
        | (go_at_call 29; refine (HIn2.out _).mono ?_; rintro e w5 ⟨g5, c5, rfl, hc5, hO5, hb5⟩; have hD5 := Below.next hD0 hb5; have hS1 := HS.out _ (Below.next hC4 hD5); have i1 : (Kd : Int) ≤ (c5 : Int) := by omega)
        | (go_at_call 28; refine (HCo.out _ _ _ _ hO5).mono ?_; rintro e w6 ⟨v6, rfl, hO6, hb6⟩; have hD6 := Below.next hD5 hb6; have hS2 := HS.out _ (Below.next hC4 hD6))
        | (go_at_call 30; refine (HFx.out _ (Below.next hA (Below.next hC4 hD6))).mono ?_; rintro e w7 ⟨v7, rfl, hO7, hb7⟩; have hD7 := Below.next hD6 hb7; have hS3 := HS.out _ (Below.next hC4 hD7); obtain ⟨v8, w8, hr8, hO8, hb8⟩ := HAp2.out w7 _ v6 v7 (own_mono (own_below hO6 hb7) hD5.size) hO7 hD7.size; have hD8 := hD7.trans hb8; have hS4 := HS.out _ (Below.next hC4 hD8))
        | (refine app_mute (by rfl) _ _ _ _ (by rfl) _ _ (by rfl) (by rfl) _ w8 hr8 ?_))
  first | (refine hK.out _ _ (by ((try dsimp only) <;> (first | with_reducible exact hS4 | with_reducible exact hS3 | with_reducible exact hS2 | with_reducible exact hS1 | with_reducible exact hS0))) (fun hHeld => ?_)) | (go_wp2_with fail; refine hK.out _ _ (by ((try dsimp only) <;> (first | with_reducible exact hS4 | with_reducible exact hS3 | with_reducible exact hS2 | with_reducible exact hS1 | with_reducible exact hS0))) (fun hHeld => ?_))
  clear hK K
  (try simp only [Act.put, List.getElem_toArray, List.getElem_cons_succ, List.getElem_cons_zero, List.setIfInBounds_toArray, List.set_cons_zero, List.set_cons_succ])
  refine wpAnyH_ready (rs := [9]) (by kernel_rfl) (by simp) ?_
  refine AllReadyH.cons (o := _) rfl (fun K hK => ?_) AllReadyH.nil
  (first
        | (go_at_call 29; refine (HIn2.out _).mono ?_; rintro e w5 ⟨g5, c5, rfl, hc5, hO5, hb5⟩; have hD5 := Below.next hD0 hb5; have hS1 := HS.out _ (Below.next hC4 hD5); have i1 : (Kd : Int) ≤ (c5 : Int) := by omega)
        | (go_at_call 28; refine (HCo.out _ _ _ _ hO5).mono ?_; rintro e w6 ⟨v6, rfl, hO6, hb6⟩; have hD6 := Below.next hD5 hb6; have hS2 := HS.out _ (Below.next hC4 hD6))
        | (go_at_call 30; refine (HFx.out _ (Below.next hA (Below.next hC4 hD6))).mono ?_; rintro e w7 ⟨v7, rfl, hO7, hb7⟩; have hD7 := Below.next hD6 hb7; have hS3 := HS.out _ (Below.next hC4 hD7); obtain ⟨v8, w8, hr8, hO8, hb8⟩ := HAp2.out w7 _ v6 v7 (own_mono (own_below hO6 hb7) hD5.size) hO7 hD7.size; have hD8 := hD7.trans hb8; have hS4 := HS.out _ (Below.next hC4 hD8))
        | (refine app_mute (by rfl) _ _ _ _ (by rfl) _ _ (by rfl) (by rfl) _ w8 hr8 ?_))
  refine hK.out _ _ (by ((try dsimp only) <;> (first | with_reducible exact hS4 | with_reducible exact hS3 | with_reducible exact hS2 | with_reducible exact hS1 | with_reducible exact hS0))) (fun hHeld => ?_)
  clear hK K
  (try simp only [Act.put, List.getElem_toArray, List.getElem_cons_succ, List.getElem_cons_zero, List.setIfInBounds_toArray, List.set_cons_zero, List.set_cons_succ])
  (refine wpAnyH_take (i := 10) (oi := _) (v := ?v133) rfl (by kernel_rfl) (by kernel_rfl) (by kernel_rfl) (fun _ _ _ h => h) (Or.inl ⟨by rfl, ?hy133⟩) (by assumption) ?rest133; (case hy133 => (first | (intro w hSw; (try dsimp only at hSw); go_simp; done) | (intro w hSw; (try dsimp only at hSw); go_simp; with_reducible rfl))); (try simp only [Act.put, List.getElem_toArray, List.getElem_cons_succ, List.getElem_cons_zero, List.setIfInBounds_toArray, List.set_cons_zero, List.set_cons_succ]))
  refine wpAnyH_done (by kernel_rfl) ?_ _
  obtain ⟨gx, cx, hv8, hgx0, hgx1⟩ := hO8.form (by rw [HXl.out]; omega)
  rw [HXl.out] at hv8
  subst hv8
  have hC8 := Below.next hC4 hD8
  have HXw := hide (fun V' (hb : Below w8.heap.size w8 V') => HXr.out V' _ _ (own_below hO8 hb))
  rw [HXl.out] at hO8
  have HO8 := hide hO8
  obtain ⟨c0, c1', c2', c3', c4', c5', c6, c7⟩ := hS4
  clear hS0 hS1 hS2 hS3 hHeld hr8 hO8 hO7 hO6 hO5 hb5 hb6 hb7 hb8 hD0 hD5 hD6 hD7 hdr HIn2 HCo HFx HAp2 hc5 i1
  have hal := alloc_below w8 (.cells (nvs T).toArray 45)
  have HMz : Hid (Mtx (w8.alloc (.cells (nvs T).toArray 45)) w8.heap.size (.slice (some ⟨w8.heap.size, 0, none⟩) T T) (nvs T) (tdM R T 0 0)) := HM0.out w8 w8.heap.size (Nat.le_refl _)
  go_upto_region 11 with fail
  clear c0 c1' c2' c3' c4' c5' c6 c7 hmk HM0
  generalize w8.alloc (.cells (nvs T).toArray 45) = V1 at *
  go_wp2_with fail
  obtain ⟨G, HG⟩ : ∃ G, Hid (w8.heap.size = G) := ⟨_, rfl⟩
  go_loopw [18] (fun vi wr => ∃ (m : Nat) (us : List Value), m ≤ W ∧ vi = .int .i64 m ∧ Hid (Mtx wr w8.heap.size (.slice (some ⟨w8.heap.size, 0, none⟩) T T) us (tdM R T m 0)) ∧ Below w8.heap.size w8 wr) (fun vi _ => W - (intOf vi).toNat)
  case atStart => exact ⟨0, _, Nat.zero_le _, rfl, HMz, hal⟩
  case round =>
    clear HMz hal
    obtain ⟨m, us, hmW, rfl, HM, hB⟩ := hrel
    obtain ⟨w10, rfl⟩ : ∃ w10, w10 = wr := ⟨wr, rfl⟩
    obtain ⟨c0, c1', c2', c3', c4', c5', c6, c7⟩ := HS.out _ (Below.next hC8 hB)
    by_cases hlt : m < W
    · have m0 : (0 : Int) ≤ (m : Int) := by omega
      have m1 : (m : Int) < (W : Int) := by omega
      go_wp2_with fail
      clear c0 c1' c2' c3' c4' c5' c6 c7
      -- the other data
      go_loopw [19, 20] (fun va vi wq => ∃ (k : Nat) (a : Option Addr) (c : Nat), k ≤ Kd ∧ vi = .int .i64 k ∧ va = .slice a k c ∧ Hid (wq.ownsRow w10.heap.size 50 1 (.slice a k c) k (vals (col (ol.take k) m))) ∧ Below w10.heap.size w10 wq) (fun _ vi _ => Kd - (intOf vi).toNat)
      case atStart => exact ⟨0, none, 0, Nat.zero_le _, rfl, rfl, World.ownsRow_nil _ _ _ _, Below.refl _ _⟩
      case round =>
        obtain ⟨k, a, c, hk, rfl, rfl, HO, hB2⟩ := hrel
        obtain ⟨c0, c1', c2', c3', c4', c5', c6, c7⟩ := HS.out _ (Below.next hC8 (Below.next hB hB2))
        by_cases hlk : k < Kd
        · have hBw := Below.next hA (Below.next hC8 (Below.next hB hB2))
          obtain ⟨b, off, cp, hv, _⟩ := H4.out.some_ (by rw [Hol.out]; omega)
          rw [Hol.out] at hv
          injection hv with hv _ hcv
          subst hv hcv
          have hWk := How.out k hlk
          obtain ⟨b2, off2, cc, d1, d2⟩ := H4.out.elem hBw (j := k) (by rw [Hol.out]; exact hlk) (k := m) (by rw [hWk]; exact hlt)
          rw [hWk] at d1
          have k0 : (0 : Int) ≤ (k : Int) := by omega
          have k1 : (k : Int) < (Kd : Int) := by omega
          have hT := HCt.out k m (by rw [Hol.out]; exact hlk)
          have hln := HCl.out k m (by omega)
          have hln2 := HCl.out (k + 1) m (by omega)
          have hal := alloc_below wr (.cells #[.int .u64 (co (ol.getD k []) m)] 50)
          obtain ⟨au, cu, W5, hr5, ho5, hb5, _, _⟩ := appW1 (wr.alloc (.cells #[.int .u64 (co (ol.getD k []) m)] 50)) w10.heap.size (.slice a k c) (col (ol.take k) m) ⟨wr.heap.size, 0, none⟩ (co (ol.getD k []) m) (by rw [hln]; exact own_below HO.out hal) (by simp [go_sem]) (by omega) (Nat.le_trans hB2.size hal.size)
          rw [hT, hln2] at ho5
          rw [hln] at hr5 ho5
          have HO5 := hide ho5
          have hB5 := (hB2.trans (hal.mono hB2.size)).trans hb5
          clear hT hln hln2 ho5 hal hb5 HO hWk
          generalize co (ol.getD k []) m = x at *
          go_wp2_with (at_builtin; refine Lib.wpList_append_run _ rfl _ _ _ _ rfl _ _ rfl rfl _ _ hr5 ?_)
          go_roundw
          case rel => exact ⟨k + 1, au, cu, by omega, by go_num, rfl, HO5, hB5⟩
          case measure => simp [intOf]; omega
        · have ek : Kd = k := by omega
          subst ek
          have HOb : Hid (wr.ownsRow w10.heap.size 50 1 (.slice a (Kd + 0) c) (Kd + 0) (vals (col ol m ++ (fx.take 0).map (V m)))) := by
            have := HO.out
            rw [List.take_of_length_le (by rw [Hol.out]; exact Nat.le_refl _)] at this
            rw [List.take_zero, List.map_nil, List.append_nil]
            exact this
          clear HO
          go_wp2_with fail
          clear c0 c1' c2' c3' c4' c5' c6 c7
          -- the kept shares
          go_loopw [19, 21] (fun va vi wq => ∃ (j : Nat) (a : Option Addr) (c : Nat), j ≤ T ∧ vi = .int .i64 ((Kd + j : Nat) : Int) ∧ va = .slice a (Kd + j) c ∧ Hid (wq.ownsRow w10.heap.size 50 1 (.slice a (Kd + j) c) (Kd + j) (vals (col ol m ++ (fx.take j).map (V m)))) ∧ Below w10.heap.size w10 wq) (fun _ vi _ => Kd + T - (intOf vi).toNat)
          case atStart => exact ⟨0, a, c, Nat.zero_le _, rfl, rfl, HOb, hB2⟩
          case round =>
            clear HOb hB2
            obtain ⟨j, a, c, hj, rfl, rfl, HO, hB2⟩ := hrel
            have hB8 := Below.next hB hB2
            have hB4' := Below.next hD8 hB8
            have hC := Below.next hC8 hB8
            obtain ⟨c0, c1', c2', c3', c4', c5', c6, c7⟩ := HS.out _ hC
            have hKT' := HKT.out
            by_cases hlj : j < T
            · obtain ⟨hml, hR⟩ := HPm.out wr _ _ us4 m (HM4.out.below hB4') hlt
              obtain ⟨GP, cP, hvP, _, hGP1, _⟩ := HM4.out.spell (by omega)
              cases hvP
              have hcm := (HM4.out.below hB4').cell hml
              obtain ⟨au, cu, hua, _⟩ := hR.spell
              rw [hua] at hcm hR
              have hxc := own_cell (own_below HO8.out hB8) HXl.out (k := Kd + j) (by omega)
              have HX1 : Hid (XS.getD (Kd + j) 0 = co XS (Kd + j)) := rfl
              rw [HX1.out] at hxc
              have HE1 := hide (fun W' (hb : Below wr.heap.size wr W') => HEv1.out m j W' _ hlt hlj (hR.below hb))
              have hYs := HYs.out m j hlj
              have hYl := HYl.out m j (by omega)
              have hYl2 := HYl.out m (j + 1) (by omega)
              generalize hy : V m (fx.getD j 0) = y at *
              generalize hx : co XS (Kd + j) = x at *
              generalize hn5 : (PL.getD m []).length = n5 at *
              have hdr : Below wr.heap.size wr wr.drew := (Below.refl _ wr).drew
              have HS3 : Hid (∀ V', Below wr.heap.size wr V' → V'.cell? ⟨w.heap.size, 0, none⟩ = some (.int .u8 pf) ∧ V'.cell? ⟨GP, m, none⟩ = some (.slice au n5 cu) ∧ V'.cell? ⟨gx, Kd + j, none⟩ = some (.int .u64 x)) := fun V' hb => ⟨(HS.out _ (Below.next hC hb)).1, (hb.cell (p := ⟨GP, m, none⟩) (cell_in hcm)).trans hcm, (hb.cell (p := ⟨gx, Kd + j, none⟩) (cell_in hxc)).trans hxc⟩
              have hS0 := HS3.out _ hdr
              have j0 : (0 : Int) ≤ ((Kd + j : Nat) : Int) := by omega
              have j1 : ((Kd + j : Nat) : Int) < (KT : Int) := by omega
              have p1 : (m : Int) < (PL.length : Int) := by omega
              obtain ⟨Kj, hKj⟩ : ∃ Kj, Hid (Kd + j = Kj) := ⟨_, rfl⟩
              rw [hKj.out] at hS0 HS3 HO hYl j0 j1 ⊢
              clear hcm hxc hR hua hy hx hn5 c0 c1' c2' c3' c4' c5' c6 c7 hKT' hHeld
              go_upto_region 22 with fail
              refine wp_region_held_drew (S := (fun V' => V'.cell? ⟨w.heap.size, 0, none⟩ = some (.int .u8 pf) ∧ V'.cell? ⟨GP, m, none⟩ = some (.slice au n5 cu) ∧ V'.cell? ⟨gx, Kj, none⟩ = some (.int .u64 x))) (by kernel_rfl) (by ((try dsimp only) <;> (first | with_reducible exact hS1 | with_reducible exact hS0))) (fun hHeld => ?_)
              (refine wpAnyH_take (i := 0) (oi := _) (v := ?v134) rfl (by kernel_rfl) (by kernel_rfl) (by kernel_rfl) (fun _ _ _ h => h) (Or.inl ⟨by rfl, ?hy134⟩) (by assumption) ?rest134; (case hy134 => (first | (intro w hSw; (try dsimp only at hSw); go_simp; done) | (intro w hSw; (try dsimp only at hSw); go_simp; with_reducible rfl))); (try simp only [Act.put, List.getElem_toArray, List.getElem_cons_succ, List.getElem_cons_zero, List.setIfInBounds_toArray, List.set_cons_zero, List.set_cons_succ]))
              (refine wpAnyH_take (i := 1) (oi := _) (v := ?v135) rfl (by kernel_rfl) (by kernel_rfl) (by kernel_rfl) (fun _ _ _ h => h) (Or.inl ⟨by rfl, ?hy135⟩) (by assumption) ?rest135; (case hy135 => (first | (intro w hSw; (try dsimp only at hSw); go_simp; done) | (intro w hSw; (try dsimp only at hSw); go_simp; with_reducible rfl))); (try simp only [Act.put, List.getElem_toArray, List.getElem_cons_succ, List.getElem_cons_zero, List.setIfInBounds_toArray, List.set_cons_zero, List.set_cons_succ]))
              (refine wpAnyH_take (i := 2) (oi := _) (v := ?v136) rfl (by kernel_rfl) (by kernel_rfl) (by kernel_rfl) (fun _ _ _ h => h) (Or.inl ⟨by rfl, ?hy136⟩) (by assumption) ?rest136; (case hy136 => (first | (intro w hSw; (try dsimp only at hSw); go_simp; done) | (intro w hSw; (try dsimp only at hSw); go_simp; with_reducible rfl))); (try simp only [Act.put, List.getElem_toArray, List.getElem_cons_succ, List.getElem_cons_zero, List.setIfInBounds_toArray, List.set_cons_zero, List.set_cons_succ]))
              (refine wpAnyH_take (i := 3) (oi := _) (v := ?v137) rfl (by kernel_rfl) (by kernel_rfl) (by kernel_rfl) (fun _ _ _ h => h) (Or.inl ⟨by rfl, ?hy137⟩) (by assumption) ?rest137; (case hy137 => (first | (intro w hSw; (try dsimp only at hSw); go_simp; done) | (intro w hSw; (try dsimp only at hSw); go_simp; with_reducible rfl))); (try simp only [Act.put, List.getElem_toArray, List.getElem_cons_succ, List.getElem_cons_zero, List.setIfInBounds_toArray, List.set_cons_zero, List.set_cons_succ]))
              (refine wpAnyH_take (i := 4) (oi := _) (v := ?v138) rfl (by kernel_rfl) (by kernel_rfl) (by kernel_rfl) (fun _ _ _ h => h) (Or.inl ⟨by rfl, ?hy138⟩) (by assumption) ?rest138; (case hy138 => (first | (intro w hSw; (try dsimp only at hSw); go_simp; done) | (intro w hSw; (try dsimp only at hSw); go_simp; with_reducible rfl))); (try simp only [Act.put, List.getElem_toArray, List.getElem_cons_succ, List.getElem_cons_zero, List.setIfInBounds_toArray, List.set_cons_zero, List.set_cons_succ]))
              (refine wpAnyH_take (i := 5) (oi := _) (v := ?v139) rfl (by kernel_rfl) (by kernel_rfl) (by kernel_rfl) (fun _ _ _ h => h) (Or.inl ⟨by rfl, ?hy139⟩) (by assumption) ?rest139; (case hy139 => (first | (intro w hSw; (try dsimp only at hSw); go_simp; done) | (intro w hSw; (try dsimp only at hSw); go_simp; with_reducible rfl))); (try simp only [Act.put, List.getElem_toArray, List.getElem_cons_succ, List.getElem_cons_zero, List.setIfInBounds_toArray, List.set_cons_zero, List.set_cons_succ]))
              (refine wpAnyH_take (i := 6) (oi := _) (v := ?v140) rfl (by kernel_rfl) (by kernel_rfl) (by kernel_rfl) (fun _ _ _ h => h) (Or.inl ⟨by rfl, ?hy140⟩) (by assumption) ?rest140; (case hy140 => (first | (intro w hSw; (try dsimp only at hSw); go_simp; done) | (intro w hSw; (try dsimp only at hSw); go_simp; with_reducible rfl))); (try simp only [Act.put, List.getElem_toArray, List.getElem_cons_succ, List.getElem_cons_zero, List.setIfInBounds_toArray, List.set_cons_zero, List.set_cons_succ]))
              (refine wpAnyH_take (i := 7) (oi := _) (v := ?v141) rfl (by kernel_rfl) (by kernel_rfl) (by kernel_rfl) (fun _ _ _ h => h) (Or.inl ⟨by rfl, ?hy141⟩) (by assumption) ?rest141; (case hy141 => (first | (intro w hSw; (try dsimp only at hSw); go_simp; done) | (intro w hSw; (try dsimp only at hSw); go_simp; with_reducible rfl))); (try simp only [Act.put, List.getElem_toArray, List.getElem_cons_succ, List.getElem_cons_zero, List.setIfInBounds_toArray, List.set_cons_zero, List.set_cons_succ]))
              (refine wpAnyH_take (i := 8) (oi := _) (v := ?v142) rfl (by kernel_rfl) (by kernel_rfl) (by kernel_rfl) (fun _ _ _ h => h) (Or.inl ⟨by rfl, ?hy142⟩) (by assumption) ?rest142; (case hy142 => (first | (intro w hSw; (try dsimp only at hSw); go_simp; done) | (intro w hSw; (try dsimp only at hSw); go_simp; with_reducible rfl))); (try simp only [Act.put, List.getElem_toArray, List.getElem_cons_succ, List.getElem_cons_zero, List.setIfInBounds_toArray, List.set_cons_zero, List.set_cons_succ]))
              (refine wpAnyH_take (i := 9) (oi := _) (v := ?v143) rfl (by kernel_rfl) (by kernel_rfl) (by kernel_rfl) (fun _ _ _ h => h) (Or.inl ⟨by rfl, ?hy143⟩) (by assumption) ?rest143; (case hy143 => (first | (intro w hSw; (try dsimp only at hSw); go_simp; done) | (intro w hSw; (try dsimp only at hSw); go_simp; with_reducible rfl))); (try simp only [Act.put, List.getElem_toArray, List.getElem_cons_succ, List.getElem_cons_zero, List.setIfInBounds_toArray, List.set_cons_zero, List.set_cons_succ]))
              refine wpAnyH_ready (rs := [10]) (by kernel_rfl) (by simp) ?_
              refine AllReadyH.cons (o := _) rfl (fun K hK => ?_) AllReadyH.nil
              try simp only [List.getElem_toArray, List.getElem_cons_succ, List.getElem_cons_zero]
              go_simp
              (first
                    | (go_at_call 31; refine (HE1.out _ hdr).mono ?_; rintro e w12 ⟨e0, rfl, hb12⟩; have hD12 := Below.next hdr hb12; have hS1 := HS3.out _ hD12))
              first | (refine hK.out _ _ (by ((try dsimp only) <;> (first | with_reducible exact hS1 | with_reducible exact hS0))) (fun hHeld => ?_)) | (go_wp2_with fail; refine hK.out _ _ (by ((try dsimp only) <;> (first | with_reducible exact hS1 | with_reducible exact hS0))) (fun hHeld => ?_))
              clear hK K
              (try simp only [Act.put, List.getElem_toArray, List.getElem_cons_succ, List.getElem_cons_zero, List.setIfInBounds_toArray, List.set_cons_zero, List.set_cons_succ])
              (refine wpAnyH_take (i := 11) (oi := _) (v := ?v144) rfl (by kernel_rfl) (by kernel_rfl) (by kernel_rfl) (fun _ _ _ h => h) (Or.inl ⟨by rfl, ?hy144⟩) (by assumption) ?rest144; (case hy144 => (first | (intro w hSw; (try dsimp only at hSw); go_simp; done) | (intro w hSw; (try dsimp only at hSw); go_simp; with_reducible rfl))); (try simp only [Act.put, List.getElem_toArray, List.getElem_cons_succ, List.getElem_cons_zero, List.setIfInBounds_toArray, List.set_cons_zero, List.set_cons_succ]))
              (refine wpAnyH_take (i := 12) (oi := _) (v := ?v145) rfl (by kernel_rfl) (by kernel_rfl) (by kernel_rfl) (fun _ _ _ h => h) (Or.inl ⟨by rfl, ?hy145⟩) (by assumption) ?rest145; (case hy145 => (first | (intro w hSw; (try dsimp only at hSw); go_simp; done) | (intro w hSw; (try dsimp only at hSw); go_simp; with_reducible rfl))); (try simp only [Act.put, List.getElem_toArray, List.getElem_cons_succ, List.getElem_cons_zero, List.setIfInBounds_toArray, List.set_cons_zero, List.set_cons_succ]))
              (refine wpAnyH_take (i := 13) (oi := _) (v := ?v146) rfl (by kernel_rfl) (by kernel_rfl) (by kernel_rfl) (fun _ _ _ h => h) (Or.inl ⟨by rfl, ?hy146⟩) (by assumption) ?rest146; (case hy146 => (first | (intro w hSw; (try dsimp only at hSw); go_simp; done) | (intro w hSw; (try dsimp only at hSw); go_simp; with_reducible rfl))); (try simp only [Act.put, List.getElem_toArray, List.getElem_cons_succ, List.getElem_cons_zero, List.setIfInBounds_toArray, List.set_cons_zero, List.set_cons_succ]))
              (refine wpAnyH_take (i := 14) (oi := _) (v := ?v147) rfl (by kernel_rfl) (by kernel_rfl) (by kernel_rfl) (fun _ _ _ h => h) (Or.inl ⟨by rfl, ?hy147⟩) (by assumption) ?rest147; (case hy147 => (first | (intro w hSw; (try dsimp only at hSw); go_simp; done) | (intro w hSw; (try dsimp only at hSw); go_simp; with_reducible rfl))); (try simp only [Act.put, List.getElem_toArray, List.getElem_cons_succ, List.getElem_cons_zero, List.setIfInBounds_toArray, List.set_cons_zero, List.set_cons_succ]))
              (refine wpAnyH_take (i := 15) (oi := _) (v := ?v148) rfl (by kernel_rfl) (by kernel_rfl) (by kernel_rfl) (fun _ _ _ h => h) (Or.inl ⟨by rfl, ?hy148⟩) (by assumption) ?rest148; (case hy148 => (first | (intro w hSw; (try dsimp only at hSw); go_simp; done) | (intro w hSw; (try dsimp only at hSw); go_simp; with_reducible rfl))); (try simp only [Act.put, List.getElem_toArray, List.getElem_cons_succ, List.getElem_cons_zero, List.setIfInBounds_toArray, List.set_cons_zero, List.set_cons_succ]))
              refine wpAnyH_done (by kernel_rfl) ?_ _
              have hal := alloc_below w12 (.cells #[.int .u64 y] 50)
              have hE12 := Below.next hD12 hal
              obtain ⟨a7, c7', W5, hr5, ho5, hb5, _, _⟩ := appW1 (w12.alloc (.cells #[.int .u64 y] 50)) w10.heap.size (.slice a Kj c) (col ol m ++ (fx.take j).map (V m)) ⟨w12.heap.size, 0, none⟩ y (by rw [hYl]; exact own_below HO.out hE12) (by simp [go_sem]) (by omega) (Nat.le_trans hB2.size hE12.size)
              rw [hYs, hYl2] at ho5
              rw [hYl] at hr5 ho5
              have hKj1 : Kj + 1 = Kd + (j + 1) := by have := hKj.out; omega
              have HO5 : Hid (W5.ownsRow w10.heap.size 50 1 (.slice a7 (Kd + (j + 1)) c7') (Kd + (j + 1)) (vals (col ol m ++ (fx.take (j + 1)).map (V m)))) := by rw [← hKj1] at ho5 ⊢; exact ho5
              have hB5 := (hB2.trans (hE12.mono hB2.size)).trans hb5
              have HK1 := hide hKj1
              clear hYs hYl hYl2 ho5 hal hE12 hb5 HO HE1 HS3 hS0 hS1 hKj1 HX1
              go_wp2_with (at_builtin; refine Lib.wpList_append_run _ rfl _ _ _ _ rfl _ _ rfl rfl _ _ hr5 ?_)
              go_roundw
              case rel => exact ⟨j + 1, a7, c7', by omega, by rw [← HK1.out]; go_num, by rw [HK1.out], HO5, hB5⟩
              case measure => simp [intOf]; omega
            · have ej : T = j := by omega
              subst ej
              rw [hKT'] at HO ⊢
              rw [← HYe.out m] at HO
              have HT1 := hide (fun W' (hb : Below wr.heap.size wr W') => HTh.out m W' _ _ hlt (HXw.out _ (Below.next hB8 hb)) (HWy.out m hlt W' _ _ _ (own_below HO.out hb)))
              have j1 : ¬ (KT : Int) < (KT : Int) := by omega
              clear c1' c2' c3' c4' c5' c6 c7
              go_wp2_with (go_at_call 32; refine (HT1.out _ (Below.refl _ _)).mono ?_; rintro e w12 ⟨vq, e0, rfl, hOq, hD12⟩; obtain ⟨aq, cq, rfl⟩ := own_form hOq)
              have HOq : Hid (w12.ownsRow w10.heap.size 50 1 (.slice aq (Q m).length cq) (Q m).length (vals (Q m))) := own_mono hOq hB2.size
              have hq0 : ∀ g, (Value.slice aq (Q m).length cq).ownBlock = some g → w10.heap.size ≤ g := fun g hg => own_base HOq.out g hg
              have hB12 := hB2.trans (hD12.mono hB2.size)
              have HMq := hide (HM.out.below hB12)
              have HDq : Hid (∀ i g, i < T → (us.getD i nov).ownBlock = some g → (Value.slice aq (Q m).length cq).ownBlock ≠ some g) := fun i g hi hg hc => by
                have x1 := own_top (HM.out.each i (by rw [tdM_len]; exact hi)) g hg
                have x2 := hq0 g hc
                omega
              have hBq := Below.next hB hB12
              have hWq := HWq.out m hlt
              have HRq := hide (fun V' lo' (hO : World.ownsRow V' lo' 50 1 (.slice aq (Q m).length cq) (Q m).length (vals (Q m))) => hWq V' _ lo' hO)
              clear hOq hq0 hWq HT1 HO
              generalize hnq : (Q m).length = nq at *
              go_loopw [26] (fun vi wq => ∃ (t : Nat) (us : List Value), t ≤ T ∧ vi = .int .i64 t ∧ Hid (Mtx wq w8.heap.size (.slice (some ⟨w8.heap.size, 0, none⟩) T T) us (tdM R T m t)) ∧ Hid (wq.ownsRow w10.heap.size 50 1 (.slice aq nq cq) nq (vals (Q m))) ∧ Hid (∀ i g, i < T → (us.getD i nov).ownBlock = some g → (Value.slice aq nq cq).ownBlock ≠ some g) ∧ Below w8.heap.size w8 wq) (fun vi _ => T - (intOf vi).toNat)
              case atStart => exact ⟨0, us, Nat.zero_le _, rfl, HMq, HOq, HDq, hBq⟩
              case round =>
                clear HMq HOq HDq hBq hB12 hD12 HM hB hB2 hB8 hB4' hC c0
                obtain ⟨t, us, htT, rfl, HM, HOq, HDq, hB⟩ := hrel
                obtain ⟨w13, rfl⟩ : ∃ w13, w13 = wr := ⟨wr, rfl⟩
                have hC := Below.next hC8 hB
                obtain ⟨c0, c1', c2', c3', c4', c5', c6, c7⟩ := HS.out _ hC
                by_cases hlt2 : t < T
                · have t0 : (0 : Int) ≤ (t : Int) := by omega
                  have t1 : (t : Int) < (T : Int) := by omega
                  have hMl : t < (tdM R T m t).length := by rw [tdM_len]; exact hlt2
                  have hml : (tdM R T m t).length = T := tdM_len _ _ _ _
                  have hcm := HM.out.cell hMl
                  have hGt := cell_in hcm
                  have hRow := HM.out.each t hMl
                  rw [tdM_at R hlt2, mk_len] at hRow
                  obtain ⟨au, cu, hu⟩ := own_form hRow
                  have HE2 := hide (HEv2.out m t w13 _ hlt hlt2 (HRq.out _ _ HOq.out))
                  have HLay : Hid (∀ V', Below w13.heap.size w13 V' → V'.cell? ⟨w8.heap.size, t, none⟩ = some (.slice au m cu) ∧ ∃ a7 c7 W5, (Builtin.append_ #[45, 45] 45 #[.slice au m cu, .slice (some ⟨V'.heap.size, 0, none⟩) 1 1]).run Tryz.prog (V'.alloc (.cells #[.int .u64 (R m t)] 50)) = .ok (.slice a7 (m + 1) c7) W5 ∧ (∃ c, W5.cell? ⟨w8.heap.size, t, none⟩ = some c) ∧ W5.frozen? ⟨w8.heap.size, t, none⟩ = false ∧ ∃ us', Hid (Mtx (W5.setCell ⟨w8.heap.size, t, none⟩ (.slice a7 (m + 1) c7)) w8.heap.size (.slice (some ⟨w8.heap.size, 0, none⟩) T T) us' (tdM R T m (t + 1))) ∧ Hid ((W5.setCell ⟨w8.heap.size, t, none⟩ (.slice a7 (m + 1) c7)).ownsRow w10.heap.size 50 1 (.slice aq nq cq) nq (vals (Q m))) ∧ Hid (∀ i g, i < T → (us'.getD i nov).ownBlock = some g → (Value.slice aq nq cq).ownBlock ≠ some g) ∧ Below w8.heap.size w8 (W5.setCell ⟨w8.heap.size, t, none⟩ (.slice a7 (m + 1) c7))) := fun V' hb => by
                    have hal := alloc_below V' (.cells #[.int .u64 (R m t)] 50)
                    have hE := Below.next hb hal
                    have hMV := HM.out.below hE
                    have hR1 := own_below hRow hE
                    have hB' := Below.next hB hE
                    rw [hu] at hR1 hcm
                    obtain ⟨a7, c7, W5, hr5, ho5, hb5, hg5, hk5⟩ := appW1 (V'.alloc (.cells #[.int .u64 (R m t)] 50)) w8.heap.size (.slice au m cu) (mk m (fun j => R j t)) ⟨V'.heap.size, 0, none⟩ (R m t) (by rw [mk_len]; exact hR1) (by simp [go_sem]) (by rw [mk_len]; omega) hB'.size
                    rw [mk_len] at hr5 ho5 hk5
                    have hsn : mk m (fun j => R j t) ++ [R m t] = mk (m + 1) (fun j => R j t) := mk_snoc m (fun j => R j t)
                    rw [hsn] at ho5
                    have hg6 := hg5
                    rw [← hu] at hg6 hk5
                    have hP := hMV.push hml.symm hMl hg6 ho5 hk5
                    rw [tdM_set R hlt2] at hP
                    have hG5 : W5.ownsRow w8.heap.size 45 1 (.slice (some ⟨w8.heap.size, 0, none⟩) T T) T us := by
                      have := own_kept hMV.row hg6 (fun g hgb hc => own_kind hMV.row (hMV.each t hMl) ne_kinds g hgb hc)
                      rw [hml] at this; exact this
                    have hul : us.length = T := by rw [HM.out.len, hml]
                    have hc5 : W5.cell? ⟨w8.heap.size, t, none⟩ = some (us.getD t nov) := by
                      have := hG5.cellAt t (by omega)
                      rw [this, List.getD_eq_getElem?_getD, List.getElem?_eq_getElem (by omega)]; rfl
                    have hq1 := own_below HOq.out hE
                    have hq2 := own_kept hq1 hg6 (fun g hgb hc => HDq.out t g hlt2 hc hgb)
                    refine ⟨(hb.cell (p := ⟨w8.heap.size, t, none⟩) hGt).trans hcm, a7, c7, W5, hr5, ⟨us.getD t nov, hc5⟩, free_own hG5 t, us.set t (.slice a7 (m + 1) c7), hP, own_other hq2 (fun e2 => own_kind hq2 hG5 (Ne.symm ne_kinds) _ e2 rfl), fun i g hi hg hc => ?_, (hB'.trans hb5).setCell (p := ⟨w8.heap.size, t, none⟩) (Nat.le_refl _) _⟩
                    rw [Rnk.getD_set _ _ _ (by rw [HM.out.len, hml]; exact hlt2)] at hg
                    by_cases ei : i = t
                    · rw [if_pos ei] at hg
                      rcases hk5 with hk5 | hk5
                      · rw [hg] at hk5
                        exact HDq.out t g hlt2 hk5.symm hc
                      · rw [hg] at hk5
                        have := own_top hq1 g hc
                        injection hk5 with hk5
                        omega
                    · rw [if_neg ei] at hg
                      exact HDq.out i g hi hg hc
                  clear HM HOq HDq hMl hml hRow hcm hGt hu HRq HEv2
                  clear c1' c4' c5' c6 c7
                  generalize R m t = y at *
                  go_wp2_with (first
                    | (go_at_call 31; refine HE2.out.mono ?_; rintro e w14 ⟨e1, rfl, hb14⟩; obtain ⟨d1, a7, c7, W5, hr5, ⟨cv, d2⟩, d3, us', HMn, HOn, HDn, hBn⟩ := HLay.out _ hb14; clear HLay)
                    | (at_builtin; refine Lib.wpList_append_run _ rfl _ _ _ _ rfl _ _ rfl rfl _ _ hr5 ?_))
                  go_roundw
                  case rel => exact ⟨t + 1, us', by omega, by go_num, HMn, HOn, HDn, hBn⟩
                  case measure => simp [intOf]; omega
                · have et : T = t := by omega
                  subst et
                  have HMn : Hid (Mtx w13 w8.heap.size (.slice (some ⟨w8.heap.size, 0, none⟩) T T) us (tdM R T (m + 1) 0)) := by
                    show Mtx _ _ _ _ _
                    rw [← tdM_next]; exact HM.out
                  have t1 : ¬ (T : Int) < (T : Int) := by omega
                  clear HM HOq HDq HRq
                  go_wp2_with fail
                  go_roundw
                  case rel => exact ⟨m + 1, us, by omega, by go_num, HMn, hB⟩
                  case measure => simp [intOf]; omega
    · obtain rfl : W = m := by omega
      have HR := hide (HEnd.out _ _ _ _ HM.out)
      have m1 : ¬ (W : Int) < (W : Int) := by omega
      have hBw := Below.next hA (Below.next hC8 hB)
      go_wp2_with fail
      go_ret2
      exact ⟨_, rfl, HR.out, hBw⟩

theorem dTwin (p : Pn) (vw vd vp vo : Value) (who : List Int) (dl pl ol : List (List Int)) (w : World) (hp : Ok8p p) (h3 : Lm iw 1 w vw who) (h1 : Rws w vd dl) (h2 : Rws w vp pl) (h4 : Rws w vo ol) : GivesW 9 #[plv p, vw, vd, vp, vo] w (twL p who dl pl ol) (twE p who dl pl ol) := by
  by_cases hz : twE p who dl pl ol = 0
  · rw [hz]; exact dTwin_yes p vw vd vp vo who dl pl ol w hp h3 h1 h2 h4 hz
  · exact dTwin_no p vw vd vp vo who dl pl ol w hp h3 h1 h2 h4 hz

end Go.Proofs.YtpbfgcepmbpkdaaGreat

