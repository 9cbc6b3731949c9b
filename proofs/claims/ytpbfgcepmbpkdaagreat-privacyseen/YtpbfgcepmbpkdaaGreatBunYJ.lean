/- Texts laid together: ShdE, ShdF, PrdA, AppW, PrdB, PrdC. -/
import Derived.Test.YtpbfgcepmbpkdaaGreatBunHF
import Derived.Test.YtpbfgcepmbpkdaaGreatBunHD
import Derived.Test.YtpbfgcepmbpkdaaGreatBunYB
import Derived.Test.YtpbfgcepmbpkdaaGreatBunQ
import Derived.Maps.AppendAt
import Derived.Laws.OwnMore
import Derived.Lib.AppendZeros
import Derived.Test.YtpbfgcepmbpkdaaGreatBQMute
import Derived.Test.YtpbfgcepmbpkdaaGreatBunAU
import Derived.Test.YtpbfgcepmbpkdaaGreatBunYC
namespace Go.Proofs.YtpbfgcepmbpkdaaGreat
open Go.RowKit Fld Pln Shr
set_option linter.unusedVariables false
set_option linter.unusedSimpArgs false

/-- The error behind the names' bounds, and behind their number. -/
def opA (p : Pn) (who : List Int) (l : List (List Int)) : Int := if whoB p.n who then bdE p l (p.k + p.t) else 2
def opB (p : Pn) (who : List Int) (l : List (List Int)) : Int := if opA p who l = 0 ∧ ¬ (who.length : Int) = p.k + p.t then 3 else opA p who l
/-- The error while the names' bounds are asked. -/
def whE (n b0 : Int) (who : List Int) (k : Nat) : Int := if whoB n (who.take k) then b0 else 2
end Go.Proofs.YtpbfgcepmbpkdaaGreat

namespace Go.Proofs.YtpbfgcepmbpkdaaGreat
open Go.RowKit Fld Pln Shr
set_option linter.unusedVariables false
set_option linter.unusedSimpArgs false

/-- The error while names are held against each other. -/
def ndE (who : List Int) (k : Nat) : Int := if (who.take k).Nodup then 0 else 6
def inE (who : List Int) (k j : Nat) : Int := if who.getD k 0 ∈ who.take j then 6 else 0
theorem inE_eq {who : List Int} {k j : Nat} (hj : j < who.length) (h : who.getD k 0 = who.getD j 0) : inE who k (j + 1) = 6 := by
  unfold inE
  rw [← take_snocI hj, if_pos (List.mem_append.2 (.inr (List.mem_singleton.2 h)))]
theorem inE_ne {who : List Int} {k j : Nat} (hj : j < who.length) (h : ¬ who.getD k 0 = who.getD j 0) : inE who k (j + 1) = inE who k j := by
  unfold inE
  rw [← take_snocI hj]
  by_cases hc : who.getD k 0 ∈ who.take j
  · rw [if_pos hc, if_pos (List.mem_append.2 (.inl hc))]
  · rw [if_neg hc, if_neg (fun h2 => by
      rcases List.mem_append.1 h2 with h3 | h3
      · exact hc h3
      · exact h (List.mem_singleton.1 h3))]
theorem inE_end {who : List Int} {k : Nat} (hk : k < who.length) (hn : (who.take k).Nodup) : inE who k k = ndE who (k + 1) := by
  unfold inE ndE
  rw [← take_snocI hk]
  by_cases hc : who.getD k 0 ∈ who.take k
  · rw [if_pos hc, if_neg (fun h2 => (List.nodup_append.1 h2).2.2 _ hc _ (List.mem_singleton.2 rfl) rfl)]
  · rw [if_neg hc, if_pos (List.nodup_append.2 ⟨hn, by simp, fun a ha b hb e => hc (by rw [← List.mem_singleton.1 hb, ← e]; exact ha)⟩)]
end Go.Proofs.YtpbfgcepmbpkdaaGreat

namespace Go.Proofs.YtpbfgcepmbpkdaaGreat
open Go.RowKit Fld Pln Shr
set_option linter.unusedVariables false
set_option linter.unusedSimpArgs false

theorem pw_two {p : Pn} {who : List Int} {e : Int} (h : e = 2 ∨ whoB p.n who = false) : pwE p who e = 2 := by
  unfold pwE
  rw [if_neg]
  rintro ⟨h1, h2⟩
  rcases h with h | h
  · exact h1 h
  · rw [h] at h2; cases h2
theorem pw_else {p : Pn} {who : List Int} {e : Int} (h : e ≠ 2) (hw : whoB p.n who = true) (h0 : e ≠ 0) : pwE p who e = e := by
  unfold pwE
  rw [if_pos ⟨h, hw⟩, if_neg h0]
theorem pw_three {p : Pn} {who : List Int} (hw : whoB p.n who = true) (h : ¬ (who.length : Int) ≤ p.t) : pwE p who 0 = 3 := by
  unfold pwE
  rw [if_pos ⟨by decide, hw⟩, if_pos rfl, if_neg h]
theorem pw_nd {p : Pn} {who : List Int} (hw : whoB p.n who = true) (h : (who.length : Int) ≤ p.t) : pwE p who 0 = ndE who who.length := by
  unfold pwE ndE
  rw [if_pos ⟨by decide, hw⟩, if_pos rfl, if_pos h, List.take_length]
theorem nd_six {who : List Int} {k : Nat} (hk : k ≤ who.length) (h : ¬ ndE who k = 0) : ndE who who.length = 6 := by
  unfold ndE at h ⊢
  rw [List.take_length]
  refine if_neg (fun hn => h (if_pos ?_))
  exact hn.sublist (List.take_sublist k who)

set_option maxRecDepth 100000 in
set_option maxHeartbeats 800000 in
theorem dWorkers (p : Pn) (v : Value) (who : List Int) (e : Int) (w : World) (h : Lm iw 1 w v who) : Calls Tryz.prog 26 #[plv p, v, .int .i64 e] w fun e' w' => e' = .returned (.int .i64 (pwE p who e)) ∧ Below w.heap.size w w' := by
  have HN := hide (fun k hk hf => whoB_no (n := p.n) (l := who) (k := k) hk hf)
  have HY := hide (fun hy => whoB_yes (n := p.n) (l := who) hy)
  have HP2 := hide (fun h => pw_two (p := p) (who := who) (e := e) h)
  have HPe := hide (fun h hw h0 => pw_else (p := p) (who := who) (e := e) h hw h0)
  have HP3 : Hid (e = 0 → whoB p.n who = true → p.t < (who.length : Int) → pwE p who e = 3) := fun h0 hw h => by rw [h0]; exact pw_three hw (by omega)
  have HPn : Hid (e = 0 → whoB p.n who = true → (who.length : Int) ≤ p.t → pwE p who e = ndE who who.length) := fun h0 hw h => by rw [h0]; exact pw_nd hw h
  have HI1 := hide (fun k j hj h => inE_eq (who := who) (k := k) (j := j) hj h)
  have HI2 := hide (fun k j hj h => inE_ne (who := who) (k := k) (j := j) hj h)
  have HI3 := hide (fun k hk hn => inE_end (who := who) (k := k) hk hn)
  have HN6 := hide (fun k hk h => nd_six (who := who) (k := k) hk h)
  have HN0 : Hid (∀ k, ndE who k = 0 → (who.take k).Nodup) := fun k hk => by
    unfold ndE at hk
    split at hk
    · assumption
    · cases hk
  have HI0 : Hid (∀ k, inE who k 0 = 0) := fun k => by unfold inE; rw [List.take_zero]; simp
  obtain ⟨pb, hA⟩ := pb_box (w := w) p
  have HL := hide h
  have hlen := h.len
  obtain ⟨ao, cap, rfl, hcap⟩ := h.spell
  have HPb := hide pb
  clear h pb
  rw [plan_eq] at *
  generalize pwE p who e = res at *
  go_enter Tryz.func26, Tryz.ntmps26
  go_wp2_with fail
  generalize w.alloc (.cells #[.int .u8 p.f, .int .i64 p.n, .int .i64 p.k, .int .i64 p.t, .int .i64 p.s, .int .i64 p.e, .int .i64 p.d, .int .i64 p.w] 24) = W0 at *
  -- the walk
  go_loopw [2, 7] (fun ve vi wr => ∃ k : Nat, k ≤ who.length ∧ vi = .int .i64 k ∧ ((ve = .int .i64 e ∧ Hid (∀ i, i < k → 0 ≤ who.getD i 0 ∧ who.getD i 0 < p.n)) ∨ (ve = .int .i64 2 ∧ Hid (res = 2))) ∧ Below W0.heap.size W0 wr) (fun _ vi _ => who.length - (intOf vi).toNat)
  case atStart => exact ⟨0, Nat.zero_le _, rfl, .inl ⟨rfl, fun i hi => by omega⟩, Below.refl _ _⟩
  case round =>
    obtain ⟨k, hk, rfl, hst, hB⟩ := hrel
    rcases hst with ⟨rfl, HQ⟩ | ⟨rfl, HR⟩
    · by_cases he2 : e = 2
      · have HR := hide (HP2.out (.inl he2))
        subst he2
        clear HQ HN HY HP2 HPe HP3 HPn HI1 HI2 HI3 HN6 HN0 HI0 HL HPb
        by_cases hlt : k < who.length
        · have k1 : (k : Int) < (who.length : Int) := by omega
          go_wp2_with fail
          go_loopw [2, 8] (fun ve vi wr => ve = .int .i64 2 ∧ vi = .int .i64 0 ∧ Below W0.heap.size W0 wr) (fun _ _ _ => 0)
          case atStart => exact ⟨rfl, rfl, hB⟩
          case round =>
            clear hB
            obtain ⟨rfl, rfl, hB⟩ := hrel
            by_cases hl0 : 0 < who.length
            · have hl1 : (0 : Int) < (who.length : Int) := by omega
              go_wp2_with fail
              go_ret
              exact ⟨by have hr := HR.out; rw [hr]; rfl, Below.next hA hB⟩
            · have hl1 : ¬ (0 : Int) < (who.length : Int) := by omega
              go_wp2_with fail
              go_ret
              exact ⟨by have hr := HR.out; rw [hr]; rfl, Below.next hA hB⟩
        · have k1 : ¬ (k : Int) < (who.length : Int) := by omega
          go_wp2_with fail
          go_loopw [2, 8] (fun ve vi wr => ve = .int .i64 2 ∧ vi = .int .i64 0 ∧ Below W0.heap.size W0 wr) (fun _ _ _ => 0)
          case atStart => exact ⟨rfl, rfl, hB⟩
          case round =>
            clear hB
            obtain ⟨rfl, rfl, hB⟩ := hrel
            by_cases hl0 : 0 < who.length
            · have hl1 : (0 : Int) < (who.length : Int) := by omega
              go_wp2_with fail
              go_ret
              exact ⟨by have hr := HR.out; rw [hr]; rfl, Below.next hA hB⟩
            · have hl1 : ¬ (0 : Int) < (who.length : Int) := by omega
              go_wp2_with fail
              go_ret
              exact ⟨by have hr := HR.out; rw [hr]; rfl, Below.next hA hB⟩
      · have hne2 : (e != 2) = true := bne_iff_ne.2 he2
        by_cases hlt : k < who.length
        · obtain ⟨b, off, cp, heq, _, _⟩ := HL.out.form (by omega)
          cases heq
          obtain ⟨c0, c1, c2, c3, c4, c5, c6, c7⟩ := (HPb.out.below hB).cells
          have hck := (lmi_cell HL.out (Below.next hA hB) hlt).2
          have k0 : (0 : Int) ≤ (k : Int) := by omega
          have k1 : (k : Int) < (who.length : Int) := by omega
          have HBq := hide (fun nq => below_drewN hB nq)
          by_cases hi : 0 ≤ who.getD k 0 ∧ who.getD k 0 < p.n
          · have HA2 : Hid (∀ i, i < k + 1 → 0 ≤ who.getD i 0 ∧ who.getD i 0 < p.n) := fun i h' => by
              rcases Nat.lt_or_eq_of_le (Nat.le_of_lt_succ h') with h1 | h1
              · exact HQ.out i h1
              · rw [h1]; exact hi
            obtain ⟨q1, q2⟩ := hi
            clear HN HY HQ HP2 HPe HP3 HPn HI1 HI2 HI3 HN6 HN0 HI0 HL HPb he2
            generalize who.getD k 0 = x at *
            go_upto_region 4 with fail
            go_quiet (fail)
            have hBq := HBq.out nq
            go_wp2_with fail
            go_roundw
            case rel => exact ⟨k + 1, by omega, by go_num, .inl ⟨rfl, HA2⟩, hBq⟩
            case measure => simp [intOf]; omega
          · have HR := hide (HP2.out (.inr (HN.out k hlt hi)))
            clear HN HY HQ HP2 HPe HP3 HPn HI1 HI2 HI3 HN6 HN0 HI0 HL HPb he2
            generalize who.getD k 0 = x at *
            by_cases hx : x < 0
            · clear hi
              go_upto_region 4 with fail
              go_quiet (fail)
              have hBq := HBq.out nq
              go_wp2_with fail
              go_roundw
              case rel => exact ⟨k + 1, by omega, by go_num, .inr ⟨rfl, HR⟩, hBq⟩
              case measure => simp [intOf]; omega
            · have hx2 : p.n ≤ x := by omega
              clear hi
              go_upto_region 4 with fail
              go_quiet (fail)
              have hBq := HBq.out nq
              go_wp2_with fail
              go_roundw
              case rel => exact ⟨k + 1, by omega, by go_num, .inr ⟨rfl, HR⟩, hBq⟩
              case measure => simp [intOf]; omega
        · obtain rfl : k = who.length := by omega
          have hw := HY.out HQ.out
          have k1 : ¬ (who.length : Int) < (who.length : Int) := by omega
          by_cases he0 : e = 0
          · have HPn1 := hide (HPn.out he0 hw)
            have HP31 := hide (HP3.out he0 hw)
            subst he0
            obtain ⟨c0, c1, c2, c3, c4, c5, c6, c7⟩ := (HPb.out.below hB).cells
            by_cases hl : (who.length : Int) ≤ p.t
            · have HR := hide (HPn1.out hl)
              clear HN HY HQ HP2 HPe HP3 HPn HPn1 HP31 hw hne2 he2
              go_wp2_with fail
              clear c0 c1 c2 c3 c4 c5 c6 c7
              go_loopw [2, 8] (fun ve vi wr => ∃ k : Nat, k ≤ who.length ∧ vi = .int .i64 k ∧ ve = .int .i64 (ndE who k) ∧ Below W0.heap.size W0 wr) (fun _ vi _ => who.length - (intOf vi).toNat)
              case atStart => exact ⟨0, Nat.zero_le _, rfl, by show Value.int .i64 0 = _; unfold ndE; simp, hB⟩
              case round =>
                clear hB
                obtain ⟨k, hk, rfl, rfl, hB⟩ := hrel
                by_cases hlt : k < who.length
                · have k0 : (0 : Int) ≤ (k : Int) := by omega
                  have k1 : (k : Int) < (who.length : Int) := by omega
                  by_cases hz : ndE who k = 0
                  · have HZ := hide (HN0.out k hz)
                    rw [hz]
                    go_wp2_with fail
                    go_loopw [2, 9] (fun ve vj wr => ∃ j : Nat, j ≤ k ∧ vj = .int .i64 j ∧ ve = .int .i64 (inE who k j) ∧ Below W0.heap.size W0 wr) (fun _ vj _ => k - (intOf vj).toNat)
                    case atStart => exact ⟨0, Nat.zero_le _, rfl, by rw [HI0.out], hB⟩
                    case round =>
                      clear hB
                      obtain ⟨j, hj, rfl, rfl, hB⟩ := hrel
                      by_cases hjk : j < k
                      · obtain ⟨b, off, cp, heq, _, _⟩ := HL.out.form (by omega)
                        cases heq
                        have d1 := (lmi_cell HL.out (Below.next hA hB) hlt).2
                        have d2 := (lmi_cell HL.out (Below.next hA hB) (k := j) (by omega)).2
                        have j0 : (0 : Int) ≤ (j : Int) := by omega
                        have j1 : (j : Int) < (k : Int) := by omega
                        have j2 : (j : Int) < (who.length : Int) := by omega
                        have HBq := hide (fun nq => below_drewN hB nq)
                        by_cases hxy : who.getD k 0 = who.getD j 0
                        · have HI := hide (HI1.out k j (by omega) hxy)
                          have ht : (who.getD k 0 == who.getD j 0) = true := beq_iff_eq.2 hxy
                          clear HI1 HI2 HI3 HN6 HN0 HI0 HL hxy
                          generalize hgi : inE who k (j + 1) = i2 at *
                          generalize inE who k j = i1 at *
                          have Hg := hide hgi
                          clear hgi
                          generalize who.getD k 0 = x at *
                          generalize who.getD j 0 = y at *
                          go_upto_region 14 with fail
                          go_quiet (fail)
                          have hBq := HBq.out nq
                          go_wp2_with fail
                          go_roundw
                          case rel => exact ⟨j + 1, by omega, by go_num, by rw [Hg.out, HI.out], hBq⟩
                          case measure => simp [intOf]; omega
                        · have HI := hide (HI2.out k j (by omega) hxy)
                          have ht : (who.getD k 0 == who.getD j 0) = false := beq_eq_false_iff_ne.2 hxy
                          clear HI1 HI2 HI3 HN6 HN0 HI0 HL hxy
                          generalize hgi : inE who k (j + 1) = i2 at *
                          generalize inE who k j = i1 at *
                          have Hg := hide hgi
                          clear hgi
                          generalize who.getD k 0 = x at *
                          generalize who.getD j 0 = y at *
                          go_upto_region 14 with fail
                          go_quiet (fail)
                          have hBq := HBq.out nq
                          go_wp2_with fail
                          go_roundw
                          case rel => exact ⟨j + 1, by omega, by go_num, by rw [Hg.out, HI.out], hBq⟩
                          case measure => simp [intOf]; omega
                      · obtain rfl : j = k := by omega
                        have HI := hide (HI3.out j hlt HZ.out)
                        have jj : ¬ (j : Int) < (j : Int) := by omega
                        clear HI1 HI2 HI3 HN6 HN0 HI0 HL
                        rw [HI.out]
                        generalize hgi : ndE who (j + 1) = i2 at *
                        have Hg := hide hgi
                        clear hgi
                        go_wp2_with fail
                        go_roundw
                        case rel => exact ⟨j + 1, by omega, by go_num, by rw [Hg.out], hB⟩
                        case measure => simp [intOf]; omega
                  · have h6 := HN6.out k (by omega) hz
                    have ht : (ndE who k == 0) = false := beq_eq_false_iff_ne.2 hz
                    have H6 : Hid (ndE who k = 6) := by
                      have : ndE who k = 0 ∨ ndE who k = 6 := by unfold ndE; split <;> simp
                      show _ = _
                      omega
                    have HR2 : Hid (res = 6) := by show _ = _; rw [HR.out, h6]
                    clear HI1 HI2 HI3 HN6 HN0 HI0 HL h6 hz HR
                    generalize ndE who k = i1 at *
                    go_wp2_with fail
                    go_ret
                    exact ⟨by have hr := HR2.out; have h6 := H6.out; subst hr h6; rfl, Below.next hA hB⟩
                · obtain rfl : k = who.length := by omega
                  clear HI1 HI2 HI3 HN6 HN0 HI0 HL
                  generalize ndE who who.length = i1 at *
                  go_wp2_with fail
                  go_ret
                  exact ⟨by have hr := HR.out; rw [hr]; rfl, Below.next hA hB⟩
            · have hl2 : p.t < (who.length : Int) := by omega
              have HR := hide (HP31.out hl2)
              clear HPn1 HP31 HN HY HQ HP2 HPe HP3 HPn HI1 HI2 HI3 HN6 HN0 HI0 HL HPb hw hne2 he2 hl
              go_wp2_with fail
              go_loopw [2, 8] (fun ve vi wr => ve = .int .i64 3 ∧ vi = .int .i64 0 ∧ Below W0.heap.size W0 wr) (fun _ _ _ => 0)
              case atStart => exact ⟨rfl, rfl, hB⟩
              case round =>
                clear hB
                obtain ⟨rfl, rfl, hB⟩ := hrel
                by_cases hl0 : 0 < who.length
                · have hl1 : (0 : Int) < (who.length : Int) := by omega
                  go_wp2_with fail
                  go_ret
                  exact ⟨by have hr := HR.out; rw [hr]; rfl, Below.next hA hB⟩
                · have hl1 : ¬ (0 : Int) < (who.length : Int) := by omega
                  go_wp2_with fail
                  go_ret
                  exact ⟨by have hr := HR.out; rw [hr]; rfl, Below.next hA hB⟩
          · have HR := hide (HPe.out he2 hw he0)
            have hne0 : (e == 0) = false := beq_eq_false_iff_ne.2 he0
            clear HN HY HQ HP2 HPe HP3 HPn HI1 HI2 HI3 HN6 HN0 HI0 HL HPb hw he0 he2
            go_wp2_with fail
            go_loopw [2, 8] (fun ve vi wr => ve = .int .i64 e ∧ vi = .int .i64 0 ∧ Below W0.heap.size W0 wr) (fun _ _ _ => 0)
            case atStart => exact ⟨rfl, rfl, hB⟩
            case round =>
              clear hB
              obtain ⟨rfl, rfl, hB⟩ := hrel
              by_cases hl0 : 0 < who.length
              · have hl1 : (0 : Int) < (who.length : Int) := by omega
                go_wp2_with fail
                go_ret
                exact ⟨by have hr := HR.out; rw [hr]; rfl, Below.next hA hB⟩
              · have hl1 : ¬ (0 : Int) < (who.length : Int) := by omega
                go_wp2_with fail
                go_ret
                exact ⟨by have hr := HR.out; rw [hr]; rfl, Below.next hA hB⟩
    · clear HN HY HP2 HPe HP3 HPn HI1 HI2 HI3 HN6 HN0 HI0 HL HPb
      by_cases hlt : k < who.length
      · have k1 : (k : Int) < (who.length : Int) := by omega
        go_wp2_with fail
        go_loopw [2, 8] (fun ve vi wr => ve = .int .i64 2 ∧ vi = .int .i64 0 ∧ Below W0.heap.size W0 wr) (fun _ _ _ => 0)
        case atStart => exact ⟨rfl, rfl, hB⟩
        case round =>
          clear hB
          obtain ⟨rfl, rfl, hB⟩ := hrel
          by_cases hl0 : 0 < who.length
          · have hl1 : (0 : Int) < (who.length : Int) := by omega
            go_wp2_with fail
            go_ret
            exact ⟨by have hr := HR.out; rw [hr]; rfl, Below.next hA hB⟩
          · have hl1 : ¬ (0 : Int) < (who.length : Int) := by omega
            go_wp2_with fail
            go_ret
            exact ⟨by have hr := HR.out; rw [hr]; rfl, Below.next hA hB⟩
      · have k1 : ¬ (k : Int) < (who.length : Int) := by omega
        go_wp2_with fail
        go_loopw [2, 8] (fun ve vi wr => ve = .int .i64 2 ∧ vi = .int .i64 0 ∧ Below W0.heap.size W0 wr) (fun _ _ _ => 0)
        case atStart => exact ⟨rfl, rfl, hB⟩
        case round =>
          clear hB
          obtain ⟨rfl, rfl, hB⟩ := hrel
          by_cases hl0 : 0 < who.length
          · have hl1 : (0 : Int) < (who.length : Int) := by omega
            go_wp2_with fail
            go_ret
            exact ⟨by have hr := HR.out; rw [hr]; rfl, Below.next hA hB⟩
          · have hl1 : ¬ (0 : Int) < (who.length : Int) := by omega
            go_wp2_with fail
            go_ret
            exact ⟨by have hr := HR.out; rw [hr]; rfl, Below.next hA hB⟩

end Go.Proofs.YtpbfgcepmbpkdaaGreat

namespace Go.Proofs.YtpbfgcepmbpkdaaGreat
open Go.RowKit Fld
set_option linter.unusedVariables false
set_option linter.unusedSimpArgs false

theorem vals_append (a b : List Int) : vals (a ++ b) = vals a ++ vals b := by unfold vals; rw [List.map_append]
/-- A list of the call's own, of none or more. -/
theorem appWO (W : World) (base lo : Nat) (u : Value) (A B : List Int) (vb : Value) (hO : W.ownsRow base 50 1 u A.length (vals A)) (hB : W.ownsRow lo 50 1 vb B.length (vals B)) (hl : A.length + B.length ≤ 100000) (hb : base ≤ W.heap.size) :
    ∃ v' W', (Builtin.append_ #[45, 45] 45 #[u, vb]).run Tryz.prog W = .ok v' W' ∧ W'.ownsRow base 50 1 v' (A ++ B).length (vals (A ++ B)) ∧ Below base W W' := by
  obtain ⟨i0, hi0, hz0, hz1, hz2⟩ := info_parts u64_info
  rcases hB.2 with ⟨rfl, h0⟩ | ⟨g, cap, cur, rfl, h2, h3, h4, h5, h6, h7⟩
  · have hB0 : B = [] := List.length_eq_zero_iff.1 h0
    subst hB0
    exact ⟨u, W, run_append_owned_none (P := Tryz.prog) W base 45 45 50 i0 1 Tryz.underlying45 hi0 u A.length (vals A) hO, by rw [List.append_nil]; exact hO, Below.refl _ _⟩
  · obtain ⟨v', W', hr, ho, hg, _, hbk⟩ := run_append_own_at (P := Tryz.prog) (w := W) base 45 45 50 i0 (.int .u64 0) 1 8 Tryz.underlying45 hi0 hz0 hz1 hz2 rfl (by decide) u A.length (vals A) hO ⟨g, 0, none⟩ B.length cap (vals B) (by rw [vals_length, Nat.mul_one]) (fun j u hj => by
      have hjl : j < B.length := by
        have := (List.getElem?_eq_some_iff.1 hj).1
        rwa [vals_length] at this
      have hadd : (⟨g, 0, none⟩ : Addr).add j = ⟨g, j, none⟩ := by unfold Addr.add; split <;> simp_all
      rw [vals_at B j hjl] at hj
      rw [hadd, own_cell hB rfl hjl]; exact hj) (vals_one B) (by unfold maxLen; omega) (by omega) hb
    refine ⟨v', W', hr, ?_, (Below.refl base W).grown hg hb (fun k hk => own_base hO k hk)⟩
    rw [vals_append, List.length_append]; exact ho
/-- One word. -/
theorem appW1 (W : World) (base : Nat) (u : Value) (A : List Int) (a : Addr) (x : Int) (hO : W.ownsRow base 50 1 u A.length (vals A)) (hc : W.cell? a = some (.int .u64 x)) (hl : A.length ≤ 100000) (hb : base ≤ W.heap.size) :
    ∃ (au' : Option Addr) (cu' : Nat) (W' : World), (Builtin.append_ #[45, 45] 45 #[u, .slice (some a) 1 1]).run Tryz.prog W = .ok (.slice au' (A.length + 1) cu') W' ∧ W'.ownsRow base 50 1 (.slice au' (A.length + 1) cu') (A ++ [x]).length (vals (A ++ [x])) ∧ Below base W W' ∧ W.grownBy W' u.ownBlock ∧ ((Value.slice au' (A.length + 1) cu').ownBlock = u.ownBlock ∨ (Value.slice au' (A.length + 1) cu').ownBlock = some W.heap.size) := by
  obtain ⟨i0, hi0, hz0, hz1, hz2⟩ := info_parts u64_info
  obtain ⟨v', W', hr, ho, hg, _, hbk⟩ := run_append_own_at (P := Tryz.prog) (w := W) base 45 45 50 i0 (.int .u64 0) 1 8 Tryz.underlying45 hi0 hz0 hz1 hz2 rfl (by decide) u A.length (vals A) hO a 1 1 [.int .u64 x] rfl (fun j u hj => by
    cases j with
    | zero => simp at hj; rw [← hj]; exact hc
    | succ j => simp at hj) (by simp [Value.oneCell']) (by unfold maxLen; omega) (by omega) hb
  obtain ⟨au', cu', rfl⟩ := own_form ho
  refine ⟨au', cu', W', hr, ?_, (Below.refl base W).grown hg hb (fun k hk => own_base hO k hk), hg, hbk⟩
  rw [vals_append, List.length_append]; exact ho

end Go.Proofs.YtpbfgcepmbpkdaaGreat

namespace Go.Proofs.YtpbfgcepmbpkdaaGreat
open Go.RowKit Fld Pln Shr
set_option linter.unusedVariables false
set_option linter.unusedSimpArgs false

/-- How far it has come. -/
def fxA (c : Int) (who : List Int) (k : Nat) : List Int := (who.take k).map (fun x => c + x)
def fxB (c : Int) (who : List Int) (i : Nat) : List Int := (who ++ oth who i).map (fun x => c + x)
theorem fxA_len {c : Int} {who : List Int} {k : Nat} (hk : k ≤ who.length) : (fxA c who k).length = k := by unfold fxA; rw [List.length_map, List.length_take]; omega
theorem fxA_snoc {c : Int} {who : List Int} {k : Nat} (hk : k < who.length) : fxA c who k ++ [c + who.getD k 0] = fxA c who (k + 1) := by
  unfold fxA
  rw [← take_snocI hk, List.map_append]; rfl
theorem fxA_all (c : Int) (who : List Int) : fxA c who who.length = fxB c who 0 := by
  unfold fxA fxB
  rw [List.take_length, oth_zero, List.append_nil]
theorem fxB_len (c : Int) (who : List Int) (i : Nat) : (fxB c who i).length = who.length + (oth who i).length := by unfold fxB; rw [List.length_map, List.length_append]
theorem fxB_yes {c : Int} {who : List Int} {i : Nat} (h : (i : Int) ∈ who) : fxB c who (i + 1) = fxB c who i := by
  unfold fxB; rw [oth_yes (List.contains_iff_mem.2 h)]
theorem fxB_no {c : Int} {who : List Int} {i : Nat} (h : ¬ (i : Int) ∈ who) : fxB c who i ++ [c + (i : Int)] = fxB c who (i + 1) := by
  unfold fxB
  rw [oth_no (by cases hc : who.contains (i : Int) with | false => rfl | true => exact absurd (List.contains_iff_mem.1 hc) h), ← List.append_assoc, List.map_append (l₁ := who ++ oth who i)]; rfl
theorem mem_takeS {who : List Int} {x : Int} {k : Nat} (hk : k < who.length) : x ∈ who.take (k + 1) ↔ (x ∈ who.take k ∨ who.getD k 0 = x) := by
  rw [← take_snocI hk, List.mem_append, List.mem_singleton]
  exact or_congr_right ⟨fun e => e.symm, fun e => e.symm⟩

set_option maxRecDepth 100000 in
set_option maxHeartbeats 800000 in
theorem dFixed (p : Pn) (v : Value) (who : List Int) (w : World) (h : Lm iw 1 w v who) (hm : mayP p = true) (hw : ∀ x ∈ who, 0 ≤ x ∧ x < p.n) (hl : (who.length : Int) ≤ p.t) :
    Calls Tryz.prog 30 #[plv p, v] w fun e w' => ∃ v', e = .returned v' ∧ w'.ownsRow w.heap.size 50 1 v' (fxL p who).length (vals (fxL p who)) ∧ Below w.heap.size w w' := by
  obtain ⟨⟨n0, n1⟩, ⟨k0, k1⟩, ⟨t0, t1⟩, _⟩ := may_facts hm
  obtain ⟨t, Ht⟩ : ∃ t : Nat, Hid (p.t.toNat = t) := ⟨_, rfl⟩
  have hpt : p.t = (t : Int) := by have := Ht.out; omega
  have HX : Hid (∀ k, k < who.length → 0 ≤ who.getD k 0 ∧ who.getD k 0 < 64) := fun k hk => by
    have := hw _ (getD_memA 0 hk); omega
  have HA1 := hide (fun k hk => fxA_len (c := p.k + p.t) (who := who) (k := k) hk)
  have HA2 := hide (fun k hk => fxA_snoc (c := p.k + p.t) (who := who) (k := k) hk)
  have HA3 := hide (fxA_all (p.k + p.t) who)
  have HB1 := hide (fun i => fxB_len (p.k + p.t) who i)
  have HB2 := hide (fun i h => fxB_yes (c := p.k + p.t) (who := who) (i := i) h)
  have HB3 := hide (fun i h => fxB_no (c := p.k + p.t) (who := who) (i := i) h)
  have HE : Hid (∀ i, i ≤ t → (fxB (p.k + p.t) who i).length = t → fxB (p.k + p.t) who i = fxL p who) := fun i hi he => by
    unfold fxB fxL
    rw [fx_end (t := t) (by rw [fxB_len] at he; exact he) hi, Ht.out]
  have HMo : Hid (∀ i, (fxB (p.k + p.t) who i).length < t → i < t) := fun i h1 => fx_more (who := who) (by rw [fxB_len] at h1; omega)
  have HMt := hide (fun k x hk => mem_takeS (who := who) (x := x) (k := k) hk)
  have HTl := hide (List.take_length (l := who))
  obtain ⟨pb, hA⟩ := pb_box (w := w) p
  have HPb := hide pb
  have HL := hide h
  have hlen := h.len
  obtain ⟨ao, cap, rfl, hcap⟩ := h.spell
  have hlt : who.length ≤ t := by omega
  have ht63 : t ≤ 63 := by omega
  have hkb : 0 ≤ p.k ∧ p.k ≤ 64 := by omega
  obtain ⟨hk0, hk1⟩ := hkb
  clear pb h hw hl Ht hm
  generalize fxL p who = res at *
  obtain ⟨pf, pn, pk, pt, ps, pe, pw, pd⟩ := p
  dsimp only at *
  subst hpt
  rw [plan_eq] at *
  dsimp only at *
  go_enter Tryz.func30, Tryz.ntmps30
  go_wp2_with fail
  generalize w.alloc (.cells #[.int .u8 pf, .int .i64 pn, .int .i64 pk, .int .i64 (t : Int), .int .i64 ps, .int .i64 pe, .int .i64 pd, .int .i64 pw] 24) = W0 at *
  go_loopw [5, 6] (fun va vi wr => ∃ (k : Nat) (a : Option Addr) (c : Nat), k ≤ who.length ∧ vi = .int .i64 k ∧ va = .slice a k c ∧ Hid (wr.ownsRow W0.heap.size 50 1 (.slice a k c) (fxA (pk + (t : Int)) who k).length (vals (fxA (pk + (t : Int)) who k))) ∧ Below W0.heap.size W0 wr) (fun _ vi _ => who.length - (intOf vi).toNat)
  case atStart => exact ⟨0, none, 0, Nat.zero_le _, rfl, rfl, World.ownsRow_nil _ _ _ _, Below.refl _ _⟩
  case round =>
    obtain ⟨k, a, c, hk, rfl, rfl, HO, hB⟩ := hrel
    by_cases hkl : k < who.length
    · obtain ⟨b, off, cp, heq, _, hbw⟩ := HL.out.form (by omega)
      cases heq
      have kk0 : (0 : Int) ≤ (k : Int) := by omega
      have kk1 : (k : Int) < (who.length : Int) := by omega
      obtain ⟨x0, x1⟩ := HX.out k hkl
      have hln := HA1.out k (by omega)
      have hsn := HA2.out k hkl
      have HS : Hid (∀ V, Below W0.heap.size W0 V → V.cell? ⟨w.heap.size, 2, none⟩ = some (.int .i64 pk) ∧ V.cell? ⟨w.heap.size, 3, none⟩ = some (.int .i64 (t : Int)) ∧ V.cell? ⟨b, off + k, none⟩ = some (.int .i64 (who.getD k 0))) := fun V hb => by
        have hc := (HPb.out.below hb).cells
        exact ⟨hc.2.2.1, hc.2.2.2.1, (lmi_cell HL.out (Below.next hA hb) hkl).2⟩
      have hdr : Below wr.heap.size wr wr.drew := (Below.refl _ wr).drew
      have hS0 := HS.out _ (hB.trans (hdr.mono hB.size))
      have hS1 := fun ob => HS.out (wr.alloc ob).drew (hB.trans (((alloc_below _ ob).drew).mono hB.size))
      have hal : Below wr.heap.size wr (wr.alloc (.cells #[.int .u64 (pk + (t : Int) + who.getD k 0)] 50)).drew := (alloc_below wr (.cells #[.int .u64 (pk + (t : Int) + who.getD k 0)] 50)).drew
      obtain ⟨au, cu, W5, hr5, ho5, hb5, _, _⟩ := appW1 (wr.alloc (.cells #[.int .u64 (pk + (t : Int) + who.getD k 0)] 50)).drew W0.heap.size (.slice a k c) (fxA (pk + (t : Int)) who k) ⟨wr.heap.size, 0, none⟩ (pk + (t : Int) + who.getD k 0) (own_below HO.out hal) (by simp [go_sem]) (by omega) (Nat.le_trans hB.size hal.size)
      rw [hsn, hln] at ho5
      rw [hln] at hr5
      have HO5 := hide ho5
      have hB5 := (hB.trans (hal.mono hB.size)).trans hb5
      have hS2 := HS.out _ hB5
      generalize who.getD k 0 = x at *
      clear HS HO ho5 hal hb5
      have HO6 : Hid (W5.ownsRow W0.heap.size 50 1 (.slice au (k + 1) cu) (fxA (pk + (t : Int)) who (k + 1)).length (vals (fxA (pk + (t : Int)) who (k + 1)))) := HO5.out
      clear HO5 hln hsn
      have ew : IntKind.u64.wrap (IntKind.i64.wrap (IntKind.i64.wrap (pk + (t : Int)) + x)) = pk + (t : Int) + x := by
        rw [IntKind.wrap_i64, IntKind.wrap_i64, IntKind.wrap_u64]; omega
      rw [← ew] at hr5
      clear ew
      go_upto_region 5 with fail
      refine wp_region_held_drew (S := (fun V => V.cell? ⟨w.heap.size, 2, none⟩ = some (.int .i64 pk) ∧ V.cell? ⟨w.heap.size, 3, none⟩ = some (.int .i64 (t : Int)) ∧ V.cell? ⟨b, off + k, none⟩ = some (.int .i64 x))) (by kernel_rfl) (by ((try dsimp only) <;> (first | with_reducible exact hS2 | with_reducible exact hS1 _ | with_reducible exact hS0))) (fun hHeld => ?_)
      (refine wpAnyH_take (i := 0) (oi := _) (v := ?v103) rfl (by kernel_rfl) (by kernel_rfl) (by kernel_rfl) (fun _ _ _ h => h) (Or.inl ⟨by rfl, ?hy103⟩) (by assumption) ?rest103; (case hy103 => (first | (intro w hSw; (try dsimp only at hSw); go_simp; done) | (intro w hSw; (try dsimp only at hSw); go_simp; with_reducible rfl))); (try simp only [Act.put, List.getElem_toArray, List.getElem_cons_succ, List.getElem_cons_zero, List.setIfInBounds_toArray, List.set_cons_zero, List.set_cons_succ]))
      (refine wpAnyH_take (i := 1) (oi := _) (v := ?v104) rfl (by kernel_rfl) (by kernel_rfl) (by kernel_rfl) (fun _ _ _ h => h) (Or.inl ⟨by rfl, ?hy104⟩) (by assumption) ?rest104; (case hy104 => (first | (intro w hSw; (try dsimp only at hSw); go_simp; done) | (intro w hSw; (try dsimp only at hSw); go_simp; with_reducible rfl))); (try simp only [Act.put, List.getElem_toArray, List.getElem_cons_succ, List.getElem_cons_zero, List.setIfInBounds_toArray, List.set_cons_zero, List.set_cons_succ]))
      (refine wpAnyH_take (i := 2) (oi := _) (v := ?v105) rfl (by kernel_rfl) (by kernel_rfl) (by kernel_rfl) (fun _ _ _ h => h) (Or.inl ⟨by rfl, ?hy105⟩) (by assumption) ?rest105; (case hy105 => (first | (intro w hSw; (try dsimp only at hSw); go_simp; done) | (intro w hSw; (try dsimp only at hSw); go_simp; with_reducible rfl))); (try simp only [Act.put, List.getElem_toArray, List.getElem_cons_succ, List.getElem_cons_zero, List.setIfInBounds_toArray, List.set_cons_zero, List.set_cons_succ]))
      (refine wpAnyH_take (i := 3) (oi := _) (v := ?v106) rfl (by kernel_rfl) (by kernel_rfl) (by kernel_rfl) (fun _ _ _ h => h) (Or.inl ⟨by rfl, ?hy106⟩) (by assumption) ?rest106; (case hy106 => (first | (intro w hSw; (try dsimp only at hSw); go_simp; done) | (intro w hSw; (try dsimp only at hSw); go_simp; with_reducible rfl))); (try simp only [Act.put, List.getElem_toArray, List.getElem_cons_succ, List.getElem_cons_zero, List.setIfInBounds_toArray, List.set_cons_zero, List.set_cons_succ]))
      (refine wpAnyH_take (i := 4) (oi := _) (v := ?v107) rfl (by kernel_rfl) (by kernel_rfl) (by kernel_rfl) (fun _ _ _ h => h) (Or.inl ⟨by rfl, ?hy107⟩) (by assumption) ?rest107; (case hy107 => (first | (intro w hSw; (try dsimp only at hSw); go_simp; done) | (intro w hSw; (try dsimp only at hSw); go_simp; with_reducible rfl))); (try simp only [Act.put, List.getElem_toArray, List.getElem_cons_succ, List.getElem_cons_zero, List.setIfInBounds_toArray, List.set_cons_zero, List.set_cons_succ]))
      (refine wpAnyH_take (i := 5) (oi := _) (v := ?v108) rfl (by kernel_rfl) (by kernel_rfl) (by kernel_rfl) (fun _ _ _ h => h) (Or.inl ⟨by rfl, ?hy108⟩) (by assumption) ?rest108; (case hy108 => (first | (intro w hSw; (try dsimp only at hSw); go_simp; done) | (intro w hSw; (try dsimp only at hSw); go_simp; with_reducible rfl))); (try simp only [Act.put, List.getElem_toArray, List.getElem_cons_succ, List.getElem_cons_zero, List.setIfInBounds_toArray, List.set_cons_zero, List.set_cons_succ]))
      (refine wpAnyH_take (i := 6) (oi := _) (v := ?v109) rfl (by kernel_rfl) (by kernel_rfl) (by kernel_rfl) (fun _ _ _ h => h) (Or.inl ⟨by rfl, ?hy109⟩) (by assumption) ?rest109; (case hy109 => (first | (intro w hSw; (try dsimp only at hSw); go_simp; done) | (intro w hSw; (try dsimp only at hSw); go_simp; with_reducible rfl))); (try simp only [Act.put, List.getElem_toArray, List.getElem_cons_succ, List.getElem_cons_zero, List.setIfInBounds_toArray, List.set_cons_zero, List.set_cons_succ]))
      (refine wpAnyH_take (i := 7) (oi := _) (v := ?v110) rfl (by kernel_rfl) (by kernel_rfl) (by kernel_rfl) (fun _ _ _ h => h) (Or.inl ⟨by rfl, ?hy110⟩) (by assumption) ?rest110; (case hy110 => (first | (intro w hSw; (try dsimp only at hSw); go_simp; done) | (intro w hSw; (try dsimp only at hSw); go_simp; with_reducible rfl))); (try simp only [Act.put, List.getElem_toArray, List.getElem_cons_succ, List.getElem_cons_zero, List.setIfInBounds_toArray, List.set_cons_zero, List.set_cons_succ]))
      (refine wpAnyH_take (i := 8) (oi := _) (v := ?v111) rfl (by kernel_rfl) (by kernel_rfl) (by kernel_rfl) (fun _ _ _ h => h) (Or.inl ⟨by rfl, ?hy111⟩) (by assumption) ?rest111; (case hy111 => (first | (intro w hSw; (try dsimp only at hSw); go_simp; done) | (intro w hSw; (try dsimp only at hSw); go_simp; with_reducible rfl))); (try simp only [Act.put, List.getElem_toArray, List.getElem_cons_succ, List.getElem_cons_zero, List.setIfInBounds_toArray, List.set_cons_zero, List.set_cons_succ]))
      (refine wpAnyH_take (i := 9) (oi := _) (v := ?v112) rfl (by kernel_rfl) (by kernel_rfl) (by kernel_rfl) (fun _ _ _ h => h) (Or.inl ⟨by rfl, ?hy112⟩) (by assumption) ?rest112; (case hy112 => (first | (intro w hSw; (try dsimp only at hSw); go_simp; done) | (intro w hSw; (try dsimp only at hSw); go_simp; with_reducible rfl))); (try simp only [Act.put, List.getElem_toArray, List.getElem_cons_succ, List.getElem_cons_zero, List.setIfInBounds_toArray, List.set_cons_zero, List.set_cons_succ]))
      (refine wpAnyH_take (i := 10) (oi := _) (v := ?v113) rfl (by kernel_rfl) (by kernel_rfl) (by kernel_rfl) (fun _ _ _ h => h) (Or.inl ⟨by rfl, ?hy113⟩) (by assumption) ?rest113; (case hy113 => (first | (intro w hSw; (try dsimp only at hSw); go_simp; done) | (intro w hSw; (try dsimp only at hSw); go_simp; with_reducible rfl))); (try simp only [Act.put, List.getElem_toArray, List.getElem_cons_succ, List.getElem_cons_zero, List.setIfInBounds_toArray, List.set_cons_zero, List.set_cons_succ]))
      (refine wpAnyH_take (i := 11) (oi := _) (v := ?v114) rfl (by kernel_rfl) (by kernel_rfl) (by kernel_rfl) (fun _ _ _ h => h) (Or.inl ⟨by rfl, ?hy114⟩) (by assumption) ?rest114; (case hy114 => (first | (intro w hSw; (try dsimp only at hSw); go_simp; done) | (intro w hSw; (try dsimp only at hSw); go_simp; with_reducible rfl))); (try simp only [Act.put, List.getElem_toArray, List.getElem_cons_succ, List.getElem_cons_zero, List.setIfInBounds_toArray, List.set_cons_zero, List.set_cons_succ]))
      refine wpAnyH_ready (rs := [12]) (by kernel_rfl) (by simp) ?_
      refine AllReadyH.cons (o := _) rfl (fun K hK => ?_) AllReadyH.nil
      try simp only [List.getElem_toArray, List.getElem_cons_succ, List.getElem_cons_zero]
      go_simp
      refine hK.out _ _ (by ((try dsimp only) <;> (first | with_reducible exact hS2 | with_reducible exact hS1 _ | with_reducible exact hS0))) (fun hHeld => ?_)
      clear hK K
      (try simp only [Act.put, List.getElem_toArray, List.getElem_cons_succ, List.getElem_cons_zero, List.setIfInBounds_toArray, List.set_cons_zero, List.set_cons_succ])
      refine wpAnyH_ready (rs := [13]) (by kernel_rfl) (by simp) ?_
      refine AllReadyH.cons (o := _) rfl (fun K hK => ?_) AllReadyH.nil
      (first
            | (refine app_mute (by rfl) _ _ _ _ (by rfl) _ _ (by rfl) (by rfl) _ W5 hr5 ?_))
      refine hK.out _ _ (by ((try dsimp only) <;> (first | with_reducible exact hS2 | with_reducible exact hS1 _ | with_reducible exact hS0))) (fun hHeld => ?_)
      clear hK K
      (try simp only [Act.put, List.getElem_toArray, List.getElem_cons_succ, List.getElem_cons_zero, List.setIfInBounds_toArray, List.set_cons_zero, List.set_cons_succ])
      (refine wpAnyH_take (i := 14) (oi := _) (v := ?v115) rfl (by kernel_rfl) (by kernel_rfl) (by kernel_rfl) (fun _ _ _ h => h) (Or.inl ⟨by rfl, ?hy115⟩) (by assumption) ?rest115; (case hy115 => (first | (intro w hSw; (try dsimp only at hSw); go_simp; done) | (intro w hSw; (try dsimp only at hSw); go_simp; with_reducible rfl))); (try simp only [Act.put, List.getElem_toArray, List.getElem_cons_succ, List.getElem_cons_zero, List.setIfInBounds_toArray, List.set_cons_zero, List.set_cons_succ]))
      refine wpAnyH_done (by kernel_rfl) ?_ _
      go_wp2_with fail
      go_roundw
      case rel => exact ⟨k + 1, au, cu, by omega, by go_num, rfl, HO6, hB5⟩
      case measure => simp [intOf]; omega
    · obtain rfl : k = who.length := by omega
      rw [HA3.out] at HO
      have hl0 := HB1.out 0
      have e0 : who.length = (fxB (pk + (t : Int)) who 0).length := by rw [hl0, oth_zero]; rfl
      have hl1 : (fxB (pk + (t : Int)) who 0).length ≤ t := by rw [← e0]; exact hlt
      clear HA1 HA2 HA3 hl0
      go_wp2_with fail
      go_loopw [5, 7] (fun va vi wr => ∃ (i : Nat) (a : Option Addr) (c : Nat), i ≤ t ∧ vi = .int .i64 i ∧ va = .slice a (fxB (pk + (t : Int)) who i).length c ∧ (fxB (pk + (t : Int)) who i).length ≤ t ∧ Hid (wr.ownsRow W0.heap.size 50 1 (.slice a (fxB (pk + (t : Int)) who i).length c) (fxB (pk + (t : Int)) who i).length (vals (fxB (pk + (t : Int)) who i))) ∧ Below W0.heap.size W0 wr) (fun _ vi _ => t - (intOf vi).toNat)
      case atStart => exact ⟨0, a, c, Nat.zero_le _, rfl, by rw [← e0], hl1, by rw [← e0]; rw [← e0] at HO; exact HO, hB⟩
      case round =>
        clear hB HO e0 hl1
        obtain ⟨i, a, c, hi, rfl, rfl, hl, HO, hB⟩ := hrel
        obtain ⟨c0, c1, c2, c3, c4, c5, c6, c7⟩ := (HPb.out.below hB).cells
        dsimp only at c0 c1 c2 c3 c4 c5 c6 c7
        by_cases hlt2 : (fxB (pk + (t : Int)) who i).length < t
        · have hit := HMo.out i hlt2
          have hj : ((fxB (pk + (t : Int)) who i).length : Int) < (t : Int) := by omega
          go_wp2_with fail
          -- whether it is named
          go_loopw [8, 9] (fun vn vj wr => ∃ (j : Nat), j ≤ who.length ∧ vj = .int .i64 j ∧ vn = .bool (decide ((i : Int) ∈ who.take j)) ∧ Hid (wr.ownsRow W0.heap.size 50 1 (.slice a (fxB (pk + (t : Int)) who i).length c) (fxB (pk + (t : Int)) who i).length (vals (fxB (pk + (t : Int)) who i))) ∧ Below W0.heap.size W0 wr) (fun _ vj _ => who.length - (intOf vj).toNat)
          case atStart => exact ⟨0, Nat.zero_le _, rfl, by rw [List.take_zero]; rfl, HO, hB⟩
          case round =>
            clear hB HO c0 c1 c2 c3 c4 c5 c6 c7
            obtain ⟨j, hjl, rfl, rfl, HO, hB⟩ := hrel
            by_cases hjw : j < who.length
            · obtain ⟨b, off, cp, heq, _, hbw⟩ := HL.out.form (by omega)
              cases heq
              have hck := (lmi_cell HL.out (Below.next hA hB) hjw).2
              have j0 : (0 : Int) ≤ (j : Int) := by omega
              have j1 : (j : Int) < (who.length : Int) := by omega
              have hmt := HMt.out j (i : Int) hjw
              generalize hd2 : decide ((i : Int) ∈ who.take (j + 1)) = d2 at *
              have Hd2 := hide hd2
              generalize hd1 : decide ((i : Int) ∈ who.take j) = d1 at *
              cases d1 with
              | true =>
                have e2 : d2 = true := by rw [← hd2]; exact decide_eq_true (hmt.2 (.inl (of_decide_eq_true hd1)))
                have HD : Hid (decide ((i : Int) ∈ who.take (j + 1)) = true) := by show _ = _; rw [hd2, e2]
                clear hmt hd1 hd2 Hd2 e2
                go_wp2_with fail
                go_roundw
                case rel => exact ⟨j + 1, by omega, by go_num, by rw [HD.out], HO, hB⟩
                case measure => simp [intOf]; omega
              | false =>
                have hn1 : ¬ (i : Int) ∈ who.take j := of_decide_eq_false hd1
                by_cases hx : who.getD j 0 = (i : Int)
                · have HD : Hid (decide ((i : Int) ∈ who.take (j + 1)) = true) := decide_eq_true (hmt.2 (.inr hx))
                  have ht : (who.getD j 0 == (i : Int)) = true := beq_iff_eq.2 hx
                  clear hmt hd1 hd2 Hd2 hn1 hx
                  generalize who.getD j 0 = x at *
                  go_wp2_with fail
                  go_roundw
                  case rel => exact ⟨j + 1, by omega, by go_num, by rw [HD.out], HO, hB⟩
                  case measure => simp [intOf]; omega
                · have HD : Hid (decide ((i : Int) ∈ who.take (j + 1)) = false) := decide_eq_false (fun h => by
                    rcases hmt.1 h with h1 | h1
                    · exact hn1 h1
                    · exact hx h1)
                  have ht : (who.getD j 0 == (i : Int)) = false := beq_eq_false_iff_ne.2 hx
                  clear hmt hd1 hd2 Hd2 hn1 hx
                  generalize who.getD j 0 = x at *
                  go_wp2_with fail
                  go_roundw
                  case rel => exact ⟨j + 1, by omega, by go_num, by rw [HD.out], HO, hB⟩
                  case measure => simp [intOf]; omega
            · obtain rfl : j = who.length := by omega
              rw [HTl.out]
              obtain ⟨c0, c1, c2, c3, c4, c5, c6, c7⟩ := (HPb.out.below hB).cells
              dsimp only at c0 c1 c2 c3 c4 c5 c6 c7
              by_cases hmem : (i : Int) ∈ who
              · have HY := hide (HB2.out i hmem)
                rw [decide_eq_true hmem]
                have HO2 := HO
                rw [← HY.out] at HO2
                have hl2 : (fxB (pk + (t : Int)) who (i + 1)).length ≤ t := by rw [HY.out]; exact hl
                have HV : Hid (Value.slice a (fxB (pk + (t : Int)) who i).length c = .slice a (fxB (pk + (t : Int)) who (i + 1)).length c) := by show _ = _; rw [HY.out]
                clear HE HMo HMt HO hmem HB1 HB2 HB3
                generalize hgm : (fxB (pk + (t : Int)) who i).length = m at *
                clear hgm
                go_wp2_with fail
                go_roundw
                case rel => exact ⟨i + 1, a, c, by omega, by go_num, HV.out, hl2, HO2, hB⟩
                case measure => simp [intOf]; omega
              · have HY := hide (HB3.out i hmem)
                rw [decide_eq_false hmem]
                have i0 : (0 : Int) ≤ (i : Int) := by omega
                have i1 : (i : Int) < 64 := by omega
                have hal := alloc_below wr (.cells #[.int .u64 (pk + (t : Int) + (i : Int))] 50)
                obtain ⟨au, cu, W5, hr5, ho5, hb5, _, _⟩ := appW1 (wr.alloc (.cells #[.int .u64 (pk + (t : Int) + (i : Int))] 50)) W0.heap.size _ (fxB (pk + (t : Int)) who i) ⟨wr.heap.size, 0, none⟩ (pk + (t : Int) + (i : Int)) (own_below HO.out hal) (by simp [go_sem]) (by omega) (Nat.le_trans hB.size hal.size)
                rw [HY.out] at ho5
                have HL2 : Hid ((fxB (pk + (t : Int)) who (i + 1)).length = (fxB (pk + (t : Int)) who i).length + 1) := by show _ = _; rw [← HY.out, List.length_append]; rfl
                have HO5 := hide ho5
                have hB5 := (hB.trans (hal.mono hB.size)).trans hb5
                have hl2 : (fxB (pk + (t : Int)) who (i + 1)).length ≤ t := by rw [HL2.out]; omega
                clear HE HMo HMt HO hmem HB1 HB2 HB3 ho5 hal hb5
                generalize hgm : (fxB (pk + (t : Int)) who i).length = m at *
                clear hgm
                go_wp2_with (at_builtin; refine Lib.wpList_append_run _ rfl _ _ _ _ rfl _ _ rfl rfl _ _ hr5 ?_)
                go_roundw
                case rel => exact ⟨i + 1, au, cu, by omega, by go_num, by rw [HL2.out], hl2, by rw [← HL2.out] at HO5; exact HO5, hB5⟩
                case measure => simp [intOf]; omega
        · have he : (fxB (pk + (t : Int)) who i).length = t := by omega
          have HR := hide (HE.out i hi he)
          have hj : ¬ ((fxB (pk + (t : Int)) who i).length : Int) < (t : Int) := by omega
          have HF : Hid (wr.ownsRow W0.heap.size 50 1 (.slice a (fxB (pk + (t : Int)) who i).length c) res.length (vals res)) := by
            have := HO.out
            rw [HR.out] at this ⊢
            exact this
          clear HE HMo HMt HO HB1 HB2 HB3 HR he
          generalize (fxB (pk + (t : Int)) who i).length = m at *
          go_wp2_with fail
          go_ret
          exact ⟨_, rfl, own_mono HF.out hA.size, Below.next hA hB⟩

end Go.Proofs.YtpbfgcepmbpkdaaGreat

namespace Go.Proofs.YtpbfgcepmbpkdaaGreat
open Go.RowKit Fld Pln Shr
set_option linter.unusedVariables false
set_option linter.unusedSimpArgs false

/-- A call that answers rows for reading, and an error. -/
def GivesW (k : FuncId) (args : Array Value) (W : World) (xss : List (List Int)) (e0 : Int) : Prop :=
  Calls Tryz.prog k args W fun e w' => ∃ v', e = .returned (.tuple #[v', .int .i64 e0]) ∧ Rws w' v' xss ∧ Below W.heap.size W w'

set_option maxRecDepth 100000 in
set_option maxHeartbeats 400000 in
theorem dWays (p : Pn) (vw : Value) (who : List Int) (w : World) (hp : Ok8p p) (h3 : Lm iw 1 w vw who) : Calls Tryz.prog 15 #[plv p, vw] w fun e w' => e = .returned (.tuple #[.int .i64 (wyV p who), .int .i64 (wyE p who)]) ∧ Below w.heap.size w w' := by
  have HRw := hide (fun W => dRows p W hp)
  unfold GivesL at HRw
  have HK : Hid (∀ W, Below w.heap.size w W → Calls Tryz.prog 26 #[plv p, vw, .int .i64 (erP p)] W fun e w' => e = .returned (.int .i64 (wyE p who)) ∧ Below W.heap.size W w') := fun W hb => dWorkers p vw who (erP p) W (h3.below hb)
  obtain ⟨pb, hA⟩ := pb_box (w := w) p
  have HPb := hide pb
  obtain ⟨c0, c1, c2, c3, c4, c5, c6, c7⟩ := pb.cells
  have hwl := h3.len
  obtain ⟨aw, cw, rfl, _⟩ := h3.spell
  by_cases hz : wyE p who = 0
  · obtain ⟨hm, hw, hl, hn⟩ := wy_zero.1 hz
    obtain ⟨_, _, ⟨t0, t1⟩, _, _, _, w0, w1⟩ := may_facts hm
    have HV : Hid (wyV p who = p.w * (p.t - who.length)) := by show _ = _; unfold wyV; rw [if_pos hz]
    rw [HV.out, hz]
    rw [hz] at HK
    have e1 : 0 ≤ p.w * (p.t - who.length) ∧ p.w * (p.t - who.length) ≤ 64 * 64 := ⟨Int.mul_nonneg (by omega) (by omega), Int.mul_le_mul (by omega) (by omega) (by omega) (by omega)⟩
    obtain ⟨e1, e2⟩ := e1
    clear hz hm hw hn pb h3 HV hp
    generalize erP p = e0 at *
    generalize rwsL p = rows at *
    generalize who.length = nw at *
    rw [plan_eq] at *
    go_enter Tryz.func15, Tryz.ntmps15
    go_wp2_with (first
      | (go_at_call 35; refine (HRw.out _).mono ?_; rintro e w1 ⟨v1, us1, rfl, hL1, hb1⟩; obtain ⟨a1, k1, rfl⟩ := own_form hL1.row; clear hL1; have hB1 := Below.next hA hb1; clear c0 c1 c2 c3 c4 c5 c6 c7; obtain ⟨c0, c1, c2, c3, c4, c5, c6, c7⟩ := (HPb.out.below hb1).cells)
      | (go_at_call 26; refine (HK.out _ hB1).mono ?_; rintro e w2 ⟨rfl, hb2⟩; clear c0 c1 c2 c3 c4 c5 c6 c7; obtain ⟨c0, c1, c2, c3, c4, c5, c6, c7⟩ := (HPb.out.below (Below.next hb1 hb2)).cells))
    go_ret2
    exact ⟨rfl, Below.next hB1 hb2⟩
  · have ht : (wyE p who != 0) = true := bne_iff_ne.2 hz
    have HV : Hid (wyV p who = 0) := by show _ = _; unfold wyV; rw [if_neg hz]
    rw [HV.out]
    clear hz pb h3 HV hp
    generalize wyE p who = e1 at *
    generalize erP p = e0 at *
    generalize rwsL p = rows at *
    generalize who.length = nw at *
    rw [plan_eq] at *
    go_enter Tryz.func15, Tryz.ntmps15
    go_wp2_with (first
      | (go_at_call 35; refine (HRw.out _).mono ?_; rintro e w1 ⟨v1, us1, rfl, hL1, hb1⟩; obtain ⟨a1, k1, rfl⟩ := own_form hL1.row; clear hL1; have hB1 := Below.next hA hb1; clear c0 c1 c2 c3 c4 c5 c6 c7; obtain ⟨c0, c1, c2, c3, c4, c5, c6, c7⟩ := (HPb.out.below hb1).cells)
      | (go_at_call 26; refine (HK.out _ hB1).mono ?_; rintro e w2 ⟨rfl, hb2⟩))
    go_ret2
    exact ⟨rfl, Below.next hB1 hb2⟩

/-- One list appended to lists of the call's own. -/
theorem appL1 (W : World) (base : Nat) (u : Value) (A : List Value) (a : Addr) (x : Value) (hO : W.ownsRow base 45 1 u A.length A) (hc : W.cell? a = some x) (hx : x.oneCell' = true) (hl : A.length ≤ 100000) (hb : base ≤ W.heap.size) :
    ∃ (au' : Option Addr) (cu' : Nat) (W' : World), (Builtin.append_ #[26, 26] 26 #[u, .slice (some a) 1 1]).run Tryz.prog W = .ok (.slice au' (A.length + 1) cu') W' ∧ W'.ownsRow base 45 1 (.slice au' (A.length + 1) cu') (A ++ [x]).length (A ++ [x]) ∧ Below base W W' ∧ W.grownBy W' u.ownBlock := by
  obtain ⟨i0, hi0, hz0, hz1, hz2⟩ := info_parts sl_info
  obtain ⟨v', W', hr, ho, hg, _, hbk⟩ := run_append_own_at (P := Tryz.prog) (w := W) base 26 26 45 i0 (.slice none 0 0) 1 24 Tryz.underlying26 hi0 hz0 hz1 hz2 rfl (by decide) u A.length A hO a 1 1 [x] rfl (fun j u hj => by
    cases j with
    | zero => simp at hj; rw [← hj]; exact hc
    | succ j => simp at hj) (by simpa using hx) (by unfold maxLen; omega) (by omega) hb
  obtain ⟨au', cu', rfl⟩ := own_form ho
  refine ⟨au', cu', W', hr, ?_, (Below.refl base W).grown hg hb (fun k hk => own_base hO k hk), hg⟩
  rw [List.length_append]; exact ho

set_option maxRecDepth 100000 in
set_option maxHeartbeats 800000 in
theorem dSeen (p : Pn) (vw vd vp : Value) (who : List Int) (dl pl : List (List Int)) (w : World) (hp : Ok8p p) (h3 : Lm iw 1 w vw who) (h1 : Rws w vd dl) (h2 : Rws w vp pl) : GivesW 13 #[plv p, vw, vd, vp] w (seL p who dl pl) (seE p who dl pl) := by
  have HBd := hide (fun W (hb : Below w.heap.size w W) => dBad14 p vd vp dl pl W hp (h1.below hb) (h2.below hb))
  have HK : Hid (∀ W, Below w.heap.size w W → Calls Tryz.prog 26 #[plv p, vw, .int .i64 (bkE p dl pl [])] W fun e w' => e = .returned (.int .i64 (seE p who dl pl)) ∧ Below W.heap.size W w') := fun W hb => dWorkers p vw who (bkE p dl pl []) W (h3.below hb)
  have HAl := hide (fun W (hb : Below w.heap.size w W) => dAll p vd vp dl pl W hp (h1.below hb) (h2.below hb))
  unfold GivesL at HAl
  obtain ⟨pb, hA⟩ := pb_box (w := w) p
  have HPb := hide pb
  have HS := hide (fun W' (hb : Below (w.alloc (.cells #[.int .u8 p.f, .int .i64 p.n, .int .i64 p.k, .int .i64 p.t, .int .i64 p.s, .int .i64 p.e, .int .i64 p.d, .int .i64 p.w] 24)).heap.size _ W') => (pb.below hb).cells)
  have hw1 := h1.wordsH
  have hw2 := h2.wordsH
  have H3 := hide h3
  have hwl := h3.len
  by_cases hz : seE p who dl pl = 0
  · obtain ⟨z, hw, hl, hn⟩ := se_zero.1 hz
    obtain ⟨q, wd, hm, hf, hbe, hbw, hdl, hpl, hbl, ie, inn, i64', oe, on, o64, d0, hx0⟩ := bk_facts z hw1 hw2
    have HWd : Hid (∀ b ∈ allL p dl pl, Wd b) := fun b hb => by
      unfold allL at hb
      rw [if_pos z, pOf_eq hf] at hb
      obtain ⟨x, _, rfl⟩ := List.mem_map.1 hb
      exact wd_els (shr_els hf.pos _ _ _ _) hf.top (by rw [shr_len]; have := (may_facts hm).2.2.2.2.2.2; omega)
    have HAn : Hid ((allL p dl pl).length = p.n.toNat) := by show _ = _; unfold allL; rw [if_pos z, List.length_map]; exact on
    have HX : Hid (∀ k, k < who.length → ∃ J : Nat, who.getD k 0 = (J : Int) ∧ J < (allL p dl pl).length) := fun k hk => by
      have h0 := hw _ (getD_memA 0 hk)
      exact ⟨(who.getD k 0).toNat, by omega, by rw [HAn.out]; omega⟩
    have HSe : Hid (seL p who dl pl = who.map (fun i => (allL p dl pl).getD i.toNat [])) := by show _ = _; unfold seL; rw [if_pos hz]
    have hw64 : who.length ≤ 1000 := by
      have := (may_facts hm).2.2.1
      have := (may_facts hm).2.1
      omega
    have HLl : Hid ((allL p dl pl).length ≤ 1000) := by show _ ≤ _; rw [HAn.out]; have := (may_facts hm).1; omega
    have HEnd : Hid (∀ V v a lo us, Mtx V lo v us (allL p dl pl) → V.ownsRow a 45 1 (.slice none 0 0) 0 [] → True) := fun _ _ _ _ _ _ _ => trivial
    have HFin : Hid (∀ V lo v us u a, Mtx V lo v us (allL p dl pl) → V.ownsRow a 45 1 u who.length (who.map (fun x => us.getD x.toNat nov)) → Rws V u (seL p who dl pl)) := fun V lo v us u a hM hO => by
      rw [HSe.out]
      refine own_rws hO (by rw [List.length_map]) (fun i hi => ?_) hw64
      rw [List.length_map] at hi
      have h0 := hw _ (List.getElem_mem hi)
      have hJ : who[i].toNat < (allL p dl pl).length := by rw [HAn.out]; omega
      rw [List.getD_eq_getElem?_getD, List.getElem?_map, List.getElem?_eq_getElem hi, List.getD_eq_getElem?_getD (l := who.map _), List.getElem?_map, List.getElem?_eq_getElem hi]
      exact (HWd.out _ (getD_memA [] hJ)).row (hM.each _ hJ)
    have HTk : Hid (∀ (us : List Value) k, k < who.length → (who.take k).map (fun x => us.getD x.toNat nov) ++ [us.getD (who.getD k 0).toNat nov] = (who.take (k + 1)).map (fun x => us.getD x.toNat nov)) := fun us k hk => by
      rw [← take_snocI hk, List.map_append]; rfl
    rw [hz] at HK ⊢
    rw [z] at HK HBd HAl
    obtain ⟨aw, cw, rfl, _⟩ := h3.spell
    obtain ⟨ad, cd, rfl, _, _, _⟩ := h1
    obtain ⟨ap, cp, rfl, _, _, _⟩ := h2
    clear hz pb h3 hp hw1 hw2 z hw hl hn hm hf hbe hbw hbl ie inn oe on d0 HSe HWd HAn HEnd hdl hpl hx0
    generalize seL p who dl pl = res at *
    generalize allL p dl pl = al at *
    generalize dl.length = nd at *
    generalize pl.length = np at *
    rw [plan_eq] at *
    show Calls _ _ _ _ _
    go_enter Tryz.func13, Tryz.ntmps13
    go_upto_region 1 with fail
    generalize w.alloc (.cells #[.int .u8 p.f, .int .i64 p.n, .int .i64 p.k, .int .i64 p.t, .int .i64 p.s, .int .i64 p.e, .int .i64 p.d, .int .i64 p.w] 24) = W0 at *
    have hdr : Below W0.heap.size W0 W0.drew := (Below.refl _ W0).drew
    have hS0 := HS.out _ hdr
    refine wp_region_held_drew (S := (fun V => V.cell? ⟨w.heap.size, 0, none⟩ = some (.int .u8 p.f) ∧ V.cell? ⟨w.heap.size, 1, none⟩ = some (.int .i64 p.n) ∧ V.cell? ⟨w.heap.size, 2, none⟩ = some (.int .i64 p.k) ∧ V.cell? ⟨w.heap.size, 3, none⟩ = some (.int .i64 p.t) ∧ V.cell? ⟨w.heap.size, 4, none⟩ = some (.int .i64 p.s) ∧ V.cell? ⟨w.heap.size, 5, none⟩ = some (.int .i64 p.e) ∧ V.cell? ⟨w.heap.size, 6, none⟩ = some (.int .i64 p.d) ∧ V.cell? ⟨w.heap.size, 7, none⟩ = some (.int .i64 p.w))) (by kernel_rfl) (by ((try dsimp only) <;> (first | with_reducible exact hS2 | with_reducible exact hS1 | with_reducible exact hS0))) (fun hHeld => ?_)
    (refine wpAnyH_take (i := 0) (oi := _) (v := ?v116) rfl (by kernel_rfl) (by kernel_rfl) (by kernel_rfl) (fun _ _ _ h => h) (Or.inl ⟨by rfl, ?hy116⟩) (by assumption) ?rest116; (case hy116 => (first | (intro w hSw; (try dsimp only at hSw); go_simp; done) | (intro w hSw; (try dsimp only at hSw); go_simp; with_reducible rfl))); (try simp only [Act.put, List.getElem_toArray, List.getElem_cons_succ, List.getElem_cons_zero, List.setIfInBounds_toArray, List.set_cons_zero, List.set_cons_succ]))
    (refine wpAnyH_take (i := 1) (oi := _) (v := ?v117) rfl (by kernel_rfl) (by kernel_rfl) (by kernel_rfl) (fun _ _ _ h => h) (Or.inl ⟨by rfl, ?hy117⟩) (by assumption) ?rest117; (case hy117 => (first | (intro w hSw; (try dsimp only at hSw); go_simp; done) | (intro w hSw; (try dsimp only at hSw); go_simp; with_reducible rfl))); (try simp only [Act.put, List.getElem_toArray, List.getElem_cons_succ, List.getElem_cons_zero, List.setIfInBounds_toArray, List.set_cons_zero, List.set_cons_succ]))
    (refine wpAnyH_take (i := 2) (oi := _) (v := ?v118) rfl (by kernel_rfl) (by kernel_rfl) (by kernel_rfl) (fun _ _ _ h => h) (Or.inl ⟨by rfl, ?hy118⟩) (by assumption) ?rest118; (case hy118 => (first | (intro w hSw; (try dsimp only at hSw); go_simp; done) | (intro w hSw; (try dsimp only at hSw); go_simp; with_reducible rfl))); (try simp only [Act.put, List.getElem_toArray, List.getElem_cons_succ, List.getElem_cons_zero, List.setIfInBounds_toArray, List.set_cons_zero, List.set_cons_succ]))
    (refine wpAnyH_take (i := 3) (oi := _) (v := ?v119) rfl (by kernel_rfl) (by kernel_rfl) (by kernel_rfl) (fun _ _ _ h => h) (Or.inl ⟨by rfl, ?hy119⟩) (by assumption) ?rest119; (case hy119 => (first | (intro w hSw; (try dsimp only at hSw); go_simp; done) | (intro w hSw; (try dsimp only at hSw); go_simp; with_reducible rfl))); (try simp only [Act.put, List.getElem_toArray, List.getElem_cons_succ, List.getElem_cons_zero, List.setIfInBounds_toArray, List.set_cons_zero, List.set_cons_succ]))
    (refine wpAnyH_take (i := 4) (oi := _) (v := ?v120) rfl (by kernel_rfl) (by kernel_rfl) (by kernel_rfl) (fun _ _ _ h => h) (Or.inl ⟨by rfl, ?hy120⟩) (by assumption) ?rest120; (case hy120 => (first | (intro w hSw; (try dsimp only at hSw); go_simp; done) | (intro w hSw; (try dsimp only at hSw); go_simp; with_reducible rfl))); (try simp only [Act.put, List.getElem_toArray, List.getElem_cons_succ, List.getElem_cons_zero, List.setIfInBounds_toArray, List.set_cons_zero, List.set_cons_succ]))
    refine wpAnyH_ready (rs := [5]) (by kernel_rfl) (by simp) ?_
    refine AllReadyH.cons (o := _) rfl (fun K hK => ?_) AllReadyH.nil
    try simp only [List.getElem_toArray, List.getElem_cons_succ, List.getElem_cons_zero]
    go_simp
    (first
          | (go_at_call 25; refine (HBd.out _ (Below.next hA hdr)).mono ?_; rintro e w1 ⟨rfl, hb1⟩; have hC1 := Below.next hdr hb1; have hS1 := HS.out _ hC1)
          | (go_at_call 26; refine (HK.out _ (Below.next hA hC1)).mono ?_; rintro e w2 ⟨rfl, hb2⟩; have hC2 := Below.next hC1 hb2; have hS2 := HS.out _ hC2))
    first | (refine hK.out _ _ (by ((try dsimp only) <;> (first | with_reducible exact hS2 | with_reducible exact hS1 | with_reducible exact hS0))) (fun hHeld => ?_)) | (go_wp2_with fail; refine hK.out _ _ (by ((try dsimp only) <;> (first | with_reducible exact hS2 | with_reducible exact hS1 | with_reducible exact hS0))) (fun hHeld => ?_))
    clear hK K
    (try simp only [Act.put, List.getElem_toArray, List.getElem_cons_succ, List.getElem_cons_zero, List.setIfInBounds_toArray, List.set_cons_zero, List.set_cons_succ])
    refine wpAnyH_ready (rs := [6]) (by kernel_rfl) (by simp) ?_
    refine AllReadyH.cons (o := _) rfl (fun K hK => ?_) AllReadyH.nil
    try simp only [List.getElem_toArray, List.getElem_cons_succ, List.getElem_cons_zero]
    go_simp
    (first
          | (go_at_call 25; refine (HBd.out _ (Below.next hA hdr)).mono ?_; rintro e w1 ⟨rfl, hb1⟩; have hC1 := Below.next hdr hb1; have hS1 := HS.out _ hC1)
          | (go_at_call 26; refine (HK.out _ (Below.next hA hC1)).mono ?_; rintro e w2 ⟨rfl, hb2⟩; have hC2 := Below.next hC1 hb2; have hS2 := HS.out _ hC2))
    first | (refine hK.out _ _ (by ((try dsimp only) <;> (first | with_reducible exact hS2 | with_reducible exact hS1 | with_reducible exact hS0))) (fun hHeld => ?_)) | (go_wp2_with fail; refine hK.out _ _ (by ((try dsimp only) <;> (first | with_reducible exact hS2 | with_reducible exact hS1 | with_reducible exact hS0))) (fun hHeld => ?_))
    clear hK K
    (try simp only [Act.put, List.getElem_toArray, List.getElem_cons_succ, List.getElem_cons_zero, List.setIfInBounds_toArray, List.set_cons_zero, List.set_cons_succ])
    (refine wpAnyH_take (i := 7) (oi := _) (v := ?v121) rfl (by kernel_rfl) (by kernel_rfl) (by kernel_rfl) (fun _ _ _ h => h) (Or.inl ⟨by rfl, ?hy121⟩) (by assumption) ?rest121; (case hy121 => (first | (intro w hSw; (try dsimp only at hSw); go_simp; done) | (intro w hSw; (try dsimp only at hSw); go_simp; with_reducible rfl))); (try simp only [Act.put, List.getElem_toArray, List.getElem_cons_succ, List.getElem_cons_zero, List.setIfInBounds_toArray, List.set_cons_zero, List.set_cons_succ]))
    refine wpAnyH_done (by kernel_rfl) ?_ _
    obtain ⟨c0, c1, c2, c3, c4, c5, c6, c7⟩ := hS2
    have hB2 := Below.next hA hC2
    clear hS0 hS1 HK HBd
    go_wp2_with (go_at_call 16; refine (HAl.out _ hB2).mono ?_; rintro e w3 ⟨v3, us3, rfl, hL3, hb3⟩; have HM3 := hide hL3.mtx; obtain ⟨a3, k3, rfl⟩ := own_form hL3.row; clear hL3)
    have hB3 := Below.next hB2 hb3
    clear c0 c1 c2 c3 c4 c5 c6 c7 HAl hb3
    go_loopw [13, 14] (fun va vi wr => ∃ (k : Nat) (a : Option Addr) (c : Nat), k ≤ who.length ∧ vi = .int .i64 k ∧ va = .slice a k c ∧ Hid (wr.ownsRow w3.heap.size 45 1 (.slice a k c) k ((who.take k).map (fun x => us3.getD x.toNat nov))) ∧ Below w3.heap.size w3 wr) (fun _ vi _ => who.length - (intOf vi).toNat)
    case atStart => exact ⟨0, none, 0, Nat.zero_le _, rfl, rfl, World.ownsRow_nil _ _ _ _, Below.refl _ _⟩
    case round =>
      obtain ⟨k, a, c, hk, rfl, rfl, HO, hB⟩ := hrel
      by_cases hkl : k < who.length
      · obtain ⟨b, off, cp', heq, _, _⟩ := H3.out.form (by omega)
        cases heq
        obtain ⟨J, hJ, hJl⟩ := HX.out k hkl
        have hck := (lmi_cell H3.out (Below.next hB3 hB) hkl).2
        have hTk := HTk.out us3 k hkl
        rw [hJ] at hck hTk
        rw [Int.toNat_natCast] at hTk
        obtain ⟨GA, cA, hvA, _, _, _⟩ := HM3.out.spell (by omega)
        cases hvA
        have hcJ := (HM3.out.below hB).cell hJl
        obtain ⟨a5, c5, hu5⟩ := own_form (HM3.out.each J hJl)
        rw [hu5] at hcJ hTk
        have kk0 : (0 : Int) ≤ (k : Int) := by omega
        have kk1 : (k : Int) < (who.length : Int) := by omega
        have j0 : (0 : Int) ≤ (J : Int) := by omega
        have j1 : (J : Int) < (al.length : Int) := by omega
        have hln : ((who.take k).map (fun x => us3.getD x.toNat nov)).length = k := by rw [List.length_map, List.length_take]; omega
        have hal := alloc_below wr (.cells #[.slice a5 (al.getD J []).length c5] 45)
        obtain ⟨au, cu, W5, hr5, ho5, hb5, _⟩ := appL1 (wr.alloc (.cells #[.slice a5 (al.getD J []).length c5] 45)) w3.heap.size (.slice a k c) ((who.take k).map (fun x => us3.getD x.toNat nov)) ⟨wr.heap.size, 0, none⟩ (.slice a5 (al.getD J []).length c5) (by rw [hln]; exact own_below HO.out hal) (by simp [go_sem]) rfl (by omega) (Nat.le_trans hB.size hal.size)
        rw [hTk] at ho5
        rw [hln] at hr5 ho5
        have hln2 : ((who.take (k + 1)).map (fun x => us3.getD x.toNat nov)).length = k + 1 := by rw [List.length_map, List.length_take]; omega
        rw [hln2] at ho5
        have HO5 := hide ho5
        have hB5 := (hB.trans (hal.mono hB.size)).trans hb5
        clear HX HTk hTk hln hln2 ho5 hal hb5 HO HFin hu5 hJ
        generalize (al.getD J []).length = m5 at *
        go_wp2_with (at_builtin; refine Lib.wpList_append_run _ rfl _ _ _ _ rfl _ _ rfl rfl _ _ hr5 ?_)
        go_roundw
        case rel => exact ⟨k + 1, au, cu, by omega, by go_num, rfl, HO5, hB5⟩
        case measure => simp [intOf]; omega
      · obtain rfl : k = who.length := by omega
        rw [List.take_length] at HO
        have HR := hide (HFin.out wr _ _ us3 _ _ (HM3.out.below hB) HO.out)
        clear HX HTk HO HFin
        go_wp2_with fail
        go_ret2
        exact ⟨_, rfl, HR.out, Below.next hB3 hB⟩
  · have ht : (seE p who dl pl != 0) = true := bne_iff_ne.2 hz
    have HV : Hid (seL p who dl pl = []) := by show _ = _; unfold seL; rw [if_neg hz]
    rw [HV.out]
    obtain ⟨aw, cw, rfl, _⟩ := h3.spell
    obtain ⟨ad, cd, rfl, _, _, _⟩ := h1
    obtain ⟨ap, cp, rfl, _, _, _⟩ := h2
    clear hz pb h3 HV hp HAl hw1 hw2 H3
    generalize bkE p dl pl [] = e1 at *
    generalize seE p who dl pl = e0 at *
    generalize who.length = nw at *
    generalize dl.length = nd at *
    generalize pl.length = np at *
    rw [plan_eq] at *
    show Calls _ _ _ _ _
    go_enter Tryz.func13, Tryz.ntmps13
    go_upto_region 1 with fail
    generalize w.alloc (.cells #[.int .u8 p.f, .int .i64 p.n, .int .i64 p.k, .int .i64 p.t, .int .i64 p.s, .int .i64 p.e, .int .i64 p.d, .int .i64 p.w] 24) = W0 at *
    have hdr : Below W0.heap.size W0 W0.drew := (Below.refl _ W0).drew
    have hS0 := HS.out _ hdr
    refine wp_region_held_drew (S := (fun V => V.cell? ⟨w.heap.size, 0, none⟩ = some (.int .u8 p.f) ∧ V.cell? ⟨w.heap.size, 1, none⟩ = some (.int .i64 p.n) ∧ V.cell? ⟨w.heap.size, 2, none⟩ = some (.int .i64 p.k) ∧ V.cell? ⟨w.heap.size, 3, none⟩ = some (.int .i64 p.t) ∧ V.cell? ⟨w.heap.size, 4, none⟩ = some (.int .i64 p.s) ∧ V.cell? ⟨w.heap.size, 5, none⟩ = some (.int .i64 p.e) ∧ V.cell? ⟨w.heap.size, 6, none⟩ = some (.int .i64 p.d) ∧ V.cell? ⟨w.heap.size, 7, none⟩ = some (.int .i64 p.w))) (by kernel_rfl) (by ((try dsimp only) <;> (first | with_reducible exact hS2 | with_reducible exact hS1 | with_reducible exact hS0))) (fun hHeld => ?_)
    (refine wpAnyH_take (i := 0) (oi := _) (v := ?v122) rfl (by kernel_rfl) (by kernel_rfl) (by kernel_rfl) (fun _ _ _ h => h) (Or.inl ⟨by rfl, ?hy122⟩) (by assumption) ?rest122; (case hy122 => (first | (intro w hSw; (try dsimp only at hSw); go_simp; done) | (intro w hSw; (try dsimp only at hSw); go_simp; with_reducible rfl))); (try simp only [Act.put, List.getElem_toArray, List.getElem_cons_succ, List.getElem_cons_zero, List.setIfInBounds_toArray, List.set_cons_zero, List.set_cons_succ]))
    (refine wpAnyH_take (i := 1) (oi := _) (v := ?v123) rfl (by kernel_rfl) (by kernel_rfl) (by kernel_rfl) (fun _ _ _ h => h) (Or.inl ⟨by rfl, ?hy123⟩) (by assumption) ?rest123; (case hy123 => (first | (intro w hSw; (try dsimp only at hSw); go_simp; done) | (intro w hSw; (try dsimp only at hSw); go_simp; with_reducible rfl))); (try simp only [Act.put, List.getElem_toArray, List.getElem_cons_succ, List.getElem_cons_zero, List.setIfInBounds_toArray, List.set_cons_zero, List.set_cons_succ]))
    (refine wpAnyH_take (i := 2) (oi := _) (v := ?v124) rfl (by kernel_rfl) (by kernel_rfl) (by kernel_rfl) (fun _ _ _ h => h) (Or.inl ⟨by rfl, ?hy124⟩) (by assumption) ?rest124; (case hy124 => (first | (intro w hSw; (try dsimp only at hSw); go_simp; done) | (intro w hSw; (try dsimp only at hSw); go_simp; with_reducible rfl))); (try simp only [Act.put, List.getElem_toArray, List.getElem_cons_succ, List.getElem_cons_zero, List.setIfInBounds_toArray, List.set_cons_zero, List.set_cons_succ]))
    (refine wpAnyH_take (i := 3) (oi := _) (v := ?v125) rfl (by kernel_rfl) (by kernel_rfl) (by kernel_rfl) (fun _ _ _ h => h) (Or.inl ⟨by rfl, ?hy125⟩) (by assumption) ?rest125; (case hy125 => (first | (intro w hSw; (try dsimp only at hSw); go_simp; done) | (intro w hSw; (try dsimp only at hSw); go_simp; with_reducible rfl))); (try simp only [Act.put, List.getElem_toArray, List.getElem_cons_succ, List.getElem_cons_zero, List.setIfInBounds_toArray, List.set_cons_zero, List.set_cons_succ]))
    (refine wpAnyH_take (i := 4) (oi := _) (v := ?v126) rfl (by kernel_rfl) (by kernel_rfl) (by kernel_rfl) (fun _ _ _ h => h) (Or.inl ⟨by rfl, ?hy126⟩) (by assumption) ?rest126; (case hy126 => (first | (intro w hSw; (try dsimp only at hSw); go_simp; done) | (intro w hSw; (try dsimp only at hSw); go_simp; with_reducible rfl))); (try simp only [Act.put, List.getElem_toArray, List.getElem_cons_succ, List.getElem_cons_zero, List.setIfInBounds_toArray, List.set_cons_zero, List.set_cons_succ]))
    refine wpAnyH_ready (rs := [5]) (by kernel_rfl) (by simp) ?_
    refine AllReadyH.cons (o := _) rfl (fun K hK => ?_) AllReadyH.nil
    try simp only [List.getElem_toArray, List.getElem_cons_succ, List.getElem_cons_zero]
    go_simp
    (first
          | (go_at_call 25; refine (HBd.out _ (Below.next hA hdr)).mono ?_; rintro e w1 ⟨rfl, hb1⟩; have hC1 := Below.next hdr hb1; have hS1 := HS.out _ hC1)
          | (go_at_call 26; refine (HK.out _ (Below.next hA hC1)).mono ?_; rintro e w2 ⟨rfl, hb2⟩; have hC2 := Below.next hC1 hb2; have hS2 := HS.out _ hC2))
    first | (refine hK.out _ _ (by ((try dsimp only) <;> (first | with_reducible exact hS2 | with_reducible exact hS1 | with_reducible exact hS0))) (fun hHeld => ?_)) | (go_wp2_with fail; refine hK.out _ _ (by ((try dsimp only) <;> (first | with_reducible exact hS2 | with_reducible exact hS1 | with_reducible exact hS0))) (fun hHeld => ?_))
    clear hK K
    (try simp only [Act.put, List.getElem_toArray, List.getElem_cons_succ, List.getElem_cons_zero, List.setIfInBounds_toArray, List.set_cons_zero, List.set_cons_succ])
    refine wpAnyH_ready (rs := [6]) (by kernel_rfl) (by simp) ?_
    refine AllReadyH.cons (o := _) rfl (fun K hK => ?_) AllReadyH.nil
    try simp only [List.getElem_toArray, List.getElem_cons_succ, List.getElem_cons_zero]
    go_simp
    (first
          | (go_at_call 25; refine (HBd.out _ (Below.next hA hdr)).mono ?_; rintro e w1 ⟨rfl, hb1⟩; have hC1 := Below.next hdr hb1; have hS1 := HS.out _ hC1)
          | (go_at_call 26; refine (HK.out _ (Below.next hA hC1)).mono ?_; rintro e w2 ⟨rfl, hb2⟩; have hC2 := Below.next hC1 hb2; have hS2 := HS.out _ hC2))
    first | (refine hK.out _ _ (by ((try dsimp only) <;> (first | with_reducible exact hS2 | with_reducible exact hS1 | with_reducible exact hS0))) (fun hHeld => ?_)) | (go_wp2_with fail; refine hK.out _ _ (by ((try dsimp only) <;> (first | with_reducible exact hS2 | with_reducible exact hS1 | with_reducible exact hS0))) (fun hHeld => ?_))
    clear hK K
    (try simp only [Act.put, List.getElem_toArray, List.getElem_cons_succ, List.getElem_cons_zero, List.setIfInBounds_toArray, List.set_cons_zero, List.set_cons_succ])
    (refine wpAnyH_take (i := 7) (oi := _) (v := ?v127) rfl (by kernel_rfl) (by kernel_rfl) (by kernel_rfl) (fun _ _ _ h => h) (Or.inl ⟨by rfl, ?hy127⟩) (by assumption) ?rest127; (case hy127 => (first | (intro w hSw; (try dsimp only at hSw); go_simp; done) | (intro w hSw; (try dsimp only at hSw); go_simp; with_reducible rfl))); (try simp only [Act.put, List.getElem_toArray, List.getElem_cons_succ, List.getElem_cons_zero, List.setIfInBounds_toArray, List.set_cons_zero, List.set_cons_succ]))
    refine wpAnyH_done (by kernel_rfl) ?_ _
    go_wp2_with fail
    go_ret2
    exact ⟨_, rfl, rws_nil _, Below.next hA hC2⟩

end Go.Proofs.YtpbfgcepmbpkdaaGreat

