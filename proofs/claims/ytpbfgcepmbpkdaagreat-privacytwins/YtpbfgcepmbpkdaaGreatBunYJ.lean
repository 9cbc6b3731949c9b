/- Texts laid together: ShdE, ShdF, PrdA. -/
import Derived.Test.YtpbfgcepmbpkdaaGreatBunHF
import Derived.Test.YtpbfgcepmbpkdaaGreatBunHD
import Derived.Test.YtpbfgcepmbpkdaaGreatBunYB
namespace Go.Proofs.YtpbfgcepmbpkdaaGreat
open Go.RowKit Fld Pln Shr
set_option linter.unusedVariables false
set_option linter.unusedSimpArgs false

/-- The error behind the names' bounds, and behind their number. -/
def opA (p : Pn) (who : List Int) (l : List (List Int)) : Int := if whoB p.n who then bdE p l (p.k + p.t) else 2
def opB (p : Pn) (who : List Int) (l : List (List Int)) : Int := if opA p who l = 0 ∧ ¬ (who.length : Int) = p.k + p.t then 3 else opA p who l
theorem op_ab {p : Pn} {who : List Int} {l : List (List Int)} (hm : mayP p = true) : opE p who l = if opB p who l = 0 then (if who.Nodup then 0 else 6) else opB p who l := by
  unfold opE opB opA bdE
  rw [hm]
  cases elsB p.f l <;> cases whoB p.n who <;> cases blkB p.w (p.k + p.t) l <;> by_cases hl : (who.length : Int) = p.k + p.t <;> simp [hl]
theorem op_no {p : Pn} {who : List Int} {l : List (List Int)} (hm : mayP p = false) : opE p who l = 2 := by
  unfold opE
  rw [hm]; rfl
theorem op_none {p : Pn} {who : List Int} {l : List (List Int)} (h : ¬ opE p who l = 0) : opdL p who l = [] ∧ oppL p who l = [] := by
  unfold opdL oppL
  rw [if_neg h, if_neg h]; exact ⟨rfl, rfl⟩
/-- The error while the names' bounds are asked. -/
def whE (n b0 : Int) (who : List Int) (k : Nat) : Int := if whoB n (who.take k) then b0 else 2
theorem whE_yes {n b0 : Int} {who : List Int} {k : Nat} (hk : k < who.length) (h : 0 ≤ who.getD k 0 ∧ who.getD k 0 < n) : whE n b0 who (k + 1) = whE n b0 who k := by
  unfold whE
  have : whoB n (who.take (k + 1)) = whoB n (who.take k) := by
    rw [← take_snocI hk]
    unfold whoB
    rw [List.all_append, List.all_cons, List.all_nil, decide_eq_true h, Bool.and_true, Bool.and_true]
  rw [this]
theorem whE_no {n b0 : Int} {who : List Int} {k : Nat} (hk : k < who.length) (h : ¬ (0 ≤ who.getD k 0 ∧ who.getD k 0 < n)) : whE n b0 who (k + 1) = 2 := by
  unfold whE
  have : whoB n (who.take (k + 1)) = false := by
    rw [← take_snocI hk]
    unfold whoB
    rw [List.all_append, List.all_cons, List.all_nil, decide_eq_false h, Bool.and_true, Bool.and_false]
  rw [this]; rfl

end Go.Proofs.YtpbfgcepmbpkdaaGreat

namespace Go.Proofs.YtpbfgcepmbpkdaaGreat
open Go.RowKit Fld Pln Shr
set_option linter.unusedVariables false
set_option linter.unusedSimpArgs false

theorem opB_zero {p : Pn} {who : List Int} {l : List (List Int)} (h : opB p who l = 0) : (∀ x ∈ who, 0 ≤ x ∧ x < p.n) ∧ bdE p l (p.k + p.t) = 0 ∧ (who.length : Int) = p.k + p.t := by
  unfold opB at h
  split at h
  · cases h
  · rename_i h1
    have hA := h
    unfold opA at h
    split at h
    · rename_i h2
      refine ⟨whoB_iff.1 h2, h, ?_⟩
      exact Classical.byContradiction (fun hc => h1 ⟨hA, hc⟩)
    · cases h
theorem bd_zero {p : Pn} {l : List (List Int)} {n : Int} (hm : mayP p = true) (h : bdE p l n = 0) (w1 : ∀ b ∈ l, Wd b) : ∃ q wd, Fi p.f q wd ∧ (∀ b ∈ l, Els q b) ∧ (∀ b ∈ l, b.length = p.w.toNat) ∧ (l.length : Int) = n := by
  unfold bdE at h
  split at h
  · rename_i h1
    split at h
    · rename_i h2
      obtain ⟨a1, a2⟩ := blkB_iff.1 h2
      obtain ⟨q, wd, hf⟩ := may_field hm
      exact ⟨q, wd, hf, fun b hb => els_of ((elsB_iff hf).1 h1 b hb) (w1 b hb).2, fun b hb => by have := a1 b hb; omega, a2⟩
    · cases h
  · cases h
/-- The error while names are held against each other. -/
def ndE (who : List Int) (k : Nat) : Int := if (who.take k).Nodup then 0 else 6
def inE (who : List Int) (k j : Nat) : Int := if who.getD k 0 ∈ who.take j then 6 else 0
theorem inE_eq {who : List Int} {k j : Nat} (hj : j < who.length) (h : who.getD k 0 = who.getD j 0) : inE who k (j + 1) = 6 := by
  unfold inE
  rw [← take_snocI hj, if_pos (List.mem_append.2 (.inr (List.mem_singleton.2 h)))]
theorem inE_ne {who : List Int} {k j : Nat} (hj : j < who.length) (h : ¬ who.getD k 0 = who.getD j 0) : inE who k (j + 1) = inE who k j := by
  unfold inE
  rw [← take_snocI hj]
  by_cases hc : who.getD k 0 ∈ who.take j
  · rw [if_pos hc, if_pos (List.mem_append.2 (.inl hc))]
  · rw [if_neg hc, if_neg (fun h2 => by
      rcases List.mem_append.1 h2 with h3 | h3
      · exact hc h3
      · exact h (List.mem_singleton.1 h3))]
theorem inE_end {who : List Int} {k : Nat} (hk : k < who.length) (hn : (who.take k).Nodup) : inE who k k = ndE who (k + 1) := by
  unfold inE ndE
  rw [← take_snocI hk]
  by_cases hc : who.getD k 0 ∈ who.take k
  · rw [if_pos hc, if_neg (fun h2 => (List.nodup_append.1 h2).2.2 _ hc _ (List.mem_singleton.2 rfl) rfl)]
  · rw [if_neg hc, if_pos (List.nodup_append.2 ⟨hn, by simp, fun a ha b hb e => hc (by rw [← List.mem_singleton.1 hb, ← e]; exact ha)⟩)]
theorem nmd_snoc {p : Pn} {who : List Int} {k : Nat} (hk : k < who.length) : nmd p (who.take k) ++ [co (outL p) (who.getD k 0).toNat] = nmd p (who.take (k + 1)) := by
  rw [← take_snocI hk]
  unfold nmd
  rw [List.map_append]; rfl
/-- Lists of lists cut in two. -/
theorem Rws.cutH {w : World} {g off n cap : Nat} {l : List (List Int)} (h : Rws w (.slice (some ⟨g, off, none⟩) n cap) l) {k : Nat} (hk : k ≤ l.length) : Rws w (.slice (some ⟨g, off, none⟩) k cap) (l.take k) := by
  obtain ⟨ao, cap', e, h1, h2, h3⟩ := h
  cases e
  have hl : (l.take k).length = k := by rw [List.length_take]; omega
  refine ⟨_, cap, by rw [hl], by omega, by omega, fun hne => ?_⟩
  obtain ⟨b, off', e, hb, hc⟩ := h3 (by intro e; rw [e] at hne; simp at hne)
  cases e
  refine ⟨g, off, rfl, hb, fun i hi => ?_⟩
  rw [hl] at hi
  obtain ⟨u, h5, h6⟩ := hc i (by omega)
  refine ⟨u, h5, ?_⟩
  rw [List.getD_eq_getElem?_getD, List.getElem?_take_of_lt hi, ← List.getD_eq_getElem?_getD]
  exact h6
theorem Rws.restH {w : World} {g off n cap : Nat} {l : List (List Int)} (h : Rws w (.slice (some ⟨g, off, none⟩) n cap) l) {k : Nat} (hk : k ≤ l.length) : Rws w (.slice (some ⟨g, off + k, none⟩) (l.length - k) (cap - k)) (l.drop k) := by
  obtain ⟨ao, cap', e, h1, h2, h3⟩ := h
  cases e
  have hl : (l.drop k).length = l.length - k := List.length_drop ..
  refine ⟨_, cap - k, by rw [hl], by omega, by omega, fun hne => ?_⟩
  obtain ⟨b, off', e, hb, hc⟩ := h3 (by intro e; rw [e] at hne; simp at hne)
  cases e
  refine ⟨g, off + k, rfl, hb, fun i hi => ?_⟩
  rw [hl] at hi
  obtain ⟨u, h5, h6⟩ := hc (k + i) (by omega)
  refine ⟨u, by rw [Nat.add_assoc]; exact h5, ?_⟩
  rw [List.getD_eq_getElem?_getD, List.getElem?_drop, ← List.getD_eq_getElem?_getD]
  exact h6
theorem rws_empty (w : World) (ao : Option Addr) (c : Nat) : Rws w (.slice ao 0 c) [] := ⟨ao, c, rfl, by simp, by simp, fun h => absurd rfl h⟩
/-- What Open answers, out of one list. -/
theorem open_cut {p : Pn} {q : Int} {wd : Bool} (hf : Fi p.f q wd) {who : List Int} {l : List (List Int)} (hm : mayP p = true) (hz : opE p who l = 0) : opdL p who l = ((innL p).map (fun z => (pys q (nmd p who) p.w.toNat l).map (vl q z))).take p.k.toNat ∧ oppL p who l = ((innL p).map (fun z => (pys q (nmd p who) p.w.toNat l).map (vl q z))).drop p.k.toNat := by
  unfold opdL oppL
  rw [if_pos hz, if_pos hz, pOf_eq hf, ← inn_app hm, List.map_append]
  have hl : ((pts 0 p.k.toNat).map (fun z => (pys q (nmd p who) p.w.toNat l).map (vl q z))).length = p.k.toNat := by rw [List.length_map, pts_len]
  refine ⟨?_, ?_⟩
  · rw [List.take_append_of_le_length (by omega), List.take_of_length_le (by omega)]
    exact List.map_congr_left (fun z _ => (shr_pys _ _ _ _ _).symm)
  · rw [List.drop_append_of_le_length (by omega), List.drop_of_length_le (by omega), List.nil_append]
    exact List.map_congr_left (fun z _ => (shr_pys _ _ _ _ _).symm)

end Go.Proofs.YtpbfgcepmbpkdaaGreat

namespace Go.Proofs.YtpbfgcepmbpkdaaGreat
open Go.RowKit Fld Pln Shr
set_option linter.unusedVariables false
set_option linter.unusedSimpArgs false

theorem pw_two {p : Pn} {who : List Int} {e : Int} (h : e = 2 ∨ whoB p.n who = false) : pwE p who e = 2 := by
  unfold pwE
  rw [if_neg]
  rintro ⟨h1, h2⟩
  rcases h with h | h
  · exact h1 h
  · rw [h] at h2; cases h2
theorem pw_else {p : Pn} {who : List Int} {e : Int} (h : e ≠ 2) (hw : whoB p.n who = true) (h0 : e ≠ 0) : pwE p who e = e := by
  unfold pwE
  rw [if_pos ⟨h, hw⟩, if_neg h0]
theorem pw_three {p : Pn} {who : List Int} (hw : whoB p.n who = true) (h : ¬ (who.length : Int) ≤ p.t) : pwE p who 0 = 3 := by
  unfold pwE
  rw [if_pos ⟨by decide, hw⟩, if_pos rfl, if_neg h]
theorem pw_nd {p : Pn} {who : List Int} (hw : whoB p.n who = true) (h : (who.length : Int) ≤ p.t) : pwE p who 0 = ndE who who.length := by
  unfold pwE ndE
  rw [if_pos ⟨by decide, hw⟩, if_pos rfl, if_pos h, List.take_length]
theorem nd_six {who : List Int} {k : Nat} (hk : k ≤ who.length) (h : ¬ ndE who k = 0) : ndE who who.length = 6 := by
  unfold ndE at h ⊢
  rw [List.take_length]
  refine if_neg (fun hn => h (if_pos ?_))
  exact hn.sublist (List.take_sublist k who)

set_option maxRecDepth 100000 in
set_option maxHeartbeats 800000 in
theorem dWorkers (p : Pn) (v : Value) (who : List Int) (e : Int) (w : World) (h : Lm iw 1 w v who) : Calls Tryz.prog 26 #[plv p, v, .int .i64 e] w fun e' w' => e' = .returned (.int .i64 (pwE p who e)) ∧ Below w.heap.size w w' := by
  have HN := hide (fun k hk hf => whoB_no (n := p.n) (l := who) (k := k) hk hf)
  have HY := hide (fun hy => whoB_yes (n := p.n) (l := who) hy)
  have HP2 := hide (fun h => pw_two (p := p) (who := who) (e := e) h)
  have HPe := hide (fun h hw h0 => pw_else (p := p) (who := who) (e := e) h hw h0)
  have HP3 : Hid (e = 0 → whoB p.n who = true → p.t < (who.length : Int) → pwE p who e = 3) := fun h0 hw h => by rw [h0]; exact pw_three hw (by omega)
  have HPn : Hid (e = 0 → whoB p.n who = true → (who.length : Int) ≤ p.t → pwE p who e = ndE who who.length) := fun h0 hw h => by rw [h0]; exact pw_nd hw h
  have HI1 := hide (fun k j hj h => inE_eq (who := who) (k := k) (j := j) hj h)
  have HI2 := hide (fun k j hj h => inE_ne (who := who) (k := k) (j := j) hj h)
  have HI3 := hide (fun k hk hn => inE_end (who := who) (k := k) hk hn)
  have HN6 := hide (fun k hk h => nd_six (who := who) (k := k) hk h)
  have HN0 : Hid (∀ k, ndE who k = 0 → (who.take k).Nodup) := fun k hk => by
    unfold ndE at hk
    split at hk
    · assumption
    · cases hk
  have HI0 : Hid (∀ k, inE who k 0 = 0) := fun k => by unfold inE; rw [List.take_zero]; simp
  obtain ⟨pb, hA⟩ := pb_box (w := w) p
  have HL := hide h
  have hlen := h.len
  obtain ⟨ao, cap, rfl, hcap⟩ := h.spell
  have HPb := hide pb
  clear h pb
  rw [plan_eq] at *
  generalize pwE p who e = res at *
  go_enter Tryz.func26, Tryz.ntmps26
  go_wp2_with fail
  generalize w.alloc (.cells #[.int .u8 p.f, .int .i64 p.n, .int .i64 p.k, .int .i64 p.t, .int .i64 p.s, .int .i64 p.e, .int .i64 p.d, .int .i64 p.w] 24) = W0 at *
  -- the walk
  go_loopw [2, 7] (fun ve vi wr => ∃ k : Nat, k ≤ who.length ∧ vi = .int .i64 k ∧ ((ve = .int .i64 e ∧ Hid (∀ i, i < k → 0 ≤ who.getD i 0 ∧ who.getD i 0 < p.n)) ∨ (ve = .int .i64 2 ∧ Hid (res = 2))) ∧ Below W0.heap.size W0 wr) (fun _ vi _ => who.length - (intOf vi).toNat)
  case atStart => exact ⟨0, Nat.zero_le _, rfl, .inl ⟨rfl, fun i hi => by omega⟩, Below.refl _ _⟩
  case round =>
    obtain ⟨k, hk, rfl, hst, hB⟩ := hrel
    rcases hst with ⟨rfl, HQ⟩ | ⟨rfl, HR⟩
    · by_cases he2 : e = 2
      · have HR := hide (HP2.out (.inl he2))
        subst he2
        clear HQ HN HY HP2 HPe HP3 HPn HI1 HI2 HI3 HN6 HN0 HI0 HL HPb
        by_cases hlt : k < who.length
        · have k1 : (k : Int) < (who.length : Int) := by omega
          go_wp2_with fail
          go_loopw [2, 8] (fun ve vi wr => ve = .int .i64 2 ∧ vi = .int .i64 0 ∧ Below W0.heap.size W0 wr) (fun _ _ _ => 0)
          case atStart => exact ⟨rfl, rfl, hB⟩
          case round =>
            clear hB
            obtain ⟨rfl, rfl, hB⟩ := hrel
            by_cases hl0 : 0 < who.length
            · have hl1 : (0 : Int) < (who.length : Int) := by omega
              go_wp2_with fail
              go_ret
              exact ⟨by have hr := HR.out; rw [hr]; rfl, Below.next hA hB⟩
            · have hl1 : ¬ (0 : Int) < (who.length : Int) := by omega
              go_wp2_with fail
              go_ret
              exact ⟨by have hr := HR.out; rw [hr]; rfl, Below.next hA hB⟩
        · have k1 : ¬ (k : Int) < (who.length : Int) := by omega
          go_wp2_with fail
          go_loopw [2, 8] (fun ve vi wr => ve = .int .i64 2 ∧ vi = .int .i64 0 ∧ Below W0.heap.size W0 wr) (fun _ _ _ => 0)
          case atStart => exact ⟨rfl, rfl, hB⟩
          case round =>
            clear hB
            obtain ⟨rfl, rfl, hB⟩ := hrel
            by_cases hl0 : 0 < who.length
            · have hl1 : (0 : Int) < (who.length : Int) := by omega
              go_wp2_with fail
              go_ret
              exact ⟨by have hr := HR.out; rw [hr]; rfl, Below.next hA hB⟩
            · have hl1 : ¬ (0 : Int) < (who.length : Int) := by omega
              go_wp2_with fail
              go_ret
              exact ⟨by have hr := HR.out; rw [hr]; rfl, Below.next hA hB⟩
      · have hne2 : (e != 2) = true := bne_iff_ne.2 he2
        by_cases hlt : k < who.length
        · obtain ⟨b, off, cp, heq, _, _⟩ := HL.out.form (by omega)
          cases heq
          obtain ⟨c0, c1, c2, c3, c4, c5, c6, c7⟩ := (HPb.out.below hB).cells
          have hck := (lmi_cell HL.out (Below.next hA hB) hlt).2
          have k0 : (0 : Int) ≤ (k : Int) := by omega
          have k1 : (k : Int) < (who.length : Int) := by omega
          have HBq := hide (fun nq => below_drewN hB nq)
          by_cases hi : 0 ≤ who.getD k 0 ∧ who.getD k 0 < p.n
          · have HA2 : Hid (∀ i, i < k + 1 → 0 ≤ who.getD i 0 ∧ who.getD i 0 < p.n) := fun i h' => by
              rcases Nat.lt_or_eq_of_le (Nat.le_of_lt_succ h') with h1 | h1
              · exact HQ.out i h1
              · rw [h1]; exact hi
            obtain ⟨q1, q2⟩ := hi
            clear HN HY HQ HP2 HPe HP3 HPn HI1 HI2 HI3 HN6 HN0 HI0 HL HPb he2
            generalize who.getD k 0 = x at *
            go_upto_region 4 with fail
            go_quiet (fail)
            have hBq := HBq.out nq
            go_wp2_with fail
            go_roundw
            case rel => exact ⟨k + 1, by omega, by go_num, .inl ⟨rfl, HA2⟩, hBq⟩
            case measure => simp [intOf]; omega
          · have HR := hide (HP2.out (.inr (HN.out k hlt hi)))
            clear HN HY HQ HP2 HPe HP3 HPn HI1 HI2 HI3 HN6 HN0 HI0 HL HPb he2
            generalize who.getD k 0 = x at *
            by_cases hx : x < 0
            · clear hi
              go_upto_region 4 with fail
              go_quiet (fail)
              have hBq := HBq.out nq
              go_wp2_with fail
              go_roundw
              case rel => exact ⟨k + 1, by omega, by go_num, .inr ⟨rfl, HR⟩, hBq⟩
              case measure => simp [intOf]; omega
            · have hx2 : p.n ≤ x := by omega
              clear hi
              go_upto_region 4 with fail
              go_quiet (fail)
              have hBq := HBq.out nq
              go_wp2_with fail
              go_roundw
              case rel => exact ⟨k + 1, by omega, by go_num, .inr ⟨rfl, HR⟩, hBq⟩
              case measure => simp [intOf]; omega
        · obtain rfl : k = who.length := by omega
          have hw := HY.out HQ.out
          have k1 : ¬ (who.length : Int) < (who.length : Int) := by omega
          by_cases he0 : e = 0
          · have HPn1 := hide (HPn.out he0 hw)
            have HP31 := hide (HP3.out he0 hw)
            subst he0
            obtain ⟨c0, c1, c2, c3, c4, c5, c6, c7⟩ := (HPb.out.below hB).cells
            by_cases hl : (who.length : Int) ≤ p.t
            · have HR := hide (HPn1.out hl)
              clear HN HY HQ HP2 HPe HP3 HPn HPn1 HP31 hw hne2 he2
              go_wp2_with fail
              clear c0 c1 c2 c3 c4 c5 c6 c7
              go_loopw [2, 8] (fun ve vi wr => ∃ k : Nat, k ≤ who.length ∧ vi = .int .i64 k ∧ ve = .int .i64 (ndE who k) ∧ Below W0.heap.size W0 wr) (fun _ vi _ => who.length - (intOf vi).toNat)
              case atStart => exact ⟨0, Nat.zero_le _, rfl, by show Value.int .i64 0 = _; unfold ndE; simp, hB⟩
              case round =>
                clear hB
                obtain ⟨k, hk, rfl, rfl, hB⟩ := hrel
                by_cases hlt : k < who.length
                · have k0 : (0 : Int) ≤ (k : Int) := by omega
                  have k1 : (k : Int) < (who.length : Int) := by omega
                  by_cases hz : ndE who k = 0
                  · have HZ := hide (HN0.out k hz)
                    rw [hz]
                    go_wp2_with fail
                    go_loopw [2, 9] (fun ve vj wr => ∃ j : Nat, j ≤ k ∧ vj = .int .i64 j ∧ ve = .int .i64 (inE who k j) ∧ Below W0.heap.size W0 wr) (fun _ vj _ => k - (intOf vj).toNat)
                    case atStart => exact ⟨0, Nat.zero_le _, rfl, by rw [HI0.out], hB⟩
                    case round =>
                      clear hB
                      obtain ⟨j, hj, rfl, rfl, hB⟩ := hrel
                      by_cases hjk : j < k
                      · obtain ⟨b, off, cp, heq, _, _⟩ := HL.out.form (by omega)
                        cases heq
                        have d1 := (lmi_cell HL.out (Below.next hA hB) hlt).2
                        have d2 := (lmi_cell HL.out (Below.next hA hB) (k := j) (by omega)).2
                        have j0 : (0 : Int) ≤ (j : Int) := by omega
                        have j1 : (j : Int) < (k : Int) := by omega
                        have j2 : (j : Int) < (who.length : Int) := by omega
                        have HBq := hide (fun nq => below_drewN hB nq)
                        by_cases hxy : who.getD k 0 = who.getD j 0
                        · have HI := hide (HI1.out k j (by omega) hxy)
                          have ht : (who.getD k 0 == who.getD j 0) = true := beq_iff_eq.2 hxy
                          clear HI1 HI2 HI3 HN6 HN0 HI0 HL hxy
                          generalize hgi : inE who k (j + 1) = i2 at *
                          generalize inE who k j = i1 at *
                          have Hg := hide hgi
                          clear hgi
                          generalize who.getD k 0 = x at *
                          generalize who.getD j 0 = y at *
                          go_upto_region 14 with fail
                          go_quiet (fail)
                          have hBq := HBq.out nq
                          go_wp2_with fail
                          go_roundw
                          case rel => exact ⟨j + 1, by omega, by go_num, by rw [Hg.out, HI.out], hBq⟩
                          case measure => simp [intOf]; omega
                        · have HI := hide (HI2.out k j (by omega) hxy)
                          have ht : (who.getD k 0 == who.getD j 0) = false := beq_eq_false_iff_ne.2 hxy
                          clear HI1 HI2 HI3 HN6 HN0 HI0 HL hxy
                          generalize hgi : inE who k (j + 1) = i2 at *
                          generalize inE who k j = i1 at *
                          have Hg := hide hgi
                          clear hgi
                          generalize who.getD k 0 = x at *
                          generalize who.getD j 0 = y at *
                          go_upto_region 14 with fail
                          go_quiet (fail)
                          have hBq := HBq.out nq
                          go_wp2_with fail
                          go_roundw
                          case rel => exact ⟨j + 1, by omega, by go_num, by rw [Hg.out, HI.out], hBq⟩
                          case measure => simp [intOf]; omega
                      · obtain rfl : j = k := by omega
                        have HI := hide (HI3.out j hlt HZ.out)
                        have jj : ¬ (j : Int) < (j : Int) := by omega
                        clear HI1 HI2 HI3 HN6 HN0 HI0 HL
                        rw [HI.out]
                        generalize hgi : ndE who (j + 1) = i2 at *
                        have Hg := hide hgi
                        clear hgi
                        go_wp2_with fail
                        go_roundw
                        case rel => exact ⟨j + 1, by omega, by go_num, by rw [Hg.out], hB⟩
                        case measure => simp [intOf]; omega
                  · have h6 := HN6.out k (by omega) hz
                    have ht : (ndE who k == 0) = false := beq_eq_false_iff_ne.2 hz
                    have H6 : Hid (ndE who k = 6) := by
                      have : ndE who k = 0 ∨ ndE who k = 6 := by unfold ndE; split <;> simp
                      show _ = _
                      omega
                    have HR2 : Hid (res = 6) := by show _ = _; rw [HR.out, h6]
                    clear HI1 HI2 HI3 HN6 HN0 HI0 HL h6 hz HR
                    generalize ndE who k = i1 at *
                    go_wp2_with fail
                    go_ret
                    exact ⟨by have hr := HR2.out; have h6 := H6.out; subst hr h6; rfl, Below.next hA hB⟩
                · obtain rfl : k = who.length := by omega
                  clear HI1 HI2 HI3 HN6 HN0 HI0 HL
                  generalize ndE who who.length = i1 at *
                  go_wp2_with fail
                  go_ret
                  exact ⟨by have hr := HR.out; rw [hr]; rfl, Below.next hA hB⟩
            · have hl2 : p.t < (who.length : Int) := by omega
              have HR := hide (HP31.out hl2)
              clear HPn1 HP31 HN HY HQ HP2 HPe HP3 HPn HI1 HI2 HI3 HN6 HN0 HI0 HL HPb hw hne2 he2 hl
              go_wp2_with fail
              go_loopw [2, 8] (fun ve vi wr => ve = .int .i64 3 ∧ vi = .int .i64 0 ∧ Below W0.heap.size W0 wr) (fun _ _ _ => 0)
              case atStart => exact ⟨rfl, rfl, hB⟩
              case round =>
                clear hB
                obtain ⟨rfl, rfl, hB⟩ := hrel
                by_cases hl0 : 0 < who.length
                · have hl1 : (0 : Int) < (who.length : Int) := by omega
                  go_wp2_with fail
                  go_ret
                  exact ⟨by have hr := HR.out; rw [hr]; rfl, Below.next hA hB⟩
                · have hl1 : ¬ (0 : Int) < (who.length : Int) := by omega
                  go_wp2_with fail
                  go_ret
                  exact ⟨by have hr := HR.out; rw [hr]; rfl, Below.next hA hB⟩
          · have HR := hide (HPe.out he2 hw he0)
            have hne0 : (e == 0) = false := beq_eq_false_iff_ne.2 he0
            clear HN HY HQ HP2 HPe HP3 HPn HI1 HI2 HI3 HN6 HN0 HI0 HL HPb hw he0 he2
            go_wp2_with fail
            go_loopw [2, 8] (fun ve vi wr => ve = .int .i64 e ∧ vi = .int .i64 0 ∧ Below W0.heap.size W0 wr) (fun _ _ _ => 0)
            case atStart => exact ⟨rfl, rfl, hB⟩
            case round =>
              clear hB
              obtain ⟨rfl, rfl, hB⟩ := hrel
              by_cases hl0 : 0 < who.length
              · have hl1 : (0 : Int) < (who.length : Int) := by omega
                go_wp2_with fail
                go_ret
                exact ⟨by have hr := HR.out; rw [hr]; rfl, Below.next hA hB⟩
              · have hl1 : ¬ (0 : Int) < (who.length : Int) := by omega
                go_wp2_with fail
                go_ret
                exact ⟨by have hr := HR.out; rw [hr]; rfl, Below.next hA hB⟩
    · clear HN HY HP2 HPe HP3 HPn HI1 HI2 HI3 HN6 HN0 HI0 HL HPb
      by_cases hlt : k < who.length
      · have k1 : (k : Int) < (who.length : Int) := by omega
        go_wp2_with fail
        go_loopw [2, 8] (fun ve vi wr => ve = .int .i64 2 ∧ vi = .int .i64 0 ∧ Below W0.heap.size W0 wr) (fun _ _ _ => 0)
        case atStart => exact ⟨rfl, rfl, hB⟩
        case round =>
          clear hB
          obtain ⟨rfl, rfl, hB⟩ := hrel
          by_cases hl0 : 0 < who.length
          · have hl1 : (0 : Int) < (who.length : Int) := by omega
            go_wp2_with fail
            go_ret
            exact ⟨by have hr := HR.out; rw [hr]; rfl, Below.next hA hB⟩
          · have hl1 : ¬ (0 : Int) < (who.length : Int) := by omega
            go_wp2_with fail
            go_ret
            exact ⟨by have hr := HR.out; rw [hr]; rfl, Below.next hA hB⟩
      · have k1 : ¬ (k : Int) < (who.length : Int) := by omega
        go_wp2_with fail
        go_loopw [2, 8] (fun ve vi wr => ve = .int .i64 2 ∧ vi = .int .i64 0 ∧ Below W0.heap.size W0 wr) (fun _ _ _ => 0)
        case atStart => exact ⟨rfl, rfl, hB⟩
        case round =>
          clear hB
          obtain ⟨rfl, rfl, hB⟩ := hrel
          by_cases hl0 : 0 < who.length
          · have hl1 : (0 : Int) < (who.length : Int) := by omega
            go_wp2_with fail
            go_ret
            exact ⟨by have hr := HR.out; rw [hr]; rfl, Below.next hA hB⟩
          · have hl1 : ¬ (0 : Int) < (who.length : Int) := by omega
            go_wp2_with fail
            go_ret
            exact ⟨by have hr := HR.out; rw [hr]; rfl, Below.next hA hB⟩

end Go.Proofs.YtpbfgcepmbpkdaaGreat

