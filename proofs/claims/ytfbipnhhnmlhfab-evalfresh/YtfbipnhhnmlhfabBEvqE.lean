/-
  Layer 11: the polynomials' own check: the program's.
-/
import Derived.Test.YtfbipnhhnmlhfabBunK
import Derived.Test.YtfbipnhhnmlhfabBunF
import Derived.Test.YtfbipnhhnmlhfabBunH
namespace Go.Proofs.Ytfbipnhhnmlhfab
open Go.RowKit Fld Slp
set_option linter.unusedVariables false
set_option linter.unusedSimpArgs false

set_option maxRecDepth 100000 in
set_option maxHeartbeats 400000 in
theorem qCheck (f : Int) (q : Pr) (vp vi : Value) (xss : List (List Int)) (w : World) (hp : Pm w vp q) (hm : mayB q = true) (hr : Rws w vi xss) : Calls Try.prog 21 #[.int .u8 f, vp, vi] w fun e w' => e = .returned (.int .i64 (cpE f q xss)) ∧ Below w.heap.size w w' := by
  have HI := hide (fun v xs W (hr : Rw W v xs) => In_any f v xs W hr.1)
  have HD := hide (fun v xs W (hr : Rw W v xs) => Degree_any v xs W hr)
  have HOf := hide (fun W (hb : Below w.heap.size w W) => gOf vp q W (hp.below hb))
  unfold IsOf at HOf
  have HOne := hide (of_one hm)
  have HLe := hide (fun h => of_le (q := q) h)
  obtain ⟨vo, vu, rfl, ho, hu⟩ := hp.form
  obtain ⟨ao, co', rfl, _⟩ := ho.spell
  obtain ⟨au, cu, rfl, _⟩ := hu.spell
  obtain ⟨ai, ci, rfl, hlen, hcap, hcell⟩ := hr
  have hA := alloc_below w (.cells #[.int .i64 q.inp, .slice ao q.ops.length co', .slice au q.outs.length cu] 25)
  have hN := heap_alloc_new w (.cells #[.int .i64 q.inp, .slice ao q.ops.length co', .slice au q.outs.length cu] 25)
  clear ho hu hp hm
  go_enter Try.func21, Try.ntmps21
  go_upto_region 1 with fail
  generalize w.alloc (.cells #[.int .i64 q.inp, .slice ao q.ops.length co', .slice au q.outs.length cu] 25) = w0 at *
  go_wp2
  go_loopw [16] (fun vi wr => ∃ k : Nat, k ≤ xss.length ∧ vi = .int .i64 k ∧ Hid (∀ i, i < k → inF f (xss.getD i []) = true) ∧ Below w0.heap.size w0 wr) (fun vi _ => xss.length - (intOf vi).toNat)
  case atStart => exact ⟨0, Nat.zero_le _, rfl, fun i hi => by omega, Below.refl _ _⟩
  case round =>
    obtain ⟨k, hk, rfl, HK, hB⟩ := hrel
    have hBw := Below.next hA hB
    have n1 := (hB.block _ (Array.getElem?_eq_some_iff.1 hN).1).trans hN
    by_cases hlt : k < xss.length
    · obtain ⟨b, off, rfl, hbl, hc⟩ := hcell (by intro e; rw [e] at hlt; simp at hlt)
      obtain ⟨u, hcu, hru⟩ := hc k hlt
      have hck := (hBw.cell (p := ⟨b, off + k, none⟩) hbl).trans hcu
      have HX := hide (HI.out u (xss.getD k []) wr (hru.below hBw))
      obtain ⟨au', cu', rfl, _⟩ := hru.spell
      have k0 : (0 : Int) ≤ (k : Int) := by omega
      have k1 : (k : Int) < (xss.length : Int) := by omega
      clear hc hcell hcu hru
      cases hi : inF f (xss.getD k []) with
      | false =>
        rw [hi] at HX
        have HE : Hid (cpE f q xss = 2) := by show _ = _; unfold cpE; rw [all_out hlt hi]; rfl
        clear hi
        generalize (xss.getD k []).length = ln at *
        go_wp2_with (go_at_call 38; refine HX.out.mono ?_; rintro e w3 ⟨rfl, hb3⟩)
        go_ret
        rw [HE.out]
        exact ⟨rfl, Below.next hBw hb3⟩
      | true =>
        rw [hi] at HX
        have HK2 : Hid (∀ i, i < k + 1 → inF f (xss.getD i []) = true) := fun i hi' => by
          by_cases e : i = k
          · rw [e]; exact hi
          · exact HK.out i (by omega)
        clear hi
        generalize (xss.getD k []).length = ln at *
        go_wp2_with (go_at_call 38; refine HX.out.mono ?_; rintro e w3 ⟨rfl, hb3⟩)
        have hB3 := Below.next hB hb3
        go_roundw
        case rel => exact ⟨k + 1, by omega, by go_num, HK2, hB3⟩
        case measure => simp [intOf]; omega
    · obtain rfl : k = xss.length := by omega
      have HAll : Hid (xss.all (inF f) = true) := all_in HK.out
      obtain ⟨p0, p1, p2⟩ := cell3 n1
      by_cases he : (xss.length : Int) = q.inp
      · have ht : ((xss.length : Int) != q.inp) = false := by simp [he]
        have HE : Hid (cpE f q xss = if lgB xss = true then 4 else if ofE q = 0 then (if 4096 ≤ ofV q * (top xss : Int) then 4 else 0) else ofE q) := by show _ = _; unfold cpE; rw [if_pos HAll.out, if_pos he]
        clear he HK
        obtain ⟨w9, rfl⟩ : ∃ w9, w9 = wr := ⟨wr, rfl⟩
        go_wp2
        go_loopw [9, 32] (fun vg vi wr => ∃ k : Nat, k ≤ xss.length ∧ vi = .int .i64 k ∧ vg = .int .i64 (grK xss k) ∧ Hid (∀ i, i < k → (xss.getD i []).length ≤ 4096) ∧ Below w9.heap.size w9 wr) (fun _ vi _ => xss.length - (intOf vi).toNat)
        case atStart => exact ⟨0, Nat.zero_le _, rfl, rfl, fun i hi => by omega, Below.refl _ _⟩
        case round =>
          clear p0 p1 p2
          obtain ⟨k, hk, rfl, rfl, HK, hB2⟩ := hrel
          have hBw2 := Below.next hBw hB2
          have n2 := (hB2.block _ (Array.getElem?_eq_some_iff.1 n1).1).trans n1
          by_cases hlt : k < xss.length
          · obtain ⟨b, off, rfl, hbl, hc⟩ := hcell (by intro e; rw [e] at hlt; simp at hlt)
            obtain ⟨u, hcu, hru⟩ := hc k hlt
            have hck := (hBw2.cell (p := ⟨b, off + k, none⟩) hbl).trans hcu
            have HX := hide (HD.out u (xss.getD k []) wr (hru.below hBw2))
            obtain ⟨au', cu', rfl, _⟩ := hru.spell
            have k0 : (0 : Int) ≤ (k : Int) := by omega
            have k1 : (k : Int) < (xss.length : Int) := by omega
            clear hc hcell hcu hru
            by_cases h4 : 4096 < (xss.getD k []).length
            · have HE4 : Hid (cpE f q xss = 4) := by show _ = _; rw [HE.out, if_pos (lg_yes hlt h4)]
              have h4' : (4096 : Int) < ((xss.getD k []).length : Int) := by omega
              clear h4
              generalize (xss.getD k []).length = ln at *
              go_wp2
              go_ret
              rw [HE4.out]
              exact ⟨rfl, hBw2⟩
            · have h4' : ((xss.getD k []).length : Int) ≤ 4096 := by omega
              have HK2 : Hid (∀ i, i < k + 1 → (xss.getD i []).length ≤ 4096) := fun i hi' => by
                by_cases e : i = k
                · rw [e]; omega
                · exact HK.out i (by omega)
              have HNx := hide (grK_next hlt)
              have hdl := tr_len (xss.getD k [])
              have hg1 := (gr_top xss k hk).2
              have hg2 := gr_le xss 4096 (by omega) k hk (fun i hi => by have h1 := HK.out i hi; have h2 := tr_len (xss.getD i []); omega)
              obtain ⟨dg, HDg⟩ : ∃ dg : Int, Hid (((tr (xss.getD k [])).length : Int) - 1 = dg) := ⟨_, rfl⟩
              have hd1 : -1 ≤ dg := by have := HDg.out; omega
              have hd2 : dg ≤ 4096 := by have := HDg.out; omega
              rw [HDg.out] at HX HNx
              obtain ⟨gk, HGk⟩ : ∃ gk : Int, Hid (grK xss k = gk) := ⟨_, rfl⟩
              rw [HGk.out] at HNx hg1 hg2 ⊢
              clear h4 hdl
              generalize (xss.getD k []).length = ln at *
              by_cases hmx : gk < dg
              · have HM : Hid (grK xss (k + 1) = dg) := by show _ = _; rw [HNx.out]; omega
                go_wp2_with (go_at_call 40; refine HX.out.mono ?_; rintro e w3 ⟨rfl, hb3⟩)
                have hB3 := Below.next hB2 hb3
                go_roundw
                case rel => exact ⟨k + 1, by omega, by go_num, by rw [HM.out], HK2, hB3⟩
                case measure => simp [intOf]; omega
              · have HM : Hid (grK xss (k + 1) = gk) := by show _ = _; rw [HNx.out]; omega
                go_wp2_with (go_at_call 40; refine HX.out.mono ?_; rintro e w3 ⟨rfl, hb3⟩)
                have hB3 := Below.next hB2 hb3
                go_roundw
                case rel => exact ⟨k + 1, by omega, by go_num, by rw [HM.out], HK2, hB3⟩
                case measure => simp [intOf]; omega
          · obtain rfl : k = xss.length := by omega
            have HLg : Hid (lgB xss = false) := lg_all HK.out
            rw [HLg.out] at HE
            have hT := gr_top xss xss.length (Nat.le_refl _)
            have hg2 := gr_le xss 4096 (by omega) xss.length (Nat.le_refl _) (fun i hi => by have h1 := HK.out i hi; have h2 := tr_len (xss.getD i []); omega)
            obtain ⟨p0, p1, p2⟩ := cell3 n2
            have HTop : Hid ((top xss : Int) = max (grK xss xss.length) 0) := hT.1
            have hg1 := hT.2
            clear hT HK hcell HI HD
            generalize grK xss xss.length = gk at *
            rcases HOne.out with h0 | h0
            · have v0 := (HLe.out h0).1
              have v1 := (HLe.out h0).2.1
              rw [h0] at HE HOf
              have HE2 : Hid (cpE f q xss = if 4096 ≤ ofV q * (top xss : Int) then 4 else 0) := by show _ = _; rw [HE.out]; rfl
              clear HE h0 HLe HOne
              generalize ofV q = n at *
              generalize (top xss : Int) = tp at *
              obtain ⟨D, hD⟩ : ∃ D, n * gk = D := ⟨_, rfl⟩
              have hD1 : -1024 ≤ D := by
                rw [← hD]
                have : n * (-1) ≤ n * gk := Int.mul_le_mul_of_nonneg_left hg1 v0
                omega
              have hD2 : D ≤ 4194304 := by
                rw [← hD]
                have h1 : n * gk ≤ n * 4096 := Int.mul_le_mul_of_nonneg_left hg2 v0
                omega
              have HIff : Hid (4096 ≤ n * tp ↔ 4096 ≤ D) := by
                show _ ↔ _
                rw [HTop.out, ← hD]
                rcases Int.le_total gk 0 with h | h
                · rw [Int.max_eq_right h, Int.mul_zero]
                  have : n * gk ≤ n * 0 := Int.mul_le_mul_of_nonneg_left h v0
                  rw [Int.mul_zero] at this
                  omega
                · rw [Int.max_eq_left h]
              by_cases hc : 4096 ≤ D
              · have HE3 : Hid (cpE f q xss = 4) := by show _ = _; rw [HE2.out, if_pos (HIff.out.2 hc)]
                go_wp2_with (go_at_call 41; refine (HOf.out _ hBw2).mono ?_; rintro e w3 ⟨rfl, hb3⟩)
                go_ret
                rw [HE3.out]
                exact ⟨rfl, Below.next hBw2 hb3⟩
              · have HE3 : Hid (cpE f q xss = 0) := by show _ = _; rw [HE2.out, if_neg (fun h => hc (HIff.out.1 h))]
                go_wp2_with (go_at_call 41; refine (HOf.out _ hBw2).mono ?_; rintro e w3 ⟨rfl, hb3⟩)
                go_ret
                rw [HE3.out]
                exact ⟨rfl, Below.next hBw2 hb3⟩
            · rw [h0] at HE HOf
              have HE3 : Hid (cpE f q xss = 4) := by show _ = _; rw [HE.out]; rfl
              clear HE h0 HLe HOne
              go_wp2_with (go_at_call 41; refine (HOf.out _ hBw2).mono ?_; rintro e w3 ⟨rfl, hb3⟩)
              go_ret
              rw [HE3.out]
              exact ⟨rfl, Below.next hBw2 hb3⟩
      · have ht : ((xss.length : Int) != q.inp) = true := by simp [he]
        have HE : Hid (cpE f q xss = 3) := by show _ = _; unfold cpE; rw [if_pos HAll.out, if_neg he]
        clear he hcell
        go_wp2
        go_ret
        rw [HE.out]
        exact ⟨rfl, hBw⟩

end Go.Proofs.Ytfbipnhhnmlhfab
