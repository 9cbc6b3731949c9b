import Derived.Test.YtipobchbnjgenaaGreatBByG
import Derived.Test.YtipobchbnjgenaaGreatBWirG
set_option linter.unusedVariables false
set_option linter.unusedSimpArgs false
set_option maxRecDepth 100000
set_option maxHeartbeats 4000000
namespace Go.Proofs.YtipobchbnjgenaaGreat
open Go.RowKit Fld
theorem byte_from {w : World} {p : Nat} {v : Value} {bs : List Int} (hu : Ub w p v bs) {k : Nat} (hk : k <= bs.length) : ∃ v', Ub w p v' (bs.drop k) ∧ ∀ W : World, (Instr.slice 30 v (some (.int .i64 (k : Int))) none none).run Tryz.prog W = .ok v' W := by
 obtain ⟨h, hat⟩ := hu
 obtain ⟨i0, hi0, hz0, hz1, hz2⟩ := info_parts b8_info
 have h' := h
 obtain ⟨ao, cap, rfl, ⟨hcap, _, hn⟩, _, hc⟩ := h
 have h1 : (0 : Int) <= (k : Int) ∧ (k : Int) <= (bs.length : Int) := by omega
 cases ao with
 | none =>
  obtain ⟨e1, e2, e3⟩ := h'.none_
  subst e3
  have hk0 : k = 0 := by simpa using hk
  subst hk0
  refine ⟨.slice none 0 0, ⟨by simpa using rb_nil w, fun h => by simp at h⟩, fun W => ?_⟩
  subst e2
  simp [Instr.slice, Instr.sliceBounds, Instr.sliceBound, asIntOf, run_underlying Tryz.underlying30, sizeOf, typeInfo, hi0]
 | some ad =>
  by_cases hc0 : cap = k
  · have hl : bs.length = k := by omega
    have hd : bs.drop k = [] := by rw [<- hl]; exact List.drop_length
    refine ⟨.slice (some ad) 0 0, ?_, fun W => ?_⟩
    · rw [hd]; exact ⟨rb_empty w ad 0, fun h => absurd rfl h⟩
    · subst hc0
      simp [Instr.slice, Instr.sliceBounds, Instr.sliceBound, asIntOf, run_underlying Tryz.underlying30, sizeOf, typeInfo, hi0, h1.1, h1.2, hl]
  · refine ⟨.slice (some (ad.add k)) (bs.length - k) (cap - k), ?_, fun W => ?_⟩
    · by_cases hb : bs = []
      · subst hb
        have hk0 : k = 0 := by simpa using hk
        subst hk0
        exact ⟨rb_empty w _ _, fun h => by simp at h⟩
      · obtain ⟨off, n, c, e⟩ := hat hb
        cases e
        have := h'.cut (o := k) (n := bs.length - k) (c := cap - k) (by omega) (by omega)
        rw [List.take_of_length_le (by rw [List.length_drop]; exact Nat.le_refl _)] at this
        have ea : (⟨p, off, none⟩ : Addr).add k = ⟨p, off + k, none⟩ := by unfold Addr.add; split <;> simp_all
        rw [ea]; exact ⟨this, fun _ => ⟨_, _, _, rfl⟩⟩
    · simp [Instr.slice, Instr.sliceBounds, Instr.sliceBound, asIntOf, run_underlying Tryz.underlying30, sizeOf, typeInfo, hi0, hz1, h1.1, h1.2, hc0, show ¬ bs.length < k by omega]
def unF (g : Nat) : Value := .func (.func 168) #[] #[.pointer (some ⟨g, 0, none⟩)]
structure Un (W : World) (p g : Nat) (bs : List Int) : Prop where
 ne : p ≠ g
 here : ∃ v, W.cell? ⟨g, 0, none⟩ = some v ∧ Ub W p v bs
 fz : W.frozen? ⟨g, 0, none⟩ = false
theorem Un.lt {W : World} {p g : Nat} {bs : List Int} (h : Un W p g bs) : g < W.heap.size := by obtain ⟨v, h1, _⟩ := h.here; exact cell_in h1
theorem Un.kept {S : Nat -> Prop} {W W' : World} {p g : Nat} {bs : List Int} (h : Un W p g bs) (k : Kq S W W') (hg : S g) (hp : S p) : Un W' p g bs := by
 obtain ⟨v, h1, h2⟩ := h.here
 exact ⟨h.ne, ⟨v, (k.cell (a := ⟨g, 0, none⟩) hg).trans h1, h2.kept k hp⟩, (World.frozen?_of_block (a := ⟨g, 0, none⟩) (k.block g hg)).trans h.fz⟩
theorem Un.below {W W' : World} {p g : Nat} {bs : List Int} (h : Un W p g bs) (hp : p < W.heap.size) (k : Below W.heap.size W W') : Un W' p g bs :=
 h.kept (Below.kq k (S := fun j => j < W.heap.size) (fun j hj => hj)) h.lt hp
theorem set_kq (W : World) (g k : Nat) (v : Value) : Kq (fun j => j < W.heap.size ∧ j ≠ g) W (W.setCell ⟨g, k, none⟩ v) := ⟨rfl, rfl, rfl, by simp, fun j hj => Below.heap_setCell _ _ _ j hj.2⟩
theorem Un.stored {W : World} {p g : Nat} {bs cs : List Int} (h : Un W p g bs) {v : Value} (hp : p < W.heap.size) (hv : Ub W p v cs) : Un (W.setCell ⟨g, 0, none⟩ v) p g cs ∧ Ub (W.setCell ⟨g, 0, none⟩ v) p v cs := by
 obtain ⟨v0, h1, _⟩ := h.here
 have hk := hv.kept (set_kq W g 0 v) ⟨hp, h.ne⟩
 exact ⟨⟨h.ne, ⟨v, by simp [go_sem, h1], hk⟩, by rw [World.frozen?_setCell]; exact h.fz⟩, hk⟩
abbrev Bu (w : World) (g j : Nat) : Prop := j < w.heap.size ∧ j ≠ g
theorem kq_next {a b c : World} {g : Nat} (h : Kq (Bu a g) a b) (k : Kq (Bu b g) b c) : Kq (Bu a g) a c := h.trans (k.mono (fun j hj => ⟨Nat.lt_of_lt_of_le hj.1 h.size, hj.2⟩))
theorem kq_below {b c : World} {g : Nat} (h : Below b.heap.size b c) : Kq (Bu b g) b c := Below.kq h (fun j hj => hj.1)
theorem gUnreadOf (v : Value) (p : Nat) (bs : List Int) (w : World) (h : Ub w p v bs) (hp : p < w.heap.size) :
 Calls Tryz.prog 130 #[v] w fun e w' => ∃ g, e = .returned (unF g) ∧ Un w' p g bs ∧ w.heap.size <= g ∧ Below w.heap.size w w' := by
 have HT := hide h
 obtain ⟨ao, cap, rfl, hcp⟩ := h.1.spell
 clear h
 unfold unF
 go_enter Tryz.func130, Tryz.ntmps130
 go_wp2
 go_ret
 have hba := alloc_below w (.cells #[.slice ao bs.length cap] 30)
 exact ⟨_, rfl, ⟨by omega, ⟨_, by simp [go_sem], HT.out.kept (Below.kq hba (S := fun j => j < w.heap.size) (fun j hj => hj)) hp⟩, by simp [go_sem]⟩, Nat.le_refl _, hba⟩
theorem gLeft (k p g : Nat) (bs : List Int) (w : World) (hU : Un w p g bs) (hp : p < w.heap.size) (hk : k <= bs.length) :
 Calls Tryz.prog 168 #[.int .i64 (k : Int), .pointer (some ⟨g, 0, none⟩)] w fun e w' => ∃ v', e = .returned v' ∧ Ub w' p v' (bs.drop k) ∧ Un w' p g (bs.drop k) ∧ Kq (Bu w g) w w' := by
 have HR := hide hU
 obtain ⟨hne, ⟨v, hc, hv⟩, hfz⟩ := hU
 obtain ⟨v', hv', hs⟩ := byte_from hv hk
 have HS := hide (HR.out.stored hp hv')
 have HK := hide (set_kq w g 0 v')
 obtain ⟨ao, cap, rfl, _⟩ := hv.1.spell
 obtain ⟨ao', cap', rfl, _⟩ := hv'.1.spell
 clear hv hv' HR
 generalize (bs.drop k).length = n2 at *
 generalize bs.length = n1 at *
 go_enter Tryz.func168, Tryz.ntmps168
 go_wp2
 go_ret
 exact ⟨_, rfl, HS.out.2, HS.out.1, HK.out⟩
def nomsg (e : Int) : Value := .iface 165 (.agg #[.int .i64 e])
def pan20 (e : Int) : List PanicEntry := [{ v := nomsg e, recovered := false }]
theorem gWant_ok (e : Int) (w : World) : Calls Tryz.prog 129 #[.bool true, .int .i64 e] w fun r w' => r = .returned (.tuple #[]) ∧ w' = w := by
 go_enter Tryz.func129, Tryz.ntmps129
 go_wp2
 go_end0
 exact ⟨rfl, rfl⟩
theorem gWant_no (e : Int) (w : World) : Calls Tryz.prog 129 #[.bool false, .int .i64 e] w fun r w' => r = .panicked (pan20 e) ∧ w' = w := by
 go_enter Tryz.func129, Tryz.ntmps129
 go_wp2
 exact ⟨rfl, rfl, rfl⟩
theorem gKind_yes (p g : Nat) (bs : List Int) (w : World) (hU : Un w p g bs) (hp : p < w.heap.size) (h0 : 0 < bs.length) :
 Calls Tryz.prog 131 #[unF g] w fun e w' => e = .returned (.int .u8 (bs.getD 0 0)) ∧ Un w' p g (bs.drop 1) ∧ Kq (Bu w g) w w' := by
 have HL := hide (fun W (hu : Un W p g bs) (hq : p < W.heap.size) => gLeft 0 p g bs W hu hq (Nat.zero_le _))
 have HL1 := hide (fun W (hu : Un W p g bs) (hq : p < W.heap.size) => gLeft 1 p g bs W hu hq (by omega))
 have HU := hide hU
 have HP := hide hp
 have hi : (0 : Int) < (bs.length : Int) := by omega
 have HB := hide h0
 have hne := hU.ne
 obtain ⟨x, HX⟩ : ∃ x, Hid (bs.getD 0 0 = x) := ⟨_, rfl⟩
 rw [HX.out]
 clear hU hp
 rw [List.drop_zero] at HL
 unfold unF at *
 go_enter Tryz.func131, Tryz.ntmps131
 go_wp2_with (first
  | (go_at_call_of 168 (Value.int .i64 0); refine (HL.out _ HU.out HP.out).mono ?_; rintro e w1 ⟨v1, rfl, hv1, hu1, hk1⟩; obtain ⟨b1, o1, cap1, e1, _, _⟩ := hv1.1.form h0; subst e1; have HV1 := hide hv1)
  | (go_at_call 129; refine (gWant_ok _ _).mono ?_; rintro e w2 ⟨rfl, hw2⟩; rw [hw2]; clear hw2 w2)
  | (go_at_call_of 168 (Value.int .i64 1); refine (HL1.out _ hu1 (Nat.lt_of_lt_of_le HP.out hk1.size)).mono ?_; rintro e w3 ⟨v3, rfl, hv3, hu3, hk3⟩; have hv1' := HV1.out.kept hk3 ⟨Nat.lt_of_lt_of_le HP.out hk1.size, hne⟩; obtain ⟨_, c0, _⟩ := hv1'.1.at_ (k := 0) HB.out; rw [Nat.add_zero, HX.out] at c0))
 go_ret
 exact ⟨rfl, hu3, kq_next hk1 hk3⟩
theorem gKind_no (p g : Nat) (w : World) (hU : Un w p g []) (hp : p < w.heap.size) :
 Calls Tryz.prog 131 #[unF g] w fun e w' => e = .panicked (pan20 8) ∧ Kq (Bu w g) w w' := by
 have HL := hide (gLeft 0 p g [] w hU hp (Nat.zero_le _))
 clear hU hp
 unfold unF at *
 go_enter Tryz.func131, Tryz.ntmps131
 go_wp2_with (first
  | (go_at_call 168; refine HL.out.mono ?_; rintro e w1 ⟨v1, rfl, hv1, hu1, hk1⟩; obtain ⟨a1, c1, e1, _⟩ := hv1.1.spell; subst e1)
  | (go_at_call 129; refine (gWant_no _ _).mono ?_; rintro e w2 ⟨rfl, hw2⟩; rw [hw2]; clear hw2 w2))
 exact ⟨rfl, rfl, hk1⟩
theorem gCount_yes (p g : Nat) (bs : List Int) (w : World) (hU : Un w p g bs) (hp : p < w.heap.size) (he : rcE bs = 0) :
 Calls Tryz.prog 132 #[unF g] w fun e w' => e = .returned (.int .i64 (tk8 (bs.take 4))) ∧ Un w' p g (bs.drop 4) ∧ Kq (Bu w g) w w' := by
 have HL := hide (gLeft 0 p g bs w hU hp (Nat.zero_le _))
 have HL4 := hide (fun W (hu : Un W p g bs) (hq : p < W.heap.size) => gLeft 4 p g bs W hu hq (rcE_zero he).1)
 have HC := hide (fun W v (hr : Rb W v bs) => wReadCount v bs W hr)
 have HP := hide hp
 have e2 : rcN bs = tk8 (bs.take 4) := by unfold rcN; rw [if_pos he]
 have e3 : rcS bs = 4 := by unfold rcS; rw [if_pos he]
 rw [he, e2, e3] at HC
 clear hU hp he e2 e3
 rw [List.drop_zero] at HL
 unfold unF at *
 generalize tk8 (bs.take 4) = n at *
 go_enter Tryz.func132, Tryz.ntmps132
 go_wp2_with (first
  | (go_at_call_of 168 (Value.int .i64 0); refine HL.out.mono ?_; rintro e w1 ⟨v1, rfl, hv1, hu1, hk1⟩; obtain ⟨a1, c1, e1, _⟩ := hv1.1.spell; subst e1)
  | (go_at_call 169; refine (HC.out _ _ hv1.1).mono ?_; rintro e w2 ⟨rfl, hb2⟩; have hp1 := Nat.lt_of_lt_of_le HP.out hk1.size; have hu2 := hu1.below hp1 hb2; have hk2 := kq_next hk1 (kq_below hb2))
  | (go_at_call 129; refine (gWant_ok _ _).mono ?_; rintro e w3 ⟨rfl, hw3⟩; rw [hw3]; clear hw3 w3)
  | (go_at_call_of 168 (Value.int .i64 4); refine (HL4.out _ hu2 (Nat.lt_of_lt_of_le HP.out hk2.size)).mono ?_; rintro e w4 ⟨v4, rfl, hv4, hu4, hk4⟩))
 go_ret
 exact ⟨rfl, hu4, kq_next hk2 hk4⟩
theorem gCount_no (p g : Nat) (bs : List Int) (w : World) (hU : Un w p g bs) (hp : p < w.heap.size) (he : rcE bs ≠ 0) :
 Calls Tryz.prog 132 #[unF g] w fun e w' => e = .panicked (pan20 8) ∧ Kq (Bu w g) w w' := by
 have HL := hide (gLeft 0 p g bs w hU hp (Nat.zero_le _))
 have HC := hide (fun W v (hr : Rb W v bs) => wReadCount v bs W hr)
 have hb : (rcE bs == 0) = false := by simpa using he
 clear hU hp he
 rw [List.drop_zero] at HL
 unfold unF at *
 generalize rcE bs = ee at *
 generalize rcN bs = n at *
 generalize rcS bs = ss at *
 go_enter Tryz.func132, Tryz.ntmps132
 go_wp2_with (first
  | (go_at_call 168; refine HL.out.mono ?_; rintro e w1 ⟨v1, rfl, hv1, hu1, hk1⟩; obtain ⟨a1, c1, e1, _⟩ := hv1.1.spell; subst e1)
  | (go_at_call 169; refine (HC.out _ _ hv1.1).mono ?_; rintro e w2 ⟨rfl, hb2⟩; have hk2 := kq_next hk1 (kq_below hb2))
  | (go_at_call 129; refine (gWant_no _ _).mono ?_; rintro e w3 ⟨rfl, hw3⟩; rw [hw3]; clear hw3 w3))
 exact ⟨rfl, rfl, hk2⟩
theorem gList_yes (p g : Nat) (bs : List Int) (w : World) (hU : Un w p g bs) (hp : p < w.heap.size) (he : rlE bs = 0) :
 Calls Tryz.prog 133 #[unF g] w fun e w' => ∃ v', e = .returned (.tuple #[.int .u8 (rlF bs), v']) ∧ w'.ownsRow w.heap.size 83 1 v' (rlX bs).length (vals (rlX bs)) ∧ Un w' p g (bs.drop (5 + rlN bs * wF (rlF bs))) ∧ Kq (Bu w g) w w' := by
 have HL := hide (gLeft 0 p g bs w hU hp (Nat.zero_le _))
 have HL4 := hide (fun W (hu : Un W p g bs) (hq : p < W.heap.size) => gLeft (5 + rlN bs * wF (rlF bs)) p g bs W hu hq (rlE_zero he).2.2.2.2.1)
 have HC := hide (fun W v (hr : Rb W v bs) => wReadList v bs W hr)
 unfold GivesR8 at HC
 have HP := hide hp
 have hlt := hU.lt
 have HG := hide hlt
 obtain ⟨e1, e2, e3⟩ := rl_yes he
 rw [he, e1, e2, e3] at HC
 clear hU hp he e1 e2 e3 hlt
 rw [List.drop_zero] at HL
 unfold unF at *
 generalize 5 + rlN bs * wF (rlF bs) = sz at *
 generalize rlF bs = f at *
 generalize rlX bs = xs at *
 go_enter Tryz.func133, Tryz.ntmps133
 go_wp2_with (first
  | (go_at_call_of 168 (Value.int .i64 0); refine HL.out.mono ?_; rintro e w1 ⟨v1, rfl, hv1, hu1, hk1⟩; obtain ⟨a1, c1, e1, _⟩ := hv1.1.spell; subst e1)
  | (go_at_call 170; refine (HC.out _ _ hv1.1).mono ?_; rintro e w2 ⟨v2, rfl, ho2, hb2⟩; have hp1 := Nat.lt_of_lt_of_le HP.out hk1.size; have hu2 := hu1.below hp1 hb2; have hk2 := kq_next hk1 (kq_below hb2))
  | (go_at_call 129; refine (gWant_ok _ _).mono ?_; rintro e w3 ⟨rfl, hw3⟩; rw [hw3]; clear hw3 w3)
  | (go_at_call 168; refine (HL4.out _ hu2 (Nat.lt_of_lt_of_le HP.out hk2.size)).mono ?_; rintro e w4 ⟨v4, rfl, hv4, hu4, hk4⟩; have ho4 := hk4.own ho2 (fun b hb => ⟨own_top ho2 b hb, fun e => by have h1 := own_base ho2 b hb; have h2 := HG.out; have h3 := hk1.size; omega⟩)))
 go_ret2
 exact ⟨_, rfl, own_mono ho4 hk1.size, hu4, kq_next hk2 hk4⟩
theorem gList_no (p g : Nat) (bs : List Int) (w : World) (hU : Un w p g bs) (hp : p < w.heap.size) (he : rlE bs ≠ 0) :
 Calls Tryz.prog 133 #[unF g] w fun e w' => e = .panicked (pan20 8) ∧ Kq (Bu w g) w w' := by
 have HL := hide (gLeft 0 p g bs w hU hp (Nat.zero_le _))
 have HC := hide (fun W v (hr : Rb W v bs) => wReadList v bs W hr)
 unfold GivesR8 at HC
 have hb : (rlE bs == 0) = false := by simpa using he
 clear hU hp he
 rw [List.drop_zero] at HL
 unfold unF at *
 generalize rlE bs = ee at *
 generalize rlFo bs = f at *
 generalize rlLo bs = xs at *
 generalize rlSo bs = ss at *
 go_enter Tryz.func133, Tryz.ntmps133
 go_wp2_with (first
  | (go_at_call 168; refine HL.out.mono ?_; rintro e w1 ⟨v1, rfl, hv1, hu1, hk1⟩; obtain ⟨a1, c1, e1, _⟩ := hv1.1.spell; subst e1)
  | (go_at_call 170; refine (HC.out _ _ hv1.1).mono ?_; rintro e w2 ⟨v2, rfl, ho2, hb2⟩; have hk2 := kq_next hk1 (kq_below hb2))
  | (go_at_call 129; refine (gWant_no _ _).mono ?_; rintro e w3 ⟨rfl, hw3⟩; rw [hw3]; clear hw3 w3))
 exact ⟨rfl, rfl, hk2⟩
end Go.Proofs.YtipobchbnjgenaaGreat
