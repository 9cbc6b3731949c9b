import Derived.Test.YtaikhiodpieghaaBCdcB
import Derived.Test.YtaikhiodpieghaaBWirI
set_option linter.unusedVariables false
set_option linter.unusedSimpArgs false
set_option maxRecDepth 100000
set_option maxHeartbeats 4000000
namespace Go.Proofs.Ytaikhiodpieghaa
open Go.RowKit Fld
def Ub (w : World) (p : Nat) (v : Value) (bs : List Int) : Prop := Rb w v bs ∧ (bs ≠ [] -> ∃ off n c, v = .slice (some ⟨p, off, none⟩) n c)
theorem Ub.kept {S : Nat -> Prop} {w w' : World} {p : Nat} {v : Value} {bs : List Int} (h : Ub w p v bs) (k : Kq S w w') (hp : S p) : Ub w' p v bs := by
 refine ⟨?_, h.2⟩
 obtain ⟨⟨ao, cap, rfl, h1, h2, h3⟩, h4⟩ := h
 refine ⟨ao, cap, rfl, h1, h2, fun hne => ?_⟩
 obtain ⟨b, off, rfl, hb, hc⟩ := h3 hne
 obtain ⟨off', n', c', e⟩ := h4 hne
 cases e
 exact ⟨p, off, rfl, Nat.lt_of_lt_of_le hb k.size, fun i hi => (k.cell (a := ⟨p, off + i, none⟩) hp).trans (hc i hi)⟩
theorem byte_from {w : World} {p : Nat} {v : Value} {bs : List Int} (hu : Ub w p v bs) {k : Nat} (hk : k <= bs.length) : ∃ v', Ub w p v' (bs.drop k) ∧ ∀ W : World, (Instr.slice 27 v (some (.int .i64 (k : Int))) none none).run Try.prog W = .ok v' W := by
 obtain ⟨h, hat⟩ := hu
 obtain ⟨i0, hi0, hz0, hz1, hz2⟩ := info_parts b8_info
 have h' := h
 obtain ⟨ao, cap, rfl, ⟨hcap, _, hn⟩, _, hc⟩ := h
 have h1 : (0 : Int) <= (k : Int) ∧ (k : Int) <= (bs.length : Int) := by omega
 cases ao with
 | none =>
  obtain ⟨e1, e2, e3⟩ := h'.none_
  subst e3
  have hk0 : k = 0 := by simpa using hk
  subst hk0
  refine ⟨.slice none 0 0, ⟨by simpa using rb_nil w, fun h => by simp at h⟩, fun W => ?_⟩
  subst e2
  simp [Instr.slice, Instr.sliceBounds, Instr.sliceBound, asIntOf, run_underlying Try.underlying27, sizeOf, typeInfo, hi0]
 | some ad =>
  by_cases hc0 : cap = k
  · have hl : bs.length = k := by omega
    have hd : bs.drop k = [] := by rw [<- hl]; exact List.drop_length
    refine ⟨.slice (some ad) 0 0, ?_, fun W => ?_⟩
    · rw [hd]; exact ⟨rb_empty w ad 0, fun h => absurd rfl h⟩
    · subst hc0
      simp [Instr.slice, Instr.sliceBounds, Instr.sliceBound, asIntOf, run_underlying Try.underlying27, sizeOf, typeInfo, hi0, h1.1, h1.2, hl]
  · refine ⟨.slice (some (ad.add k)) (bs.length - k) (cap - k), ?_, fun W => ?_⟩
    · by_cases hb : bs = []
      · subst hb
        have hk0 : k = 0 := by simpa using hk
        subst hk0
        exact ⟨rb_empty w _ _, fun h => by simp at h⟩
      · obtain ⟨off, n, c, e⟩ := hat hb
        cases e
        have := h'.cut (o := k) (n := bs.length - k) (c := cap - k) (by omega) (by omega)
        rw [List.take_of_length_le (by rw [List.length_drop]; exact Nat.le_refl _)] at this
        have ea : (⟨p, off, none⟩ : Addr).add k = ⟨p, off + k, none⟩ := by unfold Addr.add; split <;> simp_all
        rw [ea]; exact ⟨this, fun _ => ⟨_, _, _, rfl⟩⟩
    · simp [Instr.slice, Instr.sliceBounds, Instr.sliceBound, asIntOf, run_underlying Try.underlying27, sizeOf, typeInfo, hi0, hz1, h1.1, h1.2, hc0, show ¬ bs.length < k by omega]
def unF (g : Nat) : Value := .func (.func 54) #[] #[.pointer (some ⟨g, 0, none⟩)]
structure Un (W : World) (p g : Nat) (bs : List Int) : Prop where
 ne : p ≠ g
 here : ∃ v, W.cell? ⟨g, 0, none⟩ = some v ∧ Ub W p v bs
 fz : W.frozen? ⟨g, 0, none⟩ = false
theorem Un.lt {W : World} {p g : Nat} {bs : List Int} (h : Un W p g bs) : g < W.heap.size := by obtain ⟨v, h1, _⟩ := h.here; exact cell_in h1
theorem Un.kept {S : Nat -> Prop} {W W' : World} {p g : Nat} {bs : List Int} (h : Un W p g bs) (k : Kq S W W') (hg : S g) (hp : S p) : Un W' p g bs := by
 obtain ⟨v, h1, h2⟩ := h.here
 exact ⟨h.ne, ⟨v, (k.cell (a := ⟨g, 0, none⟩) hg).trans h1, h2.kept k hp⟩, (World.frozen?_of_block (a := ⟨g, 0, none⟩) (k.block g hg)).trans h.fz⟩
theorem Un.below {W W' : World} {p g : Nat} {bs : List Int} (h : Un W p g bs) (hp : p < W.heap.size) (k : Below W.heap.size W W') : Un W' p g bs :=
 h.kept (Below.kq k (S := fun j => j < W.heap.size) (fun j hj => hj)) h.lt hp
theorem set_kq (W : World) (g k : Nat) (v : Value) : Kq (fun j => j < W.heap.size ∧ j ≠ g) W (W.setCell ⟨g, k, none⟩ v) := ⟨rfl, rfl, rfl, by simp, fun j hj => Below.heap_setCell _ _ _ j hj.2⟩
theorem Un.stored {W : World} {p g : Nat} {bs cs : List Int} (h : Un W p g bs) {v : Value} (hp : p < W.heap.size) (hv : Ub W p v cs) : Un (W.setCell ⟨g, 0, none⟩ v) p g cs ∧ Ub (W.setCell ⟨g, 0, none⟩ v) p v cs := by
 obtain ⟨v0, h1, _⟩ := h.here
 have hk := hv.kept (set_kq W g 0 v) ⟨hp, h.ne⟩
 exact ⟨⟨h.ne, ⟨v, by simp [go_sem, h1], hk⟩, by rw [World.frozen?_setCell]; exact h.fz⟩, hk⟩
abbrev Bu (w : World) (g j : Nat) : Prop := j < w.heap.size ∧ j ≠ g
theorem kq_next {a b c : World} {g : Nat} (h : Kq (Bu a g) a b) (k : Kq (Bu b g) b c) : Kq (Bu a g) a c := h.trans (k.mono (fun j hj => ⟨Nat.lt_of_lt_of_le hj.1 h.size, hj.2⟩))
theorem kq_below {b c : World} {g : Nat} (h : Below b.heap.size b c) : Kq (Bu b g) b c := Below.kq h (fun j hj => hj.1)
theorem gUnreadOf (v : Value) (p : Nat) (bs : List Int) (w : World) (h : Ub w p v bs) (hp : p < w.heap.size) :
 Calls Try.prog 41 #[v] w fun e w' => ∃ g, e = .returned (unF g) ∧ Un w' p g bs ∧ w.heap.size <= g ∧ Below w.heap.size w w' := by
 have HT := hide h
 obtain ⟨ao, cap, rfl, hcp⟩ := h.1.spell
 clear h
 unfold unF
 go_enter Try.func41, Try.ntmps41
 go_wp2
 go_ret
 have hba := alloc_below w (.cells #[.slice ao bs.length cap] 27)
 exact ⟨_, rfl, ⟨by omega, ⟨_, by simp [go_sem], HT.out.kept (Below.kq hba (S := fun j => j < w.heap.size) (fun j hj => hj)) hp⟩, by simp [go_sem]⟩, Nat.le_refl _, hba⟩
theorem gLeft (k p g : Nat) (bs : List Int) (w : World) (hU : Un w p g bs) (hp : p < w.heap.size) (hk : k <= bs.length) :
 Calls Try.prog 54 #[.int .i64 (k : Int), .pointer (some ⟨g, 0, none⟩)] w fun e w' => ∃ v', e = .returned v' ∧ Ub w' p v' (bs.drop k) ∧ Un w' p g (bs.drop k) ∧ Kq (Bu w g) w w' := by
 have HR := hide hU
 obtain ⟨hne, ⟨v, hc, hv⟩, hfz⟩ := hU
 obtain ⟨v', hv', hs⟩ := byte_from hv hk
 have HS := hide (HR.out.stored hp hv')
 have HK := hide (set_kq w g 0 v')
 obtain ⟨ao, cap, rfl, _⟩ := hv.1.spell
 obtain ⟨ao', cap', rfl, _⟩ := hv'.1.spell
 clear hv hv' HR
 generalize (bs.drop k).length = n2 at *
 generalize bs.length = n1 at *
 go_enter Try.func54, Try.ntmps54
 go_wp2
 go_ret
 exact ⟨_, rfl, HS.out.2, HS.out.1, HK.out⟩
def nomsg (e : Int) : Value := .iface 54 (.agg #[.int .i64 e])
def pan20 (e : Int) : List PanicEntry := [{ v := nomsg e, recovered := false }]
theorem gWant_ok (e : Int) (w : World) : Calls Try.prog 40 #[.bool true, .int .i64 e] w fun r w' => r = .returned (.tuple #[]) ∧ w' = w := by
 go_enter Try.func40, Try.ntmps40
 go_wp2
 go_end0
 exact ⟨rfl, rfl⟩
theorem gWant_no (e : Int) (w : World) : Calls Try.prog 40 #[.bool false, .int .i64 e] w fun r w' => r = .panicked (pan20 e) ∧ w' = w := by
 go_enter Try.func40, Try.ntmps40
 go_wp2
 exact ⟨rfl, rfl, rfl⟩
end Go.Proofs.Ytaikhiodpieghaa
