import Derived.Test.YthialdipnhggnaaBunW
set_option linter.unusedVariables false
set_option linter.unusedSimpArgs false
set_option maxRecDepth 100000
set_option maxHeartbeats 4000000
namespace Go.Proofs.Ythialdipnhggnaa
open Go.RowKit Fld
theorem bu_info : (Try.prog.info? 5).map (fun i => (i.zero, i.size, i.bytes)) = some (some (.int .u8 0), 1, 1) := by kernel_rfl
def Ub (w : World) (p : Nat) (v : Value) (bs : List Int) : Prop := Rb w v bs ∧ (bs ≠ [] -> ∃ off n c, v = .slice (some ⟨p, off, none⟩) n c)
theorem Ub.kept {S : Nat -> Prop} {w w' : World} {p : Nat} {v : Value} {bs : List Int} (h : Ub w p v bs) (k : Kq S w w') (hp : S p) : Ub w' p v bs := by
 refine ⟨?_, h.2⟩
 obtain ⟨⟨ao, cap, rfl, h1, h2, h3⟩, h4⟩ := h
 refine ⟨ao, cap, rfl, h1, h2, fun hne => ?_⟩
 obtain ⟨b, off, rfl, hb, hc⟩ := h3 hne
 obtain ⟨off', n', c', e⟩ := h4 hne
 cases e
 exact ⟨p, off, rfl, Nat.lt_of_lt_of_le hb k.size, fun i hi => (k.cell (a := ⟨p, off + i, none⟩) hp).trans (hc i hi)⟩
theorem cut3u {w : World} {p : Nat} {v : Value} {bs : List Int} (hu : Ub w p v bs) {k m : Nat} (hk : k <= m) (hm : m <= bs.length) :
 ∃ a, Ub w p (.slice a (m - k) (m - k)) ((bs.drop k).take (m - k)) ∧ ∀ W : World, (Instr.slice 23 v (some (.int .i64 (k : Int))) (some (.int .i64 (m : Int))) (some (.int .i64 (m : Int)))).run Try.prog W = .ok (.slice a (m - k) (m - k)) W := by
 obtain ⟨h, hat⟩ := hu
 obtain ⟨i0, hi0, hz0, hz1, hz2⟩ := info_parts bu_info
 have h' := h
 obtain ⟨ao, cap, rfl, ⟨hcap, hlen, hn⟩, hy, hc⟩ := h
 have h1 : (0 : Int) <= (k : Int) ∧ (k : Int) <= (m : Int) := by omega
 have h2 : (0 : Int) <= (m : Int) ∧ (m : Int) <= (cap : Int) := by omega
 have hl : ((bs.drop k).take (m - k)).length = m - k := by rw [List.length_take, List.length_drop]; omega
 by_cases h0 : m = k
 · subst h0
   refine ⟨ao, ?_, fun W => ?_⟩
   · rw [Nat.sub_self, List.take_zero]
     exact ⟨⟨ao, 0, rfl, ⟨Nat.le_refl _, by simp, fun _ => rfl⟩, By.nil, fun h => absurd rfl h⟩, fun h => absurd rfl h⟩
   · simp [Instr.slice, Instr.sliceBounds, Instr.sliceBound, asIntOf, run_underlying Try.underlying23, sizeOf, typeInfo, hi0, hz1, show m <= cap by omega]
 · have hb : bs ≠ [] := by intro e; rw [e] at hm; simp at hm; omega
   obtain ⟨off, n', c', e⟩ := hat hb
   cases e
   have := h'.cut (o := k) (n := m - k) (c := m - k) (by omega) (Nat.le_refl _)
   refine ⟨some ⟨p, off + k, none⟩, ⟨this, fun _ => ⟨_, _, _, rfl⟩⟩, fun W => ?_⟩
   simp [Instr.slice, Instr.sliceBounds, Instr.sliceBound, asIntOf, run_underlying Try.underlying23, sizeOf, typeInfo, hi0, hz1, hk, show m <= cap by omega, h0, show ¬ m - k = 0 by omega, Addr.add]
theorem ub_of_own {w : World} {base n p cap : Nat} {a : Option Addr} {bs : List Int} {T : TypeId} (h : w.ownsRow base T 1 (.slice a n cap) n (valb bs)) (hb : By bs) (hl : bs.length <= 187649984500000) (hp : ∀ q, (Value.slice a n cap).ownBlock = some q -> q = p) : Ub w p (.slice a n cap) bs := by
 refine ⟨rb_of_ownG h hb hl, fun hne => ?_⟩
 rcases h.2 with ⟨e, h0⟩ | ⟨g, cap', cur, e, _⟩
 · have h1 := h.1
   rw [valb_length, h0] at h1
   exact absurd (List.length_eq_zero_iff.1 (by omega)) hne
 · cases e
   have : g = p := hp g rfl
   subst this
   exact ⟨0, n, cap, rfl⟩
end Go.Proofs.Ythialdipnhggnaa
