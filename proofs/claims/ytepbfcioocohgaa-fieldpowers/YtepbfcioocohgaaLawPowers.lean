/-
  FieldPowers' walk.
-/
import Derived.Test.YtepbfcioocohgaaLawRing
namespace Go.Proofs.Ytepbfcioocohgaa
open Go.RowKit Fld
set_option linter.unusedVariables false

set_option maxRecDepth 100000 in
set_option maxHeartbeats 1000000 in
theorem powers_any (f x m n : Int) (w : World) (hf : 0 ≤ f ∧ f ≤ 255) (hx : 0 ≤ x ∧ x ≤ 18446744073709551615) (hm : 0 ≤ m ∧ m ≤ 4294967295) (hn : 0 ≤ n ∧ n ≤ 4294967295) :
    Calls Try.prog 8 #[.int .u8 f, .int .u64 x, .agg #[.int .u32 m, .int .u32 n]] w fun e w' => e = .returned (.bool true) ∧ Below w.heap.size w w' := by
  obtain ⟨g, p, wd, hg, hfi⟩ := Gi_fi f hf.1
  have hp0 := hfi.pos
  have hp1 := hfi.top
  have hp2 := hfi.md.bounds.1
  have hE := hide (fun W v hr => elements_row f g p wd v [x] W hf hg hfi hr)
  have hP := hide (fun W => Prime_yes g p wd W hfi)
  have ea := mod_el hp0 x
  obtain ⟨m0, m1⟩ := hm
  obtain ⟨n0, n1⟩ := hn
  go_enter Try.func8, Try.ntmps8
  go_wp2_with fail
  go_quiet (fail)
  have hB := below_drewN ((Below.refl w.heap.size w).alloc (Nat.le_refl _) (.cells #[.int .u32 m, .int .u32 n] 51)) nq
  go_wp2_with fail
  have hrw : Row (((w.alloc (.cells #[.int .u32 m, .int .u32 n] 51)).drewN nq).alloc (.cells #[.int .u64 x] 22)) (.slice (some ⟨w.heap.size + 1, 0, none⟩) 1 1) [x] := by
    have := row1 ((w.alloc (.cells #[.int .u32 m, .int .u32 n] 51)).drewN nq) x hx 22
    have e : ((w.alloc (.cells #[.int .u32 m, .int .u32 n] 51)).drewN nq).heap.size = w.heap.size + 1 := by simp
    rw [e] at this; exact this
  refine (hE.out _ _ hrw).mono ?_
  rintro e w1 ⟨v', rfl, hr, hbk, hb⟩
  have hB := Below.next hB (below_one hb)
  obtain ⟨ao, cap, rfl, _, _, hcs⟩ := hr
  obtain ⟨bb, off, rfl, hbl, hcell⟩ := hcs (by simp)
  have c0 := hcell 0 (by simp)
  simp only [List.map_cons, List.map_nil, List.length_cons, List.length_nil, List.getD_cons_zero, Nat.add_zero] at c0 ⊢
  generalize x % p = a at *
  clear hcell hcs hE hrw hg hf hx hbk
  have f1 := pow_el (p := p) (a := a) (n := m) hp0
  have f2 := pow_el (p := p) (a := a) (n := n) hp0
  have t1 : (pow p a (m + n) == mul p (pow p a m) (pow p a n)) = true := beq_iff_eq.2 (pow_add_law p a m n m0 n0).symm
  have hA := anchored_any
  go_wp2_with fail
  refine (hP.out _).mono ?_
  rintro e w2 ⟨rfl, hb⟩
  have hB := Below.next hB hb
  have c0 : w2.cell? ⟨bb, off, none⟩ = some (.int .u64 a) := by rw [hb.cell (p := ⟨bb, off, none⟩) hbl]; exact c0
  have hbl := Nat.lt_of_lt_of_le hbl hb.size
  have hz : (a == 0) = true ∧ (pow p a (p - 1) == 0) = true ∨ (a == 0) = false ∧ (pow p a (p - 1) == 1) = true := by
    by_cases h0 : a = 0
    · left; rw [h0]; exact ⟨rfl, beq_iff_eq.2 (pow_zero_base p (p - 1) (by omega))⟩
    · right; exact ⟨beq_eq_false_iff_ne.2 h0, beq_iff_eq.2 (fermat_law hfi.md a ea h0)⟩
  rcases hz with ⟨z1, z2⟩ | ⟨z1, z2⟩
  all_goals
    go_wp2_with (first
      | (go_at_call 17; refine (Pow_yes g p _ _ wd _ hfi ea ⟨by omega, by omega⟩).mono ?_; rintro e w3 ⟨rfl, hb⟩; have hB := Below.next hB hb; have c0 := (hb.cell (p := ⟨bb, off, none⟩) hbl).trans c0; have hbl := Nat.lt_of_lt_of_le hbl hb.size)
      | (go_at_call 15; refine (Mul_yes g p _ _ wd _ hfi f1 f2).mono ?_; rintro e w3 ⟨rfl, hb⟩; have hB := Below.next hB hb; have c0 := (hb.cell (p := ⟨bb, off, none⟩) hbl).trans c0; have hbl := Nat.lt_of_lt_of_le hbl hb.size)
      | (go_at_call 24; refine (hA _).mono ?_; rintro e w3 ⟨rfl, hb⟩; have hB := Below.next hB hb; have c0 := (hb.cell (p := ⟨bb, off, none⟩) hbl).trans c0; have hbl := Nat.lt_of_lt_of_le hbl hb.size)
      | fail)
    go_ret
    exact ⟨rfl, hB⟩

end Go.Proofs.Ytepbfcioocohgaa
