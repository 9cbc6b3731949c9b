/-
  FieldRing's walk.
-/
import Derived.Test.YtepbfcioocohgaaElems
import Derived.Test.YtepbfcioocohgaaModL
import Derived.Deep.QuietTactic
import Derived.BigQuiet
namespace Go.Proofs.Ytepbfcioocohgaa
open Go.RowKit Fld
set_option linter.unusedVariables false

theorem row3 (w : World) (a b c : Int) (ha : 0 ≤ a ∧ a ≤ 18446744073709551615) (hb : 0 ≤ b ∧ b ≤ 18446744073709551615) (hc : 0 ≤ c ∧ c ≤ 18446744073709551615) (T : TypeId) :
    Row (w.alloc (.cells #[.int .u64 a, .int .u64 b, .int .u64 c] T)) (.slice (some ⟨w.heap.size, 0, none⟩) 3 3) [a, b, c] :=
  ⟨_, _, rfl, by simp, by simp [ha, hb, hc], fun _ => ⟨_, _, rfl, by simp, fun i hi => by
    have : i = 0 ∨ i = 1 ∨ i = 2 := by simp at hi; omega
    rcases this with rfl | rfl | rfl <;> simp [go_sem]⟩⟩

theorem Gi_fi (f : Int) (hf : 0 ≤ f) : ∃ g p wd, Gi f g ∧ Fi g p wd := by
  by_cases h : f % 2 = 0
  · exact ⟨2, _, _, .inl ⟨h, rfl⟩, .inr ⟨rfl, rfl, rfl⟩⟩
  · exact ⟨1, _, _, .inr ⟨by omega, rfl⟩, .inl ⟨rfl, rfl, rfl⟩⟩

theorem mod_el {p : Int} (hp : 0 < p) (a : Int) : El p (a % p) := ⟨Int.emod_nonneg _ (by omega), Int.emod_lt_of_pos _ hp⟩

theorem mod_words {p : Int} (hp : 0 < p) (hp1 : p ≤ 18446744073709551615) (xs : List Int) : ∀ x ∈ xs.map (· % p), 0 ≤ x ∧ x ≤ 18446744073709551615 := by
  intro x hx
  obtain ⟨y, _, rfl⟩ := List.mem_map.1 hx
  have := mod_el hp y
  exact ⟨this.1, by have := this.2; omega⟩

/-- What 'elements' hands back, as a list in memory. -/
theorem elements_row (f g p : Int) (wd : Bool) (v : Value) (xs : List Int) (w : World) (hf : 0 ≤ f ∧ f ≤ 255) (hg : Gi f g) (hfi : Fi g p wd) (hr : Row w v xs) :
    Calls Try.prog 30 #[.int .u8 f, v] w fun e w' => ∃ v', e = .returned (.tuple #[.int .u8 g, v']) ∧ Row w' v' (xs.map (· % p)) ∧
      (∀ k, v'.ownBlock = some k → w.heap.size ≤ k) ∧ Below w.heap.size w w' := by
  have hlen : xs.length ≤ 17592186043904 := by obtain ⟨_, _, _, h, _⟩ := hr; exact h
  refine (elements_any f g p wd v xs w hf hg hfi hr).mono ?_
  rintro e w' ⟨v', rfl, hown, hB⟩
  exact ⟨v', rfl, row_of_own hown (by simp) (by simpa using hlen) (mod_words hfi.pos hfi.top xs), own_base hown, hB⟩

set_option maxRecDepth 100000 in
set_option maxHeartbeats 1000000 in
theorem ring_any (f x y z : Int) (w : World) (hf : 0 ≤ f ∧ f ≤ 255) (hx : 0 ≤ x ∧ x ≤ 18446744073709551615) (hy : 0 ≤ y ∧ y ≤ 18446744073709551615) (hz : 0 ≤ z ∧ z ≤ 18446744073709551615) :
    Calls Try.prog 6 #[.int .u8 f, .agg #[.int .u64 x, .int .u64 y, .int .u64 z]] w fun e w' => e = .returned (.bool true) ∧ Below w.heap.size w w' := by
  obtain ⟨g, p, wd, hg, hfi⟩ := Gi_fi f hf.1
  have hp0 := hfi.pos
  have hp1 := hfi.top
  have hE := hide (fun W v hr => elements_row f g p wd v [x, y, z] W hf hg hfi hr)
  have hrow := hide (fun T => row3 w x y z hx hy hz T)
  have ea := mod_el hp0 x
  have eb := mod_el hp0 y
  have ec := mod_el hp0 z
  go_enter Try.func6, Try.ntmps6
  go_wp2_with fail
  refine (hE.out _ _ (hrow.out _)).mono ?_
  rintro e w1 ⟨v', rfl, hr, hbk, hb⟩
  have hB := below_one hb
  obtain ⟨ao, cap, rfl, _, _, hcs⟩ := hr
  obtain ⟨bb, off, rfl, hbl, hcell⟩ := hcs (by simp)
  have c0 := hcell 0 (by simp)
  have c1 := hcell 1 (by simp)
  have c2 := hcell 2 (by simp)
  simp only [List.map_cons, List.map_nil, List.length_cons, List.length_nil, List.getD_cons_zero, List.getD_cons_succ, Nat.add_zero] at c0 c1 c2 ⊢
  generalize x % p = a at *
  generalize y % p = b at *
  generalize z % p = c at *
  clear hcell hcs hE hrow hg hf hx hy hz hbk
  have f1 := mul_el (a := a) (b := b) hp0
  have f2 := mul_el (a := b) (b := a) hp0
  have f3 := mul_el (a := b) (b := c) hp0
  have f4 := add_el (a := b) (b := c) hp0
  have f5 := mul_el (a := a) (b := c) hp0
  have f6 := sub_el (a := a) (b := b) hp0
  have t1 : (mul p a b == mul p b a) = true := beq_iff_eq.2 (ring_comm p a b)
  have t2 : (mul p (mul p a b) c == mul p a (mul p b c)) = true := beq_iff_eq.2 (ring_assoc p a b c)
  have t3 : (mul p a (add p b c) == add p (mul p a b) (mul p a c)) = true := beq_iff_eq.2 (ring_dist p a b c)
  have t4 : (add p (sub p a b) b == a) = true := beq_iff_eq.2 (sub_back p a b ea)
  have hA := anchored_any
  have hI := hide (fun W => In_yes g p wd _ _ (W.alloc (.cells #[.int .u64 (mul p a b), .int .u64 (add p b c), .int .u64 (sub p a b)] 22)) hfi (row3 W _ _ _ (elWord f1 hp1) (elWord f4 hp1) (elWord f6 hp1) 22) (by simp [allIn, f1.2, f4.2, f6.2]))
  go_wp2_with fail
  go_quiet (fail)
  have hB := below_drewN hB nq
  go_wp2_with (first
    | (go_at_call 15; refine (Mul_yes g p _ _ wd _ hfi (by assumption) (by assumption)).mono ?_; rintro e w2 ⟨rfl, hb⟩; have hB := Below.next hB hb)
    | (go_at_call 11; refine (Add_yes g p _ _ wd _ hfi (by assumption) (by assumption)).mono ?_; rintro e w2 ⟨rfl, hb⟩; have hB := Below.next hB hb)
    | (go_at_call 13; refine (Sub_yes g p _ _ wd _ hfi (by assumption) (by assumption)).mono ?_; rintro e w2 ⟨rfl, hb⟩; have hB := Below.next hB hb)
    | (go_at_call 24; refine (hA _).mono ?_; rintro e w2 ⟨rfl, hb⟩; have hB := Below.next hB hb)
    | fail)
  refine (hI.out _).mono ?_
  rintro e w2 ⟨rfl, hb⟩
  have hB := Below.next hB (below_one hb)
  go_wp2
  go_ret
  exact ⟨rfl, hB⟩

end Go.Proofs.Ytepbfcioocohgaa
