/-
  Layer 4: one element raised, a list grown by another, in place.
-/
import Derived.Test.YtcjgjgkoeokooaaDoorBFasE
namespace Go.Proofs.YtcjgjgkoeokooaaDoor
open Go.RowKit Fld
set_option linter.unusedVariables false

theorem raise_low {p y a : Int} (hy : El p y) (ha : 0 ≤ a) (h : y < p - a) : (y + a) % p = y + a := Int.emod_eq_of_lt (by have := hy.1; omega) (by omega)
theorem raise_high {p y a : Int} (hy : El p y) (ha : a ≤ p) (h : ¬ y < p - a) : (y + a) % p = y - (p - a) := by
  rw [emod_sub_self _ _ (by omega) (by have := hy.2; omega)]; omega

set_option maxHeartbeats 200000 in
theorem raise_any (p a : Int) (ys : List Int) (w : World) (g off n n2 cap2 i : Nat) (hO : OwnG w g n ys) (hi : off + i < n) (hi2 : i < n2) (hy : El p (co ys (off + i))) (ha : 0 ≤ a) (hap : a ≤ p) (hp : p ≤ 18446744073709551615) :
    Calls Tryd.prog 82 #[.int .u64 p, .slice (some ⟨g, off, none⟩) n2 cap2, .int .i64 i, .int .u64 a] w fun e w' => e = .returned (.tuple #[]) ∧ w' = w.setCell ⟨g, off + i, none⟩ (.int .u64 ((co ys (off + i) + a) % p)) := by
  have hc := hO.cell (own_len hO) (off + i) hi
  have hf := hO.free (off + i)
  have e : ys.getD (off + i) 0 = co ys (off + i) := rfl
  rw [e] at hc
  have LO := hide (fun h => raise_low (a := a) hy ha h)
  have HI := hide (fun h => raise_high (a := a) hy hap h)
  have i0 : (0 : Int) ≤ (i : Int) := Int.natCast_nonneg _
  have i1 : (i : Int) < (n2 : Int) := by omega
  clear e hO
  obtain ⟨y0, y1⟩ := hy
  generalize co ys (off + i) = y at *
  by_cases hlow : y < p - a
  · rw [LO.out hlow]
    clear LO HI
    go_enter Tryd.func82, Tryd.ntmps82
    go_wp2
    go_end0
    exact ⟨rfl, rfl⟩
  · rw [HI.out hlow]
    clear LO HI
    go_enter Tryd.func82, Tryd.ntmps82
    go_wp2
    go_end0
    exact ⟨rfl, rfl⟩

set_option maxRecDepth 100000 in
set_option maxHeartbeats 200000 in
theorem fgrow_any (f p : Int) (wd : Bool) (v : Value) (xs ys : List Int) (w : World) (g off n n2 cap2 : Nat) (h : Fi f p wd) (hr : Row w v xs) (hx : Els p xs)
    (hO : OwnG w g n ys) (hy : Els p ys) (hfit : off + xs.length ≤ n) (hn2 : xs.length ≤ n2) (hfar : xs ≠ [] → ∀ b o m k, v = .slice (some ⟨b, o, none⟩) m k → b ≠ g) :
    Calls Tryd.prog 65 #[.int .u8 f, .slice (some ⟨g, off, none⟩) n2 cap2, v] w fun e w' => e = .returned (.tuple #[]) ∧ OwnG w' g n (gr p 1 off xs ys xs.length) ∧ w.grownBy w' (some g) := by
  obtain ⟨ao, cp, rfl, hlen, hw, hcell⟩ := hr
  have hp0 := h.pos
  have hp1 := h.top
  have HP := hide (fun W => Prime_yes f p wd W h)
  have HX := hide hx
  have HY := hide hy
  have hyl := own_len hO
  clear h hx hy hw
  go_enter Tryd.func65, Tryd.ntmps65
  go_wp2_with (go_at_call 81; refine (HP.out _).mono ?_; rintro e w1 ⟨rfl, hb⟩)
  have hO1 := own_below hO hb
  have hG1 := grown_below (grown_refl w (some g)) hb
  clear hO hb HP
  go_loopw [17] (fun vk wr => ∃ k : Nat, k ≤ xs.length ∧ vk = .int .i64 k ∧ OwnG wr g n (gr p 1 off xs ys k) ∧ w.grownBy wr (some g)) (fun vk _ => xs.length - (intOf vk).toNat)
  case atStart => exact ⟨0, Nat.zero_le _, rfl, by rw [gr_zero]; exact hO1, hG1⟩
  case round =>
    clear hO1 hG1
    obtain ⟨k, hk, rfl, hO, hG⟩ := hrel
    by_cases hlt : k < xs.length
    · have hxne : xs ≠ [] := by intro h; rw [h] at hlt; simp at hlt
      obtain ⟨b, o, rfl, hbl, hcl⟩ := hcell hxne
      have hne := hfar hxne b o _ _ rfl
      have hck := hG.cell (hcl k hlt) (by intro h; cases h; exact hne rfl)
      have hxe := HX.out.co hp0 k
      have hco : xs.getD k 0 = co xs k := rfl
      rw [hco] at hck
      have HR := hide (fun W (hb : W = wr) => raise_any p (co xs k) (gr p 1 off xs ys k) W g off n n2 cap2 k (by rw [hb]; exact hO) (by omega) (by omega) ((els_gr hp0 HY.out k).co hp0 _) hxe.1 (Int.le_of_lt hxe.2) hp1)
      have hz : (co (gr p 1 off xs ys k) (off + k) + co xs k) % p = (co ys (off + k) + 1 * co xs k) % p := by rw [gr_at, Int.one_mul]
      have HST := hide (gr_step (p := p) (c := 1) (xs := xs) (ys := ys) (off := off) (k := k) (show off + k < ys.length by omega) hz)
      have HA := hide (spoil_step (x := (co (gr p 1 off xs ys k) (off + k) + co xs k) % p) (k := off + k) hO hG (.inl rfl))
      rw [HST.out] at HA
      clear hcl hcell hco hxe HST hz hO hG
      generalize (co (gr p 1 off xs ys k) (off + k) + co xs k) % p = z at *
      generalize co xs k = x at *
      have k0 : (0 : Int) ≤ (k : Int) := Int.natCast_nonneg _
      have k1 : (k : Int) < (xs.length : Int) := by omega
      go_wp2_with (go_at_call 82; refine (HR.out _ rfl).mono ?_; rintro e w2 ⟨rfl, rfl⟩)
      go_roundw
      case rel => exact ⟨k + 1, by omega, by go_num, HA.out.1, HA.out.2⟩
      case measure => simp [intOf]; omega
    · obtain rfl : k = xs.length := by omega
      clear hcell
      go_wp2
      go_end0
      exact ⟨rfl, hO, hG⟩

/-- What one or two lists have for errors. -/
theorem inF_nil {f : Int} {xs : List Int} (h : inF f xs = true) : inF f [] = true := by
  rcases Fi_or f with ⟨p, wd, hf⟩ | ⟨h1, h2⟩
  · rw [inF_yes hf]; rfl
  · rw [inF_no h1 h2] at h; cases h
theorem erN_one (f : Int) (xs : Nat → List Int) : erN f 1 xs = er f (xs 0) [] := by
  unfold erN er erb
  have one : ∀ P : Nat → Prop, (∀ i, i < 1 → P i) ↔ P 0 := fun P => ⟨fun h => h 0 (by decide), fun h i hi => by
    obtain rfl : i = 0 := by omega
    exact h⟩
  simp only [one]
  cases h : inF f (xs 0) with
  | false => simp
  | true =>
    rw [inF_nil h]
    simp
    by_cases hl : (xs 0).length ≤ 4096
    · rw [if_pos hl, if_neg (by omega)]
    · rw [if_neg hl, if_pos (by omega)]
theorem erN_two (f : Int) (xs : Nat → List Int) : erN f 2 xs = er f (xs 0) (xs 1) := by
  unfold erN er erb
  have two : ∀ P : Nat → Prop, (∀ i, i < 2 → P i) ↔ P 0 ∧ P 1 := fun P => ⟨fun h => ⟨h 0 (by decide), h 1 (by decide)⟩, fun h i hi => by
    obtain rfl | rfl : i = 0 ∨ i = 1 := by omega
    · exact h.1
    · exact h.2⟩
  simp only [two]
  cases h0 : inF f (xs 0) <;> cases h1 : inF f (xs 1) <;> simp
  by_cases h2 : 4096 < (xs 0).length
  · rw [if_neg (by omega), if_pos (by omega)]
  · by_cases h3 : 4096 < (xs 1).length
    · rw [if_neg (by omega), if_pos (by omega)]
    · rw [if_pos (by omega), if_neg (by omega)]

theorem fcheck_one (f : Int) (v : Value) (xs : List Int) (w : World) (h : Rw w v xs) (T : TypeId) :
    Calls Tryd.prog 42 #[.int .u8 f, .slice (some ⟨w.heap.size, 0, none⟩) 1 1] (w.alloc (.cells #[v] T)) fun e w' => e = .returned (.int .i64 (er f xs [])) ∧ Below w.heap.size w w' := by
  have ha := alloc_below w (.cells #[v] T)
  have := fcheck_any f 1 (fun _ => v) (fun _ => xs) (w.alloc (.cells #[v] T)) w.heap.size (by decide) (fun _ _ => h.below ha) (fun i hi => by
    have : i = 0 := by omega
    subst this; simp [go_sem]) (by simp)
  rw [erN_one] at this
  exact this.mono fun e w' ⟨he, hb⟩ => ⟨he, below_one hb⟩
theorem two_cells (w : World) (v1 v2 : Value) (T : TypeId) : ∀ i, i < 2 → (w.alloc (.cells #[v1, v2] T)).cell? ⟨w.heap.size, i, none⟩ = some (if i = 0 then v1 else v2) := by
  intro i hi
  obtain rfl | rfl : i = 0 ∨ i = 1 := by omega
  · simp [go_sem]
  · simp [go_sem]
theorem fcheck_two (f : Int) (v1 v2 : Value) (xs ys : List Int) (w : World) (h1 : Rw w v1 xs) (h2 : Rw w v2 ys) (T : TypeId) :
    Calls Tryd.prog 42 #[.int .u8 f, .slice (some ⟨w.heap.size, 0, none⟩) 2 2] (w.alloc (.cells #[v1, v2] T)) fun e w' => e = .returned (.int .i64 (er f xs ys)) ∧ Below w.heap.size w w' := by
  have ha := alloc_below w (.cells #[v1, v2] T)
  have := fcheck_any f 2 (fun i => if i = 0 then v1 else v2) (fun i => if i = 0 then xs else ys) (w.alloc (.cells #[v1, v2] T)) w.heap.size (by decide) (fun i hi => by
    obtain rfl | rfl : i = 0 ∨ i = 1 := by omega
    · exact h1.below ha
    · exact h2.below ha) (two_cells w v1 v2 T) (by simp)
  rw [erN_two] at this
  exact this.mono fun e w' ⟨he, hb⟩ => ⟨he, below_one hb⟩

end Go.Proofs.YtcjgjgkoeokooaaDoor
