/-
  Layer 7: the program's Weights, Basis, Through, Value, Change, Fits.
-/
import Derived.Test.YtdonfilofdfpbabBIntG
namespace Go.Proofs.Ytdonfilofdfpbab
open Go.RowKit Fld
set_option linter.unusedVariables false

def wtsL (f : Int) (xs : List Int) : List Int := if bad f xs [] xs.length = 0 then wts (pOf f) xs else []
def basL (f : Int) (xs : List Int) (x : Int) : List Int := if bad f xs [x] xs.length = 0 then bsl (pOf f) xs x else []
def thrL (f : Int) (xs ys : List Int) : List Int := if bad f xs ys ys.length = 0 then tp (pOf f) xs ys xs.length else []
def vluE (f : Int) (xs ys : List Int) (x : Int) : Int := if inF f [x] = true then bad f xs ys ys.length else 2
def vluV (f : Int) (xs ys : List Int) (x : Int) : Int := if vluE f xs ys x = 0 then ds (pOf f) (bs (pOf f) xs x) (co ys) xs.length else 0
def chgL (f : Int) (xs zs : List Int) : List (List Int) := if bac f xs zs = 0 then zs.map (fun z => bsl (pOf f) xs z) else []
def fitE (f : Int) (xs ys : List Int) (d : Int) : Int := if d < -1 then 2 else bad f xs ys ys.length
def fitB (f : Int) (xs ys : List Int) (d : Int) : Bool := decide (fitE f xs ys d = 0) && decide (((thrL f xs ys).length : Int) - 1 ≤ d)

set_option maxHeartbeats 200000 in
theorem iWeights (f : Int) (v : Value) (xs : List Int) (w : World) (h1 : Rw w v xs) : Gives 6 #[.int .u8 f, v] w (wtsL f xs) (bad f xs [] xs.length) := by
  have HP := hide (ipPlaces f v _ xs [] w h1 (.inl ⟨rfl, rfl⟩))
  rw [chl_one] at HP
  by_cases hz : bad f xs [] xs.length = 0
  · obtain ⟨p, wd, h, i1, _, _, hl, hn⟩ := bad_zero hz
    have HL : Hid (wtsL f xs = wts p xs) := by show _ = _; unfold wtsL; rw [if_pos hz, pOf_eq h]
    have HW := hide (fun W (hb : Below w.heap.size w W) => ipWeigh f p wd v xs W h (h1.below hb) (els_of i1 h1.words) hn hl)
    have HN := hide (wts_len p xs)
    rw [HL.out, hz]
    rw [hz] at HP
    obtain ⟨a1, c1, rfl, _⟩ := h1.spell
    clear h1 h i1 hl hn hz HL
    show Calls _ _ _ _ _
    rw [HN.out]
    generalize wts p xs = ww at *
    generalize xs.length = n at *
    go_enter Try.func6, Try.ntmps6
    go_wp2_with (first
      | (go_at_call 20; refine HP.out.mono ?_; rintro e w1 ⟨rfl, hb1⟩)
      | (go_at_call 15; refine (HW.out _ hb1).mono ?_; rintro e w2 ⟨v2, rfl, hO2, hb2⟩))
    go_ret2
    exact ⟨_, rfl, own_mono hO2 hb1.size, Below.next hb1 hb2⟩
  · have ht : (bad f xs [] xs.length != 0) = true := bne_iff_ne.2 hz
    have HL : Hid (wtsL f xs = []) := by show _ = _; unfold wtsL; rw [if_neg hz]
    rw [HL.out]
    obtain ⟨a1, c1, rfl, _⟩ := h1.spell
    clear h1 hz HL
    generalize bad f xs [] xs.length = e0 at *
    generalize xs.length = n at *
    apply Gives.none
    go_enter Try.func6, Try.ntmps6
    go_wp2_with (go_at_call 20; refine HP.out.mono ?_; rintro e w1 ⟨rfl, hb1⟩)
    go_ret2
    exact ⟨rfl, hb1⟩

theorem bes_x (w : World) (x : Int) (hx : 0 ≤ x ∧ x ≤ 18446744073709551615) (T T2 : TypeId) : Bes ((w.alloc (.cells #[.int .u64 x] T)).alloc (.cells #[.slice (some ⟨w.heap.size, 0, none⟩) 1 1] T2)) (.slice (some ⟨w.heap.size + 1, 0, none⟩) 1 1) [[x]] := by
  have e : (w.alloc (.cells #[.int .u64 x] T)).heap.size = w.heap.size + 1 := by simp
  refine .inr ⟨w.heap.size + 1, _, [x], rfl, rfl, ?_, by simp, (rw1 w x hx T).below (alloc_below _ _)⟩
  rw [← e]; simp [go_sem]
theorem bes_zs (w : World) (v : Value) (zs : List Int) (h : Rw w v zs) (T : TypeId) : Bes (w.alloc (.cells #[v] T)) (.slice (some ⟨w.heap.size, 0, none⟩) 1 1) [zs] :=
  .inr ⟨w.heap.size, v, zs, rfl, rfl, by simp [go_sem], by simp, h.below (alloc_below _ _)⟩

set_option maxHeartbeats 200000 in
theorem iBasis (f x : Int) (v : Value) (xs : List Int) (w : World) (hx : 0 ≤ x ∧ x ≤ 18446744073709551615) (h1 : Rw w v xs) : Gives 7 #[.int .u8 f, v, .int .u64 x] w (basL f xs x) (bad f xs [x] xs.length) := by
  have a2 := hide (fun T T2 => Below.next (alloc_below w (.cells #[.int .u64 x] T)) (alloc_below (w.alloc (.cells #[.int .u64 x] T)) (.cells #[.slice (some ⟨w.heap.size, 0, none⟩) 1 1] T2)))
  have HP := hide (fun T T2 => ipPlaces f v _ xs [[x]] _ (h1.below (a2.out T T2)) (bes_x w x hx T T2))
  rw [chl_two] at HP
  by_cases hz : bad f xs [x] xs.length = 0
  · obtain ⟨p, wd, h, i1, i2, _, hl, hn⟩ := bad_zero hz
    have hxe : El p x := els_of i2 (by simp [hx]) x (List.mem_singleton.2 rfl)
    have HL : Hid (basL f xs x = bsl p xs x) := by show _ = _; unfold basL; rw [if_pos hz, pOf_eq h]
    have HB := hide (fun W (hb : Below w.heap.size w W) => ipBasis f p wd v xs W h (h1.below hb) (els_of i1 h1.words) hn hl)
    have HR := hide (fun W bf bx bw (hB : Bas W f p xs bf bx bw) => ipRow f p x wd xs bf bx bw W h hxe (els_of i1 h1.words) hl hB)
    have HN := hide (bsl_len p xs x)
    rw [HL.out, hz]
    rw [hz] at HP
    obtain ⟨a1, c1, rfl, _⟩ := h1.spell
    clear h1 h i1 i2 hl hn hz HL hxe
    show Calls _ _ _ _ _
    rw [HN.out]
    generalize bsl p xs x = ww at *
    go_enter Try.func7, Try.ntmps7
    go_wp2_with (first
      | (go_at_call 20; refine (HP.out _ _).mono ?_; rintro e w1 ⟨rfl, hb1⟩; have hB1 := Below.next (a2.out _ _) hb1)
      | (go_at_call 21; refine (HB.out _ hB1).mono ?_; rintro e w2 ⟨bf, bx, bw, rfl, hBa, hb2⟩; have hB2 := Below.next hB1 hb2)
      | (go_at_call 42; refine (HR.out _ _ _ _ hBa).mono ?_; rintro e w3 ⟨v3, rfl, hO3, hb3⟩))
    go_ret2
    exact ⟨_, rfl, own_mono hO3 hB2.size, Below.next hB2 hb3⟩
  · have ht : (bad f xs [x] xs.length != 0) = true := bne_iff_ne.2 hz
    have HL : Hid (basL f xs x = []) := by show _ = _; unfold basL; rw [if_neg hz]
    rw [HL.out]
    obtain ⟨a1, c1, rfl, _⟩ := h1.spell
    clear h1 hz HL
    generalize bad f xs [x] xs.length = e0 at *
    generalize xs.length = n at *
    apply Gives.none
    go_enter Try.func7, Try.ntmps7
    go_wp2_with (go_at_call 20; refine (HP.out _ _).mono ?_; rintro e w1 ⟨rfl, hb1⟩; have hB1 := Below.next (a2.out _ _) hb1)
    go_ret2
    exact ⟨rfl, hB1⟩

/-- One value and its factor more. -/
theorem val_add {f p s y b : Int} {wd : Bool} (h : Fi f p wd) (hs : El p s) (hy : El p y) (hb : El p b) : er f [s, y] [b] = 0 ∧ valE f b [s, y] = add p s (mul p b y) := by
  have hp := h.pos
  have he : er f [s, y] [b] = 0 := er_yes h (allIn_of (fun x hx => by
    have : x = s ∨ x = y := by simpa using hx
    rcases this with rfl | rfl
    · exact hs
    · exact hy)) (allIn_of (fun x hx => by rw [List.mem_singleton.1 hx]; exact hb)) (by simp) (by simp)
  refine ⟨he, ?_⟩
  unfold valE
  rw [if_pos he, pOf_eq h]
  show (s + b * (y + b * 0)) % p = (s + b * y % p) % p
  rw [Int.mul_zero, Int.add_zero, Int.add_emod s (b * y % p), Int.emod_emod_of_dvd _ (Int.dvd_refl p), ← Int.add_emod]
theorem eval_add (w : World) (T : TypeId) {f p s y b : Int} {wd : Bool} (h : Fi f p wd) (hs : El p s) (hy : El p y) (hb : El p b) :
    Calls Try.prog 40 #[.int .u8 f, .slice (some ⟨w.heap.size, 0, none⟩) 2 2, .int .u64 b] (w.alloc (.cells #[.int .u64 s, .int .u64 y] T)) fun e w' => e = .returned (.tuple #[.int .u64 (add p s (mul p b y)), .int .i64 0]) ∧ Below w.heap.size w w' := by
  have := pEval_any f b _ [s, y] _ (elWord hb h.top) (rwT w s y (elWord hs h.top) (elWord hy h.top) T)
  rw [(val_add h hs hy hb).1, (val_add h hs hy hb).2] at this
  exact this.mono fun e w' ⟨he, hb⟩ => ⟨he, below_one hb⟩

end Go.Proofs.Ytdonfilofdfpbab
