/-
  Layer 7: the program's Weights, Basis, Through, Value, Change, Fits.
-/
import Derived.Test.YtifilgmjpflekaaBIntG
namespace Go.Proofs.Ytifilgmjpflekaa
open Go.RowKit Fld
set_option linter.unusedVariables false

def wtsL (f : Int) (xs : List Int) : List Int := if bad f xs [] xs.length = 0 then wts (pOf f) xs else []
def basL (f : Int) (xs : List Int) (x : Int) : List Int := if bad f xs [x] xs.length = 0 then bsl (pOf f) xs x else []
def thrL (f : Int) (xs ys : List Int) : List Int := if bad f xs ys ys.length = 0 then tp (pOf f) xs ys xs.length else []
def vluE (f : Int) (xs ys : List Int) (x : Int) : Int := if inF f [x] = true then bad f xs ys ys.length else 2
def vluV (f : Int) (xs ys : List Int) (x : Int) : Int := if vluE f xs ys x = 0 then ds (pOf f) (bs (pOf f) xs x) (co ys) xs.length else 0
def chgL (f : Int) (xs zs : List Int) : List (List Int) := if bac f xs zs = 0 then zs.map (fun z => bsl (pOf f) xs z) else []
def fitE (f : Int) (xs ys : List Int) (d : Int) : Int := if d < -1 then 2 else bad f xs ys ys.length
def fitB (f : Int) (xs ys : List Int) (d : Int) : Bool := decide (fitE f xs ys d = 0) && decide (((thrL f xs ys).length : Int) - 1 ≤ d)

theorem bes_x (w : World) (x : Int) (hx : 0 ≤ x ∧ x ≤ 18446744073709551615) (T T2 : TypeId) : Bes ((w.alloc (.cells #[.int .u64 x] T)).alloc (.cells #[.slice (some ⟨w.heap.size, 0, none⟩) 1 1] T2)) (.slice (some ⟨w.heap.size + 1, 0, none⟩) 1 1) [[x]] := by
  have e : (w.alloc (.cells #[.int .u64 x] T)).heap.size = w.heap.size + 1 := by simp
  refine .inr ⟨w.heap.size + 1, _, [x], rfl, rfl, ?_, by simp, (rw1 w x hx T).below (alloc_below _ _)⟩
  rw [← e]; simp [go_sem]
theorem bes_zs (w : World) (v : Value) (zs : List Int) (h : Rw w v zs) (T : TypeId) : Bes (w.alloc (.cells #[v] T)) (.slice (some ⟨w.heap.size, 0, none⟩) 1 1) [zs] :=
  .inr ⟨w.heap.size, v, zs, rfl, rfl, by simp [go_sem], by simp, h.below (alloc_below _ _)⟩

/-- One value and its factor more. -/
theorem val_add {f p s y b : Int} {wd : Bool} (h : Fi f p wd) (hs : El p s) (hy : El p y) (hb : El p b) : er f [s, y] [b] = 0 ∧ valE f b [s, y] = add p s (mul p b y) := by
  have hp := h.pos
  have he : er f [s, y] [b] = 0 := er_yes h (allIn_of (fun x hx => by
    have : x = s ∨ x = y := by simpa using hx
    rcases this with rfl | rfl
    · exact hs
    · exact hy)) (allIn_of (fun x hx => by rw [List.mem_singleton.1 hx]; exact hb)) (by simp) (by simp)
  refine ⟨he, ?_⟩
  unfold valE
  rw [if_pos he, pOf_eq h]
  show (s + b * (y + b * 0)) % p = (s + b * y % p) % p
  rw [Int.mul_zero, Int.add_zero, Int.add_emod s (b * y % p), Int.emod_emod_of_dvd _ (Int.dvd_refl p), ← Int.add_emod]
theorem eval_add (w : World) (T : TypeId) {f p s y b : Int} {wd : Bool} (h : Fi f p wd) (hs : El p s) (hy : El p y) (hb : El p b) :
    Calls Try.prog 53 #[.int .u8 f, .slice (some ⟨w.heap.size, 0, none⟩) 2 2, .int .u64 b] (w.alloc (.cells #[.int .u64 s, .int .u64 y] T)) fun e w' => e = .returned (.tuple #[.int .u64 (add p s (mul p b y)), .int .i64 0]) ∧ Below w.heap.size w w' := by
  have := pEval_any f b _ [s, y] _ (elWord hb h.top) (rwT w s y (elWord hs h.top) (elWord hy h.top) T)
  rw [(val_add h hs hy hb).1, (val_add h hs hy hb).2] at this
  exact this.mono fun e w' ⟨he, hb⟩ => ⟨he, below_one hb⟩

set_option maxRecDepth 100000 in
set_option maxHeartbeats 400000 in
theorem iValue (f x : Int) (v1 v2 : Value) (xs ys : List Int) (w : World) (hx : 0 ≤ x ∧ x ≤ 18446744073709551615) (h1 : Rw w v1 xs) (h2 : Rw w v2 ys) :
    Calls Try.prog 43 #[.int .u8 f, v1, v2, .int .u64 x] w fun e w' => e = .returned (.tuple #[.int .u64 (vluV f xs ys x), .int .i64 (vluE f xs ys x)]) ∧ Below w.heap.size w w' := by
  have a2 := hide (fun T T2 => Below.next (alloc_below w (.cells #[.int .u64 x] T)) (alloc_below (w.alloc (.cells #[.int .u64 x] T)) (.cells #[.slice (some ⟨w.heap.size, 0, none⟩) 1 1] T2)))
  have HEl : Hid (∀ T T2, Calls Try.prog 51 #[.int .u8 f, .slice (some ⟨w.heap.size + 1, 0, none⟩) 1 1] ((w.alloc (.cells #[.int .u64 x] T)).alloc (.cells #[.slice (some ⟨w.heap.size, 0, none⟩) 1 1] T2)) fun e w' => e = .returned (.bool (inF f [x])) ∧ Below w.heap.size w w') := fun T T2 => by
    have e : (w.alloc (.cells #[.int .u64 x] T)).heap.size = w.heap.size + 1 := by simp
    have := ipElements f _ [[x]] _ (rws_one (w.alloc (.cells #[.int .u64 x] T)) _ [x] (rw1 w x hx T) T2)
    rw [e] at this
    refine this.mono fun e' w' ⟨he, hb⟩ => ⟨?_, Below.next (a2.out T T2) hb⟩
    rw [he]; simp
  have HV := hide (fun W (hb : Below w.heap.size w W) => ipValues f v1 v2 xs ys W (h1.below hb) (h2.below hb))
  cases hi : inF f [x] with
  | false =>
    have HE : Hid (vluE f xs ys x = 2) := by show _ = _; unfold vluE; rw [hi]; rfl
    have HW : Hid (vluV f xs ys x = 0) := by show _ = _; unfold vluV; rw [HE.out]; rfl
    rw [HE.out, HW.out]
    rw [hi] at HEl
    obtain ⟨a1, c1, rfl, _⟩ := h1.spell
    obtain ⟨a3, c3, rfl, _⟩ := h2.spell
    clear h1 h2 hi HE HW HV
    generalize xs.length = n1 at *
    generalize ys.length = n2 at *
    go_enter Try.func43, Try.ntmps43
    go_wp2_with (go_at_call 51; refine (HEl.out _ _).mono ?_; rintro e w1 ⟨rfl, hb1⟩)
    go_ret2
    exact ⟨rfl, hb1⟩
  | true =>
    have HE : Hid (vluE f xs ys x = bad f xs ys ys.length) := by show _ = _; unfold vluE; rw [hi]; rfl
    rw [hi] at HEl
    by_cases hz : bad f xs ys ys.length = 0
    · obtain ⟨p, wd, h, i1, i2, hlen, hl, hn⟩ := bad_zero hz
      have hxe : El p x := by rw [inF_yes h] at hi; exact els_of hi (by simp [hx]) x (List.mem_singleton.2 rfl)
      have hex := els_of i1 h1.words
      have hey := els_of i2 h2.words
      have hp0 := h.pos
      have HW : Hid (vluV f xs ys x = ds p (bs p xs x) (co ys) xs.length) := by show _ = _; unfold vluV; rw [HE.out, if_pos hz, pOf_eq h]
      have HB := hide (fun W (hb : Below w.heap.size w W) => ipBasis f p wd v1 xs W h (h1.below hb) hex hn hl)
      have HR := hide (fun W bf bx bw (hB : Bas W f p xs bf bx bw) => ipRow f p x wd xs bf bx bw W h hxe hex hl hB)
      have HA := hide (fun W T s y b (hs : El p s) (hy : El p y) (hb : El p b) => eval_add W T h hs hy hb)
      have HSt : Hid (∀ k, ds p (bs p xs x) (co ys) (k + 1) = add p (ds p (bs p xs x) (co ys) k) (mul p (bs p xs x k) (co ys k))) := fun k => rfl
      have HDe := hide (fun k => ds_el hp0 (bs p xs x) (co ys) k)
      have HBe := hide (fun k => bs_el hp0 xs x k)
      have HYe := hide (fun k => hey.co hp0 k)
      have HBa := hide (fun k (hk : k < xs.length) => bsl_at (p := p) (x := x) hk)
      have HBl := hide (bsl_len p xs x)
      rw [HE.out, HW.out, hz]
      rw [hz] at HV
      obtain ⟨a1, c1, rfl, _⟩ := h1.spell
      obtain ⟨⟨ao, cap, rfl, _, _, hc⟩, _⟩ := h2
      obtain ⟨n, HN⟩ : ∃ n, Hid (xs.length = n) := ⟨_, rfl⟩
      have HNy : Hid (ys.length = n) := by rw [← HN.out]; exact hlen.symm
      rw [HNy.out] at HV hc ⊢
      rw [HN.out] at HV HB HR HBa hl ⊢
      have HC : Hid (∀ W, Below w.heap.size w W → ∀ j, j < n → ∃ b off, ao = some ⟨b, off, none⟩ ∧ W.cell? ⟨b, off + j, none⟩ = some (.int .u64 (ys.getD j 0))) := fun W hb j hj => by
        obtain ⟨b, off, e, h3, h4⟩ := hc (by intro e; have := HNy.out; rw [e] at this; simp at this; omega)
        exact ⟨b, off, e, (hb.cell (p := ⟨b, off + j, none⟩) h3).trans (h4 j hj)⟩
      clear h1 h i1 i2 hlen hn hz hi hxe hex hey HW HE hc
      go_enter Try.func43, Try.ntmps43
      go_wp2_with (first
        | (go_at_call 51; refine (HEl.out _ _).mono ?_; rintro e w1 ⟨rfl, hb1⟩)
        | (go_at_call 52; refine (HV.out _ hb1).mono ?_; rintro e w2 ⟨rfl, hb2⟩; have hB2 := Below.next hb1 hb2)
        | (go_at_call 45; refine (HB.out _ hB2).mono ?_; rintro e w3 ⟨bf, bx, bw, rfl, hBa, hb3⟩; have hB3 := Below.next hB2 hb3)
        | (go_at_call 56; refine (HR.out _ _ _ _ hBa).mono ?_; rintro e w4 ⟨v4, rfl, hO4, hb4⟩; have hB4 := Below.next hB3 hb4; obtain ⟨a4, k4, rfl⟩ := own_form hO4; have HO4 := hide hO4; clear hO4))
      clear HEl HV HB HR a2
      go_loopw [11, 33] (fun vs vi wr => ∃ k : Nat, k ≤ n ∧ vi = .int .i64 k ∧ vs = .int .u64 (ds p (bs p xs x) (co ys) k) ∧ Below w4.heap.size w4 wr) (fun _ vi _ => n - (intOf vi).toNat)
      case atStart => exact ⟨0, Nat.zero_le _, rfl, rfl, Below.refl _ _⟩
      case round =>
        obtain ⟨k, hk, rfl, rfl, hb⟩ := hrel
        have hB := Below.next hB4 hb
        by_cases hlt : k < n
        · obtain ⟨b, off, rfl, hcy⟩ := HC.out wr hB k hlt
          obtain ⟨g, cg, hvg, _, _⟩ := HO4.out.form (by omega)
          injection hvg with hvg _ hcg
          subst hvg hcg
          have hcb : wr.cell? ⟨g, k, none⟩ = some (.int .u64 (bs p xs x k)) := by
            rw [← HBa.out k hlt]
            exact own_cell (own_below HO4.out hb) (by rw [HBl.out, HN.out]) hlt
          have hye : El p (ys.getD k 0) := HYe.out k
          have hA := hide (fun T => HA.out wr T _ _ _ (HDe.out k) hye (HBe.out k))
          have HS2 : Hid (add p (ds p (bs p xs x) (co ys) k) (mul p (bs p xs x k) (ys.getD k 0)) = ds p (bs p xs x) (co ys) (k + 1)) := rfl
          rw [HS2.out] at hA
          obtain ⟨d2, HD2⟩ : ∃ d2, Hid (ds p (bs p xs x) (co ys) (k + 1) = d2) := ⟨_, rfl⟩
          rw [HD2.out] at hA
          clear HS2 hye HSt HDe HBe HYe HBa HC
          generalize ds p (bs p xs x) (co ys) k = d1 at *
          generalize bs p xs x k = bk at *
          generalize ys.getD k 0 = yk at *
          go_wp2_with (go_at_call 53; refine (hA.out _).mono ?_; rintro e w5 ⟨rfl, hb5⟩)
          have hB5 := Below.next hb hb5
          go_roundw
          case rel => exact ⟨k + 1, by omega, by go_num, by rw [HD2.out], hB5⟩
          case measure => simp [intOf]; omega
        · obtain rfl : k = n := by omega
          clear HSt HDe HBe HYe HBa HC
          go_wp2
          go_ret2
          exact ⟨rfl, hB⟩
    · have ht : (bad f xs ys ys.length != 0) = true := bne_iff_ne.2 hz
      have HW : Hid (vluV f xs ys x = 0) := by show _ = _; unfold vluV; rw [HE.out, if_neg hz]
      rw [HW.out, HE.out]
      obtain ⟨a1, c1, rfl, _⟩ := h1.spell
      obtain ⟨a3, c3, rfl, _⟩ := h2.spell
      clear h1 h2 hi HE HW hz
      generalize bad f xs ys ys.length = e0 at *
      generalize xs.length = n1 at *
      generalize ys.length = n2 at *
      go_enter Try.func43, Try.ntmps43
      go_wp2_with (first
        | (go_at_call 51; refine (HEl.out _ _).mono ?_; rintro e w1 ⟨rfl, hb1⟩)
        | (go_at_call 52; refine (HV.out _ hb1).mono ?_; rintro e w2 ⟨rfl, hb2⟩))
      go_ret2
      exact ⟨rfl, Below.next hb1 hb2⟩

end Go.Proofs.Ytifilgmjpflekaa
