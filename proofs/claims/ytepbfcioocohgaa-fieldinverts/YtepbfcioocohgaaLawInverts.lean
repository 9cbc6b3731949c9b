/-
  FieldInverts' walk.
-/
import Derived.Test.YtepbfcioocohgaaLawLists
namespace Go.Proofs.Ytepbfcioocohgaa
open Go.RowKit Fld
set_option linter.unusedVariables false

/-- Whether one of the first k is 0. -/
def anyZ (xs : List Int) (k : Nat) : Bool := (xs.take k).any fun x => x == 0

theorem anyZ_succ (xs : List Int) (k : Nat) (h : k < xs.length) : anyZ xs (k + 1) = (anyZ xs k || (xs.getD k 0 == 0)) := by
  unfold anyZ
  rw [List.take_succ_eq_append_getElem h, List.any_append, getD_at h]; simp
theorem anyZ_true {xs : List Int} (h : ∃ i, i < xs.length ∧ xs.getD i 0 = 0) : anyZ xs xs.length = true := by
  obtain ⟨i, hi, h0⟩ := h
  unfold anyZ
  rw [List.take_length, List.any_eq_true]
  rw [getD_at hi] at h0
  exact ⟨xs[i], List.getElem_mem hi, by simpa using h0⟩
theorem anyZ_false {xs : List Int} (h : ∀ i, i < xs.length → xs.getD i 0 ≠ 0) : anyZ xs xs.length = false := by
  unfold anyZ
  rw [List.take_length, List.any_eq_false]
  intro x hx
  obtain ⟨i, hi, rfl⟩ := List.getElem_of_mem hx
  have := h i hi
  rw [getD_at hi] at this
  simpa using this

set_option maxRecDepth 100000 in
set_option maxHeartbeats 400000 in
theorem inverts_any (f : Int) (v : Value) (ls : List Int) (w : World) (hf : 0 ≤ f ∧ f ≤ 255) (hr : Row w v ls) :
    Calls Try.prog 7 #[.int .u8 f, v] w fun e w' => e = .returned (.bool true) ∧ Below w.heap.size w w' := by
  obtain ⟨g, p, wd, hg, hfi⟩ := Gi_fi f hf.1
  have hp0 := hfi.pos
  have hp1 := hfi.top
  have hE := hide (elements_row f g p wd v ls w hf hg hfi hr)
  have hA := anchored_any
  have hel : ∀ i, i < (ls.map (· % p)).length → El p ((ls.map (· % p)).getD i 0) := fun i hi => by
    rw [map_getD _ _ _ (by simpa using hi)]; exact mod_el hp0 _
  have hin : allIn p (ls.map (· % p)) = true := allIn_true fun i hi => (hel i hi).2
  have hwd := mod_words hp0 hp1 ls
  clear hg hf hr
  generalize ls.map (· % p) = X at *
  have hBt := hide (fun W v h => Batch_in g p wd v X W hfi h hin)
  have HEL := hide hel
  clear hin hel
  go_enter Try.func7, Try.ntmps7
  go_wp2_with fail
  refine hE.out.mono ?_
  rintro e w1 ⟨vx, rfl, rx, hbx, hb⟩
  have hB := hb
  have RX := hide rx
  go_wp2_with fail
  refine (hBt.out _ _ RX.out).mono ?_
  obtain ⟨ax, cx, rfl, hlen, _, hcx⟩ := rx
  rintro e w2 (⟨hz, rfl, hb2⟩ | ⟨hnz, vi, rfl, hown, hb2⟩)
  · have HZ := hide (anyZ_true hz)
    have hB := Below.next hB hb2
    clear hz hbx
    go_wp2_with fail
    go_loop [9, 10] (fun vz vi => ∃ k : Nat, k ≤ X.length ∧ vi = .int .i64 k ∧ vz = .bool (anyZ X k)) (fun _ vi => X.length - (intOf vi).toNat)
    case atStart => exact ⟨0, Nat.zero_le _, rfl, rfl⟩
    case round =>
      obtain ⟨k, hk, rfl, rfl⟩ := hrel
      by_cases hlt : k < X.length
      · obtain ⟨b, off, rfl, hbl, hcell⟩ := hcx (by intro h; rw [h] at hlt; simp at hlt)
        have hck := (hb2.cell (p := ⟨b, off + k, none⟩) hbl).trans (hcell k hlt)
        have HS := hide (anyZ_succ X k hlt)
        generalize X.getD k 0 = x at *
        clear hcell hcx
        cases hbz : anyZ X k
        · rw [hbz] at HS
          clear hbz
          go_wp2
          go_round
          case rel => exact ⟨k + 1, by omega, by go_num, by rw [HS.out, Bool.false_or]⟩
          case measure => simp [intOf]; omega
        · rw [hbz] at HS
          clear hbz
          go_wp2
          go_round
          case rel => exact ⟨k + 1, by omega, by go_num, by rw [HS.out, Bool.true_or]⟩
          case measure => simp [intOf]; omega
      · have hkl : k = X.length := by omega
        subst hkl
        rw [HZ.out]
        clear hcx
        go_wp2_with (go_at_call 24; refine (hA _).mono ?_; rintro e w3 ⟨rfl, hb⟩; have hB := Below.next hB hb)
        go_ret
        exact ⟨rfl, hB⟩
  · have HZ := hide (anyZ_false hnz)
    have ri := row_of_own hown (by simp) (by simpa using hlen) (inv_words hp0 hp1 X)
    obtain ⟨ai, ci, hvi, _, _, hci⟩ := ri
    rw [hvi]
    rw [List.length_map] at hci ⊢
    have HN := hide hnz
    clear hnz hown hvi
    have hB := Below.next hB hb2
    clear hbx
    go_wp2_with fail
    go_loop [9, 10] (fun vz vi => ∃ k : Nat, k ≤ X.length ∧ vi = .int .i64 k ∧ vz = .bool (anyZ X k)) (fun _ vi => X.length - (intOf vi).toNat)
    case atStart => exact ⟨0, Nat.zero_le _, rfl, rfl⟩
    case round =>
      obtain ⟨k, hk, rfl, rfl⟩ := hrel
      by_cases hlt : k < X.length
      · obtain ⟨b, off, rfl, hbl, hcell⟩ := hcx (by intro h; rw [h] at hlt; simp at hlt)
        have hck := (hb2.cell (p := ⟨b, off + k, none⟩) hbl).trans (hcell k hlt)
        have HS := hide (anyZ_succ X k hlt)
        generalize X.getD k 0 = x at *
        clear hcell hcx
        cases hbz : anyZ X k
        · rw [hbz] at HS
          clear hbz
          go_wp2
          go_round
          case rel => exact ⟨k + 1, by omega, by go_num, by rw [HS.out, Bool.false_or]⟩
          case measure => simp [intOf]; omega
        · rw [hbz] at HS
          clear hbz
          go_wp2
          go_round
          case rel => exact ⟨k + 1, by omega, by go_num, by rw [HS.out, Bool.true_or]⟩
          case measure => simp [intOf]; omega
      · have hkl : k = X.length := by omega
        subst hkl
        rw [HZ.out]
        have HCI := hide hci
        have HCX := hide hcx
        clear hci hcx
        go_wp2_with fail
        go_loopw [11] (fun vi wr => ∃ k : Nat, k ≤ X.length ∧ vi = .int .i64 k ∧ Below w2.heap.size w2 wr) (fun vi _ => X.length - (intOf vi).toNat)
        case atStart => exact ⟨0, Nat.zero_le _, rfl, Below.refl _ _⟩
        case round =>
          obtain ⟨k, hk, rfl, hW⟩ := hrel
          by_cases hlt : k < X.length
          · obtain ⟨b, off, rfl, hbl, hcell⟩ := HCX.out (by intro h; rw [h] at hlt; simp at hlt)
            obtain ⟨b2, off2, rfl, hbl2, hcell2⟩ := HCI.out (by intro h; have := List.map_eq_nil_iff.1 h; rw [this] at hlt; simp at hlt)
            have hbl' : b < w2.heap.size := Nat.lt_of_lt_of_le hbl hb2.size
            have dx := (hW.cell (p := ⟨b, off + k, none⟩) hbl').trans ((hb2.cell (p := ⟨b, off + k, none⟩) hbl).trans (hcell k hlt))
            have d0 := (hW.cell (p := ⟨b, off + 0, none⟩) hbl').trans ((hb2.cell (p := ⟨b, off + 0, none⟩) hbl).trans (hcell 0 (by omega)))
            have di := (hW.cell (p := ⟨b2, off2 + k, none⟩) hbl2).trans (hcell2 k (by simpa using hlt))
            rw [map_getD _ _ _ hlt] at di
            rw [Nat.add_zero] at d0
            have ex := HEL.out k hlt
            have e0 := HEL.out 0 (by omega)
            have hxn := HN.out k hlt
            clear hcell hcell2
            generalize X.getD k 0 = x at *
            generalize X.getD 0 0 = x0 at *
            have ei := inv_el (p := p) (a := x) hp0
            have hpos : 0 < x := by have := ex.1; omega
            have t1 : mul p x (inv p x) = 1 := mul_inv hfi.md x ex hxn
            have eq' := mul_el (a := x0) (b := inv p x) hp0
            have t2 : mul p (mul p x0 (inv p x)) x = x0 := quot_back hfi.md x0 x e0 ex hxn
            have C1 := hide (fun W => Mul_yes g p x (inv p x) wd W hfi ex ei)
            have C2 := hide (fun W => Div_yes g p x0 x wd W hfi e0 ex hpos)
            have C3 := hide (fun W => Mul_yes g p (mul p x0 (inv p x)) x wd W hfi eq' ex)
            rw [t1] at C1
            rw [t2] at C3
            clear t1 t2 ex e0 ei eq' hxn hpos
            generalize inv p x = y at *
            generalize mul p x0 y = q at *
            have k0 : (0 : Int) ≤ (k : Int) := Int.natCast_nonneg _
            have k1 : (k : Int) < (X.length : Int) := by omega
            have k2 : (0 : Int) < (X.length : Int) := by omega
            have k3 : 0 < X.length := by omega
            have k4 : ¬ X = [] := by intro h; rw [h] at k3; simp at k3
            have hS0 := And.intro dx (And.intro d0 di)
            go_wp2_with fail
            go_region_held3 (fun w' => w'.cell? ⟨b, off + k, none⟩ = some (.int .u64 x) ∧ w'.cell? ⟨b, off, none⟩ = some (.int .u64 x0) ∧ w'.cell? ⟨b2, off2 + k, none⟩ = some (.int .u64 y))
              (first | exact hS0 | exact hS)
              (first | (go_at_call 15; refine (C1.out _).mono ?_; rintro e w3 ⟨rfl, hb3⟩; have hS := keep3 hb3 hS0))
            have hW3 := Below.next hW.drew hb3
            clear hb3 hS0 dx d0 di
            have hS0 := hS
            clear hS
            go_wp2_with fail
            go_region_held3 (fun w' => w'.cell? ⟨b, off + k, none⟩ = some (.int .u64 x) ∧ w'.cell? ⟨b, off, none⟩ = some (.int .u64 x0) ∧ w'.cell? ⟨b2, off2 + k, none⟩ = some (.int .u64 y))
              (first | exact hS0 | exact hS)
              (first | (go_at_call 23; refine (C2.out _).mono ?_; rintro e w4 ⟨rfl, hb4⟩; have hS := keep3 hb4 hS0))
            have hW4 := Below.next hW3.drew hb4
            clear hb4 hS0 hW3
            have dx := hS.1
            go_wp2_with (go_at_call 15; refine (C3.out _).mono ?_; rintro e w5 ⟨rfl, hb5⟩; have hS5 := keep3 hb5 hS; have d0 := hS5.2.1)
            have hW5 := Below.next hW4 hb5
            clear hb5 hS5 hS hW4 dx d0
            go_roundw
            case rel => exact ⟨k + 1, by omega, by go_num, hW5⟩
            case measure => simp [intOf]; omega
          · go_wp2_with (go_at_call 24; refine (hA _).mono ?_; rintro e w3 ⟨rfl, hb⟩)
            go_ret
            exact ⟨rfl, Below.next (Below.next hB hW) hb⟩

end Go.Proofs.Ytepbfcioocohgaa
