/-
  Polynomials: the document's Trim; which lists may be, the program's check and the document's.
-/
import Derived.Test.YtfbipnhhnmlhfaaBPolE
import Derived.Test.YtfbipnhhnmlhfaaBInF
namespace Go.Proofs.Ytfbipnhhnmlhfaa
open Go.RowKit Fld
set_option linter.unusedVariables false

set_option maxHeartbeats 200000 in
theorem rTrim_any (v : Value) (xs : List Int) (w : World) (hr : Rw w v xs) :
    Calls Try.prog 22 #[v] w fun e w' => ∃ v', e = .returned v' ∧ w'.ownsRow w.heap.size 49 1 v' (tr xs).length (vals (tr xs)) ∧ Below w.heap.size w w' := by
  have HT := hide (fun ao cap (he : v = .slice ao xs.length cap) W (hb : Below w.heap.size w W) => Copy_any (.slice ao (tr xs).length cap) (tr xs) W (by
    subst he
    have := (hr.below hb).take (tr_len xs)
    rw [take_tr_len] at this; exact this.1))
  obtain ⟨ao', cap', hv, hcap⟩ := hr.spell
  obtain ⟨⟨ao, cap, rfl, hlen, hw, hc⟩, _⟩ := hr
  cases hv
  have HT := hide (HT.out _ _ rfl)
  go_enter Try.func22, Try.ntmps22
  go_wp2
  go_loopw [3] (fun vn wr => ∃ n : Nat, n ≤ xs.length ∧ vn = .int .i64 n ∧ Hid (∀ i, n ≤ i → i < xs.length → co xs i = 0) ∧ Below w.heap.size w wr) (fun vn _ => (intOf vn).toNat)
  case atStart => exact ⟨xs.length, Nat.le_refl _, rfl, fun i h1 h2 => by omega, Below.refl _ _⟩
  case round =>
    obtain ⟨n, hn, rfl, HZ, hB⟩ := hrel
    by_cases hpos : 0 < n
    · obtain ⟨n, rfl⟩ : ∃ j, n = j + 1 := ⟨n - 1, by omega⟩
      obtain ⟨b, off, rfl, hbl, hcell⟩ := hc (by intro h; rw [h] at hn; simp at hn)
      have hck := (hB.cell (p := ⟨b, off + n, none⟩) hbl).trans (hcell n (by omega))
      clear hcell hc
      by_cases hz : xs.getD n 0 = 0
      · have HZ2 := hide (zero_down HZ.out hz)
        rw [hz] at hck
        clear hz HZ
        go_wp2
        go_roundw
        case rel => exact ⟨n, by omega, rfl, HZ2, hB⟩
        case measure => simp [intOf]
      · have HE := hide (tr_stop hn HZ.out (.inr hz))
        rw [HE.out] at HT
        generalize xs.getD n 0 = x at *
        clear HZ
        go_wp2_with (go_at_call 32; refine (HT.out _ hB).mono ?_; rintro e w1 ⟨v', rfl, hO, hb⟩)
        go_ret
        exact ⟨_, rfl, by rw [HE.out]; exact own_mono hO hB.size, Below.next hB hb⟩
    · obtain rfl : n = 0 := by omega
      have HE := hide (tr_stop hn HZ.out (.inl rfl))
      rw [HE.out] at HT
      clear hc HZ
      go_wp2_with (go_at_call 32; refine (HT.out _ hB).mono ?_; rintro e w1 ⟨v', rfl, hO, hb⟩)
      go_ret
      exact ⟨_, rfl, by rw [HE.out]; exact own_mono hO hB.size, Below.next hB hb⟩

/-- Which error two lists have. -/
def erb (b1 b2 : Bool) (n m : Nat) : Int := if b1 && b2 then (if 4096 < n ∨ 4096 < m then 4 else 0) else 2
def er (f : Int) (xs ys : List Int) : Int := erb (inF f xs) (inF f ys) xs.length ys.length
theorem er_yes {f p : Int} {wd : Bool} {xs ys : List Int} (h : Fi f p wd) (h1 : allIn p xs = true) (h2 : allIn p ys = true) (h3 : xs.length ≤ 4096) (h4 : ys.length ≤ 4096) : er f xs ys = 0 := by
  unfold er erb
  rw [inF_yes h, inF_yes h, h1, h2, if_pos (by decide), if_neg (by omega)]
theorem er_zero {f : Int} {xs ys : List Int} (h : er f xs ys = 0) : ∃ p wd, Fi f p wd ∧ allIn p xs = true ∧ allIn p ys = true ∧ xs.length ≤ 4096 ∧ ys.length ≤ 4096 := by
  unfold er erb at h
  rcases Fi_or f with ⟨p, wd, hf⟩ | ⟨h1, h2⟩
  · rw [inF_yes hf, inF_yes hf] at h
    refine ⟨p, wd, hf, ?_⟩
    cases a : allIn p xs <;> cases b : allIn p ys <;> simp [a, b] at h ⊢
    omega
  · rw [inF_no h1 h2] at h; simp at h
theorem erb_ne (b1 b2 : Bool) (n m : Nat) : erb b1 b2 n m = 0 ∨ erb b1 b2 n m = 2 ∨ erb b1 b2 n m = 4 := by
  unfold erb; split
  · split
    · exact .inr (.inr rfl)
    · exact .inl rfl
  · exact .inr (.inl rfl)

set_option maxHeartbeats 200000 in
theorem pcheck_any (f : Int) (v1 v2 : Value) (xs ys : List Int) (w : World) (b : Nat) (h1 : Rw w v1 xs) (h2 : Rw w v2 ys) (hT : Two b v1 v2 w) :
    Calls Try.prog 109 #[.int .u8 f, .slice (some ⟨b, 0, none⟩) 2 2] w fun e w' => e = .returned (.int .i64 (er f xs ys)) ∧ Below w.heap.size w w' := by
  have i1 := hide (fun W (hb : Below w.heap.size w W) => In_any f v1 xs W (h1.1.below hb))
  have i2 := hide (fun W (hb : Below w.heap.size w W) => In_any f v2 ys W (h2.1.below hb))
  have l1 := h1.len
  have l2 := h2.len
  obtain ⟨a1, c1, rfl, _⟩ := h1.spell
  obtain ⟨a2, c2, rfl, _⟩ := h2.spell
  obtain ⟨t1, t2, _, _, tl⟩ := hT
  clear h1 h2
  unfold er
  generalize xs.length = n1 at *
  generalize ys.length = n2 at *
  generalize inF f xs = b1 at *
  generalize inF f ys = b2 at *
  go_enter Try.func109, Try.ntmps109
  go_wp2
  go_loopw [11] (fun vk wr => ∃ k : Nat, k ≤ 2 ∧ vk = .int .i64 k ∧ Hid ((0 < k → b1 = true) ∧ (1 < k → b2 = true)) ∧ Below w.heap.size w wr) (fun vk _ => 2 - (intOf vk).toNat)
  case atStart => exact ⟨0, by omega, rfl, ⟨fun h => by omega, fun h => by omega⟩, Below.refl _ _⟩
  case round =>
    obtain ⟨k, hk, rfl, HK, hB⟩ := hrel
    have d1 := (hB.cell (p := ⟨b, 0, none⟩) tl).trans t1
    have d2 := (hB.cell (p := ⟨b, 1, none⟩) tl).trans t2
    obtain rfl | rfl | rfl : k = 0 ∨ k = 1 ∨ k = 2 := by omega
    · cases b1 with
      | false =>
        go_wp2_with (go_at_call 52; refine (i1.out _ hB).mono ?_; rintro e w1 ⟨rfl, hb⟩)
        go_ret
        exact ⟨rfl, Below.next hB hb⟩
      | true =>
        go_wp2_with (go_at_call 52; refine (i1.out _ hB).mono ?_; rintro e w1 ⟨rfl, hb⟩)
        go_roundw
        case rel => exact ⟨1, by omega, rfl, ⟨fun _ => by trivial, fun h => by omega⟩, Below.next hB hb⟩
        case measure => simp [intOf]
    · cases b2 with
      | false =>
        have HE : Hid (erb b1 false n1 n2 = 2) := by show _ = _; simp [erb]
        go_wp2_with (go_at_call 52; refine (i2.out _ hB).mono ?_; rintro e w1 ⟨rfl, hb⟩)
        go_ret
        exact ⟨ret_i64 HE.out.symm, Below.next hB hb⟩
      | true =>
        go_wp2_with (go_at_call 52; refine (i2.out _ hB).mono ?_; rintro e w1 ⟨rfl, hb⟩)
        go_roundw
        case rel => exact ⟨2, by omega, rfl, ⟨fun _ => HK.out.1 (by omega), fun _ => by trivial⟩, Below.next hB hb⟩
        case measure => simp [intOf]
    · have e1 := HK.out.1 (by omega)
      have e2 := HK.out.2 (by omega)
      subst e1 e2
      clear i1 i2 HK d1 d2
      go_wp2
      go_loopw [22] (fun vk wr => ∃ k : Nat, k ≤ 2 ∧ vk = .int .i64 k ∧ Hid ((0 < k → n1 ≤ 4096) ∧ (1 < k → n2 ≤ 4096)) ∧ Below w.heap.size w wr) (fun vk _ => 2 - (intOf vk).toNat)
      case atStart => exact ⟨0, by omega, rfl, ⟨fun h => by omega, fun h => by omega⟩, hB⟩
      case round =>
        clear hB
        obtain ⟨k, hk, rfl, HK, hB⟩ := hrel
        have d1 := (hB.cell (p := ⟨b, 0, none⟩) tl).trans t1
        have d2 := (hB.cell (p := ⟨b, 1, none⟩) tl).trans t2
        obtain rfl | rfl | rfl : k = 0 ∨ k = 1 ∨ k = 2 := by omega
        · by_cases hn : 4096 < n1
          · have HE : Hid (erb true true n1 n2 = 4) := by show _ = _; simp [erb, hn]
            go_wp2
            go_ret
            exact ⟨ret_i64 HE.out.symm, hB⟩
          · go_wp2
            go_roundw
            case rel => exact ⟨1, by omega, rfl, ⟨fun _ => by omega, fun h => by omega⟩, hB⟩
            case measure => simp [intOf]
        · by_cases hn : 4096 < n2
          · have HE : Hid (erb true true n1 n2 = 4) := by show _ = _; simp [erb, hn]
            go_wp2
            go_ret
            exact ⟨ret_i64 HE.out.symm, hB⟩
          · go_wp2
            go_roundw
            case rel => exact ⟨2, by omega, rfl, ⟨fun _ => HK.out.1 (by omega), fun h => by omega⟩, hB⟩
            case measure => simp [intOf]
        · have HE : Hid (erb true true n1 n2 = 0) := by
            have := HK.out.1 (by omega)
            have := HK.out.2 (by omega)
            show (if (true && true) = true then (if 4096 < n1 ∨ 4096 < n2 then (4 : Int) else 0) else 2) = 0
            rw [if_pos (by decide), if_neg (by omega)]
          go_wp2
          go_ret
          exact ⟨ret_i64 HE.out.symm, hB⟩

set_option maxHeartbeats 200000 in
theorem rBad_any (f : Int) (v1 v2 : Value) (xs ys : List Int) (w : World) (h1 : Rw w v1 xs) (h2 : Rw w v2 ys) :
    Calls Try.prog 49 #[.int .u8 f, v1, v2] w fun e w' => e = .returned (.int .i64 (er f xs ys)) ∧ w' = w := by
  have i1 := hide (fun W (hb : Below w.heap.size w W) => rIn_any f v1 xs W (h1.1.below hb))
  have i2 := hide (fun W (hb : Below w.heap.size w W) => rIn_any f v2 ys W (h2.1.below hb))
  have l1 := h1.len
  have l2 := h2.len
  obtain ⟨a1, c1, rfl, _⟩ := h1.spell
  obtain ⟨a2, c2, rfl, _⟩ := h2.spell
  clear h1 h2
  unfold er
  generalize xs.length = n1 at *
  generalize ys.length = n2 at *
  generalize inF f xs = b1 at *
  generalize inF f ys = b2 at *
  go_enter Try.func49, Try.ntmps49
  go_wp2_with fail
  refine (i1.out _ (Below.refl _ _)).mono ?_; rintro e w1 ⟨rfl, hw⟩; rw [hw]; clear hw
  cases b1 with
  | false =>
    go_wp2
    go_ret
    exact ⟨rfl, rfl⟩
  | true =>
    go_wp2_with fail
    refine (i2.out _ (Below.refl _ _)).mono ?_; rintro e w1 ⟨rfl, hw⟩; rw [hw]; clear hw
    cases b2 with
    | false =>
      go_wp2
      go_ret
      exact ⟨rfl, rfl⟩
    | true =>
      clear i1 i2
      by_cases hn : 4096 < n1
      · have HE : Hid (erb true true n1 n2 = 4) := by show _ = _; simp [erb, hn]
        go_wp2
        go_ret
        exact ⟨ret_i64 HE.out.symm, rfl⟩
      · by_cases hm : 4096 < n2
        · have HE : Hid (erb true true n1 n2 = 4) := by show _ = _; simp [erb, hm]
          go_wp2
          go_ret
          exact ⟨ret_i64 HE.out.symm, rfl⟩
        · have HE : Hid (erb true true n1 n2 = 0) := by
            show (if (true && true) = true then (if 4096 < n1 ∨ 4096 < n2 then (4 : Int) else 0) else 2) = 0
            rw [if_pos (by decide), if_neg (by omega)]
          go_wp2
          go_ret
          exact ⟨ret_i64 HE.out.symm, rfl⟩

end Go.Proofs.Ytfbipnhhnmlhfaa
