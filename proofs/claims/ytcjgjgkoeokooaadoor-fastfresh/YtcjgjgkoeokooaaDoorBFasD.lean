/-
  The library's own bits: how many ones, noughts at the end, lengths; and the table that it reads.
-/
import Derived.Test.YtcjgjgkoeokooaaDoorBunW
import Derived.Test.YtcjgjgkoeokooaaDoorBunR
import Derived.Test.YtcjgjgkoeokooaaDoorBunP
import Derived.Shelf.Spec.TrailingZeros
import Derived.Shelf.Small.Bits
namespace Go.Proofs.YtcjgjgkoeokooaaDoor
open Go.RowKit Fld
set_option linter.unusedVariables false

/-- Where the library's own contracts for lengths lie in this program. -/
def lenRen : Shelf.Ren := ⟨fun n => if n = 125 then 68 else if n = 128 then 85 else 86,
  fun n => if n = 3 then 3 else if n = 4 then 4 else if n = 5 then 5 else if n = 9 then 9 else if n = 46 then 62 else if n = 51 then 76 else 39, fun x => x⟩
theorem lenLays : Lays.n125 Tryd.prog lenRen where
  mixed := by kernel_rfl
  f125 := by kernel_rfl
  f128 := by kernel_rfl
  f129 := by kernel_rfl
  t3 := by kernel_rfl
  a3 := fun _ => by kernel_rfl
  z3 := fun _ => by kernel_rfl
  v3 := fun _ => by kernel_rfl
  t4 := by kernel_rfl
  a4 := fun _ => by kernel_rfl
  z4 := fun _ => by kernel_rfl
  v4 := fun _ => by kernel_rfl
  t5 := by kernel_rfl
  a5 := fun _ => by kernel_rfl
  z5 := fun _ => by kernel_rfl
  v5 := fun _ => by kernel_rfl
  t9 := by kernel_rfl
  a9 := fun _ => by kernel_rfl
  z9 := fun _ => by kernel_rfl
  v9 := fun _ => by kernel_rfl
  t46 := by kernel_rfl
  a46 := fun _ => by kernel_rfl
  z46 := fun _ => by kernel_rfl
  v46 := fun _ => by kernel_rfl
  t51 := by kernel_rfl
  a51 := fun _ => by kernel_rfl
  z51 := fun _ => by kernel_rfl
  v51 := fun _ => by kernel_rfl
  t53 := by kernel_rfl
  a53 := fun _ => by kernel_rfl
  z53 := fun _ => by kernel_rfl
  v53 := fun _ => by kernel_rfl
theorem Len_any (n : Nat) (w : World) (hn : n ≤ 4096) : Calls Tryd.prog 68 #[.int .u64 (n : Int)] w fun e w' => e = .returned (.int .i64 ((Lib.bitLen n : Nat) : Int)) ∧ w' = w :=
  Any.bits_Len lenLays (n : Int) w (by omega) (by omega)
theorem bitLen_aux (f : Nat) : ∀ x, x < 2 ^ f → x < 2 ^ Lib.bitLenAux f x ∧ (∀ k, x < 2 ^ k → Lib.bitLenAux f x ≤ k) := by
  induction f with
  | zero =>
    intro x hx
    have h0 : x = 0 := by simpa using hx
    subst h0
    exact ⟨by decide, fun k _ => Nat.zero_le _⟩
  | succ f ih =>
    intro x hx
    unfold Lib.bitLenAux
    by_cases h0 : x = 0
    · rw [if_pos h0]; subst h0; exact ⟨by decide, fun k _ => Nat.zero_le _⟩
    · rw [if_neg h0]
      rw [two_pow] at hx
      obtain ⟨h1, h2⟩ := ih (x / 2) (by omega)
      refine ⟨?_, fun k hk => ?_⟩
      · rw [Nat.add_comm, two_pow]; omega
      · cases k with
        | zero => simp at hk; omega
        | succ k =>
          rw [two_pow] at hk
          have := h2 k (by omega)
          omega
theorem bitLen_spec {x : Nat} (hx : x < 4096) : x < 2 ^ Lib.bitLen x ∧ Lib.bitLen x ≤ 12 := by
  have := bitLen_aux 64 x (Nat.lt_of_lt_of_le hx (by decide))
  exact ⟨this.1, this.2 12 hx⟩

/-- Where the table of the library's lies: the package's second variable. -/
def tzRen : Shelf.Ren := ⟨fun n => if n = 27 then 73 else if n = 28 then 88 else 89,
  fun n => if n = 0 then 0 else if n = 3 then 3 else if n = 4 then 4 else if n = 5 then 5 else if n = 22 then 39 else if n = 25 then 62 else if n = 27 then 76 else if n = 53 then 102 else 103, fun x => x⟩
theorem tzLays : Lays7.n27 Tryd.prog tzRen where
  mixed := by kernel_rfl
  f27 := by kernel_rfl
  f28 := by kernel_rfl
  f29 := by kernel_rfl
  t0 := by kernel_rfl
  a0 := fun _ => by kernel_rfl
  z0 := fun _ => by kernel_rfl
  v0 := fun _ => by kernel_rfl
  i0 := by kernel_rfl
  t3 := by kernel_rfl
  a3 := fun _ => by kernel_rfl
  z3 := fun _ => by kernel_rfl
  v3 := fun _ => by kernel_rfl
  i3 := by kernel_rfl
  t4 := by kernel_rfl
  a4 := fun _ => by kernel_rfl
  z4 := fun _ => by kernel_rfl
  v4 := fun _ => by kernel_rfl
  i4 := by kernel_rfl
  t5 := by kernel_rfl
  a5 := fun _ => by kernel_rfl
  z5 := fun _ => by kernel_rfl
  v5 := fun _ => by kernel_rfl
  i5 := by kernel_rfl
  t22 := by kernel_rfl
  a22 := fun _ => by kernel_rfl
  z22 := fun _ => by kernel_rfl
  v22 := fun _ => by kernel_rfl
  i22 := by kernel_rfl
  t25 := by kernel_rfl
  a25 := fun _ => by kernel_rfl
  z25 := fun _ => by kernel_rfl
  v25 := fun _ => by kernel_rfl
  i25 := by kernel_rfl
  t27 := by kernel_rfl
  a27 := fun _ => by kernel_rfl
  z27 := fun _ => by kernel_rfl
  v27 := fun _ => by kernel_rfl
  i27 := by kernel_rfl
  t53 := by kernel_rfl
  a53 := fun _ => by kernel_rfl
  z53 := fun _ => by kernel_rfl
  v53 := fun _ => by kernel_rfl
  i53 := by kernel_rfl
  t54 := by kernel_rfl
  a54 := fun _ => by kernel_rfl
  z54 := fun _ => by kernel_rfl
  g0 := by kernel_rfl
  g1 := by kernel_rfl

/-- The table stands in its variable. -/
def Tb (w : World) : Prop := TabAt 1 Lib.deBruijn64tab w ∧ 1 < w.heap.size
theorem Tb.below {w w' : World} (h : Tb w) (hb : Below w.heap.size w w') : Tb w' := ⟨fun j hj => (hb.cell (p := ⟨1, j, none⟩) h.2).trans (h.1 j hj), Nat.lt_of_lt_of_le h.2 hb.size⟩
theorem Tb.grown {w w' : World} {g : Nat} (h : Tb w) (hg : w.grownBy w' (some g)) (hne : 1 < g) : Tb w' := ⟨fun j hj => hg.cell (h.1 j hj) (by intro e; simp at e; omega), Nat.lt_of_lt_of_le h.2 hg.size⟩
theorem ctz_pow : ∀ L, L < 13 → Lib.ctz 64 (2 ^ L) = L := by decide +kernel
theorem pow_le12 {L : Nat} (h : L ≤ 12) : 2 ^ L ≤ 4096 := Nat.pow_le_pow_right (n := 2) (by decide) h
theorem tz_pow (n L : Nat) (w : World) (hL : L ≤ 12) (hn : n = 2 ^ L) (hT : Tb w) : Calls Tryd.prog 73 #[.int .u64 (n : Int)] w fun e w' => e = .returned (.int .i64 (L : Int)) ∧ w' = w := by
  subst hn
  have h := Any7.bits_TrailingZeros tzLays (2 ^ L) (Nat.lt_of_le_of_lt (pow_le12 hL) (by decide)) w (fun _ => hT.1)
  rw [ctz_pow L (by omega)] at h
  exact h

/-- How many ones, as the library reckons them. -/
def ocA (x : Nat) : Nat := (x / 2 &&& 6148914691236517205) + (x &&& 6148914691236517205)
def ocB (a : Nat) : Nat := (a / 4 &&& 3689348814741910323) + (a &&& 3689348814741910323)
def ocC (b : Nat) : Nat := (b / 16 + b) &&& 1085102592571150095
def ocD (c : Nat) : Nat := c + c / 256
def ocE (c : Nat) : Nat := c + c / 65536
def ocF (c : Nat) : Nat := c + c / 4294967296
def ocN (x : Nat) : Nat := ocF (ocE (ocD (ocC (ocB (ocA x))))) % 128
/-- A length of a list for a transform. -/
def isP (x : Nat) : Bool := x == 1 || x == 2 || x == 4 || x == 8 || x == 16 || x == 32 || x == 64 || x == 128 || x == 256 || x == 512 || x == 1024 || x == 2048 || x == 4096
theorem oc_all : ((List.range 65).all fun i => (List.range 64).all fun j => (ocN (64 * i + j) == 1) == isP (64 * i + j)) = true := by decide +kernel
theorem oc_one {x : Nat} (hx : x ≤ 4096) : (ocN x == 1) = isP x := by
  have h1 := List.all_eq_true.1 oc_all (x / 64) (List.mem_range.2 (by omega))
  have h2 := List.all_eq_true.1 h1 (x % 64) (List.mem_range.2 (by omega))
  have e : 64 * (x / 64) + x % 64 = x := Nat.div_add_mod x 64
  rw [e] at h2
  exact beq_iff_eq.1 h2
theorem isP_pow {x : Nat} (h : isP x = true) : ∃ L, L ≤ 12 ∧ x = 2 ^ L := by
  simp only [isP, Bool.or_eq_true, beq_iff_eq] at h
  rcases h with (((((((((((h | h) | h) | h) | h) | h) | h) | h) | h) | h) | h) | h) | h
  · exact ⟨0, by decide, h⟩
  · exact ⟨1, by decide, h⟩
  · exact ⟨2, by decide, h⟩
  · exact ⟨3, by decide, h⟩
  · exact ⟨4, by decide, h⟩
  · exact ⟨5, by decide, h⟩
  · exact ⟨6, by decide, h⟩
  · exact ⟨7, by decide, h⟩
  · exact ⟨8, by decide, h⟩
  · exact ⟨9, by decide, h⟩
  · exact ⟨10, by decide, h⟩
  · exact ⟨11, by decide, h⟩
  · exact ⟨12, by decide, h⟩
theorem pow_isP : ∀ L, L < 13 → isP (2 ^ L) = true := by decide +kernel
theorem oc_le {x : Nat} (hx : x ≤ 4096) : ocA x ≤ 8192 ∧ ocB (ocA x) ≤ 16384 ∧ ocC (ocB (ocA x)) ≤ 32768 := by
  have a1 : x / 2 &&& 6148914691236517205 ≤ x / 2 := Nat.and_le_left
  have a2 : x &&& 6148914691236517205 ≤ x := Nat.and_le_left
  have a : ocA x ≤ 8192 := by unfold ocA; omega
  generalize ocA x = y at *
  have b1 : y / 4 &&& 3689348814741910323 ≤ y / 4 := Nat.and_le_left
  have b2 : y &&& 3689348814741910323 ≤ y := Nat.and_le_left
  have b : ocB y ≤ 16384 := by unfold ocB; omega
  generalize ocB y = z at *
  have c1 : (z / 16 + z) &&& 1085102592571150095 ≤ z / 16 + z := Nat.and_le_left
  have c : ocC z ≤ 32768 := by unfold ocC; omega
  exact ⟨a, b, c⟩
theorem and127 (N : Int) (h0 : 0 ≤ N) (h1 : N ≤ 4294967295) : bits BinOp.and IntKind.i64 N 127 = N % 128 := by
  have e : (2 : Int) ^ 63 = 9223372036854775808 := by decide
  have h := bits_mask .i64 63 (by decide) wraps_i64 7 (by decide) N h0 (by rw [e]; omega)
  exact h

set_option maxHeartbeats 400000 in
theorem oc64 (x a1 a2 b1 b2 c r : Int) (w : World) (x0 : 0 ≤ x) (x1 : x ≤ 4096) (h1 : bits .and .u64 (x / 2) 6148914691236517205 = a1) (h2 : bits .and .u64 x 6148914691236517205 = a2)
    (a10 : 0 ≤ a1) (a11 : a1 ≤ 8192) (a20 : 0 ≤ a2) (a21 : a2 ≤ 8192) (h3 : bits .and .u64 ((a1 + a2) / 4) 3689348814741910323 = b1) (h4 : bits .and .u64 (a1 + a2) 3689348814741910323 = b2)
    (b10 : 0 ≤ b1) (b11 : b1 ≤ 16384) (b20 : 0 ≤ b2) (b21 : b2 ≤ 16384) (h5 : bits .and .u64 ((b1 + b2) / 16 + (b1 + b2)) 1085102592571150095 = c) (c0 : 0 ≤ c) (c1 : c ≤ 32768)
    (hr : bits .and .i64 (c + c / 256 + (c + c / 256) / 65536 + (c + c / 256 + (c + c / 256) / 65536) / 4294967296) 127 = r) :
    Calls Tryd.prog 70 #[.int .u64 x] w fun e w' => e = .returned (.int .i64 r) ∧ w' = w := by
  go_enter Tryd.func70, Tryd.ntmps70
  go_wp2
  go_ret
  exact ⟨rfl, rfl⟩

theorem oc_and (a m : Nat) (ha : a ≤ 65536) (hm : m < 18446744073709551616) : bits .and .u64 (a : Int) (m : Int) = ((a &&& m : Nat) : Int) := bits_and_u64_nat a m (by omega) hm
theorem OnesCount64_any (x : Nat) (w : World) (hx : x ≤ 4096) : Calls Tryd.prog 70 #[.int .u64 (x : Int)] w fun e w' => e = .returned (.int .i64 ((ocN x : Nat) : Int)) ∧ w' = w := by
  obtain ⟨ha, hb, hc⟩ := oc_le hx
  have a1 : x / 2 &&& 6148914691236517205 ≤ x / 2 := Nat.and_le_left
  have a2 : x &&& 6148914691236517205 ≤ x := Nat.and_le_left
  have b1 : ocA x / 4 &&& 3689348814741910323 ≤ ocA x / 4 := Nat.and_le_left
  have b2 : ocA x &&& 3689348814741910323 ≤ ocA x := Nat.and_le_left
  have eA : ((x / 2 &&& 6148914691236517205 : Nat) : Int) + ((x &&& 6148914691236517205 : Nat) : Int) = ((ocA x : Nat) : Int) := by unfold ocA; omega
  have eB : ((ocA x / 4 &&& 3689348814741910323 : Nat) : Int) + ((ocA x &&& 3689348814741910323 : Nat) : Int) = ((ocB (ocA x) : Nat) : Int) := by unfold ocB; omega
  refine oc64 (x : Int) ((x / 2 &&& 6148914691236517205 : Nat) : Int) ((x &&& 6148914691236517205 : Nat) : Int) ((ocA x / 4 &&& 3689348814741910323 : Nat) : Int) ((ocA x &&& 3689348814741910323 : Nat) : Int) ((ocC (ocB (ocA x)) : Nat) : Int) _ w (by omega) (by omega)
    ?_ ?_ (by omega) (by omega) (by omega) (by omega) ?_ ?_ (by omega) (by omega) (by omega) (by omega) ?_ (by omega) (by omega) ?_
  · have := oc_and (x / 2) 6148914691236517205 (by omega) (by decide)
    rw [← this]; congr 1
  · exact oc_and x 6148914691236517205 (by omega) (by decide)
  · rw [eA]
    have := oc_and (ocA x / 4) 3689348814741910323 (by omega) (by decide)
    rw [← this]; congr 1
  · rw [eA]; exact oc_and (ocA x) 3689348814741910323 (by omega) (by decide)
  · rw [eB]
    have := oc_and (ocB (ocA x) / 16 + ocB (ocA x)) 1085102592571150095 (by omega) (by decide)
    unfold ocC
    rw [← this]; congr 1
  · unfold ocN ocF ocE ocD
    generalize ocC (ocB (ocA x)) = c at *
    rw [and127 _ (by omega) (by omega)]
    omega
set_option maxHeartbeats 200000 in
theorem OnesCount_any (x : Nat) (w : World) (hx : x ≤ 4096) : Calls Tryd.prog 52 #[.int .u64 (x : Int)] w fun e w' => e = .returned (.int .i64 ((ocN x : Nat) : Int)) ∧ w' = w := by
  have h := hide (OnesCount64_any x w hx)
  have x0 : (0 : Int) ≤ (x : Int) := by omega
  have x1 : (x : Int) ≤ 4096 := by omega
  generalize (x : Int) = y at *
  generalize ((ocN x : Nat) : Int) = z at *
  go_enter Tryd.func52, Tryd.ntmps52
  go_wp2_with (go_at_call 70; refine h.out.mono ?_; rintro e w1 ⟨rfl, hw⟩; rw [hw]; clear hw)
  go_ret
  exact ⟨rfl, rfl⟩

end Go.Proofs.YtcjgjgkoeokooaaDoor
