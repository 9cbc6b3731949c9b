import Derived.Test.YtaikhiodpieghaaBByA
import Derived.Test.YtaikhiodpieghaaBWirB
set_option linter.unusedVariables false
set_option linter.unusedSimpArgs false
set_option maxRecDepth 100000
set_option maxHeartbeats 4000000
namespace Go.Proofs.Ytaikhiodpieghaa
open Go.RowKit Fld
theorem u8_info : (Try.prog.info? 5).map (fun i => (i.zero, i.size, i.bytes)) = some (some (.int .u8 0), 1, 1) := by kernel_rfl
def s8 (s b : Int) : Int := IntKind.u64.wrap (bits .xor .u64 s b * 1099511628211)
def sum8 (bs : List Int) : Int := bs.foldl s8 14695981039346656037
theorem s8_bd (s b : Int) : 0 <= s8 s b ∧ s8 s b <= 18446744073709551615 := by
 unfold s8
 rw [show IntKind.u64.wrap (bits .xor .u64 s b * 1099511628211) = (bits .xor .u64 s b * 1099511628211) % 18446744073709551616 by simp [IntKind.wrap, IntKind.bits, IntKind.signed]]
 omega
theorem sum8_snoc (bs : List Int) (b : Int) : sum8 (bs ++ [b]) = s8 (sum8 bs) b := by unfold sum8; rw [List.foldl_append]; rfl
theorem sum8_bd (bs : List Int) : 0 <= sum8 bs ∧ sum8 bs <= 18446744073709551615 := by
 have h : ∀ (bs : List Int) (s : Int), (0 <= s ∧ s <= 18446744073709551615) -> 0 <= bs.foldl s8 s ∧ bs.foldl s8 s <= 18446744073709551615 := by
  intro bs
  induction bs with
  | nil => intro s h; exact h
  | cons b bs ih => intro s _; exact ih _ (s8_bd s b)
 exact h bs _ (by decide)
theorem take_snoc8 {bs : List Int} {k : Nat} (h : k < bs.length) : bs.take (k + 1) = bs.take k ++ [bs.getD k 0] := by
 rw [List.take_succ_eq_append_getElem h, List.getD_eq_getElem?_getD, List.getElem?_eq_getElem h]; rfl
theorem Rb.byte {w : World} {v : Value} {bs : List Int} (h : Rb w v bs) {k : Nat} (hk : k < bs.length) : 0 <= bs.getD k 0 ∧ bs.getD k 0 <= 255 := by
 have : bs.getD k 0 = bs[k] := by rw [List.getD_eq_getElem?_getD, List.getElem?_eq_getElem hk]; rfl
 rw [this]; exact h.by _ (List.getElem_mem hk)
theorem wSum (v : Value) (bs : List Int) (w : World) (h : Rb w v bs) :
 Calls Try.prog 35 #[v] w fun e w' => e = .returned (.int .u64 (sum8 bs)) ∧ w' = w := by
 have HB := hide (fun k (hk : k < bs.length) => h.byte hk)
 have hlen := h.len
 obtain ⟨ao, cap, rfl, _, _, hc⟩ := h
 go_enter Try.func35, Try.ntmps35
 go_wp2
 go_loop [3, 8] (fun vs vi => ∃ k : Nat, k <= bs.length ∧ vi = .int .i64 k ∧ vs = .int .u64 (sum8 (bs.take k))) (fun _ vi => bs.length - (intOf vi).toNat)
 case atStart => exact ⟨0, Nat.zero_le _, rfl, rfl⟩
 case round =>
  obtain ⟨k, hk, rfl, rfl⟩ := hrel
  by_cases hlt : k < bs.length
  · obtain ⟨b, off, rfl, hbl, hcell⟩ := hc (by intro h; rw [h] at hlt; simp at hlt)
    have hck := hcell k hlt
    obtain ⟨x0, x1⟩ := HB.out k hlt
    have HS : Hid (sum8 (bs.take (k + 1)) = s8 (sum8 (bs.take k)) (bs.getD k 0)) := by show _ = _; rw [take_snoc8 hlt, sum8_snoc]
    have hsb := sum8_bd (bs.take k)
    generalize bs.getD k 0 = x at *
    generalize sum8 (bs.take k) = s at *
    clear hcell hc
    go_wp2
    go_round
    case rel => exact ⟨k + 1, by omega, by go_num, by rw [HS.out]; rfl⟩
    case measure => simp [intOf]; omega
  · obtain rfl : k = bs.length := by omega
    rw [List.take_length]
    clear hc
    go_wp2
    go_ret
    exact ⟨rfl, rfl⟩
theorem rSum (v : Value) (bs : List Int) (w : World) (h : Rb w v bs) :
 Calls Try.prog 37 #[v] w fun e w' => e = .returned (.int .u64 (sum8 bs)) ∧ w' = w := by
 have HB := hide (fun k (hk : k < bs.length) => h.byte hk)
 have hlen := h.len
 obtain ⟨ao, cap, rfl, _, _, hc⟩ := h
 go_enter Try.func37, Try.ntmps37
 go_wp2
 go_loop [3, 4] (fun vs vi => ∃ k : Nat, k <= bs.length ∧ vi = .int .i64 k ∧ vs = .int .u64 (sum8 (bs.take k))) (fun _ vi => bs.length - (intOf vi).toNat)
 case atStart => exact ⟨0, Nat.zero_le _, rfl, rfl⟩
 case round =>
  obtain ⟨k, hk, rfl, rfl⟩ := hrel
  by_cases hlt : k < bs.length
  · obtain ⟨b, off, rfl, hbl, hcell⟩ := hc (by intro h; rw [h] at hlt; simp at hlt)
    have hck := hcell k hlt
    obtain ⟨x0, x1⟩ := HB.out k hlt
    have HS : Hid (sum8 (bs.take (k + 1)) = s8 (sum8 (bs.take k)) (bs.getD k 0)) := by show _ = _; rw [take_snoc8 hlt, sum8_snoc]
    have hsb := sum8_bd (bs.take k)
    generalize bs.getD k 0 = x at *
    generalize sum8 (bs.take k) = s at *
    clear hcell hc
    go_wp2
    go_round
    case rel => exact ⟨k + 1, by omega, by go_num, by rw [HS.out]; rfl⟩
    case measure => simp [intOf]; omega
  · obtain rfl : k = bs.length := by omega
    rw [List.take_length]
    clear hc
    go_wp2
    go_ret
    exact ⟨rfl, rfl⟩
theorem p256_le {k n : Nat} (h : k <= n) : (256 : Int) ^ k <= 256 ^ n := by
 obtain ⟨d, rfl⟩ : ∃ d, n = k + d := ⟨n - k, by omega⟩
 rw [Int.pow_add]
 have h1 := p256_pos k
 have h2 : (1 : Int) <= 256 ^ d := p256_pos d
 have h3 := Int.mul_le_mul_of_nonneg_left h2 (Int.le_of_lt h1)
 rw [Int.mul_one] at h3
 exact h3
theorem tk8_small {bs : List Int} (h : By bs) {k : Nat} (hk : k < 8) : 0 <= tk8 (bs.take k) ∧ tk8 (bs.take k) <= 72057594037927935 := by
 have h1 := tk8_bd (h.take k)
 have h2 : (256 : Int) ^ (bs.take k).length <= 256 ^ 7 := p256_le (by rw [List.length_take]; omega)
 have h3 : (256 : Int) ^ 7 = 72057594037927936 := by decide
 omega
theorem tk8_step {bs : List Int} {k : Nat} (h : k < bs.length) : tk8 (bs.take (k + 1)) = tk8 (bs.take k) * 256 + bs.getD k 0 := by rw [take_snoc8 h, tk8_snoc]
theorem rTaken (v : Value) (bs : List Int) (w : World) (h : Rb w v bs) (hl : bs.length <= 8) :
 Calls Try.prog 29 #[v] w fun e w' => e = .returned (.int .u64 (tk8 bs)) ∧ w' = w := by
 have HB := hide (fun k (hk : k < bs.length) => h.byte hk)
 have HY := hide h.by
 have hlen := h.len
 obtain ⟨ao, cap, rfl, _, _, hc⟩ := h
 go_enter Try.func29, Try.ntmps29
 go_wp2
 go_loop [3, 4] (fun vs vi => ∃ k : Nat, k <= bs.length ∧ vi = .int .i64 k ∧ vs = .int .u64 (tk8 (bs.take k))) (fun _ vi => bs.length - (intOf vi).toNat)
 case atStart => exact ⟨0, Nat.zero_le _, rfl, rfl⟩
 case round =>
  obtain ⟨k, hk, rfl, rfl⟩ := hrel
  by_cases hlt : k < bs.length
  · obtain ⟨b, off, rfl, hbl, hcell⟩ := hc (by intro h; rw [h] at hlt; simp at hlt)
    have hck := hcell k hlt
    obtain ⟨x0, x1⟩ := HB.out k hlt
    have HS := hide (tk8_step hlt)
    obtain ⟨s0, s1⟩ := tk8_small HY.out (k := k) (by omega)
    generalize bs.getD k 0 = x at *
    generalize tk8 (bs.take k) = s at *
    clear hcell hc
    go_wp2
    go_round
    case rel => exact ⟨k + 1, by omega, by go_num, by rw [HS.out]⟩
    case measure => simp [intOf]; omega
  · obtain rfl : k = bs.length := by omega
    rw [List.take_length]
    clear hc
    go_wp2
    go_ret
    exact ⟨rfl, rfl⟩
theorem nums_inj : ∀ {xs ys : List Int}, By xs -> By ys -> xs.map (fun n => UInt8.ofNat n.toNat) = ys.map (fun n => UInt8.ofNat n.toNat) -> xs = ys
 | [], [], _, _, _ => rfl
 | [], y :: ys, _, _, h => by simp at h
 | x :: xs, [], _, _, h => by simp at h
 | x :: xs, y :: ys, hx, hy, h => by
  simp only [List.map_cons, List.cons.injEq] at h
  have h1 := hx x List.mem_cons_self
  have h2 := hy y List.mem_cons_self
  have e : x = y := by
   have := congrArg UInt8.toNat h.1
   rw [UInt8.toNat_ofNat', UInt8.toNat_ofNat'] at this
   rw [Nat.mod_eq_of_lt (by omega), Nat.mod_eq_of_lt (by omega)] at this
   omega
  rw [e, nums_inj hx.tail hy.tail h.2]
theorem str_same {xs ys : List Int} (hx : By xs) (hy : By ys) : ((strOfNums xs).toList == (strOfNums ys).toList) = decide (xs = ys) := by
 rw [ByteArray.toList_eq, ByteArray.toList_eq, strOfNums_data, strOfNums_data]
 by_cases h : xs = ys
 · subst h; simp
 · rw [decide_eq_false h, beq_eq_false_iff_ne]
   intro h2
   exact h (nums_inj hx hy h2)
theorem rb_str {w : World} {v : Value} {bs : List Int} (h : Rb w v bs) : (convert 27 9 v).run Try.prog w = .ok (.string (strOfNums bs)) w := by
 obtain ⟨ao, cap, rfl, _, _, hc⟩ := h
 by_cases h0 : bs = []
 · subst h0
   rw [run_convert_bytes_string w 27 9 5 ao [].length cap Try.underlying27 Try.underlying5 Try.underlying9]
   cases ao with
   | none => simp [Conv.bytesToString]; rfl
   | some ad =>
    have := run_bytesToString (P := Try.prog) w ad 0 cap [] (by have := run_loadCells_list (P := Try.prog) w ad [] (fun j v hj => by simp at hj); simpa using this)
    show (Conv.bytesToString (.slice (some ad) 0 cap)).run Try.prog w = _
    rw [this]; rfl
 · obtain ⟨b, off, rfl, _, hcell⟩ := hc h0
   exact run_convert_bytes_arg (P := Try.prog) w 27 5 Try.underlying27 Try.underlying5 b off bs.length cap bs rfl hcell 9 Try.underlying9
theorem rSame8 (v u : Value) (xs ys : List Int) (w : World) (h1 : Rb w v xs) (h2 : Rb w u ys) :
 Calls Try.prog 9 #[v, u] w fun e w' => e = .returned (.bool (decide (xs = ys))) ∧ w' = w := by
 have c1 := rb_str h1
 have c2 := rb_str h2
 have HS := hide (str_same h1.by h2.by)
 obtain ⟨a1, k1, rfl, _⟩ := h1.spell
 obtain ⟨a2, k2, rfl, _⟩ := h2.spell
 clear h1 h2
 go_enter Try.func9, Try.ntmps9
 go_wp2
 go_ret
 exact ⟨by rw [<- HS.out]; rfl, rfl⟩
end Go.Proofs.Ytaikhiodpieghaa
