import Derived.Test.YthialdipnhggnaaBunW
set_option linter.unusedVariables false
set_option linter.unusedSimpArgs false
set_option maxRecDepth 100000
set_option maxHeartbeats 4000000
namespace Go.Proofs.Ythialdipnhggnaa
open Go.RowKit Fld
theorem u8_info : (Try.prog.info? 5).map (fun i => (i.zero, i.size, i.bytes)) = some (some (.int .u8 0), 1, 1) := by kernel_rfl
def s8 (s b : Int) : Int := IntKind.u64.wrap (bits .xor .u64 s b * 1099511628211)
def sum8 (bs : List Int) : Int := bs.foldl s8 14695981039346656037
theorem s8_bd (s b : Int) : 0 <= s8 s b ∧ s8 s b <= 18446744073709551615 := by
 unfold s8
 rw [show IntKind.u64.wrap (bits .xor .u64 s b * 1099511628211) = (bits .xor .u64 s b * 1099511628211) % 18446744073709551616 by simp [IntKind.wrap, IntKind.bits, IntKind.signed]]
 omega
theorem sum8_snoc (bs : List Int) (b : Int) : sum8 (bs ++ [b]) = s8 (sum8 bs) b := by unfold sum8; rw [List.foldl_append]; rfl
theorem sum8_bd (bs : List Int) : 0 <= sum8 bs ∧ sum8 bs <= 18446744073709551615 := by
 have h : ∀ (bs : List Int) (s : Int), (0 <= s ∧ s <= 18446744073709551615) -> 0 <= bs.foldl s8 s ∧ bs.foldl s8 s <= 18446744073709551615 := by
  intro bs
  induction bs with
  | nil => intro s h; exact h
  | cons b bs ih => intro s _; exact ih _ (s8_bd s b)
 exact h bs _ (by decide)
theorem take_snoc8 {bs : List Int} {k : Nat} (h : k < bs.length) : bs.take (k + 1) = bs.take k ++ [bs.getD k 0] := by
 rw [List.take_succ_eq_append_getElem h, List.getD_eq_getElem?_getD, List.getElem?_eq_getElem h]; rfl
theorem Rb.byte {w : World} {v : Value} {bs : List Int} (h : Rb w v bs) {k : Nat} (hk : k < bs.length) : 0 <= bs.getD k 0 ∧ bs.getD k 0 <= 255 := by
 have : bs.getD k 0 = bs[k] := by rw [List.getD_eq_getElem?_getD, List.getElem?_eq_getElem hk]; rfl
 rw [this]; exact h.by _ (List.getElem_mem hk)
theorem wSum (v : Value) (bs : List Int) (w : World) (h : Rb w v bs) :
 Calls Try.prog 53 #[v] w fun e w' => e = .returned (.int .u64 (sum8 bs)) ∧ w' = w := by
 have HB := hide (fun k (hk : k < bs.length) => h.byte hk)
 have hlen := h.len
 obtain ⟨ao, cap, rfl, _, _, hc⟩ := h
 go_enter Try.func53, Try.ntmps53
 go_wp2
 go_loop [3, 8] (fun vs vi => ∃ k : Nat, k <= bs.length ∧ vi = .int .i64 k ∧ vs = .int .u64 (sum8 (bs.take k))) (fun _ vi => bs.length - (intOf vi).toNat)
 case atStart => exact ⟨0, Nat.zero_le _, rfl, rfl⟩
 case round =>
  obtain ⟨k, hk, rfl, rfl⟩ := hrel
  by_cases hlt : k < bs.length
  · obtain ⟨b, off, rfl, hbl, hcell⟩ := hc (by intro h; rw [h] at hlt; simp at hlt)
    have hck := hcell k hlt
    obtain ⟨x0, x1⟩ := HB.out k hlt
    have HS : Hid (sum8 (bs.take (k + 1)) = s8 (sum8 (bs.take k)) (bs.getD k 0)) := by show _ = _; rw [take_snoc8 hlt, sum8_snoc]
    have hsb := sum8_bd (bs.take k)
    generalize bs.getD k 0 = x at *
    generalize sum8 (bs.take k) = s at *
    clear hcell hc
    go_wp2
    go_round
    case rel => exact ⟨k + 1, by omega, by go_num, by rw [HS.out]; rfl⟩
    case measure => simp [intOf]; omega
  · obtain rfl : k = bs.length := by omega
    rw [List.take_length]
    clear hc
    go_wp2
    go_ret
    exact ⟨rfl, rfl⟩
theorem rSum (v : Value) (bs : List Int) (w : World) (h : Rb w v bs) :
 Calls Try.prog 50 #[v] w fun e w' => e = .returned (.int .u64 (sum8 bs)) ∧ w' = w := by
 have HB := hide (fun k (hk : k < bs.length) => h.byte hk)
 have hlen := h.len
 obtain ⟨ao, cap, rfl, _, _, hc⟩ := h
 go_enter Try.func50, Try.ntmps50
 go_wp2
 go_loop [3, 4] (fun vs vi => ∃ k : Nat, k <= bs.length ∧ vi = .int .i64 k ∧ vs = .int .u64 (sum8 (bs.take k))) (fun _ vi => bs.length - (intOf vi).toNat)
 case atStart => exact ⟨0, Nat.zero_le _, rfl, rfl⟩
 case round =>
  obtain ⟨k, hk, rfl, rfl⟩ := hrel
  by_cases hlt : k < bs.length
  · obtain ⟨b, off, rfl, hbl, hcell⟩ := hc (by intro h; rw [h] at hlt; simp at hlt)
    have hck := hcell k hlt
    obtain ⟨x0, x1⟩ := HB.out k hlt
    have HS : Hid (sum8 (bs.take (k + 1)) = s8 (sum8 (bs.take k)) (bs.getD k 0)) := by show _ = _; rw [take_snoc8 hlt, sum8_snoc]
    have hsb := sum8_bd (bs.take k)
    generalize bs.getD k 0 = x at *
    generalize sum8 (bs.take k) = s at *
    clear hcell hc
    go_wp2
    go_round
    case rel => exact ⟨k + 1, by omega, by go_num, by rw [HS.out]; rfl⟩
    case measure => simp [intOf]; omega
  · obtain rfl : k = bs.length := by omega
    rw [List.take_length]
    clear hc
    go_wp2
    go_ret
    exact ⟨rfl, rfl⟩
theorem p256_le {k n : Nat} (h : k <= n) : (256 : Int) ^ k <= 256 ^ n := by
 obtain ⟨d, rfl⟩ : ∃ d, n = k + d := ⟨n - k, by omega⟩
 rw [Int.pow_add]
 have h1 := p256_pos k
 have h2 : (1 : Int) <= 256 ^ d := p256_pos d
 have h3 := Int.mul_le_mul_of_nonneg_left h2 (Int.le_of_lt h1)
 rw [Int.mul_one] at h3
 exact h3
theorem tk8_small {bs : List Int} (h : By bs) {k : Nat} (hk : k < 8) : 0 <= tk8 (bs.take k) ∧ tk8 (bs.take k) <= 72057594037927935 := by
 have h1 := tk8_bd (h.take k)
 have h2 : (256 : Int) ^ (bs.take k).length <= 256 ^ 7 := p256_le (by rw [List.length_take]; omega)
 have h3 : (256 : Int) ^ 7 = 72057594037927936 := by decide
 omega
theorem tk8_step {bs : List Int} {k : Nat} (h : k < bs.length) : tk8 (bs.take (k + 1)) = tk8 (bs.take k) * 256 + bs.getD k 0 := by rw [take_snoc8 h, tk8_snoc]
theorem rTaken (v : Value) (bs : List Int) (w : World) (h : Rb w v bs) (hl : bs.length <= 8) :
 Calls Try.prog 49 #[v] w fun e w' => e = .returned (.int .u64 (tk8 bs)) ∧ w' = w := by
 have HB := hide (fun k (hk : k < bs.length) => h.byte hk)
 have HY := hide h.by
 have hlen := h.len
 obtain ⟨ao, cap, rfl, _, _, hc⟩ := h
 go_enter Try.func49, Try.ntmps49
 go_wp2
 go_loop [3, 4] (fun vs vi => ∃ k : Nat, k <= bs.length ∧ vi = .int .i64 k ∧ vs = .int .u64 (tk8 (bs.take k))) (fun _ vi => bs.length - (intOf vi).toNat)
 case atStart => exact ⟨0, Nat.zero_le _, rfl, rfl⟩
 case round =>
  obtain ⟨k, hk, rfl, rfl⟩ := hrel
  by_cases hlt : k < bs.length
  · obtain ⟨b, off, rfl, hbl, hcell⟩ := hc (by intro h; rw [h] at hlt; simp at hlt)
    have hck := hcell k hlt
    obtain ⟨x0, x1⟩ := HB.out k hlt
    have HS := hide (tk8_step hlt)
    obtain ⟨s0, s1⟩ := tk8_small HY.out (k := k) (by omega)
    generalize bs.getD k 0 = x at *
    generalize tk8 (bs.take k) = s at *
    clear hcell hc
    go_wp2
    go_round
    case rel => exact ⟨k + 1, by omega, by go_num, by rw [HS.out]⟩
    case measure => simp [intOf]; omega
  · obtain rfl : k = bs.length := by omega
    rw [List.take_length]
    clear hc
    go_wp2
    go_ret
    exact ⟨rfl, rfl⟩
theorem nums_inj : ∀ {xs ys : List Int}, By xs -> By ys -> xs.map (fun n => UInt8.ofNat n.toNat) = ys.map (fun n => UInt8.ofNat n.toNat) -> xs = ys
 | [], [], _, _, _ => rfl
 | [], y :: ys, _, _, h => by simp at h
 | x :: xs, [], _, _, h => by simp at h
 | x :: xs, y :: ys, hx, hy, h => by
  simp only [List.map_cons, List.cons.injEq] at h
  have h1 := hx x List.mem_cons_self
  have h2 := hy y List.mem_cons_self
  have e : x = y := by
   have := congrArg UInt8.toNat h.1
   rw [UInt8.toNat_ofNat', UInt8.toNat_ofNat'] at this
   rw [Nat.mod_eq_of_lt (by omega), Nat.mod_eq_of_lt (by omega)] at this
   omega
  rw [e, nums_inj hx.tail hy.tail h.2]
theorem str_same {xs ys : List Int} (hx : By xs) (hy : By ys) : ((strOfNums xs).toList == (strOfNums ys).toList) = decide (xs = ys) := by
 rw [ByteArray.toList_eq, ByteArray.toList_eq, strOfNums_data, strOfNums_data]
 by_cases h : xs = ys
 · subst h; simp
 · rw [decide_eq_false h, beq_eq_false_iff_ne]
   intro h2
   exact h (nums_inj hx hy h2)
theorem rb_str {w : World} {v : Value} {bs : List Int} (h : Rb w v bs) : (convert 23 9 v).run Try.prog w = .ok (.string (strOfNums bs)) w := by
 obtain ⟨ao, cap, rfl, _, _, hc⟩ := h
 by_cases h0 : bs = []
 · subst h0
   rw [run_convert_bytes_string w 23 9 5 ao [].length cap Try.underlying23 Try.underlying5 Try.underlying9]
   cases ao with
   | none => simp [Conv.bytesToString]; rfl
   | some ad =>
    have := run_bytesToString (P := Try.prog) w ad 0 cap [] (by have := run_loadCells_list (P := Try.prog) w ad [] (fun j v hj => by simp at hj); simpa using this)
    show (Conv.bytesToString (.slice (some ad) 0 cap)).run Try.prog w = _
    rw [this]; rfl
 · obtain ⟨b, off, rfl, _, hcell⟩ := hc h0
   exact run_convert_bytes_arg (P := Try.prog) w 23 5 Try.underlying23 Try.underlying5 b off bs.length cap bs rfl hcell 9 Try.underlying9
theorem rSame8 (v u : Value) (xs ys : List Int) (w : World) (h1 : Rb w v xs) (h2 : Rb w u ys) :
 Calls Try.prog 27 #[v, u] w fun e w' => e = .returned (.bool (decide (xs = ys))) ∧ w' = w := by
 have c1 := rb_str h1
 have c2 := rb_str h2
 have HS := hide (str_same h1.by h2.by)
 obtain ⟨a1, k1, rfl, _⟩ := h1.spell
 obtain ⟨a2, k2, rfl, _⟩ := h2.spell
 clear h1 h2
 go_enter Try.func27, Try.ntmps27
 go_wp2
 go_ret
 exact ⟨by rw [<- HS.out]; rfl, rfl⟩
theorem byte_at (x : Int) (j : Nat) : x / 2 ^ (8 * j) % 256 = x / 256 ^ j % 256 := by
 rw [Int.pow_mul]; rfl
theorem put_step {w0 wr w1 : World} {v v1 : Value} {n : Nat} {bs : List Int} {y : Int} {T : TypeId} (hB : Below w0.heap.size w0 wr) (hown : wr.ownsRow w0.heap.size T 1 v n (valb bs))
 (h1 : w1.ownsRow w0.heap.size T 1 v1 (n + 1) (valb bs ++ [.int .u8 y])) (hg : (wr.alloc (.cells #[.int .u8 y] T)).grownBy w1 v.ownBlock) :
 w1.ownsRow w0.heap.size T 1 v1 (n + 1) (valb (bs ++ [y])) ∧ Below w0.heap.size w0 w1 := by
 refine ⟨?_, ?_⟩
 · rw [<- valb_snoc]; exact h1
 · exact (hB.alloc hB.size _).grown hg (by have := hB.size; simp; omega) (own_base hown)
theorem wPut (v : Value) (n k : Nat) (bs : List Int) (x : Int) (w0 w : World) (hx : 0 <= x ∧ x <= 18446744073709551615) (hk : k <= 8) (hn : n <= 1073741824) (hO : w.ownsRow w0.heap.size 5 1 v n (valb bs)) (hb : Below w0.heap.size w0 w) :
 Calls Try.prog 52 #[v, .int .u64 x, .int .i64 k] w fun e w' => ∃ v', e = .returned v' ∧ w'.ownsRow w0.heap.size 5 1 v' (n + k) (valb (bs ++ wd8 x k)) ∧ Below w0.heap.size w0 w' := by
 obtain ⟨i0, hi0, hz0, hz1, hz2⟩ := info_parts u8_info
 obtain ⟨x0, x1⟩ := hx
 obtain ⟨ao, cap, rfl⟩ : ∃ ao cap, v = .slice ao n cap := by
  rcases hO.2 with ⟨rfl, rfl⟩ | ⟨g, cap, _, rfl, _⟩
  · exact ⟨_, _, rfl⟩
  · exact ⟨_, _, rfl⟩
 go_enter Try.func52, Try.ntmps52
 go_wp2
 go_loopw [0, 7] (fun vo vi wr => ∃ (j m : Nat) (cs : List Int), j <= k ∧ m + j = n + k ∧ vi = .int .i64 ((8 * j : Nat) : Int) ∧ Hid (cs ++ wd8 x j = bs ++ wd8 x k) ∧ wr.ownsRow w0.heap.size 5 1 vo m (valb cs) ∧ Below w0.heap.size w0 wr) (fun _ vi _ => (intOf vi).toNat)
 case atStart => exact ⟨k, n, bs, Nat.le_refl _, rfl, by go_num, rfl, hO, hb⟩
 case round =>
  clear hO hb
  obtain ⟨j, m, cs, hj, hm, rfl, HE, hO, hB⟩ := hrel
  by_cases hlt : 0 < j
  · obtain ⟨i, rfl⟩ : ∃ i, j = i + 1 := ⟨j - 1, by omega⟩
    have hsz := hB.size
    have HY := hide (byte_at x i)
    go_wp2_with (at_builtin; refine wpList_append_own _ rfl _ _ _ rfl w0.heap.size 5 i0 _ 1 1 Try.underlying23 hi0 hz0 hz1 hz2 rfl (by omega) _ m (valb cs) rfl (hO.alloc _) ⟨wr.heap.size, 0, none⟩ 1 1 [.int .u8 _] rfl rfl (World.news_of_block (cs := #[.int .u8 _]) (t := 5) (fr := (0, 0)) (heap_alloc_new wr _)) (by simp [Value.oneCell']) (by unfold maxLen; omega) (by omega) (by simp; omega) ?_; intro v1 w1 hown1 hgrow _)
    have R := hide (put_step hB hO hown1 hgrow)
    have e8 : 8 * (i + 1) - 8 = 8 * i := by omega
    rw [e8, HY.out] at R
    clear hown1 hgrow hO
    go_roundw
    case rel => exact ⟨i, m + 1, _, by omega, by omega, by go_num, by show _ = _; rw [<- HE.out, List.append_assoc]; rfl, R.out.1, R.out.2⟩
    case measure => simp [intOf]; omega
  · obtain rfl : j = 0 := by omega
    go_wp2
    go_ret
    have := HE.out
    simp only [wd8, List.append_nil] at this
    subst this
    exact ⟨_, rfl, by have e : m = n + k := by omega
                      subst e; exact hO, hB⟩
theorem rWide (k : Nat) (x : Int) (w : World) (hx : 0 <= x ∧ x <= 18446744073709551615) (hk : k <= 8) :
 Calls Try.prog 51 #[.int .u64 x, .int .i64 k] w fun e w' => ∃ v', e = .returned v' ∧ w'.ownsRow w.heap.size 5 1 v' k (valb (wd8 x k)) ∧ Below w.heap.size w w' := by
 obtain ⟨i0, hi0, hz0, hz1, hz2⟩ := info_parts u8_info
 obtain ⟨x0, x1⟩ := hx
 go_enter Try.func51, Try.ntmps51
 go_wp2
 go_loopw [5, 6] (fun vo vi wr => ∃ (j m : Nat) (cs : List Int), j <= k ∧ m + j = k ∧ vi = .int .i64 ((j : Int) - 1) ∧ Hid (cs ++ wd8 x j = wd8 x k) ∧ wr.ownsRow w.heap.size 5 1 vo m (valb cs) ∧ Below w.heap.size w wr) (fun _ vi _ => (intOf vi + 1).toNat)
 case atStart => exact ⟨k, 0, [], Nat.le_refl _, Nat.zero_add _, rfl, rfl, World.ownsRow_nil _ _ _ _, Below.refl _ _⟩
 case round =>
  obtain ⟨j, m, cs, hj, hm, rfl, HE, hO, hB⟩ := hrel
  by_cases hlt : 0 < j
  · obtain ⟨i, rfl⟩ : ∃ i, j = i + 1 := ⟨j - 1, by omega⟩
    have hsz := hB.size
    have HY := hide (byte_at x i)
    have ei : (((i + 1 : Nat) : Int) - 1) = (i : Int) := by omega
    rw [ei]
    clear ei
    go_wp2_with (at_builtin; refine wpList_append_own _ rfl _ _ _ rfl w.heap.size 5 i0 _ 1 1 Try.underlying23 hi0 hz0 hz1 hz2 rfl (by omega) _ m (valb cs) rfl (hO.alloc _) ⟨wr.heap.size, 0, none⟩ 1 1 [.int .u8 _] rfl rfl (World.news_of_block (cs := #[.int .u8 _]) (t := 5) (fr := (0, 0)) (heap_alloc_new wr _)) (by simp [Value.oneCell']) (by unfold maxLen; omega) (by omega) (by simp; omega) ?_; intro v1 w1 hown1 hgrow _)
    have R := hide (put_step hB hO hown1 hgrow)
    rw [HY.out] at R
    clear hown1 hgrow hO
    go_roundw
    case rel => exact ⟨i, m + 1, _, by omega, by omega, by go_num, by show _ = _; rw [<- HE.out, List.append_assoc]; rfl, R.out.1, R.out.2⟩
    case measure => simp [intOf]
  · obtain rfl : j = 0 := by omega
    go_wp2
    go_ret
    have := HE.out
    simp only [wd8, List.append_nil] at this
    subst this
    exact ⟨_, rfl, by have e : m = k := by omega
                      subst e; exact hO, hB⟩
theorem Rb.tight {w : World} {ao : Option Addr} {n cap : Nat} {bs : List Int} (h : Rb w (.slice ao n cap) bs) : Rb w (.slice ao bs.length bs.length) bs := by
 obtain ⟨ao', cap', h1, h2, h3, h4⟩ := h
 cases h1
 refine ⟨ao, _, rfl, ⟨Nat.le_refl _, h2.2.1, fun h => ?_⟩, h3, h4⟩
 have := h2.2.2 h; omega
structure Rdr (w0 W : World) (g : Nat) (bs : List Int) : Prop where
 lo : w0.heap.size <= g
 here : ∃ v, W.cell? ⟨g, 0, none⟩ = some v ∧ Rb w0 v bs
 fz : W.frozen? ⟨g, 0, none⟩ = false
 bel : Below w0.heap.size w0 W
theorem wReader (v : Value) (bs : List Int) (w0 w : World) (h : Rb w0 v bs) (hb : Below w0.heap.size w0 w) :
 Calls Try.prog 59 #[v] w fun e w' => ∃ g, e = .returned (.func (.func 65) #[] #[.pointer (some ⟨g, 0, none⟩)]) ∧ Rdr w0 w' g bs ∧ w.heap.size <= g ∧ Below w.heap.size w w' := by
 obtain ⟨ao, cap, rfl, hcp⟩ := h.spell
 have HT := hide h.tight
 have hl := h.len
 clear h
 go_enter Try.func59, Try.ntmps59
 go_wp2
 go_ret
 have hba := alloc_below w (.cells #[.slice ao bs.length bs.length] 23)
 exact ⟨_, rfl, ⟨hb.size, ⟨_, by simp [go_sem], HT.out⟩, by simp [go_sem], hb.trans (hba.mono hb.size)⟩, Nat.le_refl _, hba⟩
theorem wNext_short (k g : Nat) (bs : List Int) (w0 w : World) (hR : Rdr w0 w g bs) (hk : bs.length < k) (hk8 : k <= 8) :
 Calls Try.prog 65 #[.int .i64 k, .pointer (some ⟨g, 0, none⟩)] w fun e w' => e = .returned (.tuple #[.int .u64 0, .bool false]) ∧ w' = w := by
 obtain ⟨_, ⟨v, hc, hv⟩, _, _⟩ := hR
 obtain ⟨ao, cap, rfl, _⟩ := hv.spell
 clear hv
 go_enter Try.func65, Try.ntmps65
 go_wp2
 go_ret2
 exact ⟨rfl, rfl⟩
theorem or_step {s x : Int} (s0 : 0 <= s) (s1 : s <= 72057594037927935) (x0 : 0 <= x) (x1 : x <= 255) : bits .or .u64 (s * 256) x = s * 256 + x := by
 rw [u64_or _ _ (by omega) (by omega) x0 (by omega)]
 obtain ⟨S, rfl⟩ := Int.eq_ofNat_of_zero_le s0
 obtain ⟨X, rfl⟩ := Int.eq_ofNat_of_zero_le x0
 have e1 : ((S : Int) * 256).toNat = S <<< 8 := by rw [Nat.shiftLeft_eq]; omega
 rw [e1, Int.toNat_natCast, <- Nat.shiftLeft_add_eq_or_of_lt (by omega : X < 2 ^ 8), Nat.shiftLeft_eq]
 omega
theorem Rdr.stored {w0 w : World} {g : Nat} {bs : List Int} (h : Rdr w0 w g bs) {v : Value} {cs : List Int} (hr : Rb w0 v cs) :
 Rdr w0 (w.setCell ⟨g, 0, none⟩ v) g cs ∧ Kq (fun j => j < w.heap.size ∧ j ≠ g) w (w.setCell ⟨g, 0, none⟩ v) := by
 obtain ⟨v0, h1, _⟩ := h.here
 refine ⟨⟨h.lo, ⟨v, by simp [go_sem, h1], hr⟩, by rw [World.frozen?_setCell]; exact h.fz, h.bel.setCell (p := ⟨g, 0, none⟩) h.lo v⟩, ⟨rfl, rfl, rfl, by simp, fun j hj => Below.heap_setCell _ _ _ j hj.2⟩⟩
theorem wNext_long (k g : Nat) (bs : List Int) (w0 w : World) (hR : Rdr w0 w g bs) (hk : k <= bs.length) (hk8 : k <= 8) (hk0 : 0 < k) :
 Calls Try.prog 65 #[.int .i64 k, .pointer (some ⟨g, 0, none⟩)] w fun e w' => e = .returned (.tuple #[.int .u64 (tk8 (bs.take k)), .bool true]) ∧ Rdr w0 w' g (bs.drop k) ∧ Kq (fun j => j < w.heap.size ∧ j ≠ g) w w' := by
 have hR' := hide hR
 obtain ⟨hlo, ⟨v, hc, hv⟩, hfz, hbel⟩ := hR
 obtain ⟨b, off, cap, rfl, hcap, hbl⟩ := hv.form (by omega)
 have HV := hide hv
 have HB := hide (fun j (hj : j < bs.length) => hv.byte hj)
 have HY := hide hv.by
 have hl := hv.len
 have HC : Hid (∀ j, j < bs.length -> w.cell? ⟨b, off + j, none⟩ = some (.int .u8 (bs.getD j 0))) := fun j hj => (hbel.cell (p := ⟨b, off + j, none⟩) hbl).trans (hv.at_ hj).2.1
 have hgb : ¬ g = b := by omega
 clear hv
 go_enter Try.func65, Try.ntmps65
 go_wp2
 go_loop [3, 16] (fun vs vi => ∃ j : Nat, j <= k ∧ vi = .int .i64 j ∧ vs = .int .u64 (tk8 (bs.take j))) (fun _ vi => k - (intOf vi).toNat)
 case atStart => exact ⟨0, Nat.zero_le _, rfl, rfl⟩
 case round =>
  obtain ⟨j, hj, rfl, rfl⟩ := hrel
  by_cases hlt : j < k
  · have hck := HC.out j (by omega)
    obtain ⟨x0, x1⟩ := HB.out j (by omega)
    have HS := hide (tk8_step (bs := bs) (k := j) (by omega))
    obtain ⟨s0, s1⟩ := tk8_small HY.out (k := j) (by omega)
    have HO := hide (or_step s0 s1 x0 x1)
    generalize bs.getD j 0 = x at *
    generalize tk8 (bs.take j) = s at *
    go_wp2
    go_round
    case rel => exact ⟨j + 1, by omega, by go_num, by rw [HS.out, <- HO.out]⟩
    case measure => simp [intOf]; omega
  · obtain rfl : j = k := by omega
    by_cases he : bs.length = j
    · have R := hide (hR'.out.stored (rb_empty w0 ⟨b, off, none⟩ 0))
      have ed : bs.drop j = [] := by rw [<- he]; exact List.drop_length
      rw [<- ed] at R
      clear HV HB HY HC hR' ed
      go_wp2
      go_ret2
      exact ⟨rfl, R.out⟩
    · have R := hide (hR'.out.stored (HV.out.cut (o := j) (n := bs.length - j) (c := bs.length - j) (by omega) (Nat.le_refl _)))
      have ed : (bs.drop j).take (bs.length - j) = bs.drop j := List.take_of_length_le (by rw [List.length_drop]; exact Nat.le_refl _)
      rw [ed] at R
      clear HV HB HY HC hR' ed
      go_wp2
      go_ret2
      exact ⟨rfl, R.out⟩
end Go.Proofs.Ythialdipnhggnaa
