import Derived.Test.YtaikhiodpieghaaBWirC
set_option linter.unusedVariables false
set_option linter.unusedSimpArgs false
set_option maxRecDepth 100000
set_option maxHeartbeats 4000000
namespace Go.Proofs.Ytaikhiodpieghaa
open Go.RowKit Fld
theorem byte_at (x : Int) (j : Nat) : x / 2 ^ (8 * j) % 256 = x / 256 ^ j % 256 := by
 rw [Int.pow_mul]; rfl
theorem put_step {w0 wr w1 : World} {v v1 : Value} {n : Nat} {bs : List Int} {y : Int} {T : TypeId} (hB : Below w0.heap.size w0 wr) (hown : wr.ownsRow w0.heap.size T 1 v n (valb bs))
 (h1 : w1.ownsRow w0.heap.size T 1 v1 (n + 1) (valb bs ++ [.int .u8 y])) (hg : (wr.alloc (.cells #[.int .u8 y] T)).grownBy w1 v.ownBlock) :
 w1.ownsRow w0.heap.size T 1 v1 (n + 1) (valb (bs ++ [y])) ∧ Below w0.heap.size w0 w1 := by
 refine ⟨?_, ?_⟩
 · rw [<- valb_snoc]; exact h1
 · exact (hB.alloc hB.size _).grown hg (by have := hB.size; simp; omega) (own_base hown)
theorem wPut (v : Value) (n k : Nat) (bs : List Int) (x : Int) (w0 w : World) (hx : 0 <= x ∧ x <= 18446744073709551615) (hk : k <= 8) (hn : n <= 1073741824) (hO : w.ownsRow w0.heap.size 5 1 v n (valb bs)) (hb : Below w0.heap.size w0 w) :
 Calls Try.prog 34 #[v, .int .u64 x, .int .i64 k] w fun e w' => ∃ v', e = .returned v' ∧ w'.ownsRow w0.heap.size 5 1 v' (n + k) (valb (bs ++ wd8 x k)) ∧ Below w0.heap.size w0 w' := by
 obtain ⟨i0, hi0, hz0, hz1, hz2⟩ := info_parts u8_info
 obtain ⟨x0, x1⟩ := hx
 obtain ⟨ao, cap, rfl⟩ : ∃ ao cap, v = .slice ao n cap := by
  rcases hO.2 with ⟨rfl, rfl⟩ | ⟨g, cap, _, rfl, _⟩
  · exact ⟨_, _, rfl⟩
  · exact ⟨_, _, rfl⟩
 go_enter Try.func34, Try.ntmps34
 go_wp2
 go_loopw [0, 7] (fun vo vi wr => ∃ (j m : Nat) (cs : List Int), j <= k ∧ m + j = n + k ∧ vi = .int .i64 ((8 * j : Nat) : Int) ∧ Hid (cs ++ wd8 x j = bs ++ wd8 x k) ∧ wr.ownsRow w0.heap.size 5 1 vo m (valb cs) ∧ Below w0.heap.size w0 wr) (fun _ vi _ => (intOf vi).toNat)
 case atStart => exact ⟨k, n, bs, Nat.le_refl _, rfl, by go_num, rfl, hO, hb⟩
 case round =>
  clear hO hb
  obtain ⟨j, m, cs, hj, hm, rfl, HE, hO, hB⟩ := hrel
  by_cases hlt : 0 < j
  · obtain ⟨i, rfl⟩ : ∃ i, j = i + 1 := ⟨j - 1, by omega⟩
    have hsz := hB.size
    have HY := hide (byte_at x i)
    go_wp2_with (at_builtin; refine wpList_append_own _ rfl _ _ _ rfl w0.heap.size 5 i0 _ 1 1 Try.underlying27 hi0 hz0 hz1 hz2 rfl (by omega) _ m (valb cs) rfl (hO.alloc _) ⟨wr.heap.size, 0, none⟩ 1 1 [.int .u8 _] rfl rfl (World.news_of_block (cs := #[.int .u8 _]) (t := 5) (fr := (0, 0)) (heap_alloc_new wr _)) (by simp [Value.oneCell']) (by unfold maxLen; omega) (by omega) (by simp; omega) ?_; intro v1 w1 hown1 hgrow _)
    have R := hide (put_step hB hO hown1 hgrow)
    have e8 : 8 * (i + 1) - 8 = 8 * i := by omega
    rw [e8, HY.out] at R
    clear hown1 hgrow hO
    go_roundw
    case rel => exact ⟨i, m + 1, _, by omega, by omega, by go_num, by show _ = _; rw [<- HE.out, List.append_assoc]; rfl, R.out.1, R.out.2⟩
    case measure => simp [intOf]; omega
  · obtain rfl : j = 0 := by omega
    go_wp2
    go_ret
    have := HE.out
    simp only [wd8, List.append_nil] at this
    subst this
    exact ⟨_, rfl, by have e : m = n + k := by omega
                      subst e; exact hO, hB⟩
theorem rWide (k : Nat) (x : Int) (w : World) (hx : 0 <= x ∧ x <= 18446744073709551615) (hk : k <= 8) :
 Calls Try.prog 19 #[.int .u64 x, .int .i64 k] w fun e w' => ∃ v', e = .returned v' ∧ w'.ownsRow w.heap.size 5 1 v' k (valb (wd8 x k)) ∧ Below w.heap.size w w' := by
 obtain ⟨i0, hi0, hz0, hz1, hz2⟩ := info_parts u8_info
 obtain ⟨x0, x1⟩ := hx
 go_enter Try.func19, Try.ntmps19
 go_wp2
 go_loopw [5, 6] (fun vo vi wr => ∃ (j m : Nat) (cs : List Int), j <= k ∧ m + j = k ∧ vi = .int .i64 ((j : Int) - 1) ∧ Hid (cs ++ wd8 x j = wd8 x k) ∧ wr.ownsRow w.heap.size 5 1 vo m (valb cs) ∧ Below w.heap.size w wr) (fun _ vi _ => (intOf vi + 1).toNat)
 case atStart => exact ⟨k, 0, [], Nat.le_refl _, Nat.zero_add _, rfl, rfl, World.ownsRow_nil _ _ _ _, Below.refl _ _⟩
 case round =>
  obtain ⟨j, m, cs, hj, hm, rfl, HE, hO, hB⟩ := hrel
  by_cases hlt : 0 < j
  · obtain ⟨i, rfl⟩ : ∃ i, j = i + 1 := ⟨j - 1, by omega⟩
    have hsz := hB.size
    have HY := hide (byte_at x i)
    have ei : (((i + 1 : Nat) : Int) - 1) = (i : Int) := by omega
    rw [ei]
    clear ei
    go_wp2_with (at_builtin; refine wpList_append_own _ rfl _ _ _ rfl w.heap.size 5 i0 _ 1 1 Try.underlying27 hi0 hz0 hz1 hz2 rfl (by omega) _ m (valb cs) rfl (hO.alloc _) ⟨wr.heap.size, 0, none⟩ 1 1 [.int .u8 _] rfl rfl (World.news_of_block (cs := #[.int .u8 _]) (t := 5) (fr := (0, 0)) (heap_alloc_new wr _)) (by simp [Value.oneCell']) (by unfold maxLen; omega) (by omega) (by simp; omega) ?_; intro v1 w1 hown1 hgrow _)
    have R := hide (put_step hB hO hown1 hgrow)
    rw [HY.out] at R
    clear hown1 hgrow hO
    go_roundw
    case rel => exact ⟨i, m + 1, _, by omega, by omega, by go_num, by show _ = _; rw [<- HE.out, List.append_assoc]; rfl, R.out.1, R.out.2⟩
    case measure => simp [intOf]
  · obtain rfl : j = 0 := by omega
    go_wp2
    go_ret
    have := HE.out
    simp only [wd8, List.append_nil] at this
    subst this
    exact ⟨_, rfl, by have e : m = k := by omega
                      subst e; exact hO, hB⟩
end Go.Proofs.Ytaikhiodpieghaa
