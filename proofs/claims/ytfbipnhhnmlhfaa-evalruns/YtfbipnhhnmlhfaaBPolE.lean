/-
  Polynomials: degrees and trimmed lists, the program's and the document's.
-/
import Derived.Test.YtfbipnhhnmlhfaaBPolM
import Derived.Deep.QuietTactic
import Derived.BigQuiet
namespace Go.Proofs.Ytfbipnhhnmlhfaa
open Go.RowKit Fld
set_option linter.unusedVariables false

theorem ret_i64 {a b : Int} (h : a = b) : Ending.returned (.int .i64 a) = .returned (.int .i64 b) := by rw [h]
theorem zero_down {xs : List Int} {n : Nat} (h : ∀ i, n + 1 ≤ i → i < xs.length → co xs i = 0) (h0 : xs.getD n 0 = 0) : ∀ i, n ≤ i → i < xs.length → co xs i = 0 := by
  intro i h1 h2
  by_cases he : i = n
  · rw [he]; exact h0
  · exact h i (by omega) h2

set_option maxHeartbeats 200000 in
theorem Degree_any (v : Value) (xs : List Int) (w : World) (hr : Rw w v xs) :
    Calls Try.prog 54 #[v] w fun e w' => e = .returned (.int .i64 (((tr xs).length : Int) - 1)) ∧ Below w.heap.size w w' := by
  obtain ⟨⟨ao, cap, rfl, hlen, hw, hc⟩, _⟩ := hr
  go_enter Try.func54, Try.ntmps54
  go_wp2
  go_loopw [3] (fun vn wr => ∃ n : Nat, n ≤ xs.length ∧ vn = .int .i64 n ∧ Hid (∀ i, n ≤ i → i < xs.length → co xs i = 0) ∧ Below w.heap.size w wr) (fun vn _ => (intOf vn).toNat)
  case atStart => exact ⟨xs.length, Nat.le_refl _, rfl, fun i h1 h2 => by omega, Below.refl _ _⟩
  case round =>
    obtain ⟨n, hn, rfl, HZ, hB⟩ := hrel
    by_cases hpos : 0 < n
    · obtain ⟨n, rfl⟩ : ∃ j, n = j + 1 := ⟨n - 1, by omega⟩
      obtain ⟨b, off, rfl, hbl, hcell⟩ := hc (by intro h; rw [h] at hn; simp at hn)
      have hck := (hB.cell (p := ⟨b, off + n, none⟩) hbl).trans (hcell n (by omega))
      clear hcell hc
      by_cases hz : xs.getD n 0 = 0
      · have HZ2 := hide (zero_down HZ.out hz)
        rw [hz] at hck
        clear hz HZ
        go_wp2
        go_roundw
        case rel => exact ⟨n, by omega, rfl, HZ2, hB⟩
        case measure => simp [intOf]
      · have HE := hide (tr_stop hn HZ.out (.inr hz))
        generalize xs.getD n 0 = x at *
        clear HZ
        go_wp2
        go_ret
        exact ⟨ret_i64 (by rw [HE.out]; omega), hB⟩
    · obtain rfl : n = 0 := by omega
      have HE := hide (tr_stop hn HZ.out (.inl rfl))
      clear hc HZ
      go_wp2
      go_ret
      exact ⟨ret_i64 (by rw [HE.out]; rfl), hB⟩

theorem tr_int (xs : List Int) (h : xs.length ≤ 17592186043904) : ((tr xs).length : Int) - 1 + 1 = ((tr xs).length : Int) ∧ (tr xs).length ≤ xs.length := ⟨by omega, tr_len xs⟩

set_option maxHeartbeats 200000 in
theorem trimmed_any (ao : Option Addr) (cap : Nat) (xs : List Int) (w : World) (hr : Rw w (.slice ao xs.length cap) xs) :
    Calls Try.prog 58 #[.slice ao xs.length cap] w fun e w' => e = .returned (.slice ao (tr xs).length cap) ∧ Below w.heap.size w w' := by
  have hd := hide (fun W (hb : Below w.heap.size w W) => Degree_any _ xs W (hr.below hb))
  have hl := tr_len xs
  have hlen := hr.len
  obtain ⟨ao', cap', h1, hcap⟩ := hr.spell
  cases h1
  clear hr
  generalize (tr xs).length = n at *
  go_enter Try.func58, Try.ntmps58
  go_wp2_with (go_at_call 54; refine (hd.out _ (Below.refl _ _)).mono ?_; rintro e w1 ⟨rfl, hb⟩)
  go_ret
  exact ⟨rfl, hb⟩

theorem row_news {w : World} {ao : Option Addr} {n cap : Nat} {xs : List Int} (h : Row w (.slice ao n cap) xs) (hp : 0 < xs.length) : ∃ ad, ao = some ad ∧ ∀ j u, (vals xs)[j]? = some u → w.cell? (ad.add j) = some u := by
  obtain ⟨ao', cap', h1, h2, h3, h4⟩ := h
  cases h1
  obtain ⟨b, off, rfl, hbl, hcell⟩ := h4 (List.length_pos_iff.1 hp)
  refine ⟨_, rfl, fun j u hj => ?_⟩
  have hjl : j < xs.length := by
    apply Nat.lt_of_not_le; intro hcn; rw [List.getElem?_eq_none (by rw [vals_length]; exact hcn)] at hj; cases hj
  have hadd : (⟨b, off, none⟩ : Addr).add j = ⟨b, off + j, none⟩ := by unfold Addr.add; split <;> simp_all
  rw [vals_at xs j hjl] at hj
  rw [hadd, hcell j hjl]; exact hj
theorem own_block {w : World} {base g n : Nat} {ys : List Int} {T : TypeId} (h : w.ownsRow base T 1 (.slice (some ⟨g, 0, none⟩) n n) n (vals ys)) : w.heap[g]? = some (.cells (vals ys).toArray T (0, 0)) := by
  rcases h.2 with ⟨h1, _⟩ | ⟨g', cap, cur, h1, h2, h3, h4, h5, h6, h7⟩
  · cases h1
  · cases h1
    have : cur = (vals ys).toArray := by
      apply Array.toList_inj.1
      rw [← h7, List.take_of_length_le (by simp; omega)]
    rw [h3, this]
theorem own_of_block {w : World} {base g n : Nat} {ys : List Int} {T : TypeId} (hb : base ≤ g) (h : w.heap[g]? = some (.cells (vals ys).toArray T (0, 0))) (hl : ys.length = n) (hn : n ≤ 17592186043904) : w.ownsRow base T 1 (.slice (some ⟨g, 0, none⟩) n n) n (vals ys) :=
  ⟨by rw [vals_length]; omega, .inr ⟨g, n, _, rfl, hb, h, Nat.le_refl _, by unfold maxLen; omega, by simp [vals_length]; omega, by simp only; rw [List.take_of_length_le (by rw [vals_length]; omega)]⟩⟩
/-- A list laid over noughts. -/
def over (n : Nat) (xs : List Int) : List Int := xs ++ List.replicate (n - xs.length) 0
theorem over_len {n : Nat} {xs : List Int} (h : xs.length ≤ n) : (over n xs).length = n := by simp [over]; omega
theorem over_self (xs : List Int) : over xs.length xs = xs := by simp [over]
theorem co_over (n : Nat) (xs : List Int) (i : Nat) : co (over n xs) i = co xs i := by
  unfold over co
  rw [List.getD_eq_getElem?_getD, List.getD_eq_getElem?_getD]
  by_cases h : i < xs.length
  · rw [List.getElem?_append_left h]
  · rw [List.getElem?_append_right (by omega), List.getElem?_eq_none (l := xs) (by omega)]
    by_cases h2 : i - xs.length < n - xs.length
    · simp [h2]
    · rw [List.getElem?_eq_none (by simp; omega)]
theorem splice_over (n : Nat) (xs : List Int) : splice (vals (List.replicate n 0)) 0 (vals xs) = vals (over n xs) := by
  simp [splice, over, vals]
theorem u64_size : (Try.prog.info? 49).map (·.size) = some 1 := by kernel_rfl

set_option maxRecDepth 100000 in
set_option maxHeartbeats 200000 in
theorem Trim_at (v : Value) (xs : List Int) (w : World) (hr : Rw w v xs) :
    Calls Try.prog 42 #[v] w fun e w' => ∃ g, e = .returned (.slice (some ⟨g, 0, none⟩) (tr xs).length (tr xs).length) ∧ w'.ownsRow w.heap.size 49 1 (.slice (some ⟨g, 0, none⟩) (tr xs).length (tr xs).length) (tr xs).length (vals (tr xs)) ∧ Below w.heap.size w w' := by
  obtain ⟨i0, hi0, hz0, hz1, hz2⟩ := info_parts u64_info
  obtain ⟨ao, cap, rfl, hcap⟩ := hr.spell
  have ht := hide (trimmed_any ao cap xs w hr)
  have hlen := hr.len
  have hl := tr_len xs
  have HR := hide (hr.take hl)
  rw [take_tr_len] at HR
  clear hr
  generalize tr xs = zs at *
  have hzl : zs.length ≤ 17592186043904 := by omega
  have H1 := hide (vals_one zs)
  have HS := hide (splice_over zs.length zs)
  rw [over_self] at HS
  have HW := hide (fun W (hb : Below w.heap.size w W) (hp : 0 < zs.length) => row_news (HR.out.1.below hb) hp)
  obtain ⟨n, HN⟩ : ∃ n, Hid (zs.length = n) := ⟨_, rfl⟩
  have HL : Hid ((vals zs).length = Nat.min n n) := by show _ = _; rw [vals_length, HN.out]; simp
  rw [HN.out] at ht hzl hl HS ⊢
  have HP := hide (vals_length zs)
  rw [← HP.out] at HW
  obtain ⟨cs, HC⟩ : ∃ cs, Hid (vals zs = cs) := ⟨_, rfl⟩
  rw [HC.out] at H1 HL HW HS
  go_enter Try.func42, Try.ntmps42
  go_wp2_with (first
    | (go_at_call 58; refine ht.out.mono ?_; rintro e w1 ⟨rfl, hb⟩; have hbs := hb.size)
    | (at_make; refine wpList_make_full _ rfl _ _ 26 rfl w.heap.size 49 i0 (.int .u64 0) 1 Try.underlying26 hi0 hz0 hz1 .i64 .i64 _ _ n rfl rfl (by omega) (by omega) (by rw [hz2]; omega) (by unfold maxLen; omega) hbs ?_; intro w2 hown hgrow; have hO := hide (own_made hown); have hB := Below.next hb (below_grown_none hgrow); clear hown)
    | (refine wpList_copy_splice rfl _ _ _ _ rfl 49 Try.underlying26 u64_size _ _ _ _ _ _ rfl rfl w1.heap.size 0 (vals (List.replicate n 0)) 49 (own_block hO.out) cs HL.out (fun hp => ⟨rfl, HW.out w2 hB hp⟩) (by have := HL.out; simp at this ⊢; rw [vals_length]; simp; omega) H1.out w.heap.size w hB hbs ?_; intro w3 HG hB3))
  rw [HS.out, ← HC.out] at HG
  go_ret
  exact ⟨w1.heap.size, rfl, own_of_block hbs HG.out HN.out hzl, hB3⟩

theorem Trim_any (v : Value) (xs : List Int) (w : World) (hr : Rw w v xs) :
    Calls Try.prog 42 #[v] w fun e w' => ∃ v', e = .returned v' ∧ w'.ownsRow w.heap.size 49 1 v' (tr xs).length (vals (tr xs)) ∧ Below w.heap.size w w' :=
  (Trim_at v xs w hr).mono fun e w' ⟨g, he, hO, hb⟩ => ⟨_, he, hO, hb⟩

end Go.Proofs.Ytfbipnhhnmlhfaa
