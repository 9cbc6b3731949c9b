import Derived.Test.YtpibiagohfnbmaaBunP
import Derived.Test.YtpibiagohfnbmaaBBas
import Derived.Shelf.Spec.BitsCarry
import Derived.Shelf.Bits.Mul64
import Derived.Deep.RegionHeld3
import Derived.Deep.AppendLies
import Derived.BigQuiet
import Derived.Laws.AppendOwnNone
set_option linter.unusedVariables false
set_option linter.unusedSimpArgs false
set_option maxRecDepth 100000
set_option maxHeartbeats 4000000
namespace Go.Proofs.Ytpibiagohfnbmaa
open Go.RowKit Fld
def Fi (f p : Int) (wd : Bool) : Prop := (f = 1 ∧ p = 2013265921 ∧ wd = false) ∨ (f = 2 ∧ p = 18446744069414584321 ∧ wd = true)
theorem Fi.md {f p : Int} {wd : Bool} (h : Fi f p wd) : Md p wd := by
 rcases h with ⟨_, h, k⟩ | ⟨_, h, k⟩
 · exact .inl ⟨h, k⟩
 · exact .inr ⟨h, k⟩
def Row (w : World) (v : Value) (xs : List Int) : Prop :=
 ∃ ao cap, v = .slice ao xs.length cap ∧ xs.length <= 17592186043904 ∧ (∀ x ∈ xs, 0 <= x ∧ x <= 18446744073709551615) ∧
  (xs ≠ [] -> ∃ b off, ao = some ⟨b, off, none⟩ ∧ b < w.heap.size ∧ ∀ i, i < xs.length -> w.cell? ⟨b, off + i, none⟩ = some (.int .u64 (xs.getD i 0)))
theorem Row.below {w w' : World} {v : Value} {xs : List Int} (h : Row w v xs) (hb : Below w.heap.size w w') : Row w' v xs := by
 obtain ⟨ao, cap, rfl, h1, h2, h3⟩ := h
 refine ⟨ao, cap, rfl, h1, h2, fun hne => ?_⟩
 obtain ⟨b, off, rfl, hlt, hc⟩ := h3 hne
 exact ⟨b, off, rfl, Nat.lt_of_lt_of_le hlt hb.size, fun i hi => by rw [hb.cell (p := ⟨b, off + i, none⟩) hlt]; exact hc i hi⟩
theorem getD_at {xs : List Int} {i : Nat} (h : i < xs.length) : xs.getD i 0 = xs[i] := by
 simp [List.getD_eq_getElem?_getD, h]
theorem modulusOf_yes (f p : Int) (wd : Bool) (w : World) (h : Fi f p wd) :
 Calls Try.prog 23 #[.int .u8 f] w fun e w' => e = .returned (.tuple #[.agg #[.int .u64 p, .bool wd], .bool true]) ∧ Below w.heap.size w w' := by
 rcases h with ⟨rfl, rfl, rfl⟩ | ⟨rfl, rfl, rfl⟩
 · go_enter Try.func23, Try.ntmps23
   go_wp2
   exact bodyPost_ret (v := .tuple #[.agg #[.int .u64 2013265921, .bool false], .bool true]) (by simp [results, Try.results23, go_sem]) rfl ⟨rfl, (Below.refl _ _).alloc (Nat.le_refl _) _⟩
 · go_enter Try.func23, Try.ntmps23
   go_wp2
   exact bodyPost_ret (v := .tuple #[.agg #[.int .u64 18446744069414584321, .bool true], .bool true]) (by simp [results, Try.results23, go_sem]) rfl ⟨rfl, (Below.refl _ _).alloc (Nat.le_refl _) _⟩
theorem modulusOf_no (f : Int) (w : World) (h1 : f ≠ 1) (h2 : f ≠ 2) :
 Calls Try.prog 23 #[.int .u8 f] w fun e w' => e = .returned (.tuple #[.agg #[.int .u64 0, .bool false], .bool false]) ∧ Below w.heap.size w w' := by
 have e1 : (f == 1) = false := beq_eq_false_iff_ne.2 h1
 have e2 : (f == 2) = false := beq_eq_false_iff_ne.2 h2
 clear h1 h2
 go_enter Try.func23, Try.ntmps23
 go_wp2
 exact bodyPost_ret (v := .tuple #[.agg #[.int .u64 0, .bool false], .bool false]) (by simp [results, Try.results23, go_sem]) rfl ⟨rfl, (Below.refl _ _).alloc (Nat.le_refl _) _⟩
theorem Fi.top {f p : Int} {wd : Bool} (h : Fi f p wd) : p <= 18446744073709551615 := by have := h.md.bounds; omega
theorem Fi.pos {f p : Int} {wd : Bool} (h : Fi f p wd) : 0 < p := by have := h.md.bounds; omega
theorem Prime_yes (f p : Int) (wd : Bool) (w : World) (h : Fi f p wd) :
 Calls Try.prog 18 #[.int .u8 f] w fun e w' => e = .returned (.tuple #[.int .u64 p, .int .i64 0]) ∧ Below w.heap.size w w' := by
 have hx := fun W => modulusOf_yes f p wd W h
 clear h
 go_enter Try.func18, Try.ntmps18
 go_wp2_with (go_at_call 23; refine (hx _).mono ?_; rintro e w1 ⟨rfl, hb⟩)
 go_ret2
 exact ⟨rfl, hb.alloc hb.size _⟩
theorem Prime_no (f : Int) (w : World) (h1 : f ≠ 1) (h2 : f ≠ 2) :
 Calls Try.prog 18 #[.int .u8 f] w fun e w' => e = .returned (.tuple #[.int .u64 0, .int .i64 2]) ∧ Below w.heap.size w w' := by
 have hx := fun W => modulusOf_no f W h1 h2
 clear h1 h2
 go_enter Try.func18, Try.ntmps18
 go_wp2_with (go_at_call 23; refine (hx _).mono ?_; rintro e w1 ⟨rfl, hb⟩)
 go_ret2
 exact ⟨rfl, hb.alloc hb.size _⟩
end Go.Proofs.Ytpibiagohfnbmaa
namespace Go.Proofs.Ytpibiagohfnbmaa.Fld
theorem set_getD (ys : List Int) (k j : Nat) (v : Int) (hk : k < ys.length) : (ys.set k v).getD j 0 = if j = k then v else ys.getD j 0 := by
 simp only [List.getD_eq_getElem?_getD, List.getElem?_set]
 by_cases h : j = k
 · subst h; simp [hk]
 · have : ¬ k = j := fun e => h e.symm
   simp [h, this]
end Go.Proofs.Ytpibiagohfnbmaa.Fld
namespace Go.Proofs.Ytpibiagohfnbmaa
open Go.RowKit Fld
theorem rP_yes (f p : Int) (wd : Bool) (w : World) (h : Fi f p wd) :
 Calls Try.prog 17 #[.int .u8 f] w fun e w' => e = .returned (.int .u64 p) ∧ w' = w := by
 rcases h with ⟨rfl, rfl, rfl⟩ | ⟨rfl, rfl, rfl⟩
 · go_enter Try.func17, Try.ntmps17
   go_wp2
   go_ret
   exact ⟨rfl, rfl⟩
 · go_enter Try.func17, Try.ntmps17
   go_wp2
   go_ret
   exact ⟨rfl, rfl⟩
theorem rP_no (f : Int) (w : World) (h1 : f ≠ 1) (h2 : f ≠ 2) :
 Calls Try.prog 17 #[.int .u8 f] w fun e w' => e = .returned (.int .u64 0) ∧ w' = w := by
 have e1 : (f == 1) = false := beq_eq_false_iff_ne.2 h1
 have e2 : (f == 2) = false := beq_eq_false_iff_ne.2 h2
 clear h1 h2
 go_enter Try.func17, Try.ntmps17
 go_wp2
 go_ret
 exact ⟨rfl, rfl⟩
theorem u64_info : (Try.prog.info? 49).map (fun i => (i.zero, i.size, i.bytes)) = some (some (.int .u64 0), 1, 8) := by kernel_rfl
def vals (xs : List Int) : List Value := xs.map (Value.int .u64)
theorem vals_length (xs : List Int) : (vals xs).length = xs.length := by simp [vals]
theorem vals_snoc (xs : List Int) (x : Int) : vals xs ++ [.int .u64 x] = vals (xs ++ [x]) := by simp [vals]
theorem own_base {w : World} {base e size n : Nat} {v : Value} {xs : List Value} (h : w.ownsRow base e size v n xs) : ∀ k, v.ownBlock = some k -> base <= k := by
 intro k hk
 rcases h.2 with ⟨rfl, _⟩ | ⟨g, cap, cur, rfl, hb, _⟩
 · cases hk
 · cases hk; exact hb
theorem row_of_own {w : World} {base : Nat} {v : Value} {n : Nat} {xs : List Int} (h : w.ownsRow base 49 1 v n (vals xs)) (hn : n = xs.length) (hl : xs.length <= 17592186043904)
 (hw : ∀ x ∈ xs, 0 <= x ∧ x <= 18446744073709551615) : Row w v xs := by
 subst hn
 rcases h.2 with ⟨rfl, h0⟩ | ⟨g, cap, cur, rfl, hb, hh, h1, h2, h3, h4⟩
 · exact ⟨none, 0, by rw [h0], hl, hw, fun hne => absurd (List.length_eq_zero_iff.1 h0) hne⟩
 · refine ⟨_, cap, rfl, hl, hw, fun hne => ⟨g, 0, rfl, ?_, fun i hi => ?_⟩⟩
   · apply Nat.lt_of_not_le; intro hc; rw [Array.getElem?_eq_none hc] at hh; cases hh
   · rw [cell_of_row w g (0 + i) cur 49 (0, 0) hh, Nat.zero_add]
     have e1 : cur[i]? = cur.toList[i]? := by simp
     have e2 : cur.toList[i]? = (vals xs)[i]? := by rw [<- h4, List.getElem?_take_of_lt (by omega)]
     rw [e1, e2]; simp [vals, List.getD_eq_getElem?_getD, hi]
theorem elems_step {w wr w1 : World} {v v1 : Value} {k : Nat} {xs ys : List Int} {x y p : Int} {T : TypeId} (hB : Below w.heap.size w wr) (hown : wr.ownsRow w.heap.size T 1 v k (vals xs))
 (h1 : w1.ownsRow w.heap.size T 1 v1 (k + 1) (vals xs ++ [.int .u64 y])) (hg : (wr.alloc (.cells #[.int .u64 y] T)).drew.grownBy w1 v.ownBlock) (hy : y = x % p) (hs : xs ++ [x % p] = ys) :
 w1.ownsRow w.heap.size T 1 v1 (k + 1) (vals ys) ∧ Below w.heap.size w w1 := by
 refine ⟨?_, ?_⟩
 · rw [<- hs, <- hy, <- vals_snoc]; exact h1
 · exact ((hB.alloc hB.size _).drew).grown hg (by have := hB.size; simp; omega) (own_base hown)
theorem own_below {w w' : World} {base e size n : Nat} {v : Value} {xs : List Value} (h : w.ownsRow base e size v n xs) (hb : Below w.heap.size w w') : w'.ownsRow base e size v n xs := by
 refine ⟨h.1, ?_⟩
 rcases h.2 with h1 | ⟨g, cap, cur, h1, h2, h3, h4⟩
 · exact .inl h1
 · refine .inr ⟨g, cap, cur, h1, h2, ?_, h4⟩
   have hlt : g < w.heap.size := by
    apply Nat.lt_of_not_le; intro hc; rw [Array.getElem?_eq_none hc] at h3; cases h3
   rw [hb.block g hlt]; exact h3
theorem vals_set (ys : List Int) (k : Nat) (x : Int) : (vals ys).set k (.int .u64 x) = vals (ys.set k x) := by simp [vals, List.map_set]
theorem vals_at (ys : List Int) (k : Nat) (h : k < ys.length) : (vals ys)[k]? = some (.int .u64 (ys.getD k 0)) := by simp [vals, h, List.getD_eq_getElem?_getD]
theorem below_grown_none {W w1 : World} (h : W.grownBy w1 none) : Below W.heap.size W w1 := (Below.refl _ W).grown h (Nat.le_refl _) (fun k hk => by cases hk)
theorem vals_one (xs : List Int) : ∀ u ∈ vals xs, u.oneCell' = true := by
 intro u hu
 obtain ⟨x, _, rfl⟩ := List.mem_map.1 hu
 rfl
theorem own_empty (w : World) (T : TypeId) : (w.alloc (.cells #[] T)).ownsRow w.heap.size T 1 (.slice (some ⟨w.heap.size, 0, none⟩) 0 0) 0 (vals []) :=
 ⟨by simp [vals], .inr ⟨_, 0, #[], rfl, Nat.le_refl _, heap_alloc_new w _, Nat.le_refl _, by unfold maxLen; omega, by simp, by simp [vals]⟩⟩
theorem Copy_any (v : Value) (xs : List Int) (w : World) (hr : Row w v xs) :
 Calls Try.prog 15 #[v] w fun e w' => ∃ v', e = .returned v' ∧ w'.ownsRow w.heap.size 49 1 v' xs.length (vals xs) ∧ Below w.heap.size w w' := by
 obtain ⟨ao, cap, rfl, hlen, hw, hc⟩ := hr
 obtain ⟨i0, hi0, hz0, hz1, hz2⟩ := info_parts u64_info
 have hown := own_empty w 49
 have hB := (Below.refl w.heap.size w).alloc (Nat.le_refl _) (.cells #[] 49)
 cases ao with
 | none =>
  have hx : xs = [] := by
   apply Classical.byContradiction; intro hne
   obtain ⟨b, off, h, _⟩ := hc hne; cases h
  subst hx
  clear hc
  go_enter Try.func15, Try.ntmps15
  go_wp2
  go_ret
  exact ⟨_, rfl, hown, hB⟩
 | some ad =>
  have hnews : ∀ j u, (vals xs)[j]? = some u -> (w.alloc (.cells #[] 49)).cell? (ad.add j) = some u := by
   intro j u hj
   have hjl : j < xs.length := by
    apply Nat.lt_of_not_le; intro hcn; rw [List.getElem?_eq_none (by rw [vals_length]; exact hcn)] at hj; cases hj
   obtain ⟨b, off, h, hbl, hcell⟩ := hc (by intro h; rw [h] at hjl; simp at hjl)
   cases h
   have hadd : (⟨b, off, none⟩ : Addr).add j = ⟨b, off + j, none⟩ := by unfold Addr.add; split <;> simp_all
   rw [vals_at xs j hjl] at hj
   rw [hadd, World.cell?_alloc_lt (h := hbl), hcell j hjl]; exact hj
  have HN := hide hnews
  clear hnews hc
  go_enter Try.func15, Try.ntmps15
  go_wp2_with (at_builtin; refine wpList_append_own _ rfl _ _ _ rfl w.heap.size 49 i0 _ 1 8 Try.underlying25 hi0 hz0 hz1 hz2 rfl (by omega) _ 0 (vals []) rfl hown ad xs.length cap (vals xs) rfl (by rw [vals_length]; omega) HN.out (vals_one xs) (by unfold maxLen; omega) (by omega) (by simp) ?_; intro v' w1 hown1 hgrow _)
  go_ret
  exact ⟨_, rfl, by simpa [vals] using hown1, hB.grown hgrow (by simp) (fun k hk => by cases hk; exact Nat.le_refl _)⟩
theorem own_cell {wr : World} {base g n cap k : Nat} {ys : List Int} {T : TypeId} (hO : wr.ownsRow base T 1 (.slice (some ⟨g, 0, none⟩) n cap) n (vals ys)) (hl : ys.length = n) (hk : k < n) : wr.cell? ⟨g, k, none⟩ = some (.int .u64 (ys.getD k 0)) := by
 rw [hO.cellAt k (by omega), vals_at ys k (by omega)]
theorem own_len {wr : World} {base n : Nat} {ys : List Int} {T : TypeId} {v : Value} (hO : wr.ownsRow base T 1 v n (vals ys)) : ys.length = n := by
 have := hO.1; rw [vals_length] at this; omega
theorem Same_yes (v1 v2 : Value) (xs : List Int) (w : World) (h1 : Row w v1 xs) (h2 : Row w v2 xs) :
 Calls Try.prog 12 #[v1, v2] w fun e w' => e = .returned (.bool true) ∧ Below w.heap.size w w' := by
 obtain ⟨a1, c1, rfl, hlen, _, hc1⟩ := h1
 obtain ⟨a2, c2, rfl, _, _, hc2⟩ := h2
 go_enter Try.func12, Try.ntmps12
 go_wp2
 go_loopw [5] (fun vi wr => ∃ k : Nat, k <= xs.length ∧ vi = .int .i64 k ∧ Below w.heap.size w wr) (fun vi _ => xs.length - (intOf vi).toNat)
 case atStart => exact ⟨0, Nat.zero_le _, rfl, Below.refl _ _⟩
 case round =>
  obtain ⟨k, hk, rfl, hB⟩ := hrel
  by_cases hlt : k < xs.length
  · have hne : xs ≠ [] := by intro h; rw [h] at hlt; simp at hlt
    obtain ⟨b1, o1, rfl, l1, g1⟩ := hc1 hne
    obtain ⟨b2, o2, rfl, l2, g2⟩ := hc2 hne
    have d1 := (hB.cell (p := ⟨b1, o1 + k, none⟩) l1).trans (g1 k hlt)
    have d2 := (hB.cell (p := ⟨b2, o2 + k, none⟩) l2).trans (g2 k hlt)
    have k0 : (0 : Int) <= (k : Int) := Int.natCast_nonneg _
    have k1 : (k : Int) < (xs.length : Int) := by omega
    generalize xs.getD k 0 = x at *
    clear g1 g2 hc1 hc2 hne
    go_wp2_with fail
    go_quiet (fail)
    have hB2 := below_drewN hB nq
    clear hB
    go_wp2
    go_roundw
    case rel => exact ⟨k + 1, by omega, by go_num, hB2⟩
    case measure => simp [intOf]; omega
  · clear hc1 hc2
    go_wp2
    go_ret
    exact ⟨rfl, hB⟩
end Go.Proofs.Ytpibiagohfnbmaa
