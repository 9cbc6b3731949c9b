import Derived.Test.YthialdipnhggnaaBJrnC
import Derived.Test.YthialdipnhggnaaBDdkC
import Derived.Test.YthialdipnhggnaaBByG
set_option linter.unusedVariables false
set_option linter.unusedSimpArgs false
set_option maxRecDepth 100000
set_option maxHeartbeats 4000000
namespace Go.Proofs.Ythialdipnhggnaa
open Go.RowKit Fld
def Bz (w : World) (v : Value) (bs : List (List Int)) : Prop :=
 ∃ ao cap, v = .slice ao bs.length cap ∧ bs.length <= cap ∧ bs.length <= 5864062014634 ∧
  (bs ≠ [] -> ∃ b off, ao = some ⟨b, off, none⟩ ∧ b < w.heap.size ∧ ∀ i, i < bs.length -> ∃ u, w.cell? ⟨b, off + i, none⟩ = some u ∧ Rb w u (bs.getD i []))
theorem Bz.below {w w' : World} {v : Value} {bs : List (List Int)} (h : Bz w v bs) (hb : Below w.heap.size w w') : Bz w' v bs := by
 obtain ⟨ao, cap, h1, h2, h3, h4⟩ := h
 refine ⟨ao, cap, h1, h2, h3, fun hne => ?_⟩
 obtain ⟨b, off, h5, h6, h7⟩ := h4 hne
 refine ⟨b, off, h5, Nat.lt_of_lt_of_le h6 hb.size, fun i hi => ?_⟩
 obtain ⟨u, h8, h9⟩ := h7 i hi
 exact ⟨u, (hb.cell (p := ⟨b, off + i, none⟩) h6).trans h8, h9.below hb⟩
theorem Bz.spell {w : World} {v : Value} {bs : List (List Int)} (h : Bz w v bs) : ∃ ao cap, v = .slice ao bs.length cap ∧ bs.length <= cap := by
 obtain ⟨ao, cap, h1, h2, _⟩ := h; exact ⟨ao, cap, h1, h2⟩
theorem Bz.len {w : World} {v : Value} {bs : List (List Int)} (h : Bz w v bs) : bs.length <= 5864062014634 := by obtain ⟨_, _, _, _, h, _⟩ := h; exact h
theorem Bz.at_ {w : World} {a : Option Addr} {n c : Nat} {bs : List (List Int)} (h : Bz w (.slice a n c) bs) {k : Nat} (hk : k < bs.length) : ∃ b off u, a = some ⟨b, off, none⟩ ∧ b < w.heap.size ∧ w.cell? ⟨b, off + k, none⟩ = some u ∧ Rb w u (bs.getD k []) := by
 obtain ⟨ao, cap, h1, h2, h3, h4⟩ := h
 injection h1 with h1 _ _
 subst h1
 obtain ⟨b, off, h5, h6, h7⟩ := h4 (by intro e; rw [e] at hk; simp at hk)
 obtain ⟨u, h8, h9⟩ := h7 k hk
 exact ⟨b, off, u, h5, h6, h8, h9⟩
theorem bz_nil (w : World) (a : Option Addr) (c : Nat) : Bz w (.slice a 0 c) [] := ⟨a, c, rfl, Nat.zero_le _, by simp, fun h => absurd rfl h⟩
theorem bl_bz {w : World} {v : Value} {bs : List (List Int)} (h : Bl w v bs) (hl : bs.length <= 5864062014634) : Bz w v bs := by
 obtain ⟨ao, cap, h1, h2, h3⟩ := h
 refine ⟨ao, cap, h1, h2, hl, fun hne => ?_⟩
 have hp : 0 < bs.length := List.length_pos_iff.2 hne
 obtain ⟨r, u, e1, e2, e3, e4⟩ := h3 0 bs[0] (List.getElem?_eq_getElem hp)
 refine ⟨r, 0, e1, e2, fun i hi => ?_⟩
 obtain ⟨r', u', f1, f2, f3, f4⟩ := h3 i bs[i] (List.getElem?_eq_getElem hi)
 rw [e1] at f1
 injection f1 with f1
 injection f1 with f1 _ _
 subst f1
 refine ⟨u', by rw [Nat.zero_add]; exact f3, ?_⟩
 rw [List.getD_eq_getElem?_getD, List.getElem?_eq_getElem hi]; exact f4
def j32 : List (List Int) -> Nat
 | [] => 0
 | b :: bs => if b.length = 32 then j32 bs + 1 else 0
theorem j32_le : ∀ bs : List (List Int), j32 bs <= bs.length
 | [] => Nat.le_refl _
 | b :: bs => by
  unfold j32
  have := j32_le bs
  rw [List.length_cons]
  split <;> omega
theorem j32_lt : ∀ {bs : List (List Int)} {k : Nat}, k < j32 bs -> (bs.getD k []).length = 32
 | [], k, h => by simp [j32] at h
 | b :: bs, 0, h => by
  unfold j32 at h
  split at h
  · assumption
  · omega
 | b :: bs, k + 1, h => by
  unfold j32 at h
  split at h
  · rw [List.getD_cons_succ]; exact j32_lt (by omega)
  · omega
theorem j32_at : ∀ {bs : List (List Int)}, j32 bs < bs.length -> (bs.getD (j32 bs) []).length ≠ 32
 | [], h => by simp at h
 | b :: bs, h => by
  unfold j32 at h ⊢
  split
  · rename_i h1
    rw [if_pos h1] at h
    rw [List.getD_cons_succ]
    exact j32_at (by rw [List.length_cons] at h; omega)
  · simpa using ‹_›
def jn32 (bs : List (List Int)) : List Int := (bs.take (j32 bs)).flatten
theorem take_flat (bs : List (List Int)) {k : Nat} (hk : k < bs.length) : (bs.take (k + 1)).flatten = (bs.take k).flatten ++ bs.getD k [] := by
 rw [List.take_add_one, List.flatten_append, List.getElem?_eq_getElem hk, List.getD_eq_getElem?_getD, List.getElem?_eq_getElem hk]
 simp
theorem flat32_len {bs : List (List Int)} : ∀ {k : Nat}, k <= j32 bs -> (bs.take k).flatten.length = 32 * k
 | 0, _ => by simp
 | k + 1, h => by
  have := j32_le bs
  rw [take_flat bs (by omega), List.length_append, flat32_len (by omega), j32_lt (by omega)]; omega
theorem jn32_len (bs : List (List Int)) : (jn32 bs).length = 32 * j32 bs := flat32_len (Nat.le_refl _)
theorem flat_by {bs : List (List Int)} (h : ∀ b ∈ bs, By b) : By bs.flatten := fun x hx => by
 obtain ⟨b, hb, hx⟩ := List.mem_flatten.1 hx
 exact h b hb x hx
theorem Bz.by {w : World} {v : Value} {bs : List (List Int)} (h : Bz w v bs) : ∀ b ∈ bs, By b := fun b hb => by
 obtain ⟨i, hi, rfl⟩ := List.mem_iff_getElem.1 hb
 obtain ⟨a, c, rfl, _⟩ := h.spell
 obtain ⟨_, _, u, _, _, _, hr⟩ := h.at_ hi
 have := hr.by
 rw [List.getD_eq_getElem?_getD, List.getElem?_eq_getElem hi] at this; exact this
theorem jn32_by {bs : List (List Int)} (h : ∀ b ∈ bs, By b) : By (jn32 bs) := flat_by (fun b hb => h b (List.mem_of_mem_take hb))
theorem j32_all : ∀ {bs : List (List Int)}, (∀ b ∈ bs, b.length = 32) -> j32 bs = bs.length
 | [], _ => rfl
 | b :: bs, h => by
  unfold j32
  rw [if_pos (h b List.mem_cons_self), j32_all (fun x hx => h x (List.mem_cons_of_mem _ hx))]; rfl
theorem jn32_all {bs : List (List Int)} (h : ∀ b ∈ bs, b.length = 32) : jn32 bs = bs.flatten := by unfold jn32; rw [j32_all h, List.take_length]
theorem gIsNone (v : Value) (bs : List Int) (w : World) (h : Rb w v bs) : Calls Try.prog 43 #[v] w fun e w' => e = .returned (.bool (!decide (bs.length = 32))) ∧ w' = w := by
 obtain ⟨a, c, rfl, _⟩ := h.spell
 clear h
 generalize bs.length = n
 by_cases h32 : n = 32
 · subst h32
   go_enter Try.func43, Try.ntmps43
   go_wp2
   go_ret
   exact ⟨rfl, rfl⟩
 · have h1 : ((n : Int) != 32) = true := bne_iff_ne.2 (by omega)
   rw [decide_eq_false h32]
   go_enter Try.func43, Try.ntmps43
   go_wp2
   go_ret
   exact ⟨rfl, rfl⟩
theorem gIndexJ (v : Value) (bs : List (List Int)) (w : World) (h : Bz w v bs) :
 Calls Try.prog 44 #[v, .func (.func 43) #[] #[]] w fun e w' => e = .returned (.int .i64 (if j32 bs < bs.length then (j32 bs : Int) else -1)) ∧ w' = w := by
 have hl := h.len
 have HZ := hide h
 obtain ⟨ao, c, rfl, _⟩ := h.spell
 have HI := hide (fun u (b : List Int) (hu : Rb w u b) => gIsNone u b w hu)
 have HJl := hide (j32_le bs)
 have HJt := hide (fun k (h : k < j32 bs) => j32_lt h)
 have HJa := hide (fun (h : j32 bs < bs.length) => j32_at h)
 obtain ⟨N, HN⟩ : ∃ N, Hid (bs.length = N) := ⟨_, rfl⟩
 obtain ⟨J, HJ⟩ : ∃ J, Hid (j32 bs = J) := ⟨_, rfl⟩
 rw [HN.out] at hl HZ HJl HJa ⊢
 rw [HJ.out] at HJl HJt HJa ⊢
 clear h
 obtain ⟨R, HR⟩ : ∃ R, Hid ((if J < N then (J : Int) else -1) = R) := ⟨_, rfl⟩
 rw [HR.out]
 go_enter Try.func44, Try.ntmps44
 go_wp2_with fail
 go_loop [8] (fun v8 => ∃ k : Nat, k <= N ∧ v8 = .int .i64 k ∧ k <= J) (fun v8 => N - (intOf v8).toNat)
 case atStart => exact ⟨0, Nat.zero_le _, rfl, Nat.zero_le _⟩
 case round =>
  obtain ⟨k, hk, rfl, hkJ⟩ := hrel
  by_cases hkn : k < N
  · obtain ⟨b, off, u, rfl, hb, c1, hr⟩ := HZ.out.at_ (k := k) (by rw [HN.out]; exact hkn)
    have HIk := hide (HI.out u _ hr)
    obtain ⟨a3, c3, rfl, _⟩ := hr.spell
    have k0 : (0 : Int) <= (k : Int) := Int.natCast_nonneg _
    have k1 : (k : Int) < (N : Int) := by omega
    by_cases h32 : (bs.getD k []).length = 32
    · have hkJ2 : k + 1 <= J := by
       apply Classical.byContradiction
       intro hc
       have e : k = J := by omega
       exact HJa.out (by omega) (by rw [<- e]; exact h32)
      rw [decide_eq_true h32, h32] at HIk
      rw [h32] at c1
      clear h32 hr
      go_wp2_with (go_at_call 43; refine HIk.out.mono ?_; rintro e w1 ⟨rfl, hw1⟩; rw [hw1]; clear hw1)
      go_round
      case rel => exact ⟨k + 1, by omega, by go_num, hkJ2⟩
      case measure => simp [intOf]; omega
    · have e : k = J := by
       apply Classical.byContradiction
       intro hc
       exact h32 (HJt.out k (by omega))
      rw [decide_eq_false h32] at HIk
      have HRk : Hid ((k : Int) = R) := by show _ = _; rw [<- HR.out, if_pos (by omega), e]
      clear h32 hr e
      generalize (bs.getD k []).length = m at *
      go_wp2_with (go_at_call 43; refine HIk.out.mono ?_; rintro e w1 ⟨rfl, hw1⟩; rw [hw1]; clear hw1)
      go_ret
      exact ⟨by rw [<- HRk.out]; rfl, rfl⟩
  · obtain rfl : N = k := by omega
    have HRk : Hid (-1 = R) := by show _ = _; rw [<- HR.out, if_neg (by have := HJl.out; omega)]
    go_wp2_with fail
    go_ret
    exact ⟨by rw [<- HRk.out]; rfl, rfl⟩
end Go.Proofs.Ythialdipnhggnaa
