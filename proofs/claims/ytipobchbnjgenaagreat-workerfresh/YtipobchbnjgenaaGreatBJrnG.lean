import Derived.Test.YtipobchbnjgenaaGreatBDskD
import Derived.Test.YtipobchbnjgenaaGreatBByG
set_option linter.unusedVariables false
set_option linter.unusedSimpArgs false
set_option maxRecDepth 100000
set_option maxHeartbeats 4000000
namespace Go.Proofs.YtipobchbnjgenaaGreat
open Go.RowKit Fld
def Bz (w : World) (v : Value) (bs : List (List Int)) : Prop :=
 ∃ ao cap, v = .slice ao bs.length cap ∧ bs.length <= cap ∧ bs.length <= 5864062014634 ∧
  (bs ≠ [] -> ∃ b off, ao = some ⟨b, off, none⟩ ∧ b < w.heap.size ∧ ∀ i, i < bs.length -> ∃ u, w.cell? ⟨b, off + i, none⟩ = some u ∧ Rb w u (bs.getD i []))
theorem Bz.spell {w : World} {v : Value} {bs : List (List Int)} (h : Bz w v bs) : ∃ ao cap, v = .slice ao bs.length cap ∧ bs.length <= cap := by
 obtain ⟨ao, cap, h1, h2, _⟩ := h; exact ⟨ao, cap, h1, h2⟩
theorem Bz.len {w : World} {v : Value} {bs : List (List Int)} (h : Bz w v bs) : bs.length <= 5864062014634 := by obtain ⟨_, _, _, _, h, _⟩ := h; exact h
theorem Bz.at_ {w : World} {a : Option Addr} {n c : Nat} {bs : List (List Int)} (h : Bz w (.slice a n c) bs) {k : Nat} (hk : k < bs.length) : ∃ b off u, a = some ⟨b, off, none⟩ ∧ b < w.heap.size ∧ w.cell? ⟨b, off + k, none⟩ = some u ∧ Rb w u (bs.getD k []) := by
 obtain ⟨ao, cap, h1, h2, h3, h4⟩ := h
 injection h1 with h1 _ _
 subst h1
 obtain ⟨b, off, h5, h6, h7⟩ := h4 (by intro e; rw [e] at hk; simp at hk)
 obtain ⟨u, h8, h9⟩ := h7 k hk
 exact ⟨b, off, u, h5, h6, h8, h9⟩
theorem bl_bz {w : World} {v : Value} {bs : List (List Int)} (h : Bl w v bs) (hl : bs.length <= 5864062014634) : Bz w v bs := by
 obtain ⟨ao, cap, h1, h2, h3⟩ := h
 refine ⟨ao, cap, h1, h2, hl, fun hne => ?_⟩
 have hp : 0 < bs.length := List.length_pos_iff.2 hne
 obtain ⟨r, u, e1, e2, e3, e4⟩ := h3 0 bs[0] (List.getElem?_eq_getElem hp)
 refine ⟨r, 0, e1, e2, fun i hi => ?_⟩
 obtain ⟨r', u', f1, f2, f3, f4⟩ := h3 i bs[i] (List.getElem?_eq_getElem hi)
 rw [e1] at f1
 injection f1 with f1
 injection f1 with f1 _ _
 subst f1
 refine ⟨u', by rw [Nat.zero_add]; exact f3, ?_⟩
 rw [List.getD_eq_getElem?_getD, List.getElem?_eq_getElem hi]; exact f4
def j32 : List (List Int) -> Nat
 | [] => 0
 | b :: bs => if b.length = 32 then j32 bs + 1 else 0
theorem j32_le : ∀ bs : List (List Int), j32 bs <= bs.length
 | [] => Nat.le_refl _
 | b :: bs => by
  unfold j32
  have := j32_le bs
  rw [List.length_cons]
  split <;> omega
theorem j32_lt : ∀ {bs : List (List Int)} {k : Nat}, k < j32 bs -> (bs.getD k []).length = 32
 | [], k, h => by simp [j32] at h
 | b :: bs, 0, h => by
  unfold j32 at h
  split at h
  · assumption
  · omega
 | b :: bs, k + 1, h => by
  unfold j32 at h
  split at h
  · rw [List.getD_cons_succ]; exact j32_lt (by omega)
  · omega
theorem j32_at : ∀ {bs : List (List Int)}, j32 bs < bs.length -> (bs.getD (j32 bs) []).length ≠ 32
 | [], h => by simp at h
 | b :: bs, h => by
  unfold j32 at h ⊢
  split
  · rename_i h1
    rw [if_pos h1] at h
    rw [List.getD_cons_succ]
    exact j32_at (by rw [List.length_cons] at h; omega)
  · simpa using ‹_›
def jn32 (bs : List (List Int)) : List Int := (bs.take (j32 bs)).flatten
theorem take_flat (bs : List (List Int)) {k : Nat} (hk : k < bs.length) : (bs.take (k + 1)).flatten = (bs.take k).flatten ++ bs.getD k [] := by
 rw [List.take_add_one, List.flatten_append, List.getElem?_eq_getElem hk, List.getD_eq_getElem?_getD, List.getElem?_eq_getElem hk]
 simp
theorem flat32_len {bs : List (List Int)} : ∀ {k : Nat}, k <= j32 bs -> (bs.take k).flatten.length = 32 * k
 | 0, _ => by simp
 | k + 1, h => by
  have := j32_le bs
  rw [take_flat bs (by omega), List.length_append, flat32_len (by omega), j32_lt (by omega)]; omega
theorem jn32_len (bs : List (List Int)) : (jn32 bs).length = 32 * j32 bs := flat32_len (Nat.le_refl _)
theorem flat_by {bs : List (List Int)} (h : ∀ b ∈ bs, By b) : By bs.flatten := fun x hx => by
 obtain ⟨b, hb, hx⟩ := List.mem_flatten.1 hx
 exact h b hb x hx
theorem Bz.by {w : World} {v : Value} {bs : List (List Int)} (h : Bz w v bs) : ∀ b ∈ bs, By b := fun b hb => by
 obtain ⟨i, hi, rfl⟩ := List.mem_iff_getElem.1 hb
 obtain ⟨a, c, rfl, _⟩ := h.spell
 obtain ⟨_, _, u, _, _, _, hr⟩ := h.at_ hi
 have := hr.by
 rw [List.getD_eq_getElem?_getD, List.getElem?_eq_getElem hi] at this; exact this
theorem jn32_by {bs : List (List Int)} (h : ∀ b ∈ bs, By b) : By (jn32 bs) := flat_by (fun b hb => h b (List.mem_of_mem_take hb))
theorem j32_all : ∀ {bs : List (List Int)}, (∀ b ∈ bs, b.length = 32) -> j32 bs = bs.length
 | [], _ => rfl
 | b :: bs, h => by
  unfold j32
  rw [if_pos (h b List.mem_cons_self), j32_all (fun x hx => h x (List.mem_cons_of_mem _ hx))]; rfl
theorem jn32_all {bs : List (List Int)} (h : ∀ b ∈ bs, b.length = 32) : jn32 bs = bs.flatten := by unfold jn32; rw [j32_all h, List.take_length]
theorem gIsNone (v : Value) (bs : List Int) (w : World) (h : Rb w v bs) : Calls Tryz.prog 123 #[v] w fun e w' => e = .returned (.bool (!decide (bs.length = 32))) ∧ w' = w := by
 obtain ⟨a, c, rfl, _⟩ := h.spell
 clear h
 generalize bs.length = n
 by_cases h32 : n = 32
 · subst h32
   go_enter Tryz.func123, Tryz.ntmps123
   go_wp2
   go_ret
   exact ⟨rfl, rfl⟩
 · have h1 : ((n : Int) != 32) = true := bne_iff_ne.2 (by omega)
   rw [decide_eq_false h32]
   go_enter Tryz.func123, Tryz.ntmps123
   go_wp2
   go_ret
   exact ⟨rfl, rfl⟩
theorem gIndexJ (v : Value) (bs : List (List Int)) (w : World) (h : Bz w v bs) :
 Calls Tryz.prog 124 #[v, .func (.func 123) #[] #[]] w fun e w' => e = .returned (.int .i64 (if j32 bs < bs.length then (j32 bs : Int) else -1)) ∧ w' = w := by
 have hl := h.len
 have HZ := hide h
 obtain ⟨ao, c, rfl, _⟩ := h.spell
 have HI := hide (fun u (b : List Int) (hu : Rb w u b) => gIsNone u b w hu)
 have HJl := hide (j32_le bs)
 have HJt := hide (fun k (h : k < j32 bs) => j32_lt h)
 have HJa := hide (fun (h : j32 bs < bs.length) => j32_at h)
 obtain ⟨N, HN⟩ : ∃ N, Hid (bs.length = N) := ⟨_, rfl⟩
 obtain ⟨J, HJ⟩ : ∃ J, Hid (j32 bs = J) := ⟨_, rfl⟩
 rw [HN.out] at hl HZ HJl HJa ⊢
 rw [HJ.out] at HJl HJt HJa ⊢
 clear h
 obtain ⟨R, HR⟩ : ∃ R, Hid ((if J < N then (J : Int) else -1) = R) := ⟨_, rfl⟩
 rw [HR.out]
 go_enter Tryz.func124, Tryz.ntmps124
 go_wp2_with fail
 go_loop [8] (fun v8 => ∃ k : Nat, k <= N ∧ v8 = .int .i64 k ∧ k <= J) (fun v8 => N - (intOf v8).toNat)
 case atStart => exact ⟨0, Nat.zero_le _, rfl, Nat.zero_le _⟩
 case round =>
  obtain ⟨k, hk, rfl, hkJ⟩ := hrel
  by_cases hkn : k < N
  · obtain ⟨b, off, u, rfl, hb, c1, hr⟩ := HZ.out.at_ (k := k) (by rw [HN.out]; exact hkn)
    have HIk := hide (HI.out u _ hr)
    obtain ⟨a3, c3, rfl, _⟩ := hr.spell
    have k0 : (0 : Int) <= (k : Int) := Int.natCast_nonneg _
    have k1 : (k : Int) < (N : Int) := by omega
    by_cases h32 : (bs.getD k []).length = 32
    · have hkJ2 : k + 1 <= J := by
       apply Classical.byContradiction
       intro hc
       have e : k = J := by omega
       exact HJa.out (by omega) (by rw [<- e]; exact h32)
      rw [decide_eq_true h32, h32] at HIk
      rw [h32] at c1
      clear h32 hr
      go_wp2_with (go_at_call 123; refine HIk.out.mono ?_; rintro e w1 ⟨rfl, hw1⟩; rw [hw1]; clear hw1)
      go_round
      case rel => exact ⟨k + 1, by omega, by go_num, hkJ2⟩
      case measure => simp [intOf]; omega
    · have e : k = J := by
       apply Classical.byContradiction
       intro hc
       exact h32 (HJt.out k (by omega))
      rw [decide_eq_false h32] at HIk
      have HRk : Hid ((k : Int) = R) := by show _ = _; rw [<- HR.out, if_pos (by omega), e]
      clear h32 hr e
      generalize (bs.getD k []).length = m at *
      go_wp2_with (go_at_call 123; refine HIk.out.mono ?_; rintro e w1 ⟨rfl, hw1⟩; rw [hw1]; clear hw1)
      go_ret
      exact ⟨by rw [<- HRk.out]; rfl, rfl⟩
  · obtain rfl : N = k := by omega
    have HRk : Hid (-1 = R) := by show _ = _; rw [<- HR.out, if_neg (by have := HJl.out; omega)]
    go_wp2_with fail
    go_ret
    exact ⟨by rw [<- HRk.out]; rfl, rfl⟩
theorem Grow_B0 (w : World) : Calls Tryz.prog 162 #[.slice none 0 0, .int .i64 0] w fun e w' => e = .returned (.slice none 0 0) ∧ w' = w := by
 go_enter Tryz.func162, Tryz.ntmps162
 go_wp2
 go_ret
 exact ⟨rfl, rfl⟩
theorem Grow_Bz (k : Nat) (w : World) (hk : k <= 281000000000000) : Calls Tryz.prog 162 #[.slice none 0 0, .int .i64 (k : Int)] w fun e w' => ∃ a cap, e = .returned (.slice a 0 cap) ∧ w'.ownsRow w.heap.size 5 1 (.slice a 0 cap) 0 (valb []) ∧ Below w.heap.size w w' := by
 rcases Nat.eq_zero_or_pos k with h0 | h0
 · subst h0
   exact (Grow_B0 w).mono fun e w' ⟨h1, h2⟩ => ⟨none, 0, h1, by rw [h2]; exact World.ownsRow_nil _ _ _ _, by rw [h2]; exact Below.refl _ _⟩
 · exact (Grow_B k w h0 hk).mono fun e w' ⟨cap, h1, h2, h3⟩ => ⟨_, cap, h1, h2, h3⟩
theorem gConcat (a : Option Addr) (c n : Nat) (bs : List (List Int)) (w : World) (h : Bz w (.slice a n c) bs) (hn : bs.length = n) (h32 : ∀ k, k < n -> (bs.getD k []).length = 32) :
 Calls Tryz.prog 125 #[.slice a n c] w fun e w' => ∃ v', e = .returned v' ∧ w'.ownsRow w.heap.size 5 1 v' (32 * n) (valb bs.flatten) ∧ Below w.heap.size w w' := by
 have hl := h.len
 rw [hn] at hl
 have HG := hide (fun W => Grow_Bz (32 * n) W (by omega))
 have HZ := hide h
 have HN := hide hn
 have H32 := hide h32
 have HT := hide (fun k (hk : k < n) => take_flat bs (by rw [hn]; exact hk))
 clear h hn h32
 go_enter Tryz.func125, Tryz.ntmps125
 go_wp2_with fail
 go_loop [3, 11] (fun v3 v11 => ∃ k : Nat, k <= n ∧ v3 = .int .i64 ((32 * k : Nat) : Int) ∧ v11 = .int .i64 (k : Int)) (fun _ v11 => n - (intOf v11).toNat)
 case atStart => exact ⟨0, Nat.zero_le _, rfl, rfl⟩
 case round =>
  obtain ⟨k, hk, rfl, rfl⟩ := hrel
  by_cases hkn : k < n
  · obtain ⟨b, off, u, rfl, hb, c1, hr⟩ := HZ.out.at_ (k := k) (by rw [HN.out]; exact hkn)
    have h3 := H32.out k hkn
    obtain ⟨a3, c3, rfl, _⟩ := hr.spell
    rw [h3] at c1
    have k0 : (0 : Int) <= (k : Int) := Int.natCast_nonneg _
    have k1 : (k : Int) < (n : Int) := by omega
    have HE : Hid (((32 * k : Nat) : Int) + 32 = ((32 * (k + 1) : Nat) : Int)) := by show _ = _; omega
    have q0 : ¬ (((32 * k : Nat) : Int) + 32 < 0) := by omega
    have qb : ((32 * k : Nat) : Int) + 32 <= 187649984468288 := by omega
    have qa : (0 : Int) <= ((32 * k : Nat) : Int) := by omega
    clear h3 hr HG HT
    generalize ((32 * k : Nat) : Int) = s at *
    go_wp2_with fail
    go_round
    case rel => exact ⟨k + 1, by omega, by rw [HE.out], by go_num⟩
    case measure => simp [intOf]; omega
  · obtain rfl : n = k := by omega
    obtain ⟨S, HS⟩ : ∃ S, Hid (((32 * n : Nat) : Int) = S) := ⟨_, rfl⟩
    rw [HS.out] at HG ⊢
    go_wp2_with (go_at_call 162; refine (HG.out _).mono ?_; rintro e w1 ⟨a1, cp, rfl, hO, hB⟩)
    have HO := hide hO
    have HB := hide hB
    clear hO hB
    go_loopw [6, 27] (fun v6 v27 wr => ∃ (k : Nat) (a6 : Option Addr) (c6 : Nat), k <= n ∧ v6 = .slice a6 (32 * k) c6 ∧ v27 = .int .i64 (k : Int) ∧ Hid (wr.ownsRow w.heap.size 5 1 (.slice a6 (32 * k) c6) (32 * k) (valb (bs.take k).flatten)) ∧ Below w.heap.size w wr) (fun _ v27 _ => n - (intOf v27).toNat)
    case atStart => exact ⟨0, a1, cp, Nat.zero_le _, rfl, rfl, by simpa using HO, HB.out⟩
    case round =>
     obtain ⟨k, a6, c6, hk, rfl, rfl, HR, hBw⟩ := hrel
     by_cases hkn : k < n
     · obtain ⟨b, off, u, rfl, hb, c1, hr⟩ := HZ.out.at_ (k := k) (by rw [HN.out]; exact hkn)
       have h3 := H32.out k hkn
       have c2 := (hBw.cell (p := ⟨b, off + k, none⟩) hb).trans c1
       have hrw := hr.below hBw
       obtain ⟨a3, c3, rfl, _⟩ := hr.spell
       rw [h3] at c2 hrw
       obtain ⟨v8, w8, hr8, ho8, hg8⟩ := app_big (m := 32) (c := c3) (a := a3) HR.out hrw (by omega) (by have := hBw.size; omega)
       have e32 : 32 * k + 32 = 32 * (k + 1) := by omega
       rw [<- HT.out k hkn, e32] at ho8
       obtain ⟨a8, c8, hv8⟩ := own_form ho8
       subst hv8
       have HO8 := hide ho8
       have HB8 := hide (hBw.grown hg8 (by have := hBw.size; omega) (own_base HR.out))
       have k0 : (0 : Int) <= (k : Int) := Int.natCast_nonneg _
       have k1 : (k : Int) < (n : Int) := by omega
       clear h3 hr hrw c1 ho8 hg8 HG HT hBw HR e32
       generalize 32 * k = m at *
       go_wp2_with (at_builtin; refine app_runO rfl _ _ _ rfl _ _ _ rfl rfl hr8 ?_)
       go_roundw
       case rel => exact ⟨k + 1, a8, c8, by omega, rfl, by go_num, HO8, HB8.out⟩
       case measure => simp [intOf]; omega
     · obtain rfl : k = n := by omega
       have hr := HR.out
       rw [show bs.take k = bs by rw [<- HN.out, List.take_length]] at hr
       have HR2 := hide hr
       clear hr HR
       obtain ⟨m, HM⟩ : ∃ m, Hid (32 * k = m) := ⟨_, rfl⟩
       rw [HM.out] at HR2 ⊢
       go_wp2_with fail
       go_ret
       have hm := HM.out
       subst hm
       exact ⟨_, rfl, HR2.out, hBw⟩
theorem headZ {n c k : Nat} {a : Option Addr} (hk : k <= c) (W : World) : (Instr.slice 35 (.slice a n c) none (some (.int .i64 (k : Int))) (some (.int .i64 (k : Int)))).run Tryz.prog W = .ok (.slice a k k) W := by
 obtain ⟨i0, hi0, hz0, hz1, hz2⟩ := info_parts bsl_info
 have h2 : (k : Int) <= (c : Int) := by omega
 by_cases h0 : k = 0
 · subst h0
   simp [Instr.slice, Instr.sliceBounds, Instr.sliceBound, asIntOf, run_underlying Tryz.underlying35, sizeOf, typeInfo, hi0, hz1]
 · simp [Instr.slice, Instr.sliceBounds, Instr.sliceBound, asIntOf, run_underlying Tryz.underlying35, sizeOf, typeInfo, hi0, hz1, h2, h0, hk, Addr.add]
theorem Bz.head {w : World} {a : Option Addr} {n c : Nat} {bs : List (List Int)} (h : Bz w (.slice a n c) bs) {k : Nat} (hk : k <= bs.length) : Bz w (.slice a k k) (bs.take k) := by
 obtain ⟨ao, cap, h1, h2, h3, h4⟩ := h
 injection h1 with h1 _ _
 subst h1
 have hl : (bs.take k).length = k := by rw [List.length_take]; omega
 refine ⟨a, k, by rw [hl], by omega, by omega, fun hne => ?_⟩
 obtain ⟨b, off, h5, h6, h7⟩ := h4 (by intro e; rw [e] at hne; simp at hne)
 refine ⟨b, off, h5, h6, fun i hi => ?_⟩
 obtain ⟨u, h8, h9⟩ := h7 i (by omega)
 refine ⟨u, h8, ?_⟩
 rw [List.getD_eq_getElem?_getD, List.getElem?_take_of_lt (by omega), <- List.getD_eq_getElem?_getD]; exact h9
theorem gJoined (v : Value) (bs : List (List Int)) (w : World) (h : Bz w v bs) :
 Calls Tryz.prog 99 #[v] w fun e w' => ∃ v', e = .returned v' ∧ w'.ownsRow w.heap.size 5 1 v' (32 * j32 bs) (valb (jn32 bs)) ∧ Below w.heap.size w w' := by
 have HI := hide (gIndexJ v bs w h)
 have hJ := j32_le bs
 obtain ⟨a, c, rfl, hc⟩ := h.spell
 have HC : Hid (Calls Tryz.prog 125 #[.slice a (j32 bs) (if j32 bs < bs.length then j32 bs else c)] w fun e w' => ∃ v', e = .returned v' ∧ w'.ownsRow w.heap.size 5 1 v' (32 * j32 bs) (valb (jn32 bs)) ∧ Below w.heap.size w w') := by
  by_cases hlt : j32 bs < bs.length
  · rw [if_pos hlt]
    refine gConcat a (j32 bs) (j32 bs) (bs.take (j32 bs)) w (h.head hJ) (by rw [List.length_take]; omega) (fun k hk => ?_)
    rw [List.getD_eq_getElem?_getD, List.getElem?_take_of_lt hk, <- List.getD_eq_getElem?_getD]; exact j32_lt hk
  · rw [if_neg hlt]
    have e : j32 bs = bs.length := by omega
    have e2 : jn32 bs = bs.flatten := by unfold jn32; rw [e, List.take_length]
    rw [e2, e]
    exact gConcat a c bs.length bs w h rfl (fun k hk => j32_lt (by omega))
 clear h
 have hb := hide hJ
 by_cases hlt : j32 bs < bs.length
 · rw [if_pos hlt] at HI HC
   have hs := fun W => headZ (n := bs.length) (a := a) (Nat.le_trans hJ hc) W
   clear hlt hJ hc
   generalize j32 bs = J at *
   generalize bs.length = n at *
   generalize jn32 bs = zs at *
   have j0 : (0 : Int) <= (J : Int) := Int.natCast_nonneg _
   go_enter Tryz.func99, Tryz.ntmps99
   go_wp2_with (first
    | (go_at_call 124; refine HI.out.mono ?_; rintro e w1 ⟨rfl, hw1⟩; rw [hw1]; clear hw1)
    | (go_at_call 125; refine HC.out.mono ?_; rintro e w2 ⟨v2, rfl, ho2, hb2⟩; obtain ⟨a2, c2, hv2⟩ := own_form ho2; subst hv2))
   go_ret
   exact ⟨_, rfl, ho2, hb2⟩
 · rw [if_neg hlt] at HI HC
   have e : bs.length = j32 bs := by omega
   rw [e]
   rw [e] at HI
   clear hlt hJ hc e
   generalize j32 bs = J at *
   generalize jn32 bs = zs at *
   go_enter Tryz.func99, Tryz.ntmps99
   go_wp2_with (first
    | (go_at_call 124; refine HI.out.mono ?_; rintro e w1 ⟨rfl, hw1⟩; rw [hw1]; clear hw1)
    | (go_at_call 125; refine HC.out.mono ?_; rintro e w2 ⟨v2, rfl, ho2, hb2⟩; obtain ⟨a2, c2, hv2⟩ := own_form ho2; subst hv2))
   go_ret
   exact ⟨_, rfl, ho2, hb2⟩
def nzB (x : Int) : Bool := decide (x ≠ 0)
theorem gNz (x : Int) (w : World) : Calls Tryz.prog 167 #[.int .u8 x] w fun e w' => e = .returned (.bool (nzB x)) ∧ w' = w := by
 unfold nzB
 by_cases h : x = 0
 · subst h
   go_enter Tryz.func167, Tryz.ntmps167
   go_wp2
   go_ret
   exact ⟨rfl, rfl⟩
 · rw [decide_eq_true h]
   have h1 : (x != 0) = true := bne_iff_ne.2 h
   clear h
   go_enter Tryz.func167, Tryz.ntmps167
   go_wp2
   go_ret
   exact ⟨rfl, rfl⟩
theorem gIndexN (v : Value) (bs : List Int) (w : World) (h : Rb w v bs) :
 Calls Tryz.prog 189 #[v, .func (.func 167) #[] #[]] w fun e w' => ∃ k : Int, e = .returned (.int .i64 k) ∧ decide (0 <= k) = bs.any nzB ∧ (-1 <= k ∧ k <= 187649984500000) ∧ w' = w := by
 have hl := h.len
 have HZ := hide h
 obtain ⟨ao, c, rfl, _⟩ := h.spell
 have HO := hide (fun x => gNz x w)
 obtain ⟨N, HN⟩ : ∃ N, Hid (bs.length = N) := ⟨_, rfl⟩
 rw [HN.out] at hl HZ ⊢
 clear h
 go_enter Tryz.func189, Tryz.ntmps189
 go_wp2_with fail
 go_loop [8] (fun v8 => ∃ k : Nat, k <= N ∧ v8 = .int .i64 k ∧ Hid (∀ j, j < k -> nzB (bs.getD j 0) = false)) (fun v8 => N - (intOf v8).toNat)
 case atStart => exact ⟨0, Nat.zero_le _, rfl, fun j h => by omega⟩
 case round =>
  obtain ⟨k, hk, rfl, HE⟩ := hrel
  by_cases hkn : k < N
  · obtain ⟨b, off, cc, e, _, _⟩ := HZ.out.form (by rw [HN.out]; omega)
    have e1 : ao = some ⟨b, off, none⟩ := by injection e
    subst e1
    obtain ⟨_, c1, _, _⟩ := HZ.out.at_ (k := k) (by rw [HN.out]; exact hkn)
    have HOk := hide (HO.out (bs.getD k 0))
    have k0 : (0 : Int) <= (k : Int) := Int.natCast_nonneg _
    have k1 : (k : Int) < (N : Int) := by omega
    have HM : Hid (bs.getD k 0 ∈ bs) := by
     show _ ∈ _
     rw [List.getD_eq_getElem?_getD, List.getElem?_eq_getElem (by rw [HN.out]; exact hkn)]
     exact List.getElem_mem _
    clear HO e
    cases hq : nzB (bs.getD k 0) with
    | true =>
     rw [hq] at HOk
     have HA : Hid (bs.any nzB = true) := List.any_eq_true.2 ⟨_, HM.out, hq⟩
     clear hq HE HM
     generalize bs.getD k 0 = x at *
     go_wp2_with (go_at_call 167; refine HOk.out.mono ?_; rintro e w1 ⟨rfl, hw1⟩; rw [hw1]; clear hw1)
     go_ret
     exact ⟨_, rfl, by rw [HA.out]; exact decide_eq_true k0, by omega, rfl⟩
    | false =>
     rw [hq] at HOk
     have HE2 : Hid (∀ j, j < k + 1 -> nzB (bs.getD j 0) = false) := fun j hj => by
      rcases Nat.lt_or_eq_of_le (Nat.le_of_lt_succ hj) with c | c
      · exact HE.out j c
      · rw [c]; exact hq
     clear hq HE HM
     generalize bs.getD k 0 = x at *
     go_wp2_with (go_at_call 167; refine HOk.out.mono ?_; rintro e w1 ⟨rfl, hw1⟩; rw [hw1]; clear hw1)
     go_round
     case rel => exact ⟨k + 1, by omega, by go_num, HE2⟩
     case measure => simp [intOf]; omega
  · obtain rfl : N = k := by omega
    have HA : Hid (bs.any nzB = false) := List.any_eq_false.2 (fun x hx => by
     obtain ⟨j, hj, rfl⟩ := List.mem_iff_getElem.1 hx
     have := HE.out j (by rw [<- HN.out]; exact hj)
     rw [List.getD_eq_getElem?_getD, List.getElem?_eq_getElem hj] at this
     have t : nzB bs[j] = false := this
     rw [t]; decide)
    clear HE HO
    go_wp2_with fail
    go_ret
    exact ⟨_, rfl, by rw [HA.out]; rfl, by omega, rfl⟩
theorem gContainsN (v : Value) (bs : List Int) (w : World) (h : Rb w v bs) : Calls Tryz.prog 166 #[v, .func (.func 167) #[] #[]] w fun e w' => e = .returned (.bool (bs.any nzB)) ∧ w' = w := by
 have HI := hide (gIndexN v bs w h)
 obtain ⟨ao, c, rfl, _⟩ := h.spell
 clear h
 generalize bs.any nzB = B at *
 generalize bs.length = n at *
 go_enter Tryz.func166, Tryz.ntmps166
 go_wp2_with (go_at_call 189; refine HI.out.mono ?_; rintro e w1 ⟨k, rfl, hB, hk, hw1⟩; rw [hw1]; clear hw1)
 go_ret
 exact ⟨rfl, rfl⟩
theorem gNoughts (v : Value) (bs : List Int) (w : World) (h : Rb w v bs) : Calls Tryz.prog 128 #[v] w fun e w' => e = .returned (.bool (!(bs.any nzB))) ∧ w' = w := by
 have HI := hide (gContainsN v bs w h)
 obtain ⟨ao, c, rfl, _⟩ := h.spell
 clear h
 generalize bs.any nzB = B at *
 generalize bs.length = n at *
 go_enter Tryz.func128, Tryz.ntmps128
 go_wp2_with (go_at_call 166; refine HI.out.mono ?_; rintro e w1 ⟨rfl, hw1⟩; rw [hw1]; clear hw1)
 go_ret
 exact ⟨rfl, rfl⟩
theorem jrH_case {zs : List Int} (hy : By zs) (hm : zs.length % 32 = 0) : (usE sum8 zs ≠ 0 ∧ jrH sum8 zs = false) ∨ (usE sum8 zs = 0 ∧ (usL sum8 zs).length = usN zs ∧ 12 + usN zs <= 32 * jrN (usN zs) ∧ 32 * jrN (usN zs) <= zs.length ∧ usN zs <= 1048576 ∧ jrH sum8 zs = !(((zs.drop (12 + usN zs)).take (32 * jrN (usN zs) - (12 + usN zs))).any nzB)) := by
 by_cases h : usE sum8 zs = 0
 · obtain ⟨h1, h2, h3, _⟩ := usE_zero h
   have hl := usL_len h
   have hs := (seal_unseal hy h).2
   have hn := jrN_bd (usN zs)
   have hle : 32 * jrN (usN zs) <= zs.length := by omega
   refine .inr ⟨h, hl, hn.1, hle, h2, ?_⟩
   unfold jrH
   rw [h, decide_eq_true rfl, Bool.true_and]
   have e : zs.take (32 * jrN (usN zs)) = zs.take (12 + usN zs) ++ (zs.drop (12 + usN zs)).take (32 * jrN (usN zs) - (12 + usN zs)) := by
    rw [<- List.take_add]; congr 1; omega
   have e2 : jrB sum8 (usL sum8 zs) = zs.take (12 + usN zs) ++ List.replicate (32 * jrN (usN zs) - (12 + usN zs)) 0 := by
    unfold jrB; rw [hs, hl]
   rw [e, e2]
   have hlen : ((zs.drop (12 + usN zs)).take (32 * jrN (usN zs) - (12 + usN zs))).length = 32 * jrN (usN zs) - (12 + usN zs) := by rw [List.length_take, List.length_drop]; omega
   generalize (zs.drop (12 + usN zs)).take (32 * jrN (usN zs) - (12 + usN zs)) = ys at *
   rw [<- hlen]
   cases hb : ys.any nzB with
   | true =>
    rw [List.any_eq_true] at hb
    obtain ⟨x, hx, hx2⟩ := hb
    refine decide_eq_false (fun hc => ?_)
    have hc := List.append_cancel_left hc
    rw [<- hc] at hx
    have := List.eq_of_mem_replicate hx
    rw [this] at hx2
    exact absurd hx2 (by decide)
   | false =>
    rw [List.any_eq_false] at hb
    refine decide_eq_true ?_
    congr 1
    symm
    rw [List.eq_replicate_iff]
    refine ⟨rfl, fun b hb2 => ?_⟩
    have := hb b hb2
    unfold nzB at this
    simpa using this
 · refine .inl ⟨h, ?_⟩
   unfold jrH
   rw [decide_eq_false h]; rfl
def GivesNx (N : Nat) (args : Array Value) (w : World) (zs : List Int) : Prop :=
 Calls Tryz.prog N args w fun r w' => ∃ v', r = .returned (.tuple #[v', .int .i64 (if jrH sum8 zs = true then ((jrN (usN zs) : Nat) : Int) else 0)]) ∧ (jrH sum8 zs = true -> w'.ownsRow w.heap.size 5 1 v' (usL sum8 zs).length (valb (usL sum8 zs))) ∧ (∃ a n c, v' = .slice a n c) ∧ Below w.heap.size w w'
theorem gNext (p : Nat) (v : Value) (zs : List Int) (w : World) (h : Ub w p v zs) (hm : zs.length % 32 = 0) : GivesNx 100 #[v] w zs := by
 unfold GivesNx
 have HU := hide (wUnseal v zs w h.1)
 unfold GivesU at HU
 have hzl := h.1.len
 rcases jrH_case h.1.by hm with ⟨he, hj⟩ | ⟨he, hl, hn1, hn2, hn3, hj⟩
 · rw [hj, if_neg (by decide)]
   obtain ⟨e1, e2⟩ := us_no (S := sum8) rfl he
   rw [e1, e2] at HU
   obtain ⟨a, c, rfl, _⟩ := h.1.spell
   have h1 : (usE sum8 zs != 0) = true := bne_iff_ne.2 he
   clear h he e1 e2 hj hm
   generalize usE sum8 zs = er at *
   go_enter Tryz.func100, Tryz.ntmps100
   go_wp2_with (go_at_call 126; refine HU.out.mono ?_; rintro e w1 ⟨v1, rfl, ho1, hb1⟩)
   go_ret2
   exact ⟨_, rfl, (fun h => by cases h), ⟨_, _, _, rfl⟩, hb1⟩
 · obtain ⟨e1, e2⟩ := us_yes he
   rw [he, e2] at HU
   rw [hj]
   obtain ⟨a2, hu2, hs2⟩ := cut3u h (k := 12 + usN zs) (m := 32 * jrN (usN zs)) hn1 hn2
   have HN := hide (fun W (hB : Below w.heap.size w W) => gNoughts _ _ W (hu2.1.below hB))
   have HS := hide (fun W x (hx : Rb W x (usL sum8 zs)) => gSize23 x (usL sum8 zs) W hx)
   have HB : Hid (By (usL sum8 zs)) := by
    show By _
    rw [e1]; exact (h.1.by.drop _).take _
   have HL := hide (show (usL sum8 zs).length <= 140737488500000 by omega)
   have HLn := hide hl
   rw [hl] at HU HS
   have HE : Hid (((jrN (usN zs) : Nat) : Int) * 32 = ((32 * jrN (usN zs) : Nat) : Int)) := by show _ = _; omega
   obtain ⟨a, c, rfl, _⟩ := h.1.spell
   have hr := hs2
   have q1 : 32 * jrN (usN zs) <= 2000000 := by have := jrN_bd (usN zs); omega
   clear h he e1 e2 hj hm hl hu2 hs2 hn1 hn2 hn3
   generalize ((zs.drop (12 + usN zs)).take (32 * jrN (usN zs) - (12 + usN zs))).any nzB = B at *
   obtain ⟨M, HM⟩ : ∃ M, Hid (((32 * jrN (usN zs) : Nat) : Int) = M) := ⟨_, rfl⟩
   rw [HM.out] at hr HE
   have hE := HE.out
   have qM : 0 <= M ∧ M <= 2000000 := by rw [<- HM.out]; omega
   obtain ⟨m, Hm⟩ : ∃ m, Hid (32 * jrN (usN zs) - (12 + usN zs) = m) := ⟨_, rfl⟩
   rw [Hm.out] at hr HN
   obtain ⟨J, HJ⟩ : ∃ J, Hid (jrN (usN zs) = J) := ⟨_, rfl⟩
   rw [HJ.out] at hE HS ⊢
   have qJ : (J : Int) <= 100000 := by omega
   obtain ⟨z, Hz⟩ : ∃ z, Hid (12 + usN zs = z) := ⟨_, rfl⟩
   rw [Hz.out] at hr HU
   generalize usL sum8 zs = us at *
   generalize usN zs = un at *
   generalize zs.length = zn at *
   cases B with
   | true =>
    rw [if_neg (by decide)]
    go_enter Tryz.func100, Tryz.ntmps100
    go_wp2_with (first
     | (go_at_call 126; refine HU.out.mono ?_; rintro e w1 ⟨v1, rfl, ho1, hb1⟩; have HS1 := hide (HS.out _ _ (rb_of_own ho1 HB.out HL.out)); have HN1 := hide (HN.out _ hb1); obtain ⟨a1, c1, hv1⟩ := own_form ho1; subst hv1)
     | (go_at_call 127; refine HS1.out.mono ?_; rintro e w2 ⟨rfl, hw2⟩; rw [hw2]; clear hw2)
     | (go_at_call 128; refine HN1.out.mono ?_; rintro e w3 ⟨rfl, hw3⟩; rw [hw3]; clear hw3))
    go_ret2
    exact ⟨_, rfl, (fun h => by cases h), ⟨_, _, _, rfl⟩, hb1⟩
   | false =>
    rw [if_pos (by decide)]
    go_enter Tryz.func100, Tryz.ntmps100
    go_wp2_with (first
     | (go_at_call 126; refine HU.out.mono ?_; rintro e w1 ⟨v1, rfl, ho1, hb1⟩; have HO1 := hide ho1; have HS1 := hide (HS.out _ _ (rb_of_own ho1 HB.out HL.out)); have HN1 := hide (HN.out _ hb1); obtain ⟨a1, c1, hv1⟩ := own_form ho1; subst hv1)
     | (go_at_call 127; refine HS1.out.mono ?_; rintro e w2 ⟨rfl, hw2⟩; rw [hw2]; clear hw2)
     | (go_at_call 128; refine HN1.out.mono ?_; rintro e w3 ⟨rfl, hw3⟩; rw [hw3]; clear hw3))
    go_ret2
    exact ⟨_, rfl, (fun _ => by rw [HLn.out]; exact HO1.out), ⟨_, _, _, rfl⟩, hb1⟩
def jrA (zs : List Int) : List (List Int) := jrR sum8 zs.length zs
theorem jrR_succ (S : List Int -> Int) (k : Nat) (zs : List Int) : jrR S (k + 1) zs = if jrH S zs = true then usL S zs :: jrR S k (zs.drop (32 * jrN (usN zs))) else [] := rfl
theorem jrA_step (zs : List Int) : jrA zs = if jrH sum8 zs = true then usL sum8 zs :: jrA (zs.drop (32 * jrN (usN zs))) else [] := by
 unfold jrA
 cases hz : zs.length with
 | zero =>
  have e : zs = [] := List.length_eq_zero_iff.1 hz
  subst e
  rfl
 | succ n =>
  have hb := jrN_bd (usN zs)
  rw [jrR_succ]
  by_cases h : jrH sum8 zs = true
  · rw [if_pos h, if_pos h]
    congr 1
    exact jr_fuel n (zs.drop (32 * jrN (usN zs))).length (zs.drop (32 * jrN (usN zs))) (by rw [List.length_drop]; omega) (by omega)
  · rw [if_neg h, if_neg h]
theorem jrA_len (zs : List Int) : 32 * jrW (jrA zs) <= zs.length := (jr_what zs.length zs).2.1
structure Rl (w : World) (base : Nat) (v : Value) (es : List Be) : Prop where
 row : w.ownsRow base 30 1 v es.length (es.map (·.2))
 each : ∀ e ∈ es, w.ownsRow base 5 1 e.2 e.1.length (valb e.1)
 by_ : ∀ e ∈ es, By e.1 ∧ e.1.length <= 1048576
theorem rl_nil (w : World) (base : Nat) : Rl w base (.slice none 0 0) [] := ⟨World.ownsRow_nil _ _ _ _, fun e he => (by cases he), fun e he => (by cases he)⟩
theorem Rl.below {w w' : World} {base : Nat} {v : Value} {es : List Be} (h : Rl w base v es) (hb : Below w.heap.size w w') : Rl w' base v es := ⟨own_below h.row hb, fun e he => own_below (h.each e he) hb, h.by_⟩
theorem Rl.mono {w : World} {base base' : Nat} {v : Value} {es : List Be} (h : Rl w base v es) (hb : base' <= base) : Rl w base' v es := ⟨own_mono h.row hb, fun e he => own_mono (h.each e he) hb, h.by_⟩
theorem Rl.push {w : World} {base c2 : Nat} {a2 : Option Addr} {es : List Be} (h : Rl w base (.slice a2 es.length c2) es) (hb : base <= w.heap.size) {rv : Value} {r : List Int} (hr : w.ownsRow base 5 1 rv r.length (valb r)) (hy : By r ∧ r.length <= 1048576) (hl : es.length + 1 <= 5864062014700) :
 ∃ (au : Option Addr) (cu : Nat) (W : World), (Builtin.append_ #[35, 35] 35 #[.slice a2 es.length c2, .slice (some ⟨w.heap.size, 0, none⟩) 1 1]).run Tryz.prog (w.alloc (.cells #[rv] 30)) = .ok (.slice au (es.length + 1) cu) W ∧ Rl W base (.slice au (es.length + 1) cu) (es ++ [(r, rv)]) ∧ Kq (fun j => j < w.heap.size ∧ (Value.slice a2 es.length c2).ownBlock ≠ some j) w W ∧ Below base w W := by
 have hB := alloc_below w (.cells #[rv] 30)
 have h3 := h.below hB
 have hnew := World.news_of_block (cs := #[rv]) (t := 30) (fr := (0, 0)) (heap_alloc_new w (.cells #[rv] 30))
 obtain ⟨ra, rc, rfl, _⟩ := own_spellO hr
 obtain ⟨au, cu, W, hrun, ho, hg, hat⟩ := app_rw (m := 1) (c' := 1) (b := some ⟨w.heap.size, 0, none⟩) (ys := [.slice ra r.length rc]) h3.row rfl (.inr ⟨_, rfl, hnew⟩) (fun x hx => by rw [List.mem_singleton.1 hx]; rfl) hl (by have := hB.size; omega)
 have keep : ∀ u n xs, (w.alloc (.cells #[.slice ra r.length rc] 30)).ownsRow base 5 1 u n xs -> W.ownsRow base 5 1 u n xs := fun u n xs hO =>
  own_kept hO hg (fun j hj e2 => own_kindO hO h3.row (by decide) j hj e2)
 refine ⟨au, cu, W, hrun, ⟨?_, fun e he => ?_, fun e he => ?_⟩, ?_, ?_⟩
 · rw [List.length_append, List.map_append]; exact ho
 · rcases List.mem_append.1 he with h1 | h1
   · exact keep _ _ _ (h3.each e h1)
   · rw [List.mem_singleton.1 h1]
     exact keep _ _ _ (own_below hr hB)
 · rcases List.mem_append.1 he with h1 | h1
   · exact h.by_ e h1
   · rw [List.mem_singleton.1 h1]; exact hy
 · exact (Below.kq hB (fun j hj => hj.1)).trans (grown_kq hg (fun j hj => Nat.lt_of_lt_of_le hj.1 hB.size) (fun k e hk => hk.2 e))
 · exact (hB.mono hb).grown hg (by have := hB.size; omega) (fun k hk => by
    rcases h.row.2 with ⟨e, _⟩ | ⟨g, cap, cur, e, hbg, _⟩
    · rw [e] at hk; simp [Value.ownBlock] at hk
    · rw [e] at hk; simp [Value.ownBlock] at hk; omega)
def Uz (w : World) (jv v : Value) (bs : List Int) : Prop := ∃ p, Ub w p v bs ∧ (bs ≠ [] -> jv.ownBlock = some p)
theorem Uz.kept {S : Nat -> Prop} {w w' : World} {jv v : Value} {bs : List Int} (h : Uz w jv v bs) (k : Kq S w w') (hs : ∀ j, jv.ownBlock = some j -> S j) : Uz w' jv v bs := by
 obtain ⟨p, hu, hp⟩ := h
 by_cases hne : bs = []
 · subst hne
   obtain ⟨⟨ao, cap, rfl, h1, h2, h3⟩, h4⟩ := hu
   exact ⟨p, ⟨⟨ao, cap, rfl, h1, h2, fun h => absurd rfl h⟩, h4⟩, hp⟩
 · exact ⟨p, hu.kept k (hs p (hp hne)), hp⟩
theorem Uz.below {w w' : World} {jv v : Value} {bs : List Int} (h : Uz w jv v bs) (k : Below w.heap.size w w') (hs : ∀ j, jv.ownBlock = some j -> j < w.heap.size) : Uz w' jv v bs :=
 h.kept (Below.kq k (S := fun j => j < w.heap.size) (fun j hj => hj)) hs
theorem Uz.rest {w : World} {jv : Value} {a : Option Addr} {n c : Nat} {bs : List Int} (h : Uz w jv (.slice a n c) bs) {k : Nat} (hk : k <= bs.length) : ∃ a', Uz w jv (.slice a' (bs.length - k) (bs.length - k)) (bs.drop k) ∧ ∀ W : World, (Instr.slice 30 (.slice a n c) (some (.int .i64 (k : Int))) (some (.int .i64 (bs.length : Int))) (some (.int .i64 (bs.length : Int)))).run Tryz.prog W = .ok (.slice a' (bs.length - k) (bs.length - k)) W := by
 obtain ⟨p, hu, hp⟩ := h
 obtain ⟨a', h1, h2⟩ := cut3u hu hk (Nat.le_refl _)
 rw [List.take_of_length_le (by rw [List.length_drop]; exact Nat.le_refl _)] at h1
 exact ⟨a', ⟨p, h1, fun hne => hp (by intro e; rw [e] at hne; simp at hne)⟩, h2⟩
theorem uz_own {w : World} {lo n c : Nat} {a : Option Addr} {zs : List Int} (h : w.ownsRow lo 5 1 (.slice a n c) n (valb zs)) (hy : By zs) (hl : zs.length <= 187649984500000) : Uz w (.slice a n c) (.slice a n c) zs := by
 refine ⟨((Value.slice a n c).ownBlock).getD 0, ub_of_own h hy hl (fun q hq => by rw [hq]; rfl), fun hne => ?_⟩
 rcases h.2 with ⟨e, h0⟩ | ⟨g, cap, cur, e, _⟩
 · have h1 := h.1
   rw [valb_length, h0] at h1
   exact absurd (List.length_eq_zero_iff.1 (by omega)) hne
 · rw [e]; rfl
structure Rdg (w : World) (jv : Value) (zs0 : List Int) (v2 v4 : Value) (es : List Be) (zs : List Int) (W : World) : Prop where
 rl : Rl W w.heap.size v2 es
 jn : W.ownsRow w.heap.size 5 1 jv zs0.length (valb zs0)
 lf : Uz W jv v4 zs
 low : Below w.heap.size w W
 all : jrA zs0 = es.map (·.1) ++ jrA zs
 cnt : 32 * jrW (es.map (·.1)) + zs.length = zs0.length
theorem Rdg.below {w W W' : World} {jv v2 v4 : Value} {zs0 zs : List Int} {es : List Be} (h : Rdg w jv zs0 v2 v4 es zs W) (hb : Below W.heap.size W W') : Rdg w jv zs0 v2 v4 es zs W' :=
 ⟨h.rl.below hb, own_below h.jn hb, h.lf.below hb (fun j hj => (h.jn.lt j hj).2), Below.next h.low hb, h.all, h.cnt⟩
theorem Rdg.many {w W : World} {jv v2 v4 : Value} {zs0 zs : List Int} {es : List Be} (h : Rdg w jv zs0 v2 v4 es zs W) : 32 * es.length + zs.length <= zs0.length := by
 have := jrW_ge (es.map (·.1))
 have := h.cnt
 rw [List.length_map] at *
 omega
theorem Rdg.next {w w5 w6 : World} {jv v4 v4' rv : Value} {a2 au : Option Addr} {c2 cu J : Nat} {zs0 zs us : List Int} {es : List Be} {n : Nat} (hn : es.length = n) (h : Rdg w jv zs0 (.slice a2 n c2) v4 es zs w5) (hl : Rl w6 w.heap.size (.slice au (n + 1) cu) (es ++ [(us, rv)])) (hk : Kq (fun j => j < w5.heap.size ∧ (Value.slice a2 n c2).ownBlock ≠ some j) w5 w6) (hb : Below w.heap.size w5 w6) (hu : Uz w5 jv v4' (zs.drop (32 * J)))
 (hall : jrA zs0 = (es.map (·.1) ++ [us]) ++ jrA (zs.drop (32 * J))) (hw : jrW (es.map (·.1) ++ [us]) = jrW (es.map (·.1)) + J) (hJ : 32 * J <= zs.length) : Rdg w jv zs0 (.slice au (n + 1) cu) v4' (es ++ [(us, rv)]) (zs.drop (32 * J)) w6 := by
 have key : ∀ j, jv.ownBlock = some j -> j < w5.heap.size ∧ (Value.slice a2 n c2).ownBlock ≠ some j := fun j hj => ⟨(h.jn.lt j hj).2, own_kindO h.jn h.rl.row (by decide) j hj⟩
 refine ⟨hl, hk.own h.jn key, hu.kept hk key, h.low.trans hb, by rw [List.map_append]; exact hall, ?_⟩
 rw [List.map_append]
 show 32 * jrW (es.map (·.1) ++ [us]) + (zs.drop (32 * J)).length = zs0.length
 rw [hw, List.length_drop]
 have := h.cnt
 omega
def GivesRd (N : Nat) (args : Array Value) (w : World) (zs : List Int) : Prop :=
 Calls Tryz.prog N args w fun r w' => ∃ v' es, r = .returned (.tuple #[v', .int .i64 ((jrW (jrA zs) : Nat) : Int)]) ∧ Rl w' w.heap.size v' es ∧ es.map (·.1) = jrA zs ∧ Below w.heap.size w w'
theorem gRecords (v : Value) (bs : List (List Int)) (w : World) (h : Bz w v bs) : GivesRd 75 #[v] w (jn32 bs) := by
 unfold GivesRd
 have HJ := hide (gJoined v bs w h)
 have hy := jn32_by h.by
 have hlen : (jn32 bs).length <= 187649984468288 := by rw [jn32_len]; have := j32_le bs; have := h.len; omega
 have hm32 : (jn32 bs).length % 32 = 0 := by rw [jn32_len]; omega
 rw [<- jn32_len] at HJ
 obtain ⟨a, c, rfl, hc⟩ := h.spell
 clear h hc
 generalize jn32 bs = zs0 at *
 generalize bs.length = n at *
 have HY := hide hy
 have HL := hide hlen
 have HM := hide hm32
 have HNx := hide (fun p x zs W (hu : Ub W p x zs) (hm : zs.length % 32 = 0) => gNext p x zs W hu hm)
 unfold GivesNx at HNx
 clear hy hlen hm32
 go_enter Tryz.func75, Tryz.ntmps75
 go_wp2_with (go_at_call 99; refine HJ.out.mono ?_; rintro e w1 ⟨jv, rfl, hO, hB⟩; have HO := hide hO; have HB := hide hB; obtain ⟨ja, jc, hjv⟩ := own_form hO; subst hjv; clear hO hB)
 go_loopw [2, 3, 4] (fun v2 v3 v4 wr => ∃ (es : List Be) (zs : List Int) (a2 a4 : Option Addr) (c2 c4 : Nat), v2 = .slice a2 es.length c2 ∧ v3 = .int .i64 ((jrW (es.map (·.1)) : Nat) : Int) ∧ v4 = .slice a4 zs.length c4 ∧ Hid (Rdg w (.slice ja zs0.length jc) zs0 (.slice a2 es.length c2) (.slice a4 zs.length c4) es zs wr)) (fun _ _ v4 _ => match v4 with | .slice _ m _ => m | _ => 0)
 case atStart =>
  exact ⟨[], zs0, none, ja, 0, jc, rfl, rfl, rfl, ⟨rl_nil _ _, HO.out, uz_own HO.out HY.out (by have := HL.out; omega), HB.out, rfl, by simp [jrW]⟩⟩
 case round =>
  obtain ⟨es, zs, a2, a4, c2, c4, rfl, rfl, rfl, HR⟩ := hrel
  have hcnt := HR.out.cnt
  have hmany := HR.out.many
  have hmod : zs.length % 32 = 0 := by have := HM.out; omega
  have hL := HL.out
  obtain ⟨p, hu, hp⟩ := HR.out.lf
  have hyz := hu.1.by
  have hnx := HNx.out p _ zs wr hu hmod
  have hall := HR.out.all
  rw [jrA_step zs] at hall
  by_cases hj : jrH sum8 zs = true
  · obtain ⟨i1, i2, i3, i4, i5⟩ := jrH_iff hj
    rw [hj, if_pos rfl] at hnx
    rw [if_pos hj] at hall
    have hJb := jrN_bd (usN zs)
    have HNk := hide hnx
    have HYr : Hid (By (usL sum8 zs) ∧ (usL sum8 zs).length <= 1048576) := by
     refine ⟨?_, i3⟩
     rw [(us_yes i1).1]; exact (hyz.drop _).take _
    have hwr := HR.out.low.size
    have HPush := hide (fun W (hb : Below wr.heap.size wr W) rv (hr : W.ownsRow wr.heap.size 5 1 rv (usL sum8 zs).length (valb (usL sum8 zs))) => (HR.out.below hb).rl.push (Nat.le_trans hwr hb.size) (own_mono hr hwr) HYr.out (by omega))
    have HRs := hide (fun W (hb : Below wr.heap.size wr W) => (HR.out.below hb).lf.rest (k := 32 * jrN (usN zs)) i5)
    have HRb := hide (fun W (hb : Below wr.heap.size wr W) => HR.out.below hb)
    have HAll : Hid (jrA zs0 = (es.map (·.1) ++ [usL sum8 zs]) ++ jrA (zs.drop (32 * jrN (usN zs)))) := by show _ = _; rw [hall]; simp
    have HLn : Hid ((zs.drop (32 * jrN (usN zs))).length = zs.length - 32 * jrN (usN zs)) := List.length_drop
    have HW : Hid (jrW (es.map (·.1) ++ [usL sum8 zs]) = jrW (es.map (·.1)) + jrN (usN zs)) := by show _ = _; rw [jrW_app]; simp only [jrW, i2]; omega
    clear hnx hj hall i1 i2 i3 i4 hmod hu hp hyz HNx
    obtain ⟨J, HJj⟩ : ∃ J, Hid (jrN (usN zs) = J) := ⟨_, rfl⟩
    obtain ⟨us, HUs⟩ : ∃ us, Hid (usL sum8 zs = us) := ⟨_, rfl⟩
    rw [HJj.out] at HNk HRs HLn HAll HW hJb i5
    rw [HUs.out] at HNk HPush HAll HW
    have e32 : (J : Int) * 32 = ((32 * J : Nat) : Int) := by omega
    obtain ⟨M, HMm⟩ : ∃ M, Hid (((32 * J : Nat) : Int) = M) := ⟨_, rfl⟩
    rw [HMm.out] at e32
    have qJ : 1 <= (J : Int) ∧ (J : Int) <= 6000000000000 := by omega
    have q0 : ((J : Int) == 0) = false := beq_eq_false_iff_ne.2 (by omega)
    have qM : 0 <= M ∧ M <= (zs.length : Int) := by rw [<- HMm.out]; omega
    have qW : ((jrW (es.map (·.1)) : Nat) : Int) <= 6000000000000 := by omega
    have qW0 : 0 <= ((jrW (es.map (·.1)) : Nat) : Int) := by omega
    have HWs : Hid (((jrW (es.map (·.1)) : Nat) : Int) + (J : Int) = ((jrW (es.map (·.1) ++ [us]) : Nat) : Int)) := by show _ = _; rw [HW.out]; omega
    obtain ⟨en, HEn⟩ : ∃ en, Hid (es.length = en) := ⟨_, rfl⟩
    generalize hzn : zs.length = zn at *
    rw [HEn.out] at HPush HRb hmany ⊢
    generalize ((jrW (es.map (·.1)) : Nat) : Int) = wh at *
    have HI5 := hide i5
    have HZn := hide hzn
    have HJ1 : Hid (1 <= J) := by show 1 <= J; omega
    clear hJb hcnt hzn i5
    go_wp2_with (first
     | (go_at_call 100; refine HNk.out.mono ?_; rintro e w5 ⟨rv, rfl, ho5, ⟨ra, rn, rc, hrv⟩, hb5⟩; subst hrv; obtain ⟨au, cu, w6, hr6, hl6, hk6, hb6⟩ := HPush.out _ hb5 _ (ho5 (by first | trivial | rfl)); obtain ⟨a7, hu7, hs7⟩ := HRs.out _ hb5; have HR5 := hide (HRb.out _ hb5); have HL6 := hide hl6; have HK6 := hide hk6; have HB6 := hide hb6; have HU7 := hide hu7; rw [HMm.out] at hs7; clear ho5 hl6 hk6 hb6 hu7)
     | (at_builtin; refine app_runO rfl _ _ _ rfl _ _ _ rfl rfl hr6 ?_))
    have HR8 := Rdg.next HEn.out HR5.out HL6.out HK6.out HB6.out HU7.out HAll.out HW.out (by have := HI5.out; have := HZn.out; omega)
    have HR9 := hide HR8
    have hlen1 : (es ++ [(us, Value.slice ra rn rc)]).length = en + 1 := by rw [List.length_append, HEn.out]; rfl
    clear hr6 hs7 HR8 HNk HPush HRs HRb
    go_roundw
    case rel =>
     refine ⟨es ++ [(us, .slice ra rn rc)], zs.drop (32 * J), au, a7, cu, zn - 32 * J, by rw [hlen1], by rw [HWs.out, List.map_append]; rfl, by rw [HLn.out], ?_⟩
     rw [hlen1, HLn.out]
     exact HR9.out
    case measure => simp; have := HI5.out; have := HJ1.out; omega
  · have hj2 : jrH sum8 zs = false := by simpa using hj
    rw [hj2, if_neg (by decide)] at hnx
    rw [if_neg hj, List.append_nil] at hall
    have HNk := hide hnx
    have HAll := hide hall
    clear hnx hj hj2 hall hmod hu hp hyz HNx hcnt hmany
    go_wp2_with (go_at_call 100; refine HNk.out.mono ?_; rintro e w5 ⟨rv, rfl, _, ⟨ra, rn, rc, hrv⟩, hb5⟩; subst hrv)
    go_ret2
    have HR5 := HR.out.below hb5
    exact ⟨_, es, by rw [HAll.out]; rfl, HR5.rl, HAll.out.symm, HR5.low⟩
end Go.Proofs.YtipobchbnjgenaaGreat
