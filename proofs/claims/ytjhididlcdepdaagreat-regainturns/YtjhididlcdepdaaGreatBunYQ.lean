import Derived.Test.YtjhididlcdepdaaGreatBunYP
import Derived.Test.YtjhididlcdepdaaGreatBunQ
import Derived.Lib.AppendZeros
import Derived.LoopN
set_option linter.unusedVariables false
set_option linter.unusedSimpArgs false
set_option maxRecDepth 100000
set_option maxHeartbeats 4000000
namespace Go.Proofs.YtjhididlcdepdaaGreat
open Go.RowKit Fld
def Ow (w : World) (g n : Nat) (ys : List Int) : Prop := w.ownsRow g 64 1 (.slice (some ⟨g, 0, none⟩) n n) n (vals ys)
theorem Ow.cell {wr : World} {g n : Nat} {ys : List Int} (h : Ow wr g n ys) (k : Nat) (hk : k < n) : wr.cell? ⟨g, k, none⟩ = some (.int .u64 (ys.getD k 0)) := by
 have := own_len h
 rw [h.cellAt k (by omega), vals_at ys k (by omega)]
theorem Ow.free {wr : World} {g n : Nat} {ys : List Int} (h : Ow wr g n ys) (k : Nat) : wr.frozen? ⟨g, k, none⟩ = false := h.frozenAt k
theorem Ow.set {wr : World} {g n : Nat} {ys : List Int} (h : Ow wr g n ys) (k : Nat) (x : Int) : Ow (wr.setCell ⟨g, k, none⟩ (.int .u64 x)) g n (ys.set k x) := by
 have := (h.stored k (.int .u64 x)).1
 rw [vals_set] at this; exact this
theorem Ow.below {w w' : World} {g n : Nat} {ys : List Int} (h : Ow w g n ys) (hb : Below w.heap.size w w') : Ow w' g n ys := own_below h hb
theorem Ow.made {W w1 : World} {n : Nat} (h : w1.ownsRow W.heap.size 64 1 (.slice (some ⟨W.heap.size, 0, none⟩) n n) n (madeCells (Value.int .u64 0).cells (n * 1)).toList) : Ow w1 W.heap.size n (List.replicate n 0) := own_made h
theorem fill_step {F : Nat → Int} {ys : List Int} {k : Nat} {x : Int} (h : ∀ j, j < k → co ys j = F j) (hk : k < ys.length) (hx : F k = x) : ∀ j, j < k + 1 → co (ys.set k x) j = F j := by
 intro j hj
 rw [co_set _ _ _ _ hk]
 by_cases he : j = k
 · rw [if_pos he, he, hx]
 · rw [if_neg he]; exact h j (by omega)
theorem fill_end {F : Nat → Int} {ys : List Int} {n : Nat} (h : ∀ j, j < n → co ys j = F j) (hl : ys.length = n) : ys = mk n F :=
 ext_co (by rw [mk_len, hl]) (fun i hi => by rw [co_mk, if_pos (by omega), h i (by omega)])
def slpL (f : Int) (xs : List Int) : List Int := if chk f [xs] = 0 then slp (pOf f) xs else []
theorem chk_one {f : Int} {xs : List Int} (h : chk f [xs] = 0) : ∃ p wd, Fi f p wd ∧ allIn p xs = true ∧ xs.length ≤ 2048 := by
 obtain ⟨h1, h2⟩ := chk_zero h (List.mem_singleton.2 rfl)
 obtain ⟨p, wd, hf, hi⟩ := inF_fi h1
 exact ⟨p, wd, hf, hi, h2⟩
theorem Fi.big {f p : Int} {wd : Bool} (h : Fi f p wd) : 2048 < p := by rcases h with ⟨_, rfl, _⟩ | ⟨_, rfl, _⟩ <;> decide
theorem slp_tr {p : Int} {wd : Bool} (hm : Md p wd) (hbig : 2048 < p) {xs : List Int} (hx : Els p xs) (hl : xs.length ≤ 2048) : mk ((tr xs).length - 1) (fun i => (((i : Int) + 1) * co (tr xs) (i + 1)) % p) = slp p xs := by
 have hp : 0 < p := by omega
 have hl2 := tr_len xs
 have e1 : mk ((tr xs).length - 1) (fun i => (((i : Int) + 1) * co (tr xs) (i + 1)) % p) = slp p (tr xs) := by
  refine (tr_full ?_).symm
  by_cases h2 : (tr xs).length ≤ 1
  · left
    apply List.eq_nil_of_length_eq_zero
    rw [mk_len]; omega
  · right
    rw [mk_len, co_mk, if_pos (by omega)]
    have hne : tr xs ≠ [] := by intro h; rw [h] at h2; simp at h2
    have hlast := tr_last xs hne
    rw [← co_tr] at hlast
    have hel : El p (co (tr xs) ((tr xs).length - 1)) := (hx.tr hp).co hp _
    intro hc
    have e : (tr xs).length - 1 - 1 + 1 = (tr xs).length - 1 := by omega
    have e' : (((tr xs).length - 1 - 1 : Nat) : Int) + 1 = (((tr xs).length - 1 : Nat) : Int) := by omega
    rw [e, e'] at hc
    have h0 := no_div hm _ _ (by rw [hel.mod]; exact hlast) hc
    rw [Int.emod_eq_of_lt (by omega) (by omega)] at h0
    omega
 rw [e1]
 have h1 := is_slp hp (tr xs)
 have h2 := is_slp hp xs
 exact (h1.al (fun i => by unfold sf; rw [co_tr])).only hp h2
theorem val_two {f p c t : Int} {wd : Bool} (h : Fi f p wd) (hc : El p c) (ht : El p t) : er f [0, c] [t] = 0 ∧ valE f t [0, c] = (t * c) % p := by
 have hp := h.pos
 have he : er f [0, c] [t] = 0 := er_yes h (allIn_of (fun x hx => by
  have : x = 0 ∨ x = c := by simpa using hx
  rcases this with rfl | rfl
  · exact ⟨by decide, hp⟩
  · exact hc)) (allIn_of (fun x hx => by rw [List.mem_singleton.1 hx]; exact ht)) (by simp) (by simp)
 refine ⟨he, ?_⟩
 unfold valE
 rw [if_pos he, pOf_eq h]
 show (0 + t * (c + t * 0)) % p = _
 rw [Int.mul_zero, Int.add_zero, Int.zero_add]
theorem rwT (w : World) (a b : Int) (ha : 0 ≤ a ∧ a ≤ 18446744073709551615) (hb : 0 ≤ b ∧ b ≤ 18446744073709551615) (T : TypeId) :
 Rw (w.alloc (.cells #[.int .u64 a, .int .u64 b] T)) (.slice (some ⟨w.heap.size, 0, none⟩) 2 2) [a, b] :=
 ⟨⟨_, _, rfl, by simp, fun x hx => by
  have : x = a ∨ x = b := by simpa using hx
  rcases this with rfl | rfl <;> assumption, fun _ => ⟨w.heap.size, 0, rfl, by simp, fun i hi => by
  obtain rfl | rfl : i = 0 ∨ i = 1 := by simp at hi; omega
  · simp [go_sem]
  · simp [go_sem]⟩⟩, _, _, _, rfl, Nat.le_refl _⟩
theorem eval_two (w : World) (T : TypeId) {f p c t : Int} {wd : Bool} (h : Fi f p wd) (hc : El p c) (ht : El p t) :
 Calls Tryz.prog 76 #[.int .u8 f, .slice (some ⟨w.heap.size, 0, none⟩) 2 2, .int .u64 t] (w.alloc (.cells #[.int .u64 0, .int .u64 c] T)) fun e w' => e = .returned (.tuple #[.int .u64 ((t * c) % p), .int .i64 0]) ∧ Below w.heap.size w w' := by
 have := pEval_any f t _ [0, c] _ (elWord ht h.top) (rwT w 0 c (by decide) (elWord hc h.top) T)
 rw [(val_two h hc ht).1, (val_two h hc ht).2] at this
 exact this.mono fun e w' ⟨he, hb⟩ => ⟨he, below_one hb⟩
theorem tSlope_any (f : Int) (v : Value) (xs : List Int) (w : World) (h1 : Rw w v xs) : Gives 143 #[.int .u8 f, v] w (slpL f xs) (chk f [xs]) := by
 have hk := hide (fun T => tcheck_one f v xs w h1 T)
 obtain ⟨a1, c1, rfl, _⟩ := h1.spell
 by_cases he : chk f [xs] = 0
 · obtain ⟨p, wd, h, i1, m1⟩ := chk_one he
   obtain ⟨i0, hi0, hz0, hz1, hz2⟩ := info_parts u64_info
   have hx := els_of i1 h1.words
   have HT := hide (fun W (hb : Below w.heap.size w W) => Trim_at _ xs W (h1.below hb))
   have HL : Hid (slpL f xs = mk ((tr xs).length - 1) (fun i => (((i : Int) + 1) * co (tr xs) (i + 1)) % p)) := by
    show _ = _
    unfold slpL
    rw [if_pos he, pOf_eq h, slp_tr h.md h.big hx m1]
   rw [HL.out, he]
   rw [he] at hk
   have hl2 := tr_len xs
   have hP := hide ((hx.tr h.pos))
   have HE := hide (fun W c t (hc : El p c) (ht : El p t) T => eval_two W T h hc ht)
   have hbig := h.big
   have hp0 := h.pos
   have htop := h.top
   clear h1 h i1 he hx HL
   generalize tr xs = P at *
   obtain ⟨n, HN⟩ : ∃ n, Hid (P.length = n) := ⟨_, rfl⟩
   rw [HN.out] at HT hl2 ⊢
   obtain ⟨F, HF⟩ : ∃ F : Nat → Int, Hid ((fun i : Nat => (((i : Int) + 1) * co P (i + 1)) % p) = F) := ⟨_, rfl⟩
   rw [HF.out]
   rcases Nat.eq_zero_or_pos n with hn0 | hn0
   · subst hn0
     show Calls _ _ _ _ _
     go_enter Tryz.func143, Tryz.ntmps143
     go_wp2_with (first
      | (go_at_call 141; refine (hk.out _).mono ?_; rintro e w1 ⟨rfl, hb⟩)
      | (go_at_call 173; refine (HT.out _ hb).mono ?_; rintro e w2 ⟨g, rfl, hO, hb2⟩; have hB2 := Below.next hb hb2; have hbs2 := hB2.size)
      | (at_make; refine wpList_make_full _ rfl _ _ 36 rfl w2.heap.size 64 i0 (.int .u64 0) 1 Tryz.underlying36 hi0 hz0 hz1 .i64 .i64 _ _ 0 rfl rfl (by omega) (by omega) (by rw [hz2]; omega) (by unfold maxLen; omega) (Nat.le_refl _) ?_; intro w3 hown hgrow))
     have HO := hide (own_mono (Ow.made hown) hbs2)
     have hB3 := Below.next hB2 (below_grown_none hgrow)
     clear hown hgrow
     go_loopw [25] (fun vi wr => vi = .int .i64 0 ∧ Below w.heap.size w wr ∧ Hid (wr.ownsRow w.heap.size 64 1 (.slice (some ⟨w2.heap.size, 0, none⟩) 0 0) 0 (vals []))) (fun vi _ => 0)
     case atStart => exact ⟨rfl, hB3, HO⟩
     case round =>
      clear HO hB3
      obtain ⟨rfl, hB3, HO⟩ := hrel
      go_wp2
      go_ret2
      exact ⟨_, rfl, HO.out, hB3⟩
   · obtain ⟨m, rfl⟩ : ∃ m, n = m + 1 := ⟨n - 1, by omega⟩
     have em : m + 1 - 1 = m := by omega
     rw [em]
     have hm0 : m ≤ 2047 := by omega
     clear hn0 em
     show Calls _ _ _ _ _
     go_enter Tryz.func143, Tryz.ntmps143
     go_wp2_with (first
      | (go_at_call 141; refine (hk.out _).mono ?_; rintro e w1 ⟨rfl, hb⟩)
      | (go_at_call 173; refine (HT.out _ hb).mono ?_; rintro e w2 ⟨g, rfl, hO, hb2⟩; have hB2 := Below.next hb hb2; have hbs2 := hB2.size)
      | (at_make; refine wpList_make_full _ rfl _ _ 36 rfl w2.heap.size 64 i0 (.int .u64 0) 1 Tryz.underlying36 hi0 hz0 hz1 .i64 .i64 _ _ m rfl rfl (by omega) (by omega) (by rw [hz2]; omega) (by unfold maxLen; omega) (Nat.le_refl _) ?_; intro w3 hown hgrow))
     have HO := hide (Ow.made hown)
     have hB3 := Below.next hB2 (below_grown_none hgrow)
     have hR3 := hide (own_below hO (below_grown_none hgrow))
     have hgl := own_top hO g rfl
     have hg2 : g ≠ w2.heap.size := by omega
     have hsz := hgrow.size
     clear hown hgrow hO
     have hN := HN.out
     go_loopw [25] (fun vi wr => ∃ (k : Nat) (ys : List Int), k ≤ m ∧ vi = .int .i64 k ∧ ys.length = m ∧ Ow wr w2.heap.size m ys ∧ Hid (∀ j, j < k → co ys j = F j) ∧ Hid (wr.ownsRow w1.heap.size 64 1 (.slice (some ⟨g, 0, none⟩) (m + 1) (m + 1)) (m + 1) (vals P)) ∧ Below w.heap.size w wr ∧ w2.heap.size < wr.heap.size) (fun vi _ => m - (intOf vi).toNat)
     case atStart => exact ⟨0, _, Nat.zero_le _, rfl, by simp, HO.out, fun j hj => by omega, hR3, hB3, own_top HO.out _ rfl⟩
     case round =>
      clear HO hR3 hB3
      obtain ⟨k, ys, hk, rfl, hyl, hO, HY, HR, hB, hlt2⟩ := hrel
      by_cases hlt : k < m
      · have hc := own_cell HR.out hN (k := k + 1) (by omega)
        have hce : El p (P.getD (k + 1) 0) := hP.out.co hp0 (k + 1)
        have hte : El p ((k : Int) + 1) := ⟨by omega, by omega⟩
        have HS : Hid (F k = (((k : Int) + 1) * P.getD (k + 1) 0) % p) := by show _ = _; rw [← HF.out]; rfl
        have he := hide (fun T => HE.out wr _ _ hce hte T)
        have ho := hO.cell k hlt
        have hfr := hO.free k
        have hx0 := elWord hce htop
        have HC2 := hide (fun W (hb : Below wr.heap.size wr W) => (hO.below hb).cell k hlt)
        have HF2 := hide (fun W (hb : Below wr.heap.size wr W) => (hO.below hb).free k)
        generalize P.getD (k + 1) 0 = c at *
        obtain ⟨y, HY2⟩ : ∃ y, Hid ((((k : Int) + 1) * c) % p = y) := ⟨_, rfl⟩
        rw [HY2.out] at he HS
        have HT2 := hide (fill_step HY.out (by omega) HS.out)
        clear hce hte
        go_wp2_with (go_at_call 76; refine (he.out _).mono ?_; rintro e w4 ⟨rfl, hb4⟩; have hc2 := HC2.out _ hb4; have hf2 := HF2.out _ hb4)
        have R1 := (hO.below hb4).set k y
        have R2 := hide (own_other (g := w2.heap.size) (k := k) (u := .int .u64 y) (own_below HR.out hb4) (by simp [Value.ownBlock]; exact hg2))
        have hB4 := Below.next hB hb4
        have R3 := hB4.setCell (p := ⟨w2.heap.size, k, none⟩) hbs2 (.int .u64 y)
        have R4 := hb4.size
        go_roundw
        case rel => exact ⟨k + 1, _, by omega, by go_num, by simpa using hyl, R1, HT2, R2, R3, by simp; omega⟩
        case measure => simp [intOf]; omega
      · obtain rfl : m = k := by omega
        have HV : Hid (ys = mk m F) := fill_end HY.out hyl
        go_wp2
        go_ret2
        rw [HV.out] at hO
        exact ⟨_, rfl, by rw [mk_len]; exact own_mono hO hbs2, hB⟩
 · have ht : (chk f [xs] != 0) = true := bne_iff_ne.2 he
   have HL : Hid (slpL f xs = []) := by show _ = _; unfold slpL; rw [if_neg he]
   rw [HL.out]
   clear h1 he HL
   generalize chk f [xs] = e0 at *
   apply Gives.none
   go_enter Tryz.func143, Tryz.ntmps143
   go_wp2_with (go_at_call 141; refine (hk.out _).mono ?_; rintro e w1 ⟨rfl, hb⟩)
   go_ret2
   exact ⟨rfl, hb⟩
theorem sl_info : (Tryz.prog.info? 36).map (fun i => (i.zero, i.size, i.bytes)) = some (some (.slice none 0 0), 1, 24) := by kernel_rfl
theorem add_at (b off j : Nat) : (⟨b, off, none⟩ : Addr).add j = ⟨b, off + j, none⟩ := by unfold Addr.add; split <;> simp_all
end Go.Proofs.YtjhididlcdepdaaGreat
