import Derived.Test.YtjhididlcdepdaaGreatBunYP
import Derived.Lib.AppendZeros
set_option linter.unusedVariables false
set_option linter.unusedSimpArgs false
set_option maxRecDepth 100000
set_option maxHeartbeats 4000000
namespace Go.Proofs.YtjhididlcdepdaaGreat
open Go.RowKit Fld
def Ow (w : World) (g n : Nat) (ys : List Int) : Prop := w.ownsRow g 64 1 (.slice (some ⟨g, 0, none⟩) n n) n (vals ys)
theorem Ow.cell {wr : World} {g n : Nat} {ys : List Int} (h : Ow wr g n ys) (k : Nat) (hk : k < n) : wr.cell? ⟨g, k, none⟩ = some (.int .u64 (ys.getD k 0)) := by
 have := own_len h
 rw [h.cellAt k (by omega), vals_at ys k (by omega)]
theorem Ow.free {wr : World} {g n : Nat} {ys : List Int} (h : Ow wr g n ys) (k : Nat) : wr.frozen? ⟨g, k, none⟩ = false := h.frozenAt k
theorem Ow.set {wr : World} {g n : Nat} {ys : List Int} (h : Ow wr g n ys) (k : Nat) (x : Int) : Ow (wr.setCell ⟨g, k, none⟩ (.int .u64 x)) g n (ys.set k x) := by
 have := (h.stored k (.int .u64 x)).1
 rw [vals_set] at this; exact this
theorem Ow.below {w w' : World} {g n : Nat} {ys : List Int} (h : Ow w g n ys) (hb : Below w.heap.size w w') : Ow w' g n ys := own_below h hb
theorem Ow.made {W w1 : World} {n : Nat} (h : w1.ownsRow W.heap.size 64 1 (.slice (some ⟨W.heap.size, 0, none⟩) n n) n (madeCells (Value.int .u64 0).cells (n * 1)).toList) : Ow w1 W.heap.size n (List.replicate n 0) := own_made h
theorem fill_step {F : Nat -> Int} {ys : List Int} {k : Nat} {x : Int} (h : ∀ j, j < k -> co ys j = F j) (hk : k < ys.length) (hx : F k = x) : ∀ j, j < k + 1 -> co (ys.set k x) j = F j := by
 intro j hj
 rw [co_set _ _ _ _ hk]
 by_cases he : j = k
 · rw [if_pos he, he, hx]
 · rw [if_neg he]; exact h j (by omega)
theorem fill_end {F : Nat -> Int} {ys : List Int} {n : Nat} (h : ∀ j, j < n -> co ys j = F j) (hl : ys.length = n) : ys = mk n F :=
 ext_co (by rw [mk_len, hl]) (fun i hi => by rw [co_mk, if_pos (by omega), h i (by omega)])
def slpL (f : Int) (xs : List Int) : List Int := if chk f [xs] = 0 then slp (pOf f) xs else []
theorem chk_one {f : Int} {xs : List Int} (h : chk f [xs] = 0) : ∃ p wd, Fi f p wd ∧ allIn p xs = true ∧ xs.length <= 2048 := by
 obtain ⟨h1, h2⟩ := chk_zero h (List.mem_singleton.2 rfl)
 obtain ⟨p, wd, hf, hi⟩ := inF_fi h1
 exact ⟨p, wd, hf, hi, h2⟩
theorem Fi.big {f p : Int} {wd : Bool} (h : Fi f p wd) : 2048 < p := by rcases h with ⟨_, rfl, _⟩ | ⟨_, rfl, _⟩ <;> decide
theorem slp_tr {p : Int} {wd : Bool} (hm : Md p wd) (hbig : 2048 < p) {xs : List Int} (hx : Els p xs) (hl : xs.length <= 2048) : mk ((tr xs).length - 1) (fun i => (((i : Int) + 1) * co (tr xs) (i + 1)) % p) = slp p xs := by
 have hp : 0 < p := by omega
 have hl2 := tr_len xs
 have e1 : mk ((tr xs).length - 1) (fun i => (((i : Int) + 1) * co (tr xs) (i + 1)) % p) = slp p (tr xs) := by
  refine (tr_full ?_).symm
  by_cases h2 : (tr xs).length <= 1
  · left
    apply List.eq_nil_of_length_eq_zero
    rw [mk_len]; omega
  · right
    rw [mk_len, co_mk, if_pos (by omega)]
    have hne : tr xs ≠ [] := by intro h; rw [h] at h2; simp at h2
    have hlast := tr_last xs hne
    rw [<- co_tr] at hlast
    have hel : El p (co (tr xs) ((tr xs).length - 1)) := (hx.tr hp).co hp _
    intro hc
    have e : (tr xs).length - 1 - 1 + 1 = (tr xs).length - 1 := by omega
    have e' : (((tr xs).length - 1 - 1 : Nat) : Int) + 1 = (((tr xs).length - 1 : Nat) : Int) := by omega
    rw [e, e'] at hc
    have h0 := no_div hm _ _ (by rw [hel.mod]; exact hlast) hc
    rw [Int.emod_eq_of_lt (by omega) (by omega)] at h0
    omega
 rw [e1]
 have h1 := is_slp hp (tr xs)
 have h2 := is_slp hp xs
 exact (h1.al (fun i => by unfold sf; rw [co_tr])).only hp h2
theorem val_two {f p c t : Int} {wd : Bool} (h : Fi f p wd) (hc : El p c) (ht : El p t) : er f [0, c] [t] = 0 ∧ valE f t [0, c] = (t * c) % p := by
 have hp := h.pos
 have he : er f [0, c] [t] = 0 := er_yes h (allIn_of (fun x hx => by
  have : x = 0 ∨ x = c := by simpa using hx
  rcases this with rfl | rfl
  · exact ⟨by decide, hp⟩
  · exact hc)) (allIn_of (fun x hx => by rw [List.mem_singleton.1 hx]; exact ht)) (by simp) (by simp)
 refine ⟨he, ?_⟩
 unfold valE
 rw [if_pos he, pOf_eq h]
 show (0 + t * (c + t * 0)) % p = _
 rw [Int.mul_zero, Int.add_zero, Int.zero_add]
theorem rwT (w : World) (a b : Int) (ha : 0 <= a ∧ a <= 18446744073709551615) (hb : 0 <= b ∧ b <= 18446744073709551615) (T : TypeId) :
 Rw (w.alloc (.cells #[.int .u64 a, .int .u64 b] T)) (.slice (some ⟨w.heap.size, 0, none⟩) 2 2) [a, b] :=
 ⟨⟨_, _, rfl, by simp, fun x hx => by
  have : x = a ∨ x = b := by simpa using hx
  rcases this with rfl | rfl <;> assumption, fun _ => ⟨w.heap.size, 0, rfl, by simp, fun i hi => by
  obtain rfl | rfl : i = 0 ∨ i = 1 := by simp at hi; omega
  · simp [go_sem]
  · simp [go_sem]⟩⟩, _, _, _, rfl, Nat.le_refl _⟩
theorem eval_two (w : World) (T : TypeId) {f p c t : Int} {wd : Bool} (h : Fi f p wd) (hc : El p c) (ht : El p t) :
 Calls Tryz.prog 76 #[.int .u8 f, .slice (some ⟨w.heap.size, 0, none⟩) 2 2, .int .u64 t] (w.alloc (.cells #[.int .u64 0, .int .u64 c] T)) fun e w' => e = .returned (.tuple #[.int .u64 ((t * c) % p), .int .i64 0]) ∧ Below w.heap.size w w' := by
 have := pEval_any f t _ [0, c] _ (elWord ht h.top) (rwT w 0 c (by decide) (elWord hc h.top) T)
 rw [(val_two h hc ht).1, (val_two h hc ht).2] at this
 exact this.mono fun e w' ⟨he, hb⟩ => ⟨he, below_one hb⟩
theorem tSlope_any (f : Int) (v : Value) (xs : List Int) (w : World) (h1 : Rw w v xs) : Gives 143 #[.int .u8 f, v] w (slpL f xs) (chk f [xs]) := by
 have hk := hide (fun T => tcheck_one f v xs w h1 T)
 obtain ⟨a1, c1, rfl, _⟩ := h1.spell
 by_cases he : chk f [xs] = 0
 · obtain ⟨p, wd, h, i1, m1⟩ := chk_one he
   obtain ⟨i0, hi0, hz0, hz1, hz2⟩ := info_parts u64_info
   have hx := els_of i1 h1.words
   have HT := hide (fun W (hb : Below w.heap.size w W) => Trim_at _ xs W (h1.below hb))
   have HL : Hid (slpL f xs = mk ((tr xs).length - 1) (fun i => (((i : Int) + 1) * co (tr xs) (i + 1)) % p)) := by
    show _ = _
    unfold slpL
    rw [if_pos he, pOf_eq h, slp_tr h.md h.big hx m1]
   rw [HL.out, he]
   rw [he] at hk
   have hl2 := tr_len xs
   have hP := hide ((hx.tr h.pos))
   have HE := hide (fun W c t (hc : El p c) (ht : El p t) T => eval_two W T h hc ht)
   have hbig := h.big
   have hp0 := h.pos
   have htop := h.top
   clear h1 h i1 he hx HL
   generalize tr xs = P at *
   obtain ⟨n, HN⟩ : ∃ n, Hid (P.length = n) := ⟨_, rfl⟩
   rw [HN.out] at HT hl2 ⊢
   obtain ⟨F, HF⟩ : ∃ F : Nat -> Int, Hid ((fun i : Nat => (((i : Int) + 1) * co P (i + 1)) % p) = F) := ⟨_, rfl⟩
   rw [HF.out]
   rcases Nat.eq_zero_or_pos n with hn0 | hn0
   · subst hn0
     show Calls _ _ _ _ _
     go_enter Tryz.func143, Tryz.ntmps143
     go_wp2_with (first
      | (go_at_call 141; refine (hk.out _).mono ?_; rintro e w1 ⟨rfl, hb⟩)
      | (go_at_call 173; refine (HT.out _ hb).mono ?_; rintro e w2 ⟨g, rfl, hO, hb2⟩; have hB2 := Below.next hb hb2; have hbs2 := hB2.size)
      | (at_make; refine wpList_make_full _ rfl _ _ 36 rfl w2.heap.size 64 i0 (.int .u64 0) 1 Tryz.underlying36 hi0 hz0 hz1 .i64 .i64 _ _ 0 rfl rfl (by omega) (by omega) (by rw [hz2]; omega) (by unfold maxLen; omega) (Nat.le_refl _) ?_; intro w3 hown hgrow))
     have HO := hide (own_mono (Ow.made hown) hbs2)
     have hB3 := Below.next hB2 (below_grown_none hgrow)
     clear hown hgrow
     go_loopw [25] (fun vi wr => vi = .int .i64 0 ∧ Below w.heap.size w wr ∧ Hid (wr.ownsRow w.heap.size 64 1 (.slice (some ⟨w2.heap.size, 0, none⟩) 0 0) 0 (vals []))) (fun vi _ => 0)
     case atStart => exact ⟨rfl, hB3, HO⟩
     case round =>
      clear HO hB3
      obtain ⟨rfl, hB3, HO⟩ := hrel
      go_wp2
      go_ret2
      exact ⟨_, rfl, HO.out, hB3⟩
   · obtain ⟨m, rfl⟩ : ∃ m, n = m + 1 := ⟨n - 1, by omega⟩
     have em : m + 1 - 1 = m := by omega
     rw [em]
     have hm0 : m <= 2047 := by omega
     clear hn0 em
     show Calls _ _ _ _ _
     go_enter Tryz.func143, Tryz.ntmps143
     go_wp2_with (first
      | (go_at_call 141; refine (hk.out _).mono ?_; rintro e w1 ⟨rfl, hb⟩)
      | (go_at_call 173; refine (HT.out _ hb).mono ?_; rintro e w2 ⟨g, rfl, hO, hb2⟩; have hB2 := Below.next hb hb2; have hbs2 := hB2.size)
      | (at_make; refine wpList_make_full _ rfl _ _ 36 rfl w2.heap.size 64 i0 (.int .u64 0) 1 Tryz.underlying36 hi0 hz0 hz1 .i64 .i64 _ _ m rfl rfl (by omega) (by omega) (by rw [hz2]; omega) (by unfold maxLen; omega) (Nat.le_refl _) ?_; intro w3 hown hgrow))
     have HO := hide (Ow.made hown)
     have hB3 := Below.next hB2 (below_grown_none hgrow)
     have hR3 := hide (own_below hO (below_grown_none hgrow))
     have hgl := own_top hO g rfl
     have hg2 : g ≠ w2.heap.size := by omega
     have hsz := hgrow.size
     clear hown hgrow hO
     have hN := HN.out
     go_loopw [25] (fun vi wr => ∃ (k : Nat) (ys : List Int), k <= m ∧ vi = .int .i64 k ∧ ys.length = m ∧ Ow wr w2.heap.size m ys ∧ Hid (∀ j, j < k -> co ys j = F j) ∧ Hid (wr.ownsRow w1.heap.size 64 1 (.slice (some ⟨g, 0, none⟩) (m + 1) (m + 1)) (m + 1) (vals P)) ∧ Below w.heap.size w wr ∧ w2.heap.size < wr.heap.size) (fun vi _ => m - (intOf vi).toNat)
     case atStart => exact ⟨0, _, Nat.zero_le _, rfl, by simp, HO.out, fun j hj => by omega, hR3, hB3, own_top HO.out _ rfl⟩
     case round =>
      clear HO hR3 hB3
      obtain ⟨k, ys, hk, rfl, hyl, hO, HY, HR, hB, hlt2⟩ := hrel
      by_cases hlt : k < m
      · have hc := own_cell HR.out hN (k := k + 1) (by omega)
        have hce : El p (P.getD (k + 1) 0) := hP.out.co hp0 (k + 1)
        have hte : El p ((k : Int) + 1) := ⟨by omega, by omega⟩
        have HS : Hid (F k = (((k : Int) + 1) * P.getD (k + 1) 0) % p) := by show _ = _; rw [<- HF.out]; rfl
        have he := hide (fun T => HE.out wr _ _ hce hte T)
        have ho := hO.cell k hlt
        have hfr := hO.free k
        have hx0 := elWord hce htop
        have HC2 := hide (fun W (hb : Below wr.heap.size wr W) => (hO.below hb).cell k hlt)
        have HF2 := hide (fun W (hb : Below wr.heap.size wr W) => (hO.below hb).free k)
        generalize P.getD (k + 1) 0 = c at *
        obtain ⟨y, HY2⟩ : ∃ y, Hid ((((k : Int) + 1) * c) % p = y) := ⟨_, rfl⟩
        rw [HY2.out] at he HS
        have HT2 := hide (fill_step HY.out (by omega) HS.out)
        clear hce hte
        go_wp2_with (go_at_call 76; refine (he.out _).mono ?_; rintro e w4 ⟨rfl, hb4⟩; have hc2 := HC2.out _ hb4; have hf2 := HF2.out _ hb4)
        have R1 := (hO.below hb4).set k y
        have R2 := hide (own_other (g := w2.heap.size) (k := k) (u := .int .u64 y) (own_below HR.out hb4) (by simp [Value.ownBlock]; exact hg2))
        have hB4 := Below.next hB hb4
        have R3 := hB4.setCell (p := ⟨w2.heap.size, k, none⟩) hbs2 (.int .u64 y)
        have R4 := hb4.size
        go_roundw
        case rel => exact ⟨k + 1, _, by omega, by go_num, by simpa using hyl, R1, HT2, R2, R3, by simp; omega⟩
        case measure => simp [intOf]; omega
      · obtain rfl : m = k := by omega
        have HV : Hid (ys = mk m F) := fill_end HY.out hyl
        go_wp2
        go_ret2
        rw [HV.out] at hO
        exact ⟨_, rfl, by rw [mk_len]; exact own_mono hO hbs2, hB⟩
 · have ht : (chk f [xs] != 0) = true := bne_iff_ne.2 he
   have HL : Hid (slpL f xs = []) := by show _ = _; unfold slpL; rw [if_neg he]
   rw [HL.out]
   clear h1 he HL
   generalize chk f [xs] = e0 at *
   apply Gives.none
   go_enter Tryz.func143, Tryz.ntmps143
   go_wp2_with (go_at_call 141; refine (hk.out _).mono ?_; rintro e w1 ⟨rfl, hb⟩)
   go_ret2
   exact ⟨rfl, hb⟩
theorem sl_info : (Tryz.prog.info? 36).map (fun i => (i.zero, i.size, i.bytes)) = some (some (.slice none 0 0), 1, 24) := by kernel_rfl
theorem add_at (b off j : Nat) : (⟨b, off, none⟩ : Addr).add j = ⟨b, off + j, none⟩ := by unfold Addr.add; split <;> simp_all
theorem Lss.more {w : World} {lo hi hi' : Nat} {v : Value} {us : List Value} {xss : List (List Int)} (h : Lss w lo hi v us xss) (hh : hi <= hi') : Lss w lo hi' v us xss :=
 ⟨h.row, h.each, h.from_, fun i g hg => Nat.lt_of_lt_of_le (h.top i g hg) hh, h.up⟩
theorem Lss.here {w : World} {lo hi : Nat} {v : Value} {us : List Value} {xss : List (List Int)} (h : Lss w lo hi v us xss) : Lss w lo w.heap.size v us xss :=
 ⟨h.row, h.each, h.from_, fun i g hg => by
  by_cases hi : i < xss.length
  · exact own_top (h.each i hi) g hg
  · rw [List.getD_eq_getElem?_getD, List.getElem?_eq_none (by rw [h.len]; omega)] at hg
    simp [nov, Value.ownBlock] at hg, h.up⟩
theorem fac_is {p x : Int} {wd : Bool} (hm : Md p wd) : Is p (fac p x) (fun i => co [0, 1] i - co [x] i) := by
 have ht := fac_tm (x := x) hm
 refine ⟨ht.1, ht.2, fun i => ?_⟩
 match i with
 | 0 =>
  show sub p 0 x % p = (0 - x) % p
  unfold sub
  exact Int.emod_emod_of_dvd _ (Int.dvd_refl p)
 | 1 => rfl
 | i + 2 => rfl
theorem fac_sub {f p x : Int} {wd : Bool} (h : Fi f p wd) (hx : El p x) : er f [0, 1] [x] = 0 ∧ subL f [0, 1] [x] = fac p x := by
 have hb := h.md.bounds
 have he : er f [0, 1] [x] = 0 := er_yes h (allIn_of (fun y hy => by
  have : y = 0 ∨ y = 1 := by simpa using hy
  rcases this with rfl | rfl
  · exact ⟨by decide, by omega⟩
  · exact ⟨by decide, by omega⟩)) (allIn_of (fun y hy => by rw [List.mem_singleton.1 hy]; exact hx)) (by simp) (by simp)
 refine ⟨he, ?_⟩
 unfold subL
 rw [if_pos he, pOf_eq h]
 exact (is_sub h.pos _ _).only h.pos (fac_is h.md)
theorem fac_zl {p x : Int} {wd : Bool} (hm : Md p wd) : fac p x = zl p [x] := by
 apply zl_only hm (fac_tm hm)
 show _ = qm (pl p (fac p x)) (pl p [1])
 rw [pl_mul_one]
theorem fac_call (w : World) (T T2 : TypeId) {f p x : Int} {wd : Bool} (h : Fi f p wd) (hx : El p x) :
 Calls Tryz.prog 163 #[.int .u8 f, .slice (some ⟨w.heap.size, 0, none⟩) 2 2, .slice (some ⟨w.heap.size + 1, 0, none⟩) 1 1] ((w.alloc (.cells #[.int .u64 0, .int .u64 1] T)).alloc (.cells #[.int .u64 x] T2)) fun e w' => ∃ v', e = .returned (.tuple #[v', .int .i64 0]) ∧ w'.ownsRow w.heap.size 64 1 v' (fac p x).length (vals (fac p x)) ∧ Below w.heap.size w w' := by
 have b1 := alloc_below w (.cells #[.int .u64 0, .int .u64 1] T)
 have b2 := alloc_below (w.alloc (.cells #[.int .u64 0, .int .u64 1] T)) (.cells #[.int .u64 x] T2)
 have e2 : (w.alloc (.cells #[.int .u64 0, .int .u64 1] T)).heap.size = w.heap.size + 1 := by simp
 have r1 := (rwT w 0 1 (by decide) (by decide) T).below b2
 have r2 := rw1 (w.alloc (.cells #[.int .u64 0, .int .u64 1] T)) x (elWord hx h.top) T2
 rw [e2] at r2
 have := pSub_any f _ _ [0, 1] [x] _ r1 r2
 unfold Gives at this
 rw [(fac_sub h hx).1, (fac_sub h hx).2] at this
 exact this.mono fun e w' ⟨v', he, hO, hb⟩ => ⟨v', he, own_mono hO (by simp; omega), Below.next (Below.next b1 b2) hb⟩
def lvl (p : Int) (xs : List Int) (s : Nat) : List (List Int) := (List.range (cn xs.length s)).map (fun i => zl p (ck xs s i))
theorem lvl_len (p : Int) (xs : List Int) (s : Nat) : (lvl p xs s).length = cn xs.length s := by simp [lvl]
theorem lvl_at {p : Int} {xs : List Int} {s i : Nat} (h : i < cn xs.length s) : (lvl p xs s).getD i [] = zl p (ck xs s i) := by
 rw [List.getD_eq_getElem?_getD, List.getElem?_eq_getElem (by rw [lvl_len]; exact h)]; simp [lvl]
theorem cn_one (n : Nat) : cn n 1 = n := by unfold cn; omega
theorem ck_len (xs : List Int) (s i : Nat) : (ck xs s i).length <= xs.length := by unfold ck; rw [List.length_take, List.length_drop]; omega
theorem zl_wd {p : Int} {wd : Bool} (hm : Md p wd) (hp : p <= 18446744073709551615) (xs : List Int) (hl : xs.length <= 17592186043900) : Wd (zl p xs) := by
 have h := zl_facts hm xs
 exact wd_els h.1.1 hp (by rw [h.2.2]; omega)
theorem lvl_wd {p : Int} {wd : Bool} (hm : Md p wd) (hp : p <= 18446744073709551615) (xs : List Int) (s : Nat) (hl : xs.length <= 2048) : ∀ i, Wd ((lvl p xs s).getD i []) := fun i => by
 by_cases hi : i < cn xs.length s
 · rw [lvl_at hi]; exact zl_wd hm hp _ (by have := ck_len xs s i; omega)
 · rw [List.getD_eq_getElem?_getD, List.getElem?_eq_none (by rw [lvl_len]; omega)]; exact wd_nil
theorem lvl_one {p : Int} {wd : Bool} (hm : Md p wd) {xs : List Int} : ∀ k, k <= xs.length -> (List.range k).map (fun i => zl p (ck xs 1 i)) = (xs.take k).map (fac p) := by
 intro k
 induction k with
 | zero => intro _; rfl
 | succ k ih =>
  intro hk
  rw [List.range_succ, List.map_append, ih (by omega), List.take_succ_eq_append_getElem hk, List.map_append]
  congr 1
  show [zl p (ck xs 1 k)] = [fac p xs[k]]
  rw [ck_one xs k hk, fac_zl hm, List.getD_eq_getElem?_getD, List.getElem?_eq_getElem hk]; rfl
theorem lvl_facs {p : Int} {wd : Bool} (hm : Md p wd) (xs : List Int) : xs.map (fac p) = lvl p xs 1 := by
 have := lvl_one hm xs.length (Nat.le_refl _)
 rw [List.take_length] at this
 rw [<- this]; unfold lvl; rw [cn_one]
theorem factors_any (f p : Int) (wd : Bool) (v : Value) (xs : List Int) (w : World) (h : Fi f p wd) (h1 : Rw w v xs) (hx : Els p xs) (hl : xs.length <= 2048) :
 Calls Tryz.prog 171 #[.int .u8 f, v] w fun e w' => ∃ v' us, e = .returned v' ∧ Lss w' w.heap.size w'.heap.size v' us (lvl p xs 1) ∧ Below w.heap.size w w' := by
 obtain ⟨i0, hi0, hz0, hz1, hz2⟩ := info_parts sl_info
 have HF := hide (fun W T T2 x (hx : El p x) => fac_call W T T2 h hx)
 have HE := hide hx
 have hp0 := h.pos
 have HV := hide (lvl_facs h.md xs)
 rw [<- HV.out]
 obtain ⟨⟨ao, cap, rfl, hlen, hw, hc⟩, _⟩ := h1
 clear h hx
 go_enter Tryz.func171, Tryz.ntmps171
 go_wp2
 go_loopw [5, 12] (fun vo vi wr => ∃ (k : Nat) (us : List Value), k <= xs.length ∧ vi = .int .i64 k ∧ Hid (Lss wr w.heap.size wr.heap.size vo us ((xs.take k).map (fac p))) ∧ Below w.heap.size w wr) (fun _ vi _ => xs.length - (intOf vi).toNat)
 case atStart => exact ⟨0, [], Nat.zero_le _, rfl, Lss.nil _ _ _, Below.refl _ _⟩
 case round =>
  obtain ⟨k, us, hk, rfl, HL, hB⟩ := hrel
  by_cases hlt : k < xs.length
  · obtain ⟨b, off, rfl, hbl, hcell⟩ := hc (by intro h; rw [h] at hlt; simp at hlt)
    have hck := (hB.cell (p := ⟨b, off + k, none⟩) hbl).trans (hcell k hlt)
    have hxe : El p (xs.getD k 0) := HE.out.co hp0 k
    have HS : Hid ((xs.take k).map (fac p) ++ [fac p (xs.getD k 0)] = (xs.take (k + 1)).map (fac p)) := by
     show _ = _
     rw [List.take_succ_eq_append_getElem hlt, List.map_append, List.getD_eq_getElem?_getD, List.getElem?_eq_getElem hlt]; rfl
    have hml : ((xs.take k).map (fac p)).length = k := by simp; omega
    have hfc := hide (fun T T2 => HF.out wr T T2 _ hxe)
    generalize xs.getD k 0 = x at *
    generalize (xs.take k).map (fac p) = lss at *
    clear hcell hc hxe
    generalize hln : fac p x = fx at *
    have HLN := hide hln
    clear hln
    go_wp2_with (first
     | (go_at_call 163; refine (hfc.out _ _).mono ?_; rintro e w3 ⟨vr, rfl, hor, hb3⟩; obtain ⟨ar, cr, rfl⟩ := own_form hor; have HL3 := hide (HL.out.below hb3); have hsz3 := hb3.size; have hbs := hB.size)
     | (at_builtin; refine wpList_append_lies _ rfl _ _ _ rfl w.heap.size 36 i0 _ 1 24 Tryz.underlying26 hi0 hz0 hz1 hz2 rfl (by omega) u5 lss.length us rfl (HL3.out.row.alloc _) ⟨w3.heap.size, 0, none⟩ 1 1 [.slice ar fx.length cr] rfl rfl (World.news_of_block (cs := #[.slice ar fx.length cr]) (t := 36) (fr := (0, 0)) (heap_alloc_new w3 _)) (by simp [Value.oneCell']) (by omega) (by unfold maxLen; omega) (by omega) (by simp; omega) (w3.heap.size + 1) (by simp) ?_; intro gg cap2 w4 hown4 hgrow hat hltg))
    have hB3 := Below.next hB hb3
    have R := hide (HL3.out.push (w := w) (H := wr.heap.size) (Nat.le_refl _) hbs (Nat.le_refl _) hB3 hor hown4 hgrow)
    clear hown4 hgrow hat hltg HL HL3 hor
    rw [HS.out, hml] at R
    go_roundw
    case rel => exact ⟨k + 1, _, by omega, by go_num, R.out.1.here, R.out.2⟩
    case measure => simp [intOf]; omega
  · obtain rfl : k = xs.length := by omega
    rw [List.take_length] at HL
    clear hc
    go_wp2
    go_ret
    exact ⟨_, us, rfl, HL.out, hB⟩
theorem mul_pair {f p : Int} {wd : Bool} (h : Fi f p wd) {xs ys : List Int} (hx : Tm p xs) (hy : Tm p ys) (l1 : xs.length <= 2049) (l2 : ys.length <= 2048) : mulL f xs ys = prd p xs ys := by
 have he := er_yes h (allIn_of hx.1) (allIn_of hy.1) (by omega) (by omega)
 have e0 : mulE f xs ys = 0 := by unfold mulE; rw [if_pos he, hx.2, hy.2, if_neg (by omega)]
 unfold mulL
 rw [if_pos e0, pOf_eq h, hx.2, hy.2]
theorem join_any (f p : Int) (wd : Bool) (v1 v2 : Value) (xs ys : List Int) (b : Nat) (w : World) (h : Fi f p wd) (h1 : Rw w v1 xs) (h2 : Rw w v2 ys) (hx : Tm p xs) (hy : Tm p ys) (l1 : xs.length <= 2049) (l2 : ys.length <= 2048) (hc : w.cell? ⟨b, 0, none⟩ = some (.int .u8 f)) :
 Calls Tryz.prog 169 #[v1, v2, .pointer (some ⟨b, 0, none⟩)] w fun e w' => ∃ v', e = .returned v' ∧ w'.ownsRow w.heap.size 64 1 v' (prd p xs ys).length (vals (prd p xs ys)) ∧ Below w.heap.size w w' := by
 have HM := hide (pMul_any f v1 v2 xs ys w h1 h2)
 unfold Gives at HM
 rw [mul_pair h hx hy l1 l2] at HM
 obtain ⟨a1, c1, rfl, _⟩ := h1.spell
 obtain ⟨a2, c2, rfl, _⟩ := h2.spell
 clear h1 h2
 go_enter Tryz.func169, Tryz.ntmps169
 go_wp2_with (go_at_call 170; refine HM.out.mono ?_; rintro e w1 ⟨v', rfl, hO, hb⟩)
 go_ret
 exact ⟨_, rfl, hO, hb⟩
theorem lvl_tm {p : Int} {wd : Bool} (hm : Md p wd) (xs : List Int) (s i : Nat) (hi : i < cn xs.length s) : Tm p ((lvl p xs s).getD i []) ∧ ((lvl p xs s).getD i []).length = (ck xs s i).length + 1 := by
 rw [lvl_at hi]
 have := zl_facts hm (ck xs s i)
 exact ⟨this.1, this.2.2⟩
theorem cn_two {n s k : Nat} (hs : 0 < s) : k < cn n (2 * s) ↔ 2 * k < cn n s := by
 rw [cn_lt (by omega), cn_lt hs]
 have : k * (2 * s) = 2 * k * s := by rw [<- Nat.mul_assoc, Nat.mul_comm k 2]
 omega
def lvk (p : Int) (xs : List Int) (s k : Nat) : List (List Int) := (List.range k).map (fun i => zl p (ck xs s i))
theorem lvk_len (p : Int) (xs : List Int) (s k : Nat) : (lvk p xs s k).length = k := by simp [lvk]
theorem lvk_snoc (p : Int) (xs : List Int) (s k : Nat) : lvk p xs s k ++ [zl p (ck xs s k)] = lvk p xs s (k + 1) := by
 unfold lvk; rw [List.range_succ, List.map_append]; rfl
theorem paired_any (f p : Int) (wd : Bool) (v : Value) (xs : List Int) (s b0 : Nat) (w : World) (h : Fi f p wd) (hs : 0 < s) (hl : xs.length <= 2048) (h1 : Rws w v (lvl p xs s)) (hc0 : w.cell? ⟨b0, 0, none⟩ = some (.int .u8 f)) (hb0 : b0 < w.heap.size) :
 Calls Tryz.prog 172 #[v, .func (.func 169) #[] #[.pointer (some ⟨b0, 0, none⟩)]] w fun e w' => ∃ v' us, e = .returned v' ∧ Lss w' w.heap.size w'.heap.size v' us (lvl p xs (2 * s)) ∧ Below w.heap.size w w' := by
 obtain ⟨i0, hi0, hz0, hz1, hz2⟩ := info_parts sl_info
 have HJ : Hid (∀ k W u1 u2, 2 * k + 1 < cn xs.length s -> Below w.heap.size w W -> Rw W u1 ((lvl p xs s).getD (2 * k) []) -> Rw W u2 ((lvl p xs s).getD (2 * k + 1) []) ->
  Calls Tryz.prog 169 #[u1, u2, .pointer (some ⟨b0, 0, none⟩)] W fun e w' => ∃ v', e = .returned v' ∧ w'.ownsRow W.heap.size 64 1 v' (zl p (ck xs (2 * s) k)).length (vals (zl p (ck xs (2 * s) k))) ∧ Below W.heap.size W w') := fun k W u1 u2 hk hb r1 r2 => by
  have t1 := lvl_tm h.md xs s (2 * k) (by omega)
  have t2 := lvl_tm h.md xs s (2 * k + 1) hk
  have e1 := ck_len xs (2 * s) k
  rw [ck_two, List.length_append] at e1
  have hpos : 0 < (ck xs s (2 * k)).length := by
   have : 2 * k * s < xs.length := (cn_lt hs).1 (by omega)
   unfold ck; rw [List.length_take, List.length_drop]; omega
  have := join_any f p wd u1 u2 _ _ b0 W h r1 r2 t1.1 t2.1 (by omega) (by omega) ((hb.cell (p := ⟨b0, 0, none⟩) hb0).trans hc0)
  rw [lvl_at (show 2 * k < cn xs.length s by omega), lvl_at hk, zl_two h.md] at this
  exact this
 have HTr : Hid (∀ k W u, 2 * k < cn xs.length s -> cn xs.length s <= 2 * k + 1 -> Rw W u ((lvl p xs s).getD (2 * k) []) ->
  Calls Tryz.prog 173 #[u] W fun e w' => ∃ v', e = .returned v' ∧ w'.ownsRow W.heap.size 64 1 v' (zl p (ck xs (2 * s) k)).length (vals (zl p (ck xs (2 * s) k))) ∧ Below W.heap.size W w') := fun k W u hk hk2 r => by
  have := Trim_any u _ W r
  rw [(lvl_tm h.md xs s (2 * k) hk).1.2, lvl_at hk, <- zl_left] at this
  · exact this
  · have := (cn_lt (n := xs.length) (i := 2 * k + 1) hs)
    have h2 : ¬ 2 * k + 1 < cn xs.length s := by omega
    rw [this] at h2; omega
 have HN : Hid ((lvl p xs s).length = cn xs.length s) := lvl_len p xs s
 have hcn : cn xs.length s <= 2048 := by
  apply Nat.le_of_not_lt; intro hcon
  have := (cn_lt hs).1 hcon
  have := Nat.le_mul_of_pos_right 2048 hs
  omega
 have HT2 := hide (fun k => cn_two (n := xs.length) (k := k) hs)
 have HG : Hid (lvl p xs (2 * s) = lvk p xs (2 * s) (cn xs.length (2 * s))) := rfl
 rw [HG.out]
 obtain ⟨ao, cap, rfl, hlen, hcap, hcell⟩ := h1
 have HC : Hid (∀ i, i < cn xs.length s -> ∃ b off, ao = some ⟨b, off, none⟩ ∧ b < w.heap.size ∧ ∃ u, w.cell? ⟨b, off + i, none⟩ = some u ∧ Rw w u ((lvl p xs s).getD i [])) := fun i hi => by
  have hi2 : i < (lvl p xs s).length := by rw [HN.out]; exact hi
  obtain ⟨b, off, e, hb, hc⟩ := hcell (by intro e; rw [e] at hi2; simp at hi2)
  exact ⟨b, off, e, hb, hc i hi2⟩
 rw [HN.out] at hlen hcap ⊢
 clear hcell h hl HG
 generalize hn2 : cn xs.length (2 * s) = n2 at *
 have HN2 := hide hn2
 generalize cn xs.length s = n at *
 clear hn2
 go_enter Tryz.func172, Tryz.ntmps172
 go_wp2
 go_loopw [0, 5] (fun vl vo wr => ∃ (k m : Nat) (us : List Value) (al : Option Addr) (cl : Nat), 2 * k + m = n ∧ vl = .slice al m cl ∧ m <= cl ∧ Hid (0 < m -> ∃ b off, ao = some ⟨b, off, none⟩ ∧ al = some ⟨b, off + 2 * k, none⟩) ∧ Hid (Lss wr w.heap.size wr.heap.size vo us (lvk p xs (2 * s) k)) ∧ Below w.heap.size w wr) (fun vl _ _ => match vl with | .slice _ m _ => m | _ => 0)
 case atStart => exact ⟨0, n, [], ao, cap, by omega, rfl, hcap, fun hp => by
  obtain ⟨b, off, e, _⟩ := HC.out 0 (by omega)
  exact ⟨b, off, e, by rw [e]; rfl⟩, Lss.nil _ _ _, Below.refl _ _⟩
 case round =>
  obtain ⟨k, m, us, al, cl, hkm, rfl, hml, HA, HL, hB⟩ := hrel
  by_cases hgo : 1 < m
  · obtain ⟨b, off, rfl, rfl⟩ := HA.out (by omega)
    obtain ⟨b', off', e', hbl, q1, e1, r1⟩ := HC.out (2 * k) (by omega)
    cases e'
    obtain ⟨b', off', e', _, q2, e2, r2⟩ := HC.out (2 * k + 1) (by omega)
    cases e'
    obtain ⟨o, HO⟩ : ∃ o, Hid (off + 2 * k = o) := ⟨_, rfl⟩
    have eo : off + (2 * k + 1) = o + 1 := by have := HO.out; omega
    rw [eo] at e2
    rw [HO.out] at e1 ⊢
    have hj := hide (fun W (hb : Below w.heap.size w W) => HJ.out k W q1 q2 (by omega) hb (r1.below hb) (r2.below hb))
    have HCell : Hid (∀ W, Below w.heap.size w W -> W.cell? ⟨b, o, none⟩ = some q1 ∧ W.cell? ⟨b, o + 1, none⟩ = some q2) := fun W hb => ⟨(hb.cell (p := ⟨b, o, none⟩) hbl).trans e1, (hb.cell (p := ⟨b, o + 1, none⟩) hbl).trans e2⟩
    obtain ⟨z1, y1, rfl, _⟩ := r1.spell
    obtain ⟨z2, y2, rfl, _⟩ := r2.spell
    have HLs := hide (lvk_snoc p xs (2 * s) k)
    have hlk := lvk_len p xs (2 * s) k
    clear e1 e2 r1 r2 HJ HTr HA eo
    generalize ((lvl p xs s).getD (2 * k) []).length = n1 at *
    generalize ((lvl p xs s).getD (2 * k + 1) []).length = n3 at *
    generalize lvk p xs (2 * s) k = lss at *
    generalize zl p (ck xs (2 * s) k) = zz at *
    have m0 : (0 : Int) < (m : Int) := by omega
    have m1 : (1 : Int) < (m : Int) := by omega
    have m2 : 0 < m := by omega
    go_wp2_with fail
    have hb0 : Below w.heap.size w wr.drew := hB.drew
    have hbw : Below wr.heap.size wr wr.drew := (Below.refl _ wr).drew
    have hbs := hB.size
    have hS0 := HCell.out _ hb0
    go_region_held3 (fun w' => w'.cell? ⟨b, o, none⟩ = some (.slice z1 n1 y1) ∧ w'.cell? ⟨b, o + 1, none⟩ = some (.slice z2 n3 y2)) (first | with_reducible exact hS4 | with_reducible exact hS3b | with_reducible exact hS3 | with_reducible exact hS0) (first
     | (go_at_call 169; refine (hj.out _ hb0).mono ?_; rintro e w3 ⟨vr, rfl, hor, hb3⟩; obtain ⟨ar, cr, rfl⟩ := own_form hor; have HL3 := hide (HL.out.below (Below.next hbw hb3)); have hsz3 := hb3.size; have hB3 := Below.next hb0 hb3; have hbs3 := hB3.size; have hS3 := HCell.out _ hB3; have hS3b := HCell.out _ (hB3.alloc hB3.size (.cells #[.slice ar zz.length cr] 36)))
     | (refine step_append_lies _ (by rfl) _ _ _ (by rfl) w.heap.size 36 i0 _ 1 24 Tryz.underlying26 hi0 hz0 hz1 hz2 rfl (by omega) u5 lss.length us (by rfl) (HL3.out.row.alloc _) ⟨w3.heap.size, 0, none⟩ 1 1 [.slice ar zz.length cr] (by rfl) (by rfl) (World.news_of_block (cs := #[.slice ar zz.length cr]) (t := 36) (fr := (0, 0)) (heap_alloc_new w3 _)) (by simp [Value.oneCell']) (by omega) (by unfold maxLen; omega) (by omega) (by simp; omega) (w3.heap.size + 1) (by simp) ?_; intro gg cap2 w4 hown4 hgrow hat hltg; have R := hide (HL3.out.push (w := w) (H := wr.heap.size) (Nat.le_refl _) hbs (Nat.le_refl _) hB3 hor hown4 hgrow); have hS4 := HCell.out _ R.out.2))
    rw [HLs.out, hlk] at R
    clear hown4 hgrow hat hltg HL HL3 hor hS0 hS3 hS3b hS4 HCell hj
    have hm2 : (2 : Int) <= (m : Int) := by omega
    have hmi : (m : Int) <= (cl : Int) := by omega
    by_cases hcl : cl = 2
    · obtain rfl : m = 2 := by omega
      subst hcl
      go_wp2
      go_roundw
      case rel => exact ⟨k + 1, 0, _, _, _, by omega, rfl, by omega, fun h => by omega, R.out.1.here, R.out.2⟩
      case measure => simp
    · have hcl2 : ¬ 2 = cl := fun e => hcl e.symm
      go_wp2
      go_roundw
      case rel => exact ⟨k + 1, m - 2, _, _, _, by omega, rfl, by omega, fun h => ⟨b, off, rfl, by rw [<- HO.out]; congr 2⟩, R.out.1.here, R.out.2⟩
      case measure => simp; omega
  · have HE : Hid (n2 = k + m) := by
     have h1 := HT2.out (k + m)
     have h2 := HT2.out k
     have h3 := HT2.out (k + m - 1)
     show _ = _
     omega
    obtain rfl | rfl : m = 0 ∨ m = 1 := by omega
    · have : n2 = k := HE.out
      subst this
      clear HJ HTr HC HA
      go_wp2
      refine wp_loop_rounds 1 ?_
      rw [rounds_succ]
      go_wp2
      go_ret
      exact ⟨_, us, rfl, HL.out, hB⟩
    · obtain ⟨b, off, rfl, rfl⟩ := HA.out (by omega)
      obtain ⟨b', off', e', hbl, q1, e1, r1⟩ := HC.out (2 * k) (by omega)
      cases e'
      have d1 := (hB.cell (p := ⟨b, off + 2 * k, none⟩) hbl).trans e1
      have ht := hide (HTr.out k wr q1 (by omega) (by omega) (r1.below hB))
      obtain ⟨z1, y1, rfl, _⟩ := r1.spell
      have HLs := hide (lvk_snoc p xs (2 * s) k)
      have hlk := lvk_len p xs (2 * s) k
      have e2 : n2 = k + 1 := HE.out
      subst e2
      clear HE HN2 HT2
      generalize ((lvl p xs s).getD (2 * k) []).length = n1 at *
      generalize lvk p xs (2 * s) k = lss at *
      generalize zl p (ck xs (2 * s) k) = zz at *
      clear HJ HTr HC HA e1 r1
      go_wp2
      refine wp_loop_rounds 2 ?_
      rw [rounds_succ]
      go_wp2_with (first
       | (go_at_call 173; refine ht.out.mono ?_; rintro e w3 ⟨vr, rfl, hor, hb3⟩; obtain ⟨ar, cr, rfl⟩ := own_form hor; have HL3 := hide (HL.out.below hb3); have hsz3 := hb3.size; have hbs := hB.size)
       | (at_builtin; refine wpList_append_lies _ rfl _ _ _ rfl w.heap.size 36 i0 _ 1 24 Tryz.underlying26 hi0 hz0 hz1 hz2 rfl (by omega) u5 lss.length us rfl (HL3.out.row.alloc _) ⟨w3.heap.size, 0, none⟩ 1 1 [.slice ar zz.length cr] rfl rfl (World.news_of_block (cs := #[.slice ar zz.length cr]) (t := 36) (fr := (0, 0)) (heap_alloc_new w3 _)) (by simp [Value.oneCell']) (by omega) (by unfold maxLen; omega) (by omega) (by simp; omega) (w3.heap.size + 1) (by simp) ?_; intro gg cap2 w4 hown4 hgrow hat hltg))
      have hB3 := Below.next hB hb3
      have R := hide (HL3.out.push (w := w) (H := wr.heap.size) (Nat.le_refl _) hbs (Nat.le_refl _) hB3 hor hown4 hgrow)
      rw [HLs.out, hlk] at R
      clear hown4 hgrow hat hltg HL HL3 hor
      rw [rounds_succ]
      go_wp2
      go_ret
      exact ⟨_, _, rfl, R.out.1.here, R.out.2⟩
theorem sl2_info : (Tryz.prog.info? 26).map (fun i => (i.zero, i.size, i.bytes)) = some (some (.slice none 0 0), 1, 24) := by kernel_rfl
theorem ne_kind2 : 26 ≠ 36 := by decide
theorem ne_kind3 : 26 ≠ 64 := by decide
structure Lvs (w : World) (lo : Nat) (cut : Nat -> Nat) (v : Value) (vs : List Value) (uss : Nat -> List Value) (A : Nat -> List (List Int)) (N : Nat) : Prop where
 row : w.ownsRow lo 26 1 v N vs
 each : ∀ i, i < N -> Lss w (cut i) (cut (i + 1)) (vs.getD i nov) (uss i) (A i)
 mono : ∀ i, i < N -> cut i <= cut (i + 1)
 from_ : lo <= cut 0
theorem Lss.kept {w w' : World} {lo hi : Nat} {v : Value} {us : List Value} {xss : List (List Int)} {r : Option Nat} (h : Lss w lo hi v us xss) (hg : w.grownBy w' r) (h1 : ∀ g, v.ownBlock = some g -> r ≠ some g) (h2 : ∀ i g, i < xss.length -> (us.getD i nov).ownBlock = some g -> r ≠ some g) : Lss w' lo hi v us xss :=
 ⟨own_kept h.row hg h1, fun i hi => own_kept (h.each i hi) hg (fun g hgb => h2 i g hi hgb), h.from_, h.top, h.up⟩
theorem Lss.past {w w' : World} {lo hi b n : Nat} {v u : Value} {us vs : List Value} {xss : List (List Int)} (h : Lss w lo hi v us xss) (hu : w.ownsRow b 26 1 u n vs) (hg : w.grownBy w' u.ownBlock) : Lss w' lo hi v us xss :=
 h.kept hg (fun g hgb hc => own_kind hu h.row ne_kind2 g hc hgb) (fun i g hi hgb hc => own_kind hu (h.each i hi) ne_kind3 g hc hgb)
theorem Lvs.below {w w' : World} {lo N : Nat} {cut : Nat -> Nat} {v : Value} {vs : List Value} {uss : Nat -> List Value} {A : Nat -> List (List Int)} (h : Lvs w lo cut v vs uss A N) (hb : Below w.heap.size w w') : Lvs w' lo cut v vs uss A N :=
 ⟨own_below h.row hb, fun i hi => (h.each i hi).below hb, h.mono, h.from_⟩
theorem Lvs.nil (w : World) (lo c : Nat) (A : Nat -> List (List Int)) (hc : lo <= c) : Lvs w lo (fun _ => c) nov [] (fun _ => []) A 0 :=
 ⟨World.ownsRow_nil _ _ _ _, fun i hi => by omega, fun i hi => by omega, hc⟩
theorem Lvs.lo {w : World} {lo lo' N : Nat} {cut : Nat -> Nat} {v : Value} {vs : List Value} {uss : Nat -> List Value} {A : Nat -> List (List Int)} (h : Lvs w lo cut v vs uss A N) (hl : lo' <= lo) : Lvs w lo' cut v vs uss A N :=
 ⟨own_mono h.row hl, h.each, h.mono, Nat.le_trans hl h.from_⟩
theorem Lvs.cuts {w : World} {lo N : Nat} {cut : Nat -> Nat} {v : Value} {vs : List Value} {uss : Nat -> List Value} {A : Nat -> List (List Int)} (h : Lvs w lo cut v vs uss A N) : ∀ i, i <= N -> ∀ j, j <= i -> cut j <= cut i := by
 intro i
 induction i with
 | zero => intro _ j hj; have : j = 0 := by omega
           rw [this]; exact Nat.le_refl _
 | succ i ih =>
  intro hi j hj
  by_cases e : j = i + 1
  · rw [e]; exact Nat.le_refl _
  · exact Nat.le_trans (ih (by omega) j (by omega)) (h.mono i (by omega))
theorem Lvs.push {w w1 w3 : World} {lo hi H N : Nat} {cut : Nat -> Nat} {v v3 lv : Value} {vs us : List Value} {uss : Nat -> List Value} {A : Nat -> List (List Int)} {T : TypeId} (h : Lvs w1 lo cut v vs uss A N) (hL : Lss w1 (cut N) hi lv us (A N)) (hH : hi <= H) (hc : cut N <= H) (hlo2 : w.heap.size <= lo) (hB : Below w.heap.size w w1)
 (h3 : w3.ownsRow lo 26 1 v3 (N + 1) (vs ++ [lv])) (hg : (w1.alloc (.cells #[lv] T)).grownBy w3 v.ownBlock) :
 Lvs w3 lo (fun i => if i <= N then cut i else H) v3 (vs ++ [lv]) (fun i => if i < N then uss i else us) A (N + 1) ∧ Lss w3 (cut N) hi lv us (A N) ∧ Below w.heap.size w w3 := by
 have hal := alloc_below w1 (.cells #[lv] T)
 have hvl : vs.length = N := by have := h.row.1; omega
 have keep : ∀ {lo hi : Nat} {t : Value} {us : List Value} {xss : List (List Int)}, Lss w1 lo hi t us xss -> Lss w3 lo hi t us xss := fun hL => (hL.below hal).past (own_below h.row hal) hg
 refine ⟨⟨h3, fun i hi' => ?_, fun i hi' => ?_, ?_⟩, keep hL, ?_⟩
 · rw [getD_snoc, hvl]
   by_cases hi2 : i < N
   · rw [if_pos hi2, if_pos hi2, if_pos (by omega), if_pos (by omega)]; exact keep (h.each i hi2)
   · have : i = N := by omega
     subst this
     rw [if_neg hi2, if_neg hi2, if_pos rfl, if_pos (Nat.le_refl _), if_neg (by omega)]; exact (keep hL).more hH
 · by_cases hi2 : i < N
   · rw [if_pos (by omega), if_pos (by omega)]; exact h.mono i hi2
   · have : i = N := by omega
     subst this
     rw [if_pos (Nat.le_refl _), if_neg (by omega)]; exact hc
 · rw [if_pos (Nat.zero_le _)]; exact h.from_
 · refine (hB.alloc hB.size _).grown hg ?_ ?_
   · simp; have := hB.size; omega
   · intro k hk
     have := own_base h.row k hk
     omega
def lenV : Value -> Nat
 | .slice _ m _ => m
 | _ => 0
def Tall (n N : Nat) : Prop := (n = 0 ∧ N = 0) ∨ (0 < n ∧ ∃ L, N = L + 1 ∧ cn n (2 ^ L) = 1 ∧ ∀ i, i < L -> 1 < cn n (2 ^ i))
def tre (p : Int) (xs : List Int) : Nat -> List (List Int) := fun i => lvl p xs (2 ^ i)
theorem cn_pos {n s : Nat} (hn : 0 < n) (hs : 0 < s) : 0 < cn n s := (cn_lt hs).2 (by omega)
theorem cn_half {n s : Nat} (hs : 0 < s) (h : 1 < cn n s) : cn n (2 * s) < cn n s := by
 have h1 : ¬ cn n s - 1 < cn n (2 * s) := by rw [cn_two hs]; omega
 omega
theorem grown_any (f p : Int) (wd : Bool) (v : Value) (xs : List Int) (w : World) (h : Fi f p wd) (h1 : Rw w v xs) (hx : Els p xs) (hl : xs.length <= 2048) :
 Calls Tryz.prog 142 #[.int .u8 f, v] w fun e w' => ∃ v' cut vs uss N, e = .returned v' ∧ Lvs w' w.heap.size cut v' vs uss (tre p xs) N ∧ Tall xs.length N ∧ cut N <= w'.heap.size ∧ Below w.heap.size w w' := by
 obtain ⟨i0, hi0, hz0, hz1, hz2⟩ := info_parts sl2_info
 have hmf : ∀ (fn : Fn) (first cap : Array Value) (w : World), (Instr.makeFunc fn first cap).run Tryz.prog w = .ok (.func fn first cap) w := fun _ _ _ _ => rfl
 have HF := hide (fun W (hb : Below w.heap.size w W) => factors_any f p wd v xs W h (h1.below hb) hx hl)
 have HP : Hid (∀ j W u us lo hi, Lss W lo hi u us (tre p xs j) -> W.cell? ⟨w.heap.size, 0, none⟩ = some (.int .u8 f) -> w.heap.size < W.heap.size -> Calls Tryz.prog 172 #[u, .func (.func 169) #[] #[.pointer (some ⟨w.heap.size, 0, none⟩)]] W fun e w' => ∃ v' us, e = .returned v' ∧ Lss w' W.heap.size w'.heap.size v' us (tre p xs (j + 1)) ∧ Below W.heap.size W w') := fun j W u us lo hi hL hc hb => by
  have hcn : cn xs.length (2 ^ j) <= 2048 := by
   apply Nat.le_of_not_lt; intro hcon
   have := (cn_lt (Nat.pow_pos (by decide))).1 hcon
   have := Nat.le_mul_of_pos_right 2048 (Nat.pow_pos (n := j) (show 0 < 2 by decide))
   omega
  have := paired_any f p wd u xs (2 ^ j) w.heap.size W h (Nat.pow_pos (by decide)) hl (hL.rws (lvl_wd h.md h.top xs _ hl) (by rw [show (tre p xs j).length = _ from lvl_len p xs (2 ^ j)]; omega)) hc hb
  rw [show 2 * 2 ^ j = 2 ^ (j + 1) by rw [Nat.pow_succ, Nat.mul_comm]] at this
  exact this
 have HLn : Hid (∀ j, (tre p xs j).length = cn xs.length (2 ^ j)) := fun j => lvl_len p xs (2 ^ j)
 obtain ⟨a1, c1, rfl, _⟩ := h1.spell
 clear h1 h hx
 go_enter Tryz.func142, Tryz.ntmps142
 go_wp2_with (go_at_call 171; refine (HF.out _ (alloc_below _ _)).mono ?_; rintro e w1 ⟨v7, us, rfl, hL, hb1⟩)
 obtain ⟨w0, HW0⟩ : ∃ w0, Hid (w.alloc (.cells #[.int .u8 f] 22) = w0) := ⟨_, rfl⟩
 have hs0 : w0.heap.size = w.heap.size + 1 := by rw [<- HW0.out]; simp
 have hb0 : Below w.heap.size w w0 := by rw [<- HW0.out]; exact alloc_below _ _
 have hcell0 : w0.cell? ⟨w.heap.size, 0, none⟩ = some (.int .u8 f) := by rw [<- HW0.out]; simp [go_sem]
 have HC0 : Hid (∀ W, Below w0.heap.size w0 W -> W.cell? ⟨w.heap.size, 0, none⟩ = some (.int .u8 f)) := fun W hb => (hb.cell (p := ⟨w.heap.size, 0, none⟩) (by rw [hs0]; exact Nat.lt_succ_self _)).trans hcell0
 rw [HW0.out] at hL hb1
 clear HW0 hcell0 HF
 have hL1 : Hid (Lss w1 w0.heap.size w1.heap.size v7 us (tre p xs 0)) := hL
 clear hL
 go_loopw [6, 7] (fun vv vl wr => ∃ (j : Nat) (cut : Nat -> Nat) (vs : List Value) (uss : Nat -> List Value) (us : List Value), Hid (Lvs wr w0.heap.size cut vv vs uss (tre p xs) j) ∧ Hid (Lss wr (cut j) wr.heap.size vl us (tre p xs j)) ∧ cut j <= wr.heap.size ∧ Below w0.heap.size w0 wr ∧ Hid (∀ i, i < j -> 1 < cn xs.length (2 ^ i)) ∧ j <= 2048) (fun _ vl _ => lenV vl)
 case atStart => exact ⟨0, fun _ => w0.heap.size, [], fun _ => [], us, Lvs.nil _ _ _ _ (Nat.le_refl _), hL1, hb1.size, hb1, fun i hi => by omega, by omega⟩
 case round =>
  clear hL1 hb1
  obtain ⟨j, cut, vs, uss, us, HV, HL, hcj, hB, HG, hj⟩ := hrel
  obtain ⟨al, cl, rfl⟩ := own_form HL.out.row
  have hm := HLn.out j
  by_cases hn : xs.length = 0
  · have hj0 : j = 0 := by
     apply Classical.byContradiction; intro hne
     have := HG.out 0 (by omega)
     rw [hn] at this; simp [cn] at this
    subst hj0
    have hz : (tre p xs 0).length = 0 := by rw [hm, hn]; simp [cn]
    rw [hz]
    clear hm hz HP
    go_wp2
    go_ret
    exact ⟨_, cut, vs, uss, 0, rfl, HV.out.lo (by omega), .inl ⟨hn, rfl⟩, hcj, Below.next hb0 hB⟩
  · have hmp := cn_pos (n := xs.length) (s := 2 ^ j) (by omega) (Nat.pow_pos (by decide))
    have hvl : vs.length = j := by have := HV.out.row.1; omega
    have hbs := hB.size
    have hpc := hide (fun W (hl : Lss W (cut j) wr.heap.size (.slice al (tre p xs j).length cl) us (tre p xs j)) (hb : Below w0.heap.size w0 W) => HP.out j W _ us _ _ hl (HC0.out W hb) (by have := hb.size; omega))
    have hmn : cn xs.length (2 ^ j) <= 2048 := by
     apply Nat.le_of_not_lt; intro hcon
     have := (cn_lt (Nat.pow_pos (by decide))).1 hcon
     have := Nat.le_mul_of_pos_right 2048 (Nat.pow_pos (n := j) (show 0 < 2 by decide))
     omega
    have HM := hide hm
    rw [hm] at hpc HL ⊢
    have HH := hide (fun h => cn_half (n := xs.length) (s := 2 ^ j) (Nat.pow_pos (by decide)) h)
    clear hm
    by_cases hone : cn xs.length (2 ^ j) = 1
    · have HT : Hid (Tall xs.length (j + 1)) := .inr ⟨by omega, j, rfl, hone, HG.out⟩
      rw [hone] at HL hpc ⊢
      clear hmp hmn HH
      go_wp2_with (at_builtin; refine wpList_append_lies _ rfl _ _ _ rfl w0.heap.size 26 i0 _ 1 24 Tryz.underlying185 hi0 hz0 hz1 hz2 rfl (by omega) u6 j vs rfl (HV.out.row.alloc _) ⟨wr.heap.size, 0, none⟩ 1 1 [.slice al 1 cl] rfl rfl (World.news_of_block (cs := #[.slice al 1 cl]) (t := 26) (fr := (0, 0)) (heap_alloc_new wr _)) (by simp [Value.oneCell']) (by omega) (by unfold maxLen; omega) (by omega) (by simp; omega) (wr.heap.size + 1) (by simp) ?_; intro gg cap2 w4 hown4 hgrow hat hltg)
      have R := hide (HV.out.push (w := w0) (H := w4.heap.size) HL.out (by have := hgrow.size; simp at this; omega) (by have := hgrow.size; simp at this; omega) (Nat.le_refl _) hB hown4 hgrow)
      go_ret
      exact ⟨_, _, _, _, j + 1, rfl, R.out.1.lo (by omega), HT.out, by rw [if_neg (by omega)]; exact Nat.le_refl _, Below.next hb0 R.out.2.2⟩
    · have hgt : 1 < cn xs.length (2 ^ j) := by omega
      have HG2 : Hid (∀ i, i < j + 1 -> 1 < cn xs.length (2 ^ i)) := fun i hi => by
       by_cases e : i = j
       · rw [e]; exact hgt
       · exact HG.out i (by omega)
      have hj2 : j + 1 <= 2048 := by
       have h1 := (cn_lt (n := xs.length) (i := 1) (s := 2 ^ j) (Nat.pow_pos (by decide))).1 hgt
       have h2 := Nat.lt_two_pow_self (n := j)
       omega
      have HLj := HLn.out (j + 1)
      have HLT : Hid ((tre p xs (j + 1)).length < cn xs.length (2 ^ j)) := by
       show _ < _
       rw [HLj, Nat.pow_succ, Nat.mul_comm]; exact HH.out hgt
      clear HH HLj hone
      generalize hmm : cn xs.length (2 ^ j) = m at *
      have HMM := hide hmm
      clear hmm
      have m1 : ¬ m = 1 := by omega
      go_wp2_with (first
       | (at_builtin; refine wpList_append_lies _ rfl _ _ _ rfl w0.heap.size 26 i0 _ 1 24 Tryz.underlying185 hi0 hz0 hz1 hz2 rfl (by omega) u6 j vs rfl (HV.out.row.alloc _) ⟨wr.heap.size, 0, none⟩ 1 1 [.slice al m cl] rfl rfl (World.news_of_block (cs := #[.slice al m cl]) (t := 26) (fr := (0, 0)) (heap_alloc_new wr _)) (by simp [Value.oneCell']) (by omega) (by unfold maxLen; omega) (by omega) (by simp; omega) (wr.heap.size + 1) (by simp) ?_; intro gg cap2 w4 hown4 hgrow hat hltg; have R := hide (HV.out.push (w := w0) (H := w4.heap.size) HL.out (by have := hgrow.size; simp at this; omega) (by have := hgrow.size; simp at this; omega) (Nat.le_refl _) hB hown4 hgrow); clear hown4 hgrow hat hltg)
       | (go_at_call 172; refine (hpc.out _ R.out.2.1 R.out.2.2).mono ?_; rintro e w5 ⟨v8, us8, rfl, hL8, hb8⟩))
      have RV : Hid (Lvs w5 w0.heap.size (fun i => if i <= j then cut i else w4.heap.size) _ _ _ _ (j + 1)) := R.out.1.below hb8
      have RB := Below.next R.out.2.2 hb8
      have hL9 : Hid (Lss w5 ((fun i => if i <= j then cut i else w4.heap.size) (j + 1)) w5.heap.size v8 us8 (tre p xs (j + 1))) := by
       show Lss _ _ _ _ _ _
       simp only
       rw [if_neg (by omega)]; exact hL8
      have hc9 : (fun i => if i <= j then cut i else w4.heap.size) (j + 1) <= w5.heap.size := by
       simp only
       rw [if_neg (by omega)]; exact hb8.size
      obtain ⟨a8, c8, rfl⟩ := own_form hL8.row
      clear R hL8 HL HV
      go_roundw
      case rel => exact ⟨j + 1, _, _, _, us8, RV, hL9, hc9, RB, HG2, hj2⟩
      case measure => simp only [lenV]; exact HLT.out
def zeroL (f : Int) (xs : List Int) : List Int := if chk f [xs] = 0 then zl (pOf f) xs else []
theorem cn_fits {n s : Nat} (hs : 0 < s) (h : cn n s = 1) : n <= s := by
 have := cn_lt (n := n) (i := 1) hs
 have h2 : ¬ 1 < cn n s := by omega
 rw [this] at h2; omega
theorem Tall.top {n L : Nat} (h : Tall n (L + 1)) : 0 < n ∧ cn n (2 ^ L) = 1 ∧ n <= 2 ^ L := by
 rcases h with ⟨_, h⟩ | ⟨h1, K, hK, h2, _⟩
 · omega
 · have : K = L := by omega
   subst this
   exact ⟨h1, h2, cn_fits (Nat.pow_pos (by decide)) h2⟩
theorem tre_top {p : Int} {xs : List Int} {L : Nat} (h : Tall xs.length (L + 1)) : tre p xs L = [zl p xs] := by
 obtain ⟨_, h2, h3⟩ := h.top
 unfold tre lvl
 rw [h2]
 show [zl p (ck xs (2 ^ L) 0)] = _
 rw [ck_all xs _ h3]
theorem Tall.le {n N : Nat} (h : Tall n N) (hn : n <= 2048) : N <= 12 := by
 rcases h with ⟨_, h⟩ | ⟨_, L, rfl, _, h3⟩
 · omega
 · apply Classical.byContradiction
   intro hc
   have h1 := h3 11 (by omega)
   have := (cn_lt (n := n) (i := 1) (s := 2 ^ 11) (by decide)).1 h1
   omega
theorem Lvs.level {w : World} {lo N g cap : Nat} {cut : Nat -> Nat} {vs : List Value} {uss : Nat -> List Value} {A : Nat -> List (List Int)} (h : Lvs w lo cut (.slice (some ⟨g, 0, none⟩) N cap) vs uss A N) {i : Nat} (hi : i < N) :
 w.cell? ⟨g, i, none⟩ = some (vs.getD i nov) := by
 have hl : vs.length = N := by have := h.row.1; omega
 rw [h.row.cellAt i (by omega), List.getD_eq_getElem?_getD, List.getElem?_eq_getElem (by omega)]; rfl
theorem Lss.list {w : World} {lo hi g cap : Nat} {us : List Value} {xss : List (List Int)} (h : Lss w lo hi (.slice (some ⟨g, 0, none⟩) xss.length cap) us xss) {i : Nat} (hi : i < xss.length) :
 w.cell? ⟨g, i, none⟩ = some (us.getD i nov) := by
 have hl := h.len
 rw [h.row.cellAt i (by omega), List.getD_eq_getElem?_getD, List.getElem?_eq_getElem (by omega)]; rfl
theorem tZero_any (f : Int) (v : Value) (xs : List Int) (w : World) (h1 : Rw w v xs) : Gives 113 #[.int .u8 f, v] w (zeroL f xs) (chk f [xs]) := by
 have hk := hide (fun T => tcheck_one f v xs w h1 T)
 obtain ⟨a1, c1, rfl, _⟩ := h1.spell
 by_cases he : chk f [xs] = 0
 · obtain ⟨p, wd, h, i1, m1⟩ := chk_one he
   have HL : Hid (zeroL f xs = zl p xs) := by show _ = _; unfold zeroL; rw [if_pos he, pOf_eq h]
   have HG := hide (fun W (hb : Below w.heap.size w W) => grown_any f p wd _ xs W h (h1.below hb) (els_of i1 h1.words) m1)
   rw [he] at hk
   rw [HL.out, he]
   clear h1 h i1 he HL
   show Calls _ _ _ _ _
   go_enter Tryz.func113, Tryz.ntmps113
   go_wp2_with fail
   refine (hk.out _).mono ?_; rintro e w1 ⟨rfl, hb1⟩
   go_wp2_with fail
   refine (HG.out _ hb1).mono ?_; rintro e w2 ⟨v2, cut, vs, uss, N, rfl, hV, hT, hcu, hb2⟩
   have hB2 := Below.next hb1 hb2
   have hbs := hB2.size
   have hbs1 := hb1.size
   cases N with
   | zero =>
    obtain ⟨a2, c2, rfl⟩ := own_form hV.row
    have hn : xs = [] := by
     rcases hT with ⟨h, _⟩ | ⟨_, L, h, _⟩
     · exact List.length_eq_zero_iff.1 h
     · omega
    subst hn
    clear hV hT
    go_wp2
    go_ret2
    refine ⟨_, rfl, ?_, hB2.alloc hbs _⟩
    exact own_of_block (ys := [1]) hbs (heap_alloc_new w2 _) rfl (by decide)
   | succ L =>
    obtain ⟨g, cap, hv2, _, _⟩ := hV.row.form (by omega)
    subst hv2
    have hc1' := hV.level (i := L) (by omega)
    have hL := hV.each L (by omega)
    have hct := hV.cuts L (by omega) 0 (by omega)
    have hfr := hV.from_
    rw [tre_top hT] at hL
    obtain ⟨gl, capl, hvl, _, _⟩ := hL.row.form (by simp)
    rw [hvl] at hc1' hL
    have hc2' := hL.list (i := 0) (by simp)
    have hO := hide (own_mono (hL.each 0 (by simp)) (show w.heap.size <= cut L by omega))
    obtain ⟨a3, c3, he3⟩ := own_form hO.out
    rw [he3] at hc2' hO
    have hL12 := hT.le m1
    clear hV hL hT
    simp only [List.length_singleton] at *
    go_wp2
    go_ret2
    exact ⟨_, rfl, hO.out, hB2⟩
 · have ht : (chk f [xs] != 0) = true := bne_iff_ne.2 he
   have HL : Hid (zeroL f xs = []) := by show _ = _; unfold zeroL; rw [if_neg he]
   rw [HL.out]
   clear h1 he HL
   generalize chk f [xs] = e0 at *
   apply Gives.none
   go_enter Tryz.func113, Tryz.ntmps113
   go_wp2_with (go_at_call 141; refine (hk.out _).mono ?_; rintro e w1 ⟨rfl, hb⟩)
   go_ret2
   exact ⟨rfl, hb⟩
theorem pow_int (K : Nat) : (2 : Int) ^ K = ((2 ^ K : Nat) : Int) := by rw [Int.natCast_pow]; rfl
theorem wrap_two (K : Nat) (h : 2 ^ K <= 1000000) : IntKind.i64.wrap ((2 : Int) ^ K) = ((2 ^ K : Nat) : Int) := by
 rw [pow_int]
 generalize 2 ^ K = q at *
 rw [IntKind.wrap_i64]; omega
theorem ck_length (xs : List Int) (s a : Nat) : (ck xs s a).length = min s (xs.length - a * s) := by unfold ck; rw [List.length_take, List.length_drop]
theorem co_ck (xs : List Int) (s a i : Nat) (h : i < (ck xs s a).length) : co (ck xs s a) i = co xs (a * s + i) := by
 rw [ck_length] at h
 unfold ck co
 rw [List.getD_eq_getElem?_getD, List.getD_eq_getElem?_getD, List.getElem?_take_of_lt (by omega), List.getElem?_drop]
theorem ck_els {p : Int} {xs : List Int} (hx : Els p xs) (s a : Nat) : Els p (ck xs s a) := fun x hm => hx x (List.mem_of_mem_drop (List.mem_of_mem_take hm))
theorem hand_val {p : Int} {wd : Bool} (hm : Md p wd) {xs P Q R : List Int} (hx : Els p xs) {s a i : Nat} (hd : Dv p P (zl p (ck xs s a)) Q R) (h1 : a * s <= i) (h2 : i < a * s + (ck xs s a).length) : vl p (co xs i) P = vl p (co xs i) R := by
 have hp : 0 < p := by have := hm.bounds; omega
 refine rem_vl hd ((zl_root hm (hx.co hp i) (ck_els hx s a)).2 ?_)
 have e := co_ck xs s a (i - a * s) (by omega)
 rw [show a * s + (i - a * s) = i by omega] at e
 rw [<- e, co_at (by omega)]; exact List.getElem_mem _
def Hand (f p : Int) (xs : List Int) (lo N g cap gv : Nat) (cut : Nat -> Nat) (vs : List Value) (uss : Nat -> List Value) (L : Nat) : Prop :=
 ∀ (a off m c cv : Nat) (P ys : List Int) (vp : Value) (va : Option Addr) (w : World),
  L < N -> Lvs w lo cut (.slice (some ⟨g, 0, none⟩) N cap) vs uss (tre p xs) N -> L + 1 <= c -> Rw w vp P -> Els p P -> P.length <= 2048 -> off = a * 2 ^ L -> m = (ck xs (2 ^ L) a).length -> m <= cv -> (0 < m -> va = some ⟨gv, off, none⟩) -> Ow w gv xs.length ys -> (∀ i, off <= i -> i < off + m -> co ys i = 0) ->
  Calls Tryz.prog 174 #[.int .u8 f, .slice (some ⟨g, 0, none⟩) (L + 1) c, .int .i64 (a : Int), vp, .slice va m cv] w fun e w' => e = .returned (.tuple #[]) ∧ ∃ ys', Ow w' gv xs.length ys' ∧ (∀ i, co ys' i = if off <= i ∧ i < off + m then vl p (co xs i) P else co ys i) ∧ w.grownBy w' (some gv)
theorem Lvs.kept {w w' : World} {lo N gv : Nat} {cut : Nat -> Nat} {v : Value} {vs : List Value} {uss : Nat -> List Value} {A : Nat -> List (List Int)} (h : Lvs w lo cut v vs uss A N) (hg : w.grownBy w' (some gv)) (hlt : gv < lo) : Lvs w' lo cut v vs uss A N := by
 have hcut : ∀ i, i < N -> lo <= cut i := fun i hi => Nat.le_trans h.from_ (h.cuts i (by omega) 0 (by omega))
 refine ⟨own_kept h.row hg (fun b hb hc => ?_), fun i hi => (h.each i hi).kept hg (fun b hb hc => ?_) (fun j b hj hb hc => ?_), h.mono, h.from_⟩
 · have := own_base h.row b hb; cases hc; omega
 · have := own_base (h.each i hi).row b hb; have := hcut i hi; cases hc; omega
 · have := (h.each i hi).from_ j b hb; have := hcut i hi; cases hc; omega
theorem hand_cells {w : World} {p : Int} {wd : Bool} {xs : List Int} {lo N g cap L a : Nat} {cut : Nat -> Nat} {vs : List Value} {uss : Nat -> List Value} (hm : Md p wd) (htop : p <= 18446744073709551615) (hl : xs.length <= 2048) (hV : Lvs w lo cut (.slice (some ⟨g, 0, none⟩) N cap) vs uss (tre p xs) N) (hL : L < N) (ha : a * 2 ^ L < xs.length) :
 ∃ gl capl u n1, w.cell? ⟨g, L, none⟩ = some (.slice (some ⟨gl, 0, none⟩) n1 capl) ∧ a < n1 ∧ n1 <= 2048 ∧ w.cell? ⟨gl, a, none⟩ = some u ∧ Rw w u (zl p (ck xs (2 ^ L) a)) := by
 have hc := (cn_lt (n := xs.length) (i := a) (s := 2 ^ L) (Nat.pow_pos (by decide))).2 ha
 have hcn : cn xs.length (2 ^ L) <= 2048 := by
  apply Nat.le_of_not_lt; intro hcon
  have := (cn_lt (Nat.pow_pos (by decide))).1 hcon
  have := Nat.le_mul_of_pos_right 2048 (Nat.pow_pos (n := L) (show 0 < 2 by decide))
  omega
 have h1 := hV.level hL
 have hE := hV.each L hL
 have hlen : (tre p xs L).length = cn xs.length (2 ^ L) := lvl_len p xs (2 ^ L)
 obtain ⟨gl, capl, hvl, _, _⟩ := hE.row.form (by rw [hlen]; omega)
 rw [hvl] at h1 hE
 have h2 := hE.list (i := a) (by rw [hlen]; exact hc)
 have h3 := hE.each a (by rw [hlen]; exact hc)
 have e : (tre p xs L).getD a [] = zl p (ck xs (2 ^ L) a) := lvl_at hc
 rw [e] at h3
 refine ⟨gl, capl, _, _, h1, by rw [hlen]; exact hc, by rw [hlen]; exact hcn, h2, (zl_wd hm htop _ (by have := ck_len xs (2 ^ L) a; omega)).row h3⟩
theorem hand_div {f p : Int} {wd : Bool} (h : Fi f p wd) {P zs : List Int} {vp u : Value} {w : World} (hz : Tm p zs) (hne : zs ≠ []) (hP : Els p P) (l1 : P.length <= 2048) (l2 : zs.length <= 4096) (r1 : Rw w vp P) (r2 : Rw w u zs) :
 Calls Tryz.prog 115 #[.int .u8 f, vp, u] w fun e w' => ∃ vq vr Q R, e = .returned (.tuple #[vq, vr, .int .i64 0]) ∧ Dv p P zs Q R ∧ w'.ownsRow w.heap.size 64 1 vr R.length (vals R) ∧ Below w.heap.size w w' := by
 have he : divE f P zs = 0 := by
  unfold divE
  rw [if_pos (er_yes h (allIn_of hP) (allIn_of hz.1) (by omega) l2), hz.2, if_neg hne]
 have := pDivMod_any f vp u P zs w r1 r2
 unfold Parts at this
 rw [he] at this
 exact this.mono fun e w' ⟨vq, vr, A, B, b, hE, hS, _, hor, _, _, hb⟩ => ⟨vq, vr, A, B, hE, by have := hS.2 he; rw [pOf_eq h] at this; exact this, hor, hb⟩
theorem ow_block {w : World} {g n : Nat} {ys : List Int} (h : Ow w g n ys) : w.heap[g]? = some (.cells (vals ys).toArray 64 (0, 0)) := own_block h
theorem ow_put {w : World} {g n a : Nat} {ys : List Int} {x : Int} (h : Ow w g n ys) (ha : a < n) (hn : n <= 17592186043904) : Ow (w.setRow g ((vals ys).toArray.toList.take a ++ ([Value.int .u64 x] ++ (vals ys).toArray.toList.drop (a + [Value.int .u64 x].length))).toArray) g n (ys.set a x) ∧ w.grownBy (w.setRow g ((vals ys).toArray.toList.take a ++ ([Value.int .u64 x] ++ (vals ys).toArray.toList.drop (a + [Value.int .u64 x].length))).toArray) (some g) := by
 have hl := own_len h
 have e : (vals ys).toArray.toList.take a ++ ([Value.int .u64 x] ++ (vals ys).toArray.toList.drop (a + [Value.int .u64 x].length)) = vals (ys.set a x) := by
  simp only [List.length_singleton]
  rw [<- vals_set, List.set_eq_take_append_cons_drop, if_pos (by rw [vals_length]; omega)]; rfl
 rw [e]
 refine ⟨own_of_block (Nat.le_refl _) (setRow_heap w g _ _ _ _ (ow_block h)) (by simpa using hl) hn, ⟨rfl, rfl, rfl, by simp, fun j _ hj => setRow_other w g j _ (fun e => hj (by simp [e]))⟩⟩
theorem hand_nil (f : Int) (vv : Value) (a : Int) (cv : Nat) (vp : Value) (va : Option Addr) (w : World) :
 Calls Tryz.prog 174 #[.int .u8 f, vv, .int .i64 a, vp, .slice va 0 cv] w fun e w' => e = .returned (.tuple #[]) ∧ w' = w := by
 go_enter Tryz.func174, Tryz.ntmps174
 go_wp2
 refine bodyPost_ret (v := .tuple #[]) ?_ rfl ⟨rfl, rfl⟩
 simp [results, Tryz.results174, go_sem]
theorem hand_none (f : Int) (g L c a cv : Nat) (vp : Value) (va : Option Addr) (w : World) :
 Calls Tryz.prog 174 #[.int .u8 f, .slice (some ⟨g, 0, none⟩) (L + 1) c, .int .i64 (a : Int), vp, .slice va 0 cv] w fun e w' => e = .returned (.tuple #[]) ∧ w' = w := hand_nil f _ a cv vp va w
theorem hand_zero (f p : Int) (wd : Bool) (xs : List Int) (lo N g cap gv : Nat) (cut : Nat -> Nat) (vs : List Value) (uss : Nat -> List Value) (h : Fi f p wd) (hx : Els p xs) (hl : xs.length <= 2048) (hlo : gv < lo) (hN : N <= 12) : Hand f p xs lo N g cap gv cut vs uss 0 := by
 intro a off m c cv P ys vp va w hL hV hc hP hPe hPl hoff hm hmc hva hO hz
 rw [Nat.pow_zero, Nat.mul_one] at hoff
 subst hoff
 rw [Nat.pow_zero] at hm
 by_cases ha : off < xs.length
 · rw [ck_one xs off ha] at hm
   have hm1 : m = 1 := hm
   subst hm1
   have e1 := hva (by omega)
   subst e1
   obtain ⟨gl, capl, u, n1, c1, hn1, hn2, c2, hru⟩ := hand_cells (a := off) (L := 0) h.md h.top hl hV hL (by rw [Nat.pow_zero]; omega)
   rw [Nat.pow_zero, ck_one xs off ha] at hru
   have hzf := zl_facts h.md [xs.getD off 0]
   have HD := hide (hand_div h hzf.1 (fun e => by have := hzf.2.2; rw [e] at this; simp at this) hPe hPl (by rw [hzf.2.2]; simp) hP hru)
   have hxe : El p (xs.getD off 0) := hx.co h.pos off
   have HR : Hid (∀ Q R, Dv p P (zl p [xs.getD off 0]) Q R -> R = tr [vl p (xs.getD off 0) P]) := fun Q R hd => rem_fac h.md hxe (by rw [fac_zl h.md]; exact hd)
   have HC : Hid (co xs off = xs.getD off 0) := rfl
   have hvw := elWord (vl_el h.pos (xs.getD off 0) P) h.top
   obtain ⟨au, cu, hu, _⟩ := hru.spell
   subst hu
   obtain ⟨ap, cp, hp', _⟩ := hP.spell
   subst hp'
   have hz0 := hz off (Nat.le_refl _) (by omega)
   have hgl := own_top hO gv rfl
   clear hV hP hru hPe hx hm hz hva hzf hxe
   generalize (zl p [xs.getD off 0]).length = n3 at *
   generalize xs.getD off 0 = x at *
   have hol := own_len hO
   by_cases hv0 : vl p x P = 0
   · go_enter Tryz.func174, Tryz.ntmps174
     have i0 : (0 : Int) <= (off : Int) := by omega
     have i1 : (off : Int) < (n1 : Int) := by omega
     go_wp2_with (first
      | (go_at_call 115; refine HD.out.mono ?_; rintro e w1 ⟨vq, vr, Q, R, rfl, hd, hor, hb1⟩; have hR := HR.out Q R hd; rw [hv0] at hR; have hR : R = [] := hR; rw [hR] at hor; obtain ⟨ar, cr, rfl⟩ := own_form hor; clear hd hR)
      | (refine wpList_copy_nothing rfl _ _ _ _ rfl 64 Tryz.underlying36 u64_size _ _ _ _ _ _ rfl rfl rfl ?_))
     refine bodyPost_ret (v := .tuple #[]) ?_ rfl ⟨rfl, ys, hO.below hb1, fun i => ?_, ?_⟩
     · simp [results, Tryz.results174, go_sem]
     · by_cases hi : off <= i ∧ i < off + 1
       · have : i = off := by omega
         rw [if_pos hi, this, HC.out, hv0, hz0]
       · rw [if_neg hi]
     · exact ⟨hb1.os, hb1.tape, hb1.output, hb1.size, fun k hk _ => hb1.block k hk⟩
   · go_enter Tryz.func174, Tryz.ntmps174
     have i0 : (0 : Int) <= (off : Int) := by omega
     have i1 : (off : Int) < (n1 : Int) := by omega
     go_wp2_with (first
      | (go_at_call 115; refine HD.out.mono ?_; rintro e w1 ⟨vq, vr, Q, R, rfl, hd, hor, hb1⟩; have hR := HR.out Q R hd; have hR : R = [vl p x P] := hR.trans (tr_full (.inr hv0)); rw [hR] at hor; obtain ⟨gr, cr, hvr, hgr, _⟩ := hor.form (by simp); subst hvr; have hO1 := hide (hO.below hb1); clear hd hR)
      | (refine wpList_copy_own rfl _ _ _ _ rfl 64 Tryz.underlying36 u64_size gv off 1 cv ⟨gr, 0, none⟩ 1 cr rfl rfl (vals ys).toArray 64 (ow_block hO1.out) [.int .u64 (vl p x P)] rfl (hor.cells (g := gr) rfl) (by simp [vals_length]; omega) (by simp [Value.oneCell']) ?_))
     have R1 := ow_put (x := vl p x P) hO1.out ha (by omega)
     refine bodyPost_ret (v := .tuple #[]) ?_ rfl ⟨rfl, _, R1.1, fun i => ?_, ?_⟩
     · simp [results, Tryz.results174, go_sem]
     · rw [co_set _ _ _ _ (by omega)]
       by_cases hi : i = off
       · rw [if_pos hi, if_pos ⟨by omega, by omega⟩, hi, HC.out]
       · rw [if_neg hi, if_neg (by omega)]
     · exact ⟨R1.2.os.trans hb1.os, R1.2.tape.trans hb1.tape, R1.2.output.trans hb1.output, Nat.le_trans hb1.size R1.2.size, fun k hk hne => (R1.2.block k (Nat.lt_of_lt_of_le hk hb1.size) hne).trans (hb1.block k hk)⟩
 · have hm0 : m = 0 := by rw [hm, ck_out xs 1 off (by omega)]; rfl
   subst hm0
   exact (hand_none f g 0 c off cv vp va w).mono fun e w' ⟨he, hw⟩ => ⟨he, ys, by rw [hw]; exact hO, fun i => by rw [if_neg (by omega)], by rw [hw]; exact grown_refl _ _⟩
theorem below_grow {a b : World} {r : Option Nat} (hb : Below a.heap.size a b) : a.grownBy b r := ⟨hb.os, hb.tape, hb.output, hb.size, fun k hk _ => hb.block k hk⟩
theorem two_halves {p : Int} {xs P R ys ys1 ys2 : List Int} {off hh m : Nat} (hv : ∀ i, off <= i -> i < off + m -> vl p (co xs i) P = vl p (co xs i) R) (hhm : hh <= m) (h1 : ∀ i, co ys1 i = if off <= i ∧ i < off + hh then vl p (co xs i) R else co ys i) (h2 : ∀ i, co ys2 i = if off + hh <= i ∧ i < off + m then vl p (co xs i) R else co ys1 i) : ∀ i, co ys2 i = if off <= i ∧ i < off + m then vl p (co xs i) P else co ys i := fun i => by
 rw [h2 i]
 by_cases a : off + hh <= i ∧ i < off + m
 · rw [if_pos a, if_pos ⟨by omega, a.2⟩, hv i (by omega) a.2]
 · rw [if_neg a, h1 i]
   by_cases b : off <= i ∧ i < off + hh
   · rw [if_pos b, if_pos ⟨b.1, by omega⟩, hv i b.1 (by omega)]
   · rw [if_neg b, if_neg (by omega)]
theorem rw_grown {w w' : World} {base gv n : Nat} {v : Value} {xs : List Int} (h : w.ownsRow base 64 1 v n (vals xs)) (hg : w.grownBy w' (some gv)) (hlt : gv < base) : w'.ownsRow base 64 1 v n (vals xs) := own_kept h hg (fun b hb hc => by have := own_base h b hb; cases hc; omega)
theorem hand_succ (f p : Int) (wd : Bool) (xs : List Int) (lo N g cap gv : Nat) (cut : Nat -> Nat) (vs : List Value) (uss : Nat -> List Value) (L : Nat) (h : Fi f p wd) (hx : Els p xs) (hl : xs.length <= 2048) (hlo : gv < lo) (hN : N <= 12) (ih : Hand f p xs lo N g cap gv cut vs uss L) : Hand f p xs lo N g cap gv cut vs uss (L + 1) := by
 intro a off m c cv P ys vp va w hL hV hc hP hPe hPl hoff hm hmc hva hO hz
 by_cases ha : off < xs.length
 · have hpow : 2 ^ (L + 1) = 2 * 2 ^ L := by rw [Nat.pow_succ, Nat.mul_comm]
   have hs0 : 0 < 2 ^ L := Nat.pow_pos (by decide)
   have hsL : 2 ^ L <= 4096 := by
    have : 2 ^ L <= 2 ^ 12 := Nat.pow_le_pow_right (by decide) (by omega)
    exact this
   have hoff2 : off = 2 * a * 2 ^ L := by rw [hoff, hpow, <- Nat.mul_assoc, Nat.mul_comm a 2]
   have hoff3 : (2 * a + 1) * 2 ^ L = off + 2 ^ L := by rw [hoff2, Nat.add_mul, Nat.one_mul]
   have hmv : m = min (2 * 2 ^ L) (xs.length - off) := by rw [hm, ck_length, <- hoff, hpow]
   have hmp : 0 < m := by omega
   have e1 := hva hmp
   subst e1
   obtain ⟨gl, capl, u, n1, c1, hn1, hn2, c2, hru⟩ := hand_cells (a := a) (L := L + 1) h.md h.top hl hV hL (by rw [<- hoff]; exact ha)
   have hzf := zl_facts h.md (ck xs (2 ^ (L + 1)) a)
   have hzl : (zl p (ck xs (2 ^ (L + 1)) a)).length = m + 1 := by rw [hzf.2.2, hm]
   have HD := hide (hand_div h hzf.1 (fun e => by rw [e] at hzl; simp at hzl) hPe hPl (by rw [hzl]; omega) hP hru)
   have HVl : Hid (∀ Q R, Dv p P (zl p (ck xs (2 ^ (L + 1)) a)) Q R -> (∀ i, off <= i -> i < off + m -> vl p (co xs i) P = vl p (co xs i) R) ∧ Els p R ∧ R.length <= 2048 ∧ Wd R) := fun Q R hd => by
    have h5 := hd.2.2.2.2.1
    rw [hzf.1.2, hzl] at h5
    exact ⟨fun i h1 h2 => hand_val h.md hx hd (by rw [<- hoff]; exact h1) (by rw [<- hoff, <- hm]; exact h2), hd.2.1, by omega, wd_els hd.2.1 h.top (by omega)⟩
   obtain ⟨au, cu, hu, _⟩ := hru.spell
   subst hu
   obtain ⟨ap, cp, hp', _⟩ := hP.spell
   subst hp'
   have hgl := own_top hO gv rfl
   obtain ⟨hh, HH⟩ : ∃ hh, Hid (min (2 ^ L) m = hh) := ⟨min (2 ^ L) m, hide (Eq.refl _)⟩
   have hhm : hh <= m := by have := HH.out; omega
   have hhp : 0 < hh := by have := HH.out; omega
   have hhl : hh = (ck xs (2 ^ L) (2 * a)).length := by rw [ck_length, <- hoff2, <- HH.out]; omega
   have hrl : m - hh = (ck xs (2 ^ L) (2 * a + 1)).length := by rw [ck_length, hoff3, <- HH.out]; omega
   have hro : 0 < m - hh -> off + hh = (2 * a + 1) * 2 ^ L := fun hpos => by rw [hoff3]; have := HH.out; omega
   have I1 := hide (fun W P' vp' (hV' : Lvs W lo cut (.slice (some ⟨g, 0, none⟩) N cap) vs uss (tre p xs) N) (r : Rw W vp' P') (e : Els p P') (l : P'.length <= 2048) (o : Ow W gv xs.length ys) => ih (2 * a) off hh (L + 1) hh P' ys vp' (some ⟨gv, off, none⟩) W (by omega) hV' (Nat.le_refl _) r e l hoff2 hhl (Nat.le_refl _) (fun _ => rfl) o (fun i h1 h2 => hz i h1 (by omega)))
   have I2 : Hid (∀ W P' vp' ys' va', Lvs W lo cut (.slice (some ⟨g, 0, none⟩) N cap) vs uss (tre p xs) N -> Rw W vp' P' -> Els p P' -> P'.length <= 2048 -> Ow W gv xs.length ys' -> (∀ i, off + hh <= i -> i < off + m -> co ys' i = 0) -> (0 < m - hh -> va' = some ⟨gv, off + hh, none⟩) ->
    Calls Tryz.prog 174 #[.int .u8 f, .slice (some ⟨g, 0, none⟩) (L + 1) (L + 1), .int .i64 ((2 * a + 1 : Nat) : Int), vp', .slice va' (m - hh) (m - hh)] W fun e w' => e = .returned (.tuple #[]) ∧ ∃ ys'', Ow w' gv xs.length ys'' ∧ (∀ i, co ys'' i = if off + hh <= i ∧ i < off + m then vl p (co xs i) P' else co ys' i) ∧ W.grownBy w' (some gv)) := fun W P' vp' ys' va' hV' r e l o hz' hva' => by
    by_cases hpos : 0 < m - hh
    · have := ih (2 * a + 1) (off + hh) (m - hh) (L + 1) (m - hh) P' ys' vp' va' W (by omega) hV' (Nat.le_refl _) r e l (hro hpos) hrl (Nat.le_refl _) hva' o (fun i h1 h2 => hz' i h1 (by omega))
      rw [show off + hh + (m - hh) = off + m by omega] at this
      exact this
    · have e0 : m - hh = 0 := by omega
      rw [e0]
      exact (hand_none f g L (L + 1) (2 * a + 1) 0 vp' va' W).mono fun e w' ⟨he, hw⟩ => ⟨he, ys', by rw [hw]; exact o, fun i => by rw [if_neg (by omega)], by rw [hw]; exact grown_refl _ _⟩
   have HV := hide hV
   have hO' := hide hO
   have hzz := hide hz
   have HT := hide h.top
   clear hV hP hru hPe hx hz hva hzf hO ih hoff hoff2 hoff3 hm hzl hro hhl hrl
   generalize (zl p (ck xs (2 ^ (L + 1)) a)).length = n3 at *
   have hsh : IntKind.i64.wrap ((2 : Int) ^ L) = ((2 ^ L : Nat) : Int) := wrap_two L (by omega)
   have hsh2 : (2 : Int) ^ L = ((2 ^ L : Nat) : Int) := pow_int L
   have hm2 : m <= 2048 := by omega
   clear hmv hpow
   generalize hq : 2 ^ L = q at *
   clear hq
   obtain ⟨a2, HA2⟩ : ∃ a2, Hid (2 * a = a2) := ⟨2 * a, hide (Eq.refl _)⟩
   obtain ⟨a3, HA3⟩ : ∃ a3, Hid (2 * a + 1 = a3) := ⟨2 * a + 1, hide (Eq.refl _)⟩
   rw [HA2.out] at I1
   rw [HA3.out] at I2
   have hA2 : 2 * (a : Int) = (a2 : Int) := by have := HA2.out; omega
   have hA3 : (a2 : Int) + 1 = (a3 : Int) := by have := HA2.out; have := HA3.out; omega
   have wA2 : IntKind.i64.wrap (a2 : Int) = (a2 : Int) := by have := HA2.out; rw [IntKind.wrap_i64]; omega
   have wA3 : IntKind.i64.wrap (a3 : Int) = (a3 : Int) := by have := HA3.out; rw [IntKind.wrap_i64]; omega
   have i0 : (0 : Int) <= (a : Int) := by omega
   have i1 : (a : Int) < (n1 : Int) := by omega
   have L0 : (0 : Int) <= (L : Int) := by omega
   have L1 : (L : Int) <= 12 := by omega
   have L2 : (0 : Int) <= (L : Int) + 1 := by omega
   have L3 : (L : Int) + 1 <= (c : Int) := by omega
   have L4 : ((L : Int) + 1).toNat = L + 1 := by omega
   have hcase : (q < m ∧ hh = q) ∨ (m < q ∧ hh = m) ∨ (q = m ∧ hh = m) := by have := HH.out; omega
   rcases hcase with ⟨hqm, e⟩ | ⟨hqm, e⟩ | ⟨hqm, e⟩
   · subst e
     have j0 : (0 : Int) <= (hh : Int) := by omega
     have j1 : (hh : Int) <= (m : Int) := by omega
     have j2 : (hh : Int) <= (cv : Int) := by omega
     have j3 : (m : Int) <= (cv : Int) := by omega
     have j4 : ¬ m = hh := by omega
     have j5 : (hh : Int) < (m : Int) := by omega
     go_enter Tryz.func174, Tryz.ntmps174
     go_wp2_with (go_at_call 115; refine HD.out.mono ?_; rintro e w1 ⟨vq, vr, Q, R, rfl, hd, hor, hb1⟩; have hvl := hide (HVl.out Q R hd); obtain ⟨ar, cr, rfl⟩ := own_form hor; clear hd)
     have hb2 : Below w.heap.size w w1.drew := hb1.drew
     have c1' := hide (I1.out w1.drew R _ (HV.out.below hb2) (hvl.out.2.2.2.row (own_below hor ((Below.refl _ w1).drew))) hvl.out.2.1 hvl.out.2.2.1 (hO'.out.below hb2))
     go_region_held3 (fun _ => True) (trivial) (first
      | (go_at_call 174; refine c1'.out.mono ?_; rintro e w3 ⟨rfl, ys1, hO1, hy1, hg3⟩))
     have hor2 := own_below hor ((Below.refl _ w1).drew)
     have hV3 := hide ((HV.out.below hb2).kept hg3 hlo)
     have hor3 := hide (rw_grown hor2 hg3 hgl)
     have hz3 : Hid (∀ i, off + hh <= i -> i < off + m -> co ys1 i = 0) := fun i k1 k2 => by rw [hy1 i, if_neg (by omega)]; exact hzz.out i (by omega) k2
     have hw3 : Below w3.heap.size w3 w3.drew := (Below.refl _ w3).drew
     have c2' := hide (fun va' hva' => I2.out w3.drew R (.slice ar R.length cr) ys1 va' (hV3.out.below hw3) (hvl.out.2.2.2.row (own_below hor3.out hw3)) hvl.out.2.1 hvl.out.2.2.1 (hO1.below hw3) hz3.out hva')
     have HY1 := hide hy1
     have hG3 := hide hg3
     clear hor hor2 hy1 hg3 hO1 hV3 hor3
     go_wp2_with fail
     go_region_held3 (fun _ => True) (trivial) (first
      | (go_at_call 174; refine (c2'.out _ (fun _ => rfl)).mono ?_; rintro e w4 ⟨rfl, ys2, hO2, hy2, hg4⟩))
     go_wp2
     go_end0
     refine ⟨rfl, ys2, hO2, two_halves hvl.out.1 hhm HY1.out hy2, ?_⟩
     exact grown_trans (grown_trans (below_grow hb2) hG3.out) (grown_trans (below_grow hw3) hg4)
   · subst e
     have j5 : (hh : Int) < (q : Int) := by omega
     have j0 : (0 : Int) <= (hh : Int) := by omega
     have j2 : (hh : Int) <= (cv : Int) := by omega
     have j3 : (hh : Int) <= (hh : Int) := by omega
     have em : hh - hh = 0 := by omega
     rw [em] at I2
     go_enter Tryz.func174, Tryz.ntmps174
     go_wp2_with (go_at_call 115; refine HD.out.mono ?_; rintro e w1 ⟨vq, vr, Q, R, rfl, hd, hor, hb1⟩; have hvl := hide (HVl.out Q R hd); obtain ⟨ar, cr, rfl⟩ := own_form hor; clear hd)
     have hb2 : Below w.heap.size w w1.drew := hb1.drew
     have c1' := hide (I1.out w1.drew R _ (HV.out.below hb2) (hvl.out.2.2.2.row (own_below hor ((Below.refl _ w1).drew))) hvl.out.2.1 hvl.out.2.2.1 (hO'.out.below hb2))
     go_region_held3 (fun _ => True) (trivial) (first
      | (go_at_call 174; refine c1'.out.mono ?_; rintro e w3 ⟨rfl, ys1, hO1, hy1, hg3⟩))
     have hor2 := own_below hor ((Below.refl _ w1).drew)
     have hV3 := hide ((HV.out.below hb2).kept hg3 hlo)
     have hor3 := hide (rw_grown hor2 hg3 hgl)
     have hz3 : Hid (∀ i, off + hh <= i -> i < off + hh -> co ys1 i = 0) := fun i k1 k2 => by rw [hy1 i, if_neg (by omega)]; exact hzz.out i (by omega) k2
     have hw3 : Below w3.heap.size w3 w3.drew := (Below.refl _ w3).drew
     have c2' := hide (fun va' hva' => I2.out w3.drew R (.slice ar R.length cr) ys1 va' (hV3.out.below hw3) (hvl.out.2.2.2.row (own_below hor3.out hw3)) hvl.out.2.1 hvl.out.2.2.1 (hO1.below hw3) hz3.out hva')
     have HY1 := hide hy1
     have hG3 := hide hg3
     clear hor hor2 hy1 hg3 hO1 hV3 hor3
     go_wp2_with fail
     go_region_held3 (fun _ => True) (trivial) (first
      | (go_at_call 174; refine (c2'.out _ (fun h => absurd h (by decide))).mono ?_; rintro e w4 ⟨rfl, ys2, hO2, hy2, hg4⟩))
     go_wp2
     go_end0
     refine ⟨rfl, ys2, hO2, two_halves hvl.out.1 hhm HY1.out hy2, ?_⟩
     exact grown_trans (grown_trans (below_grow hb2) hG3.out) (grown_trans (below_grow hw3) hg4)
   · subst e
     have hqm2 := hqm.symm
     clear hqm
     subst hqm2
     have j0 : (0 : Int) <= (hh : Int) := by omega
     have j2 : (hh : Int) <= (cv : Int) := by omega
     have j3 : (hh : Int) <= (hh : Int) := by omega
     have em : hh - hh = 0 := by omega
     rw [em] at I2
     go_enter Tryz.func174, Tryz.ntmps174
     go_wp2_with (go_at_call 115; refine HD.out.mono ?_; rintro e w1 ⟨vq, vr, Q, R, rfl, hd, hor, hb1⟩; have hvl := hide (HVl.out Q R hd); obtain ⟨ar, cr, rfl⟩ := own_form hor; clear hd)
     have hb2 : Below w.heap.size w w1.drew := hb1.drew
     have c1' := hide (I1.out w1.drew R _ (HV.out.below hb2) (hvl.out.2.2.2.row (own_below hor ((Below.refl _ w1).drew))) hvl.out.2.1 hvl.out.2.2.1 (hO'.out.below hb2))
     go_region_held3 (fun _ => True) (trivial) (first
      | (go_at_call 174; refine c1'.out.mono ?_; rintro e w3 ⟨rfl, ys1, hO1, hy1, hg3⟩))
     have hor2 := own_below hor ((Below.refl _ w1).drew)
     have hV3 := hide ((HV.out.below hb2).kept hg3 hlo)
     have hor3 := hide (rw_grown hor2 hg3 hgl)
     have hz3 : Hid (∀ i, off + hh <= i -> i < off + hh -> co ys1 i = 0) := fun i k1 k2 => by rw [hy1 i, if_neg (by omega)]; exact hzz.out i (by omega) k2
     have hw3 : Below w3.heap.size w3 w3.drew := (Below.refl _ w3).drew
     have c2' := hide (fun va' hva' => I2.out w3.drew R (.slice ar R.length cr) ys1 va' (hV3.out.below hw3) (hvl.out.2.2.2.row (own_below hor3.out hw3)) hvl.out.2.1 hvl.out.2.2.1 (hO1.below hw3) hz3.out hva')
     have HY1 := hide hy1
     have hG3 := hide hg3
     clear hor hor2 hy1 hg3 hO1 hV3 hor3
     go_wp2_with fail
     go_region_held3 (fun _ => True) (trivial) (first
      | (go_at_call 174; refine (c2'.out _ (fun h => absurd h (by decide))).mono ?_; rintro e w4 ⟨rfl, ys2, hO2, hy2, hg4⟩))
     go_wp2
     go_end0
     refine ⟨rfl, ys2, hO2, two_halves hvl.out.1 hhm HY1.out hy2, ?_⟩
     exact grown_trans (grown_trans (below_grow hb2) hG3.out) (grown_trans (below_grow hw3) hg4)
 · have hm0 : m = 0 := by rw [hm, ck_out xs _ a (by rw [<- hoff]; omega)]; rfl
   subst hm0
   exact (hand_none f g (L + 1) c a cv vp va w).mono fun e w' ⟨he, hw⟩ => ⟨he, ys, by rw [hw]; exact hO, fun i => by rw [if_neg (by omega)], by rw [hw]; exact grown_refl _ _⟩
theorem hand_any (f p : Int) (wd : Bool) (xs : List Int) (lo N g cap gv : Nat) (cut : Nat -> Nat) (vs : List Value) (uss : Nat -> List Value) (h : Fi f p wd) (hx : Els p xs) (hl : xs.length <= 2048) (hlo : gv < lo) (hN : N <= 12) : ∀ L, Hand f p xs lo N g cap gv cut vs uss L := by
 intro L
 induction L with
 | zero => exact hand_zero f p wd xs lo N g cap gv cut vs uss h hx hl hlo hN
 | succ L ih => exact hand_succ f p wd xs lo N g cap gv cut vs uss L h hx hl hlo hN ih
def valsL (f : Int) (P xs : List Int) : List Int := if chk f [P, xs] = 0 then xs.map (fun x => vl (pOf f) x P) else []
theorem chk_both {f : Int} {P xs : List Int} (h : chk f [P, xs] = 0) : ∃ p wd, Fi f p wd ∧ allIn p P = true ∧ allIn p xs = true ∧ P.length <= 2048 ∧ xs.length <= 2048 := by
 obtain ⟨h1, h2⟩ := chk_zero h List.mem_cons_self
 obtain ⟨k1, k2⟩ := chk_zero h (List.mem_cons_of_mem _ (List.mem_singleton.2 rfl))
 obtain ⟨p, wd, hf, hi⟩ := inF_fi h1
 rw [inF_yes hf] at k1
 exact ⟨p, wd, hf, hi, k1, h2, k2⟩
theorem co_map (F : Int -> Int) (xs : List Int) (i : Nat) (h : i < xs.length) : co (xs.map F) i = F (co xs i) := by
 unfold co
 rw [List.getD_eq_getElem?_getD, List.getD_eq_getElem?_getD, List.getElem?_map, List.getElem?_eq_getElem h]; rfl
theorem tValues_any (f : Int) (v1 v2 : Value) (P xs : List Int) (w : World) (h1 : Rw w v1 P) (h2 : Rw w v2 xs) : Gives 144 #[.int .u8 f, v1, v2] w (valsL f P xs) (chk f [P, xs]) := by
 have hk := hide (fun T => tcheck_two f v1 v2 P xs w h1 h2 T)
 obtain ⟨a1, c1, rfl, _⟩ := h1.spell
 obtain ⟨a2, c2, rfl, _⟩ := h2.spell
 by_cases he : chk f [P, xs] = 0
 · obtain ⟨p, wd, h, i1, i2, m1, m2⟩ := chk_both he
   obtain ⟨i0, hi0, hz0, hz1, hz2⟩ := info_parts u64_info
   have HL : Hid (valsL f P xs = xs.map (fun x => vl p x P)) := by show _ = _; unfold valsL; rw [if_pos he, pOf_eq h]
   have hx := els_of i2 h2.words
   have HG := hide (fun W (hb : Below w.heap.size w W) => grown_any f p wd _ xs W h (h2.below hb) hx m2)
   have HH := hide (fun lo N g cap gv cut vs uss (hlo : gv < lo) (hN : N <= 12) => hand_any f p wd xs lo N g cap gv cut vs uss h hx m2 hlo hN)
   have HP := hide (fun W (hb : Below w.heap.size w W) => h1.below hb)
   have HPe := hide (els_of i1 h1.words)
   rw [he] at hk
   rw [HL.out, he]
   have HML : Hid ((xs.map (fun x => vl p x P)).length = xs.length) := by show _ = _; simp
   clear h1 h2 h i1 i2 he HL hx
   show Calls _ _ _ _ _
   rw [HML.out]
   go_enter Tryz.func144, Tryz.ntmps144
   go_wp2_with fail
   refine (hk.out _).mono ?_; rintro e w1 ⟨rfl, hb1⟩
   have hbs1 := hb1.size
   go_wp2_with (at_make; refine wpList_make_full _ rfl _ _ 36 rfl w1.heap.size 64 i0 (.int .u64 0) 1 Tryz.underlying36 hi0 hz0 hz1 .i64 .i64 _ _ xs.length rfl rfl (by omega) (by omega) (by rw [hz2]; omega) (by unfold maxLen; omega) (Nat.le_refl _) ?_; intro w2 hown hgrow; have hO2 := hide (Ow.made hown); have hB2 := Below.next hb1 (below_grown_none hgrow); have hg2 := hide hgrow; clear hown hgrow)
   all_goals try (go_wp2_with fail)
   refine (HG.out _ hB2).mono ?_; rintro e w3 ⟨vv, cut, vs, uss, N, rfl, hV, hT, hcu, hb3⟩
   have hB3 := Below.next hB2 hb3
   have hO3 := hide (hO2.out.below hb3)
   have hgv := own_top hO2.out w1.heap.size rfl
   have hN := hT.le m2
   cases N with
   | zero =>
    obtain ⟨av, cv, rfl⟩ := own_form hV.row
    have hn : xs = [] := by
     rcases hT with ⟨h, _⟩ | ⟨_, L, h, _⟩
     · exact List.length_eq_zero_iff.1 h
     · omega
    subst hn
    have hh := hide (fun W => hand_nil f (.slice av 0 cv) 0 0 (.slice a1 P.length c1) (some ⟨w1.heap.size, 0, none⟩) W)
    clear hV hT
    go_wp2_with (go_at_call 174; refine (hh.out _).mono ?_; rintro e w4 ⟨rfl, hw4⟩; rw [hw4]; clear hw4)
    go_ret2
    exact ⟨_, rfl, own_mono hO3.out hbs1, hB3⟩
   | succ L =>
    obtain ⟨g, cap, hv2, _, _⟩ := hV.row.form (by omega)
    subst hv2
    have hcap : L + 1 <= cap := by
     rcases hV.row.2 with ⟨h, _⟩ | ⟨_, _, _, h, _, _, h4, _⟩
     · cases h
     · cases h; exact h4
    have hck : ck xs (2 ^ L) 0 = xs := ck_all xs _ hT.top.2.2
    have hh := hide (HH.out w2.heap.size (L + 1) g cap w1.heap.size cut vs uss hgv hN L 0 0 xs.length cap xs.length P (List.replicate xs.length 0) (.slice a1 P.length c1) (some ⟨w1.heap.size, 0, none⟩) w3 (by omega) hV hcap (HP.out _ hB3) HPe.out m1 (by rw [Nat.zero_mul]) (by rw [hck]) (Nat.le_refl _) (fun _ => rfl) hO3.out (fun i _ _ => by
     unfold co; rw [List.getD_eq_getElem?_getD]
     by_cases hi : i < xs.length
     · rw [List.getElem?_eq_getElem (by simpa using hi)]; simp
     · rw [List.getElem?_eq_none (by simpa using hi)]; rfl))
    clear hV hT hO3
    go_wp2_with (go_at_call 174; refine hh.out.mono ?_; rintro e w4 ⟨rfl, ys, hO4, hy, hg4⟩)
    have hyl := own_len hO4
    have HE : Hid (ys = xs.map (fun x => vl p x P)) := ext_co (by rw [hyl, List.length_map]) (fun i hi => by
     rw [hy i, if_pos ⟨by omega, by omega⟩, co_map _ _ _ (by omega)])
    go_ret2
    rw [HE.out] at hO4
    exact ⟨_, rfl, own_mono hO4 hbs1, hB3.grown hg4 hB3.size (fun k hk => by cases hk; exact hbs1)⟩
 · have ht : (chk f [P, xs] != 0) = true := bne_iff_ne.2 he
   have HL : Hid (valsL f P xs = []) := by show _ = _; unfold valsL; rw [if_neg he]
   rw [HL.out]
   clear h1 h2 he HL
   generalize chk f [P, xs] = e0 at *
   apply Gives.none
   go_enter Tryz.func144, Tryz.ntmps144
   go_wp2_with (go_at_call 141; refine (hk.out _).mono ?_; rintro e w1 ⟨rfl, hb⟩)
   go_ret2
   exact ⟨rfl, hb⟩
end Go.Proofs.YtjhididlcdepdaaGreat
