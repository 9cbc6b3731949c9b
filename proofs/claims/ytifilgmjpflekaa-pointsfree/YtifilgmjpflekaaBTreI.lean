/-
  Layer 6: factors; a level of the tree out of the level ahead.
-/
import Derived.Test.YtifilgmjpflekaaBTreG
import Derived.FnLit
namespace Go.Proofs.Ytifilgmjpflekaa
open Go.RowKit Fld
set_option linter.unusedVariables false

theorem fac_is {p x : Int} {wd : Bool} (hm : Md p wd) : Is p (fac p x) (fun i => co [0, 1] i - co [x] i) := by
  have ht := fac_tm (x := x) hm
  refine ⟨ht.1, ht.2, fun i => ?_⟩
  match i with
  | 0 =>
    show sub p 0 x % p = (0 - x) % p
    unfold sub
    exact Int.emod_emod_of_dvd _ (Int.dvd_refl p)
  | 1 => rfl
  | i + 2 => rfl
theorem fac_sub {f p x : Int} {wd : Bool} (h : Fi f p wd) (hx : El p x) : er f [0, 1] [x] = 0 ∧ subL f [0, 1] [x] = fac p x := by
  have hb := h.md.bounds
  have he : er f [0, 1] [x] = 0 := er_yes h (allIn_of (fun y hy => by
    have : y = 0 ∨ y = 1 := by simpa using hy
    rcases this with rfl | rfl
    · exact ⟨by decide, by omega⟩
    · exact ⟨by decide, by omega⟩)) (allIn_of (fun y hy => by rw [List.mem_singleton.1 hy]; exact hx)) (by simp) (by simp)
  refine ⟨he, ?_⟩
  unfold subL
  rw [if_pos he, pOf_eq h]
  exact (is_sub h.pos _ _).only h.pos (fac_is h.md)
theorem fac_zl {p x : Int} {wd : Bool} (hm : Md p wd) : fac p x = zl p [x] := by
  apply zl_only hm (fac_tm hm)
  show _ = qm (pl p (fac p x)) (pl p [1])
  rw [pl_mul_one]
theorem fac_call (w : World) (T T2 : TypeId) {f p x : Int} {wd : Bool} (h : Fi f p wd) (hx : El p x) :
    Calls Try.prog 69 #[.int .u8 f, .slice (some ⟨w.heap.size, 0, none⟩) 2 2, .slice (some ⟨w.heap.size + 1, 0, none⟩) 1 1] ((w.alloc (.cells #[.int .u64 0, .int .u64 1] T)).alloc (.cells #[.int .u64 x] T2)) fun e w' => ∃ v', e = .returned (.tuple #[v', .int .i64 0]) ∧ w'.ownsRow w.heap.size 25 1 v' (fac p x).length (vals (fac p x)) ∧ Below w.heap.size w w' := by
  have b1 := alloc_below w (.cells #[.int .u64 0, .int .u64 1] T)
  have b2 := alloc_below (w.alloc (.cells #[.int .u64 0, .int .u64 1] T)) (.cells #[.int .u64 x] T2)
  have e2 : (w.alloc (.cells #[.int .u64 0, .int .u64 1] T)).heap.size = w.heap.size + 1 := by simp
  have r1 := (rwT w 0 1 (by decide) (by decide) T).below b2
  have r2 := rw1 (w.alloc (.cells #[.int .u64 0, .int .u64 1] T)) x (elWord hx h.top) T2
  rw [e2] at r2
  have := pSub_any f _ _ [0, 1] [x] _ r1 r2
  unfold Gives at this
  rw [(fac_sub h hx).1, (fac_sub h hx).2] at this
  exact this.mono fun e w' ⟨v', he, hO, hb⟩ => ⟨v', he, own_mono hO (by simp; omega), Below.next (Below.next b1 b2) hb⟩

/-- A level: the products of pieces. -/
def lvl (p : Int) (xs : List Int) (s : Nat) : List (List Int) := (List.range (cn xs.length s)).map (fun i => zl p (ck xs s i))
theorem lvl_len (p : Int) (xs : List Int) (s : Nat) : (lvl p xs s).length = cn xs.length s := by simp [lvl]
theorem lvl_at {p : Int} {xs : List Int} {s i : Nat} (h : i < cn xs.length s) : (lvl p xs s).getD i [] = zl p (ck xs s i) := by
  rw [List.getD_eq_getElem?_getD, List.getElem?_eq_getElem (by rw [lvl_len]; exact h)]; simp [lvl]
theorem cn_one (n : Nat) : cn n 1 = n := by unfold cn; omega
theorem ck_len (xs : List Int) (s i : Nat) : (ck xs s i).length ≤ xs.length := by unfold ck; rw [List.length_take, List.length_drop]; omega
theorem zl_wd {p : Int} {wd : Bool} (hm : Md p wd) (hp : p ≤ 18446744073709551615) (xs : List Int) (hl : xs.length ≤ 17592186043900) : Wd (zl p xs) := by
  have h := zl_facts hm xs
  exact wd_els h.1.1 hp (by rw [h.2.2]; omega)
theorem lvl_wd {p : Int} {wd : Bool} (hm : Md p wd) (hp : p ≤ 18446744073709551615) (xs : List Int) (s : Nat) (hl : xs.length ≤ 2048) : ∀ i, Wd ((lvl p xs s).getD i []) := fun i => by
  by_cases hi : i < cn xs.length s
  · rw [lvl_at hi]; exact zl_wd hm hp _ (by have := ck_len xs s i; omega)
  · rw [List.getD_eq_getElem?_getD, List.getElem?_eq_none (by rw [lvl_len]; omega)]; exact wd_nil
theorem lvl_one {p : Int} {wd : Bool} (hm : Md p wd) {xs : List Int} : ∀ k, k ≤ xs.length → (List.range k).map (fun i => zl p (ck xs 1 i)) = (xs.take k).map (fac p) := by
  intro k
  induction k with
  | zero => intro _; rfl
  | succ k ih =>
    intro hk
    rw [List.range_succ, List.map_append, ih (by omega), List.take_succ_eq_append_getElem hk, List.map_append]
    congr 1
    show [zl p (ck xs 1 k)] = [fac p xs[k]]
    rw [ck_one xs k hk, fac_zl hm, List.getD_eq_getElem?_getD, List.getElem?_eq_getElem hk]; rfl
theorem lvl_facs {p : Int} {wd : Bool} (hm : Md p wd) (xs : List Int) : xs.map (fac p) = lvl p xs 1 := by
  have := lvl_one hm xs.length (Nat.le_refl _)
  rw [List.take_length] at this
  rw [← this]; unfold lvl; rw [cn_one]

set_option maxRecDepth 100000 in
set_option maxHeartbeats 400000 in
theorem factors_any (f p : Int) (wd : Bool) (v : Value) (xs : List Int) (w : World) (h : Fi f p wd) (h1 : Rw w v xs) (hx : Els p xs) (hl : xs.length ≤ 2048) :
    Calls Try.prog 95 #[.int .u8 f, v] w fun e w' => ∃ v' us, e = .returned v' ∧ Lss w' w.heap.size w'.heap.size v' us (lvl p xs 1) ∧ Below w.heap.size w w' := by
  obtain ⟨i0, hi0, hz0, hz1, hz2⟩ := info_parts sl_info
  have HF := hide (fun W T T2 x (hx : El p x) => fac_call W T T2 h hx)
  have HE := hide hx
  have hp0 := h.pos
  have HV := hide (lvl_facs h.md xs)
  rw [← HV.out]
  obtain ⟨⟨ao, cap, rfl, hlen, hw, hc⟩, _⟩ := h1
  clear h hx
  go_enter Try.func95, Try.ntmps95
  go_wp2
  go_loopw [5, 12] (fun vo vi wr => ∃ (k : Nat) (us : List Value), k ≤ xs.length ∧ vi = .int .i64 k ∧ Hid (Lss wr w.heap.size wr.heap.size vo us ((xs.take k).map (fac p))) ∧ Below w.heap.size w wr) (fun _ vi _ => xs.length - (intOf vi).toNat)
  case atStart => exact ⟨0, [], Nat.zero_le _, rfl, Lss.nil _ _ _, Below.refl _ _⟩
  case round =>
    obtain ⟨k, us, hk, rfl, HL, hB⟩ := hrel
    by_cases hlt : k < xs.length
    · obtain ⟨b, off, rfl, hbl, hcell⟩ := hc (by intro h; rw [h] at hlt; simp at hlt)
      have hck := (hB.cell (p := ⟨b, off + k, none⟩) hbl).trans (hcell k hlt)
      have hxe : El p (xs.getD k 0) := HE.out.co hp0 k
      have HS : Hid ((xs.take k).map (fac p) ++ [fac p (xs.getD k 0)] = (xs.take (k + 1)).map (fac p)) := by
        show _ = _
        rw [List.take_succ_eq_append_getElem hlt, List.map_append, List.getD_eq_getElem?_getD, List.getElem?_eq_getElem hlt]; rfl
      have hml : ((xs.take k).map (fac p)).length = k := by simp; omega
      have hfc := hide (fun T T2 => HF.out wr T T2 _ hxe)
      generalize xs.getD k 0 = x at *
      generalize (xs.take k).map (fac p) = lss at *
      clear hcell hc hxe
      generalize hln : fac p x = fx at *
      have HLN := hide hln
      clear hln
      go_wp2_with (first
        | (go_at_call 69; refine (hfc.out _ _).mono ?_; rintro e w3 ⟨vr, rfl, hor, hb3⟩; obtain ⟨ar, cr, rfl⟩ := own_form hor; have HL3 := hide (HL.out.below hb3); have hsz3 := hb3.size; have hbs := hB.size)
        | (at_builtin; refine wpList_append_lies _ rfl _ _ _ rfl w.heap.size 26 i0 _ 1 24 Try.underlying39 hi0 hz0 hz1 hz2 rfl (by omega) u5 lss.length us rfl (HL3.out.row.alloc _) ⟨w3.heap.size, 0, none⟩ 1 1 [.slice ar fx.length cr] rfl rfl (World.news_of_block (cs := #[.slice ar fx.length cr]) (t := 26) (fr := (0, 0)) (heap_alloc_new w3 _)) (by simp [Value.oneCell']) (by omega) (by unfold maxLen; omega) (by omega) (by simp; omega) (w3.heap.size + 1) (by simp) ?_; intro gg cap2 w4 hown4 hgrow hat hltg))
      have hB3 := Below.next hB hb3
      have R := hide (HL3.out.push (w := w) (H := wr.heap.size) (Nat.le_refl _) hbs (Nat.le_refl _) hB3 hor hown4 hgrow)
      clear hown4 hgrow hat hltg HL HL3 hor
      rw [HS.out, hml] at R
      go_roundw
      case rel => exact ⟨k + 1, _, by omega, by go_num, R.out.1.here, R.out.2⟩
      case measure => simp [intOf]; omega
    · obtain rfl : k = xs.length := by omega
      rw [List.take_length] at HL
      clear hc
      go_wp2
      go_ret
      exact ⟨_, us, rfl, HL.out, hB⟩

/-- What is done with a pair. -/
theorem mul_pair {f p : Int} {wd : Bool} (h : Fi f p wd) {xs ys : List Int} (hx : Tm p xs) (hy : Tm p ys) (l1 : xs.length ≤ 2049) (l2 : ys.length ≤ 2048) : mulL f xs ys = prd p xs ys := by
  have he := er_yes h (allIn_of hx.1) (allIn_of hy.1) (by omega) (by omega)
  have e0 : mulE f xs ys = 0 := by unfold mulE; rw [if_pos he, hx.2, hy.2, if_neg (by omega)]
  unfold mulL
  rw [if_pos e0, pOf_eq h, hx.2, hy.2]

set_option maxHeartbeats 200000 in
theorem join_any (f p : Int) (wd : Bool) (v1 v2 : Value) (xs ys : List Int) (b : Nat) (w : World) (h : Fi f p wd) (h1 : Rw w v1 xs) (h2 : Rw w v2 ys) (hx : Tm p xs) (hy : Tm p ys) (l1 : xs.length ≤ 2049) (l2 : ys.length ≤ 2048) (hc : w.cell? ⟨b, 0, none⟩ = some (.int .u8 f)) :
    Calls Try.prog 93 #[v1, v2, .pointer (some ⟨b, 0, none⟩)] w fun e w' => ∃ v', e = .returned v' ∧ w'.ownsRow w.heap.size 25 1 v' (prd p xs ys).length (vals (prd p xs ys)) ∧ Below w.heap.size w w' := by
  have HM := hide (pMul_any f v1 v2 xs ys w h1 h2)
  unfold Gives at HM
  rw [mul_pair h hx hy l1 l2] at HM
  obtain ⟨a1, c1, rfl, _⟩ := h1.spell
  obtain ⟨a2, c2, rfl, _⟩ := h2.spell
  clear h1 h2
  go_enter Try.func93, Try.ntmps93
  go_wp2_with (go_at_call 94; refine HM.out.mono ?_; rintro e w1 ⟨v', rfl, hO, hb⟩)
  go_ret
  exact ⟨_, rfl, hO, hb⟩

theorem lvl_tm {p : Int} {wd : Bool} (hm : Md p wd) (xs : List Int) (s i : Nat) (hi : i < cn xs.length s) : Tm p ((lvl p xs s).getD i []) ∧ ((lvl p xs s).getD i []).length = (ck xs s i).length + 1 := by
  rw [lvl_at hi]
  have := zl_facts hm (ck xs s i)
  exact ⟨this.1, this.2.2⟩
theorem cn_two {n s k : Nat} (hs : 0 < s) : k < cn n (2 * s) ↔ 2 * k < cn n s := by
  rw [cn_lt (by omega), cn_lt hs]
  have : k * (2 * s) = 2 * k * s := by rw [← Nat.mul_assoc, Nat.mul_comm k 2]
  omega
/-- The first lists of a level. -/
def lvk (p : Int) (xs : List Int) (s k : Nat) : List (List Int) := (List.range k).map (fun i => zl p (ck xs s i))
theorem lvk_len (p : Int) (xs : List Int) (s k : Nat) : (lvk p xs s k).length = k := by simp [lvk]
theorem lvk_snoc (p : Int) (xs : List Int) (s k : Nat) : lvk p xs s k ++ [zl p (ck xs s k)] = lvk p xs s (k + 1) := by
  unfold lvk; rw [List.range_succ, List.map_append]; rfl

set_option maxRecDepth 100000 in
set_option maxHeartbeats 400000 in
theorem paired_any (f p : Int) (wd : Bool) (v : Value) (xs : List Int) (s b0 : Nat) (w : World) (h : Fi f p wd) (hs : 0 < s) (hl : xs.length ≤ 2048) (h1 : Rws w v (lvl p xs s)) (hc0 : w.cell? ⟨b0, 0, none⟩ = some (.int .u8 f)) (hb0 : b0 < w.heap.size) :
    Calls Try.prog 96 #[v, .func (.func 93) #[] #[.pointer (some ⟨b0, 0, none⟩)]] w fun e w' => ∃ v' us, e = .returned v' ∧ Lss w' w.heap.size w'.heap.size v' us (lvl p xs (2 * s)) ∧ Below w.heap.size w w' := by
  obtain ⟨i0, hi0, hz0, hz1, hz2⟩ := info_parts sl_info
  have HJ : Hid (∀ k W u1 u2, 2 * k + 1 < cn xs.length s → Below w.heap.size w W → Rw W u1 ((lvl p xs s).getD (2 * k) []) → Rw W u2 ((lvl p xs s).getD (2 * k + 1) []) →
      Calls Try.prog 93 #[u1, u2, .pointer (some ⟨b0, 0, none⟩)] W fun e w' => ∃ v', e = .returned v' ∧ w'.ownsRow W.heap.size 25 1 v' (zl p (ck xs (2 * s) k)).length (vals (zl p (ck xs (2 * s) k))) ∧ Below W.heap.size W w') := fun k W u1 u2 hk hb r1 r2 => by
    have t1 := lvl_tm h.md xs s (2 * k) (by omega)
    have t2 := lvl_tm h.md xs s (2 * k + 1) hk
    have e1 := ck_len xs (2 * s) k
    rw [ck_two, List.length_append] at e1
    have hpos : 0 < (ck xs s (2 * k)).length := by
      have : 2 * k * s < xs.length := (cn_lt hs).1 (by omega)
      unfold ck; rw [List.length_take, List.length_drop]; omega
    have := join_any f p wd u1 u2 _ _ b0 W h r1 r2 t1.1 t2.1 (by omega) (by omega) ((hb.cell (p := ⟨b0, 0, none⟩) hb0).trans hc0)
    rw [lvl_at (show 2 * k < cn xs.length s by omega), lvl_at hk, zl_two h.md] at this
    exact this
  have HTr : Hid (∀ k W u, 2 * k < cn xs.length s → cn xs.length s ≤ 2 * k + 1 → Rw W u ((lvl p xs s).getD (2 * k) []) →
      Calls Try.prog 77 #[u] W fun e w' => ∃ v', e = .returned v' ∧ w'.ownsRow W.heap.size 25 1 v' (zl p (ck xs (2 * s) k)).length (vals (zl p (ck xs (2 * s) k))) ∧ Below W.heap.size W w') := fun k W u hk hk2 r => by
    have := Trim_any u _ W r
    rw [(lvl_tm h.md xs s (2 * k) hk).1.2, lvl_at hk, ← zl_left] at this
    · exact this
    · have := (cn_lt (n := xs.length) (i := 2 * k + 1) hs)
      have h2 : ¬ 2 * k + 1 < cn xs.length s := by omega
      rw [this] at h2; omega
  have HN : Hid ((lvl p xs s).length = cn xs.length s) := lvl_len p xs s
  have hcn : cn xs.length s ≤ 2048 := by
    apply Nat.le_of_not_lt; intro hcon
    have := (cn_lt hs).1 hcon
    have := Nat.le_mul_of_pos_right 2048 hs
    omega
  have HT2 := hide (fun k => cn_two (n := xs.length) (k := k) hs)
  have HG : Hid (lvl p xs (2 * s) = lvk p xs (2 * s) (cn xs.length (2 * s))) := rfl
  rw [HG.out]
  obtain ⟨ao, cap, rfl, hlen, hcap, hcell⟩ := h1
  have HC : Hid (∀ i, i < cn xs.length s → ∃ b off, ao = some ⟨b, off, none⟩ ∧ b < w.heap.size ∧ ∃ u, w.cell? ⟨b, off + i, none⟩ = some u ∧ Rw w u ((lvl p xs s).getD i [])) := fun i hi => by
    have hi2 : i < (lvl p xs s).length := by rw [HN.out]; exact hi
    obtain ⟨b, off, e, hb, hc⟩ := hcell (by intro e; rw [e] at hi2; simp at hi2)
    exact ⟨b, off, e, hb, hc i hi2⟩
  rw [HN.out] at hlen hcap ⊢
  clear hcell h hl HG
  generalize hn2 : cn xs.length (2 * s) = n2 at *
  have HN2 := hide hn2
  generalize cn xs.length s = n at *
  clear hn2
  go_enter Try.func96, Try.ntmps96
  go_wp2
  go_loopw [0, 5] (fun vl vo wr => ∃ (k m : Nat) (us : List Value) (al : Option Addr) (cl : Nat), 2 * k + m = n ∧ vl = .slice al m cl ∧ m ≤ cl ∧ Hid (0 < m → ∃ b off, ao = some ⟨b, off, none⟩ ∧ al = some ⟨b, off + 2 * k, none⟩) ∧ Hid (Lss wr w.heap.size wr.heap.size vo us (lvk p xs (2 * s) k)) ∧ Below w.heap.size w wr) (fun vl _ _ => match vl with | .slice _ m _ => m | _ => 0)
  case atStart => exact ⟨0, n, [], ao, cap, by omega, rfl, hcap, fun hp => by
    obtain ⟨b, off, e, _⟩ := HC.out 0 (by omega)
    exact ⟨b, off, e, by rw [e]; rfl⟩, Lss.nil _ _ _, Below.refl _ _⟩
  case round =>
    obtain ⟨k, m, us, al, cl, hkm, rfl, hml, HA, HL, hB⟩ := hrel
    by_cases hgo : 1 < m
    · obtain ⟨b, off, rfl, rfl⟩ := HA.out (by omega)
      obtain ⟨b', off', e', hbl, q1, e1, r1⟩ := HC.out (2 * k) (by omega)
      cases e'
      obtain ⟨b', off', e', _, q2, e2, r2⟩ := HC.out (2 * k + 1) (by omega)
      cases e'
      obtain ⟨o, HO⟩ : ∃ o, Hid (off + 2 * k = o) := ⟨_, rfl⟩
      have eo : off + (2 * k + 1) = o + 1 := by have := HO.out; omega
      rw [eo] at e2
      rw [HO.out] at e1 ⊢
      have hj := hide (fun W (hb : Below w.heap.size w W) => HJ.out k W q1 q2 (by omega) hb (r1.below hb) (r2.below hb))
      have HCell : Hid (∀ W, Below w.heap.size w W → W.cell? ⟨b, o, none⟩ = some q1 ∧ W.cell? ⟨b, o + 1, none⟩ = some q2) := fun W hb => ⟨(hb.cell (p := ⟨b, o, none⟩) hbl).trans e1, (hb.cell (p := ⟨b, o + 1, none⟩) hbl).trans e2⟩
      obtain ⟨z1, y1, rfl, _⟩ := r1.spell
      obtain ⟨z2, y2, rfl, _⟩ := r2.spell
      have HLs := hide (lvk_snoc p xs (2 * s) k)
      have hlk := lvk_len p xs (2 * s) k
      clear e1 e2 r1 r2 HJ HTr HA eo
      generalize ((lvl p xs s).getD (2 * k) []).length = n1 at *
      generalize ((lvl p xs s).getD (2 * k + 1) []).length = n3 at *
      generalize lvk p xs (2 * s) k = lss at *
      generalize zl p (ck xs (2 * s) k) = zz at *
      have m0 : (0 : Int) < (m : Int) := by omega
      have m1 : (1 : Int) < (m : Int) := by omega
      have m2 : 0 < m := by omega
      go_wp2_with fail
      have hb0 : Below w.heap.size w wr.drew := hB.drew
      have hbw : Below wr.heap.size wr wr.drew := (Below.refl _ wr).drew
      have hbs := hB.size
      have hS0 := HCell.out _ hb0
      go_region_held3 (fun w' => w'.cell? ⟨b, o, none⟩ = some (.slice z1 n1 y1) ∧ w'.cell? ⟨b, o + 1, none⟩ = some (.slice z2 n3 y2)) (first | with_reducible exact hS4 | with_reducible exact hS3b | with_reducible exact hS3 | with_reducible exact hS0) (first
        | (go_at_call 93; refine (hj.out _ hb0).mono ?_; rintro e w3 ⟨vr, rfl, hor, hb3⟩; obtain ⟨ar, cr, rfl⟩ := own_form hor; have HL3 := hide (HL.out.below (Below.next hbw hb3)); have hsz3 := hb3.size; have hB3 := Below.next hb0 hb3; have hbs3 := hB3.size; have hS3 := HCell.out _ hB3; have hS3b := HCell.out _ (hB3.alloc hB3.size (.cells #[.slice ar zz.length cr] 26)))
        | (refine step_append_lies _ (by rfl) _ _ _ (by rfl) w.heap.size 26 i0 _ 1 24 Try.underlying39 hi0 hz0 hz1 hz2 rfl (by omega) u5 lss.length us (by rfl) (HL3.out.row.alloc _) ⟨w3.heap.size, 0, none⟩ 1 1 [.slice ar zz.length cr] (by rfl) (by rfl) (World.news_of_block (cs := #[.slice ar zz.length cr]) (t := 26) (fr := (0, 0)) (heap_alloc_new w3 _)) (by simp [Value.oneCell']) (by omega) (by unfold maxLen; omega) (by omega) (by simp; omega) (w3.heap.size + 1) (by simp) ?_; intro gg cap2 w4 hown4 hgrow hat hltg; have R := hide (HL3.out.push (w := w) (H := wr.heap.size) (Nat.le_refl _) hbs (Nat.le_refl _) hB3 hor hown4 hgrow); have hS4 := HCell.out _ R.out.2))
      rw [HLs.out, hlk] at R
      clear hown4 hgrow hat hltg HL HL3 hor hS0 hS3 hS3b hS4 HCell hj
      have hm2 : (2 : Int) ≤ (m : Int) := by omega
      have hmi : (m : Int) ≤ (cl : Int) := by omega
      by_cases hcl : cl = 2
      · obtain rfl : m = 2 := by omega
        subst hcl
        go_wp2
        go_roundw
        case rel => exact ⟨k + 1, 0, _, _, _, by omega, rfl, by omega, fun h => by omega, R.out.1.here, R.out.2⟩
        case measure => simp
      · have hcl2 : ¬ 2 = cl := fun e => hcl e.symm
        go_wp2
        go_roundw
        case rel => exact ⟨k + 1, m - 2, _, _, _, by omega, rfl, by omega, fun h => ⟨b, off, rfl, by rw [← HO.out]; congr 2⟩, R.out.1.here, R.out.2⟩
        case measure => simp; omega
    · have HE : Hid (n2 = k + m) := by
        have h1 := HT2.out (k + m)
        have h2 := HT2.out k
        have h3 := HT2.out (k + m - 1)
        show _ = _
        omega
      obtain rfl | rfl : m = 0 ∨ m = 1 := by omega
      · have : n2 = k := HE.out
        subst this
        clear HJ HTr HC HA
        go_wp2
        refine wp_loop_rounds 1 ?_
        rw [rounds_succ]
        go_wp2
        go_ret
        exact ⟨_, us, rfl, HL.out, hB⟩
      · obtain ⟨b, off, rfl, rfl⟩ := HA.out (by omega)
        obtain ⟨b', off', e', hbl, q1, e1, r1⟩ := HC.out (2 * k) (by omega)
        cases e'
        have d1 := (hB.cell (p := ⟨b, off + 2 * k, none⟩) hbl).trans e1
        have ht := hide (HTr.out k wr q1 (by omega) (by omega) (r1.below hB))
        obtain ⟨z1, y1, rfl, _⟩ := r1.spell
        have HLs := hide (lvk_snoc p xs (2 * s) k)
        have hlk := lvk_len p xs (2 * s) k
        have e2 : n2 = k + 1 := HE.out
        subst e2
        clear HE HN2 HT2
        generalize ((lvl p xs s).getD (2 * k) []).length = n1 at *
        generalize lvk p xs (2 * s) k = lss at *
        generalize zl p (ck xs (2 * s) k) = zz at *
        clear HJ HTr HC HA e1 r1
        go_wp2
        refine wp_loop_rounds 2 ?_
        rw [rounds_succ]
        go_wp2_with (first
          | (go_at_call 77; refine ht.out.mono ?_; rintro e w3 ⟨vr, rfl, hor, hb3⟩; obtain ⟨ar, cr, rfl⟩ := own_form hor; have HL3 := hide (HL.out.below hb3); have hsz3 := hb3.size; have hbs := hB.size)
          | (at_builtin; refine wpList_append_lies _ rfl _ _ _ rfl w.heap.size 26 i0 _ 1 24 Try.underlying39 hi0 hz0 hz1 hz2 rfl (by omega) u5 lss.length us rfl (HL3.out.row.alloc _) ⟨w3.heap.size, 0, none⟩ 1 1 [.slice ar zz.length cr] rfl rfl (World.news_of_block (cs := #[.slice ar zz.length cr]) (t := 26) (fr := (0, 0)) (heap_alloc_new w3 _)) (by simp [Value.oneCell']) (by omega) (by unfold maxLen; omega) (by omega) (by simp; omega) (w3.heap.size + 1) (by simp) ?_; intro gg cap2 w4 hown4 hgrow hat hltg))
        have hB3 := Below.next hB hb3
        have R := hide (HL3.out.push (w := w) (H := wr.heap.size) (Nat.le_refl _) hbs (Nat.le_refl _) hB3 hor hown4 hgrow)
        rw [HLs.out, hlk] at R
        clear hown4 hgrow hat hltg HL HL3 hor
        rw [rounds_succ]
        go_wp2
        go_ret
        exact ⟨_, _, rfl, R.out.1.here, R.out.2⟩

end Go.Proofs.Ytifilgmjpflekaa
