/-
  Polynomials: the program's Into, or its error.
-/
import Derived.Test.YtdegpefhegmamabPolI
import Derived.Deep.RegionWith
namespace Go.Proofs.Ytdegpefhegmamab
open Go.RowKit Fld
set_option linter.unusedVariables false

namespace Fld
/-- What the way down keeps: the list of p's coefficients from k on, q in the place of x. -/
def II (p : Int) (xs qs l : List Int) (k : Nat) : Prop := Els p l ∧ Al p (co l) (into (co qs) (xs.drop k)) ∧ l.length ≤ 4096 * (xs.length - k) + 1
theorem II.start {p : Int} {xs qs : List Int} : II p xs qs [] xs.length :=
  ⟨fun x hx => (by cases hx), fun i => (by rw [List.drop_length]; rfl), by simp⟩
theorem into_drop {xs : List Int} {q : Nat → Int} {k : Nat} (hk : k < xs.length) (i : Nat) : into q (xs.drop k) i = co [co xs k] i + cv q (into q (xs.drop (k + 1))) i := by
  rw [List.drop_eq_getElem_cons hk]
  show (if i = 0 then xs[k] else 0) + cv q (into q (xs.drop (k + 1))) i = _
  congr 1
  rw [co_at hk]
  cases i with
  | zero => rfl
  | succ i => rfl
theorem into_al {p : Int} {q : Nat → Int} {xs l m : List Int} {k : Nat} (hk : k < xs.length) (h1 : Al p (co l) (into q (xs.drop (k + 1)))) (h2 : Al p (co m) (fun i => cv (co l) q i + co [co xs k] i)) : Al p (co m) (into q (xs.drop k)) := by
  intro i
  have e1 : cv (co l) q i % p = cv q (into q (xs.drop (k + 1))) i % p := by rw [cv_comm i q]; exact al_cv (Al.refl p q) i h1
  have e2 : (cv (co l) q i + co [co xs k] i) % p = _ := (h2 i).symm
  rw [into_drop hk, ← e2, Int.add_comm, Int.add_emod, e1, ← Int.add_emod]
theorem II.step {p : Int} (hp : 0 < p) {xs qs l : List Int} {k : Nat} (hk : k < xs.length) (hq : qs.length ≤ 4096) (h : II p xs qs l (k + 1)) : II p xs qs (sm p 1 (prd p l qs) [co xs k]) k := by
  obtain ⟨h1, h2, h3⟩ := h
  refine ⟨els_sm hp _ _ _, into_al hk h2 ?_, ?_⟩
  · refine (al_sm p 1 _ _).trans fun i => ?_
    show (co (prd p l qs) i + 1 * co [co xs k] i) % p = _
    rw [Int.one_mul, Int.add_emod, al_prd p l qs i, ← Int.add_emod]
  · rw [sm_len]
    have := prd_len_le p l qs
    simp only [List.length_cons, List.length_nil]
    omega
theorem is_into {p : Int} (hp : 0 < p) (xs qs : List Int) : Is p (tr (mk (xs.length * qs.length + 1) (fun i => into (co qs) xs i % p))) (into (co qs) xs) := is_mk hp (fun i hi => by
  rw [into_end (co qs) (qs.length - 1) (fun j hj => co_out _ _ (by omega)) xs i (by
    have := Nat.mul_le_mul (show xs.length - 1 ≤ xs.length by omega) (show qs.length - 1 ≤ qs.length by omega)
    omega)]
  exact Int.zero_emod p)
theorem II.fin {p : Int} (hp : 0 < p) {xs qs l : List Int} (h : II p xs qs l 0) : tr l = tr (mk (xs.length * qs.length + 1) (fun i => into (co qs) xs i % p)) :=
  ((is_tr hp h.1).al h.2.1).only hp (is_into hp xs qs)
end Fld

def intoE (f : Int) (xs ys : List Int) : Int := if er f xs ys = 0 then (if 4096 ≤ ((tr xs).length - 1) * ((tr ys).length - 1) then 4 else 0) else er f xs ys
def intoL (f : Int) (xs ys : List Int) : List Int := if intoE f xs ys = 0 then tr (mk ((tr xs).length * (tr ys).length + 1) (fun i => into (co (tr ys)) (tr xs) i % pOf f)) else []

theorem deg_mul (n m : Nat) (hn : n ≤ 4096) (hm : m ≤ 4096) : ∃ D : Int, ((n : Int) - 1) * ((m : Int) - 1) = D ∧ -4096 ≤ D ∧ D ≤ 16777216 ∧ (4096 ≤ D ↔ 4096 ≤ (n - 1) * (m - 1)) := by
  refine ⟨_, rfl, ?_⟩
  cases n with
  | zero =>
    have e : ((0 : Nat) : Int) - 1 = -1 := by omega
    rw [e]
    have e2 : (0 - 1 : Nat) * (m - 1) = 0 := by simp
    rw [e2]; omega
  | succ n =>
    have e : (((n + 1 : Nat) : Int) - 1) = (n : Int) := by omega
    rw [e, Nat.add_sub_cancel]
    cases m with
    | zero =>
      have e2 : (((0 : Nat) : Int) - 1) = -1 := by omega
      have e3 : n * (0 - 1) = 0 := by simp
      rw [e2, e3]; omega
    | succ m =>
      have e2 : (((m + 1 : Nat) : Int) - 1) = (m : Int) := by omega
      rw [e2, Nat.add_sub_cancel, ← Int.natCast_mul]
      have := Nat.mul_le_mul (show n ≤ 4096 by omega) (show m ≤ 4096 by omega)
      omega

set_option maxRecDepth 100000 in
set_option maxHeartbeats 400000 in
theorem pInto_any (f : Int) (v1 v2 : Value) (xs ys : List Int) (w : World) (h1 : Rw w v1 xs) (h2 : Rw w v2 ys) : Gives 8 #[.int .u8 f, v1, v2] w (intoL f xs ys) (intoE f xs ys) := by
  obtain ⟨a1, c1, rfl, _⟩ := h1.spell
  obtain ⟨a2, c2, rfl, _⟩ := h2.spell
  have hk := hide (fun T => pcheck_two f _ _ xs ys w h1 h2 T)
  by_cases he : er f xs ys = 0
  · obtain ⟨p, wd, h, i1, i2, m1, m2⟩ := er_zero he
    rw [he] at hk
    have t1 := hide (fun W (hb : Below w.heap.size w W) => trimmed_any _ _ xs W (h1.below hb))
    have t2 := hide (fun W (hb : Below w.heap.size w W) => trimmed_any _ _ ys W (h2.below hb))
    have r1 := hide (fun W (hb : Below w.heap.size w W) => (h1.below hb).take (tr_len xs))
    have r2 := hide (fun W (hb : Below w.heap.size w W) => (h2.below hb).take (tr_len ys))
    rw [take_tr_len] at r1 r2
    have n1 := tr_len xs
    have n2 := tr_len ys
    have X1 := (els_of i1 h1.words).tr h.pos
    have X2 := (els_of i2 h2.words).tr h.pos
    have g1 := hide (fun W (hb : Below w.heap.size w W) => Degree_any _ _ W (r1.out W hb))
    have g2 := hide (fun W (hb : Below w.heap.size w W) => Degree_any _ _ W (r2.out W hb))
    rw [tr_tr] at g1 g2
    have HE : Hid (intoE f xs ys = if 4096 ≤ ((tr xs).length - 1) * ((tr ys).length - 1) then 4 else 0) := by show _ = _; unfold intoE; rw [if_pos he]
    have HL : Hid (intoL f xs ys = if intoE f xs ys = 0 then tr (mk ((tr xs).length * (tr ys).length + 1) (fun i => into (co (tr ys)) (tr xs) i % p)) else []) := by show _ = _; unfold intoL; rw [pOf_eq h]
    rw [HL.out, HE.out]
    clear HL HE he
    generalize tr xs = zs at *
    generalize tr ys = us at *
    obtain ⟨D, hD, d1, d2, d3⟩ := deg_mul zs.length us.length (by omega) (by omega)
    by_cases hlim : 4096 ≤ D
    · rw [if_pos (d3.1 hlim), if_neg (by decide)]
      apply Gives.none
      clear d3 h1 h2 h r1 r2
      generalize zs.length = k1 at *
      generalize us.length = k2 at *
      go_enter Try.func8, Try.ntmps8
      go_wp2_with fail
      refine (hk.out _).mono ?_; rintro e w1 ⟨rfl, hb1⟩
      go_wp2_with fail
      refine (t1.out _ hb1).mono ?_; rintro e w2 ⟨rfl, hb⟩
      have hb2 := Below.next hb1 hb
      go_wp2_with fail
      refine (t2.out _ hb2).mono ?_; rintro e w3 ⟨rfl, hb⟩
      have hb3 := Below.next hb2 hb
      go_wp2_with fail
      refine (g1.out _ hb3).mono ?_; rintro e w4 ⟨rfl, hb⟩
      have hb4 := Below.next hb3 hb
      go_wp2_with fail
      refine (g2.out _ hb4).mono ?_; rintro e w5 ⟨rfl, hb⟩
      have hb5 := Below.next hb4 hb
      go_wp2
      go_ret2
      exact ⟨rfl, hb5⟩
    · rw [if_neg (fun hc => hlim (d3.2 hc)), if_pos rfl]
      have hp0 := h.pos
      have HFin := hide (fun l (hI : II p zs us l 0) => hI.fin hp0)
      have HStep := hide (fun l k (hk : k < zs.length) (hI : II p zs us l (k + 1)) => hI.step hp0 hk (by omega))
      have HStart := hide (II.start (p := p) (xs := zs) (qs := us))
      have HP := hide (fun W v l n base (hb : Below w.heap.size w W) (hI : Els p l) (hl : l.length ≤ 17592186039808) (hO : World.ownsRow W base 32 1 v n (vals l)) => product_any f p wd v _ l us W h (rw_of_own hO (by omega) (els_words hI h.top)) (r2.out W hb) hI X2 (by omega))
      have HS := hide (fun W v l n base k u (hk : k < zs.length) (hr : Rw W u [co zs k]) (hl : l.length ≤ 17592186039808) (hO : World.ownsRow W base 32 1 v n (vals (prd p l us))) => sum_any f p 1 wd v u (prd p l us) [co zs k] W h (one_el h.md) (rw_of_own hO (Nat.le_trans (prd_len_le p l us) (by omega)) (els_words (els_prd h.pos _ _) h.top)) hr (els_prd h.pos _ _) (fun x hx => by rw [List.mem_singleton.1 hx]; exact X1.co h.pos k))
      have HR := hide (fun W v l n base (hI : Els p l) (hl : l.length ≤ 17592186039808) (hO : World.ownsRow W base 32 1 v n (vals l)) => rw_of_own hO (by omega) (els_words hI h.top))
      have HT := hide (fun W ao cap R hr => trimmed_any ao cap R W hr)
      have HA : Hid (zs ≠ [] → ∃ b o, a1 = some ⟨b, o, none⟩) := fun hne => by
        obtain ⟨⟨a, c, he', _, _, hc⟩, _⟩ := r1.out w (Below.refl _ _)
        cases he'
        obtain ⟨b, o, h3, _⟩ := hc hne
        exact ⟨b, o, h3⟩
      have hcz : zs.length ≤ c1 := by
        obtain ⟨_, a, n, c, he', hc⟩ := r1.out w (Below.refl _ _)
        cases he'; exact hc
      clear d3 h1 h2 h X1 X2
      show Calls _ _ _ _ _
      go_enter Try.func8, Try.ntmps8
      go_wp2_with fail
      refine (hk.out _).mono ?_; rintro e w1 ⟨rfl, hb1⟩
      go_wp2_with fail
      refine (t1.out _ hb1).mono ?_; rintro e w2 ⟨rfl, hb⟩
      have hb2 := Below.next hb1 hb
      go_wp2_with fail
      refine (t2.out _ hb2).mono ?_; rintro e w3 ⟨rfl, hb⟩
      have hb3 := Below.next hb2 hb
      go_wp2_with fail
      refine (g1.out _ hb3).mono ?_; rintro e w4 ⟨rfl, hb⟩
      have hb4 := Below.next hb3 hb
      go_wp2_with fail
      refine (g2.out _ hb4).mono ?_; rintro e w5 ⟨rfl, hb⟩
      have hb5 := Below.next hb4 hb
      clear hb1 hb2 hb3 hb4 hb hk t1 t2 g1 g2
      go_wp2
      go_loopw [9, 10] (fun vl vi wr => ∃ (k : Nat) (l : List Int), k ≤ zs.length ∧ vi = .int .i64 ((k : Int) - 1) ∧ Hid (II p zs us l k) ∧ wr.ownsRow w.heap.size 32 1 vl l.length (vals l) ∧ Below w.heap.size w wr) (fun _ vi _ => (intOf vi + 1).toNat)
      case atStart => exact ⟨zs.length, [], Nat.le_refl _, rfl, HStart, World.ownsRow_nil _ _ _ _, hb5⟩
      case round =>
        clear hb5 HStart
        obtain ⟨k, l, hk, rfl, HI, hO, hB⟩ := hrel
        have hll : l.length ≤ 17592186039808 := by have := HI.out.2.2; omega
        by_cases hpos : 0 < k
        · obtain ⟨k, rfl⟩ : ∃ j, k = j + 1 := ⟨k - 1, by omega⟩
          have ek : (((k + 1 : Nat) : Int) - 1) = (k : Int) := by omega
          rw [ek]
          clear ek
          have hkz : k < zs.length := by omega
          obtain ⟨b, o, rfl⟩ := HA.out (by intro h; rw [h] at hkz; simp at hkz)
          have hp := hide (HP.out _ _ _ _ _ hB.drew HI.out.1 hll (World.ownsRow.drew hO))
          have HI2 := hide (HStep.out l k hkz HI.out)
          have hs := hide (fun W v n base (hb : Below w.heap.size w W) hO => HS.out W v l n base k _ hkz ((r1.out W hb).one hkz) hll hO)
          have hcap : (k : Int) + 1 ≤ (c1 : Int) := by omega
          have k0 : (0 : Int) ≤ (k : Int) := Int.natCast_nonneg _
          have k1 : (k : Int) ≤ (k : Int) + 1 := by omega
          have k2 : (0 : Int) ≤ (k : Int) + 1 := by omega
          have kw : IntKind.i64.wrap ((k : Int) + 1) = (k : Int) + 1 := by rw [IntKind.wrap_i64]; omega
          have kt : ((k : Int) + 1).toNat = k + 1 := by omega
          have kne : ¬ c1 = k := by omega
          have HOl := hide hO
          clear hO
          go_wp2_with fail
          go_region_with (first
            | (go_at_call 17; refine hp.out.mono ?_; rintro e w6 ⟨vp, rfl, hOp, hbp⟩; have hBp := Below.next hB.drew hbp)
            | (go_at_call 16; refine (hs.out _ _ _ _ hBp hOp).mono ?_; rintro e w7 ⟨vs, rfl, hOs, hbs⟩))
          all_goals
            go_wp2
            go_roundw
            case rel => exact ⟨k, _, by omega, rfl, HI2, own_mono hOs hBp.size, Below.next hBp hbs⟩
            case measure => simp [intOf]
        · obtain rfl : k = 0 := by omega
          have hr := HR.out _ _ _ _ _ HI.out.1 hll hO
          obtain ⟨ao, cap, rfl, _⟩ := hr.spell
          have HF := hide (HFin.out l HI.out)
          have HOl := hide hO
          clear hO
          go_wp2_with (go_at_call 15; refine (HT.out _ _ _ _ hr).mono ?_; rintro e w6 ⟨rfl, hb6⟩)
          go_ret2
          exact ⟨_, rfl, by rw [← HF.out]; exact own_tr (own_below HOl.out hb6), Below.next hB hb6⟩
  · have ht : (er f xs ys != 0) = true := bne_iff_ne.2 he
    have HE : Hid (intoE f xs ys = er f xs ys) := by show _ = _; unfold intoE; rw [if_neg he]
    have HL : Hid (intoL f xs ys = []) := by show _ = _; unfold intoL; rw [HE.out, if_neg he]
    rw [HE.out, HL.out]
    clear h1 h2 he HE HL
    generalize er f xs ys = e0 at *
    apply Gives.none
    go_enter Try.func8, Try.ntmps8
    go_wp2_with (go_at_call 14; refine (hk.out _).mono ?_; rintro e w1 ⟨rfl, hb⟩)
    go_ret2
    exact ⟨rfl, hb⟩

end Go.Proofs.Ytdegpefhegmamab
