/-
  Polynomials: the program's Add, Sub, Scale, Mul and Eval, or their errors.
-/
import Derived.Test.YtfbipnhhnmlhfaaBPolH
namespace Go.Proofs.Ytfbipnhhnmlhfaa
open Go.RowKit Fld
set_option linter.unusedVariables false

/-- A call that answers a list, in memory of its own, and an error. -/
def Gives (k : FuncId) (args : Array Value) (W : World) (zs : List Int) (e0 : Int) : Prop :=
  Calls Try.prog k args W fun e w' => ∃ v', e = .returned (.tuple #[v', .int .i64 e0]) ∧ w'.ownsRow W.heap.size 49 1 v' zs.length (vals zs) ∧ Below W.heap.size W w'
theorem Gives.none {k : FuncId} {args : Array Value} {W : World} {e0 : Int} (h : Calls Try.prog k args W fun e w' => e = .returned (.tuple #[.slice none 0 0, .int .i64 e0]) ∧ Below W.heap.size W w') : Gives k args W [] e0 :=
  h.mono fun e w' ⟨he, hb⟩ => ⟨_, he, World.ownsRow_nil _ _ _ _, hb⟩

/-- The field's prime. -/
def pOf (f : Int) : Int := if f = 1 then 2013265921 else 18446744069414584321
theorem pOf_eq {f p : Int} {wd : Bool} (h : Fi f p wd) : pOf f = p := by rcases h with ⟨rfl, rfl, _⟩ | ⟨rfl, rfl, _⟩ <;> rfl

def addL (f : Int) (xs ys : List Int) : List Int := if er f xs ys = 0 then tr (sm (pOf f) 1 xs ys) else []
def subL (f : Int) (xs ys : List Int) : List Int := if er f xs ys = 0 then tr (sm (pOf f) (sub (pOf f) 0 1) xs ys) else []
def sclL (f c : Int) (xs : List Int) : List Int := if er f [c] xs = 0 then tr (sm (pOf f) c [] xs) else []
def mulE (f : Int) (xs ys : List Int) : Int := if er f xs ys = 0 then (if 4096 < (tr xs).length + (tr ys).length - 1 then 4 else 0) else er f xs ys
def mulL (f : Int) (xs ys : List Int) : List Int := if mulE f xs ys = 0 then prd (pOf f) (tr xs) (tr ys) else []
def valE (f t : Int) (xs : List Int) : Int := if er f xs [t] = 0 then vl (pOf f) t xs else 0

theorem own_tr {w : World} {base cap n : Nat} {ao : Option Addr} {zs : List Int} {T : TypeId} (h : w.ownsRow base T 1 (.slice ao n cap) n (vals zs)) : w.ownsRow base T 1 (.slice ao (tr zs).length cap) (tr zs).length (vals (tr zs)) := by
  have hn := own_len h
  have := own_take h (k := (tr zs).length) (by have := tr_len zs; omega)
  rw [take_tr_len] at this; exact this

/-- The check, from a call that hands two lists on. -/
theorem pcheck_two (f : Int) (v1 v2 : Value) (xs ys : List Int) (w : World) (h1 : Rw w v1 xs) (h2 : Rw w v2 ys) (T : TypeId) :
    Calls Try.prog 109 #[.int .u8 f, .slice (some ⟨w.heap.size, 0, none⟩) 2 2] (w.alloc (.cells #[v1, v2] T)) fun e w' => e = .returned (.int .i64 (er f xs ys)) ∧ Below w.heap.size w w' := by
  have ha := (Below.refl w.heap.size w).alloc (Nat.le_refl _) (.cells #[v1, v2] T)
  exact (pcheck_any f v1 v2 xs ys _ w.heap.size (h1.below ha) (h2.below ha) (Two.first w v1 v2 T)).mono fun e w' ⟨he, hb⟩ => ⟨he, below_one hb⟩

set_option maxHeartbeats 200000 in
theorem pAdd_any (f : Int) (v1 v2 : Value) (xs ys : List Int) (w : World) (h1 : Rw w v1 xs) (h2 : Rw w v2 ys) : Gives 108 #[.int .u8 f, v1, v2] w (addL f xs ys) (er f xs ys) := by
  obtain ⟨a1, c1, rfl, _⟩ := h1.spell
  obtain ⟨a2, c2, rfl, _⟩ := h2.spell
  have hk := hide (fun T => pcheck_two f _ _ xs ys w h1 h2 T)
  unfold addL
  by_cases he : er f xs ys = 0
  · obtain ⟨p, wd, h, i1, i2, m1, m2⟩ := er_zero he
    rw [if_pos he, he, pOf_eq h]
    rw [he] at hk
    have hs := hide (fun W (hb : Below w.heap.size w W) => sum_any f p 1 wd _ _ xs ys W h (one_el h.md) (h1.below hb) (h2.below hb) (els_of i1 h1.words) (els_of i2 h2.words))
    have HR := hide (fun W v n base (hO : World.ownsRow W base 49 1 v n (vals (sm p 1 xs ys))) => rw_of_own hO (by rw [sm_len]; omega) (els_words (els_sm h.pos _ _ _) h.top))
    have ht := hide (fun W ao cap hr => trimmed_any ao cap (sm p 1 xs ys) W hr)
    clear h1 h2 h i1 i2 he
    generalize sm p 1 xs ys = zs at *
    show Calls _ _ _ _ _
    go_enter Try.func108, Try.ntmps108
    go_wp2_with (first
      | (go_at_call 109; refine (hk.out _).mono ?_; rintro e w1 ⟨rfl, hb⟩)
      | (go_at_call 110; refine (hs.out _ hb).mono ?_; rintro e w2 ⟨v', rfl, hO, hb2⟩; have hr := HR.out _ _ _ _ hO; obtain ⟨ao, cap, rfl, _⟩ := hr.spell; have HO := hide hO; clear hO)
      | (go_at_call 58; refine (ht.out _ _ _ hr).mono ?_; rintro e w3 ⟨rfl, hb3⟩))
    go_ret2
    exact ⟨_, rfl, own_mono (own_tr (own_below HO.out hb3)) hb.size, Below.next (Below.next hb hb2) hb3⟩
  · have ht : (er f xs ys != 0) = true := bne_iff_ne.2 he
    rw [if_neg he]
    clear h1 h2 he
    generalize er f xs ys = e0 at *
    apply Gives.none
    go_enter Try.func108, Try.ntmps108
    go_wp2_with (go_at_call 109; refine (hk.out _).mono ?_; rintro e w1 ⟨rfl, hb⟩)
    go_ret2
    exact ⟨rfl, hb⟩

set_option maxHeartbeats 200000 in
theorem pSub_any (f : Int) (v1 v2 : Value) (xs ys : List Int) (w : World) (h1 : Rw w v1 xs) (h2 : Rw w v2 ys) : Gives 106 #[.int .u8 f, v1, v2] w (subL f xs ys) (er f xs ys) := by
  obtain ⟨a1, c1, rfl, _⟩ := h1.spell
  obtain ⟨a2, c2, rfl, _⟩ := h2.spell
  have hk := hide (fun T => pcheck_two f _ _ xs ys w h1 h2 T)
  unfold subL
  by_cases he : er f xs ys = 0
  · obtain ⟨p, wd, h, i1, i2, m1, m2⟩ := er_zero he
    rw [if_pos he, he, pOf_eq h]
    rw [he] at hk
    have hm := hide (fun W => Sub_yes f p 0 1 wd W h ⟨by decide, h.pos⟩ (one_el h.md))
    have hs := hide (fun W (hb : Below w.heap.size w W) => sum_any f p (sub p 0 1) wd _ _ xs ys W h (sub_el h.pos) (h1.below hb) (h2.below hb) (els_of i1 h1.words) (els_of i2 h2.words))
    have HR := hide (fun W v n base (hO : World.ownsRow W base 49 1 v n (vals (sm p (sub p 0 1) xs ys))) => rw_of_own hO (by rw [sm_len]; omega) (els_words (els_sm h.pos _ _ _) h.top))
    have ht := hide (fun W ao cap hr => trimmed_any ao cap (sm p (sub p 0 1) xs ys) W hr)
    clear h1 h2 h i1 i2 he
    generalize sm p (sub p 0 1) xs ys = zs at *
    generalize sub p 0 1 = c at *
    show Calls _ _ _ _ _
    go_enter Try.func106, Try.ntmps106
    go_wp2_with (first
      | (go_at_call 109; refine (hk.out _).mono ?_; rintro e w1 ⟨rfl, hb⟩)
      | (go_at_call 91; refine (hm.out _).mono ?_; rintro e w4 ⟨rfl, hb4⟩; have hbb := Below.next hb hb4)
      | (go_at_call 110; refine (hs.out _ hbb).mono ?_; rintro e w2 ⟨v', rfl, hO, hb2⟩; have hr := HR.out _ _ _ _ hO; obtain ⟨ao, cap, rfl, _⟩ := hr.spell; have HO := hide hO; clear hO)
      | (go_at_call 58; refine (ht.out _ _ _ hr).mono ?_; rintro e w3 ⟨rfl, hb3⟩))
    go_ret2
    exact ⟨_, rfl, own_mono (own_tr (own_below HO.out hb3)) hbb.size, Below.next (Below.next hbb hb2) hb3⟩
  · have ht : (er f xs ys != 0) = true := bne_iff_ne.2 he
    rw [if_neg he]
    clear h1 h2 he
    generalize er f xs ys = e0 at *
    apply Gives.none
    go_enter Try.func106, Try.ntmps106
    go_wp2_with (go_at_call 109; refine (hk.out _).mono ?_; rintro e w1 ⟨rfl, hb⟩)
    go_ret2
    exact ⟨rfl, hb⟩

theorem rw1 (w : World) (a : Int) (ha : 0 ≤ a ∧ a ≤ 18446744073709551615) (T : TypeId) : Rw (w.alloc (.cells #[.int .u64 a] T)) (.slice (some ⟨w.heap.size, 0, none⟩) 1 1) [a] := ⟨row1 w a ha T, _, _, _, rfl, Nat.le_refl _⟩
theorem rw0 (w : World) : Rw w (.slice none 0 0) [] := ⟨row0 w, _, _, _, rfl, Nat.le_refl _⟩

theorem pcheck_fst (f c : Int) (v : Value) (xs : List Int) (w : World) (hc : 0 ≤ c ∧ c ≤ 18446744073709551615) (h1 : Rw w v xs) (T T2 : TypeId) :
    Calls Try.prog 109 #[.int .u8 f, .slice (some ⟨w.heap.size + 1, 0, none⟩) 2 2] ((w.alloc (.cells #[.int .u64 c] T)).alloc (.cells #[.slice (some ⟨w.heap.size, 0, none⟩) 1 1, v] T2)) fun e w' => e = .returned (.int .i64 (er f [c] xs)) ∧ Below w.heap.size w w' := by
  have h := pcheck_two f _ v [c] xs _ (rw1 w c hc T) (h1.below (alloc_below _ _)) T2
  have e2 : (w.alloc (.cells #[.int .u64 c] T)).heap.size = w.heap.size + 1 := by simp
  rw [e2] at h
  exact h.mono fun e w' ⟨he, hb⟩ => ⟨he, below_one (by rw [e2]; exact hb)⟩
theorem pcheck_snd (f c : Int) (v : Value) (xs : List Int) (w : World) (hc : 0 ≤ c ∧ c ≤ 18446744073709551615) (h1 : Rw w v xs) (T T2 : TypeId) :
    Calls Try.prog 109 #[.int .u8 f, .slice (some ⟨w.heap.size + 1, 0, none⟩) 2 2] ((w.alloc (.cells #[.int .u64 c] T)).alloc (.cells #[v, .slice (some ⟨w.heap.size, 0, none⟩) 1 1] T2)) fun e w' => e = .returned (.int .i64 (er f xs [c])) ∧ Below w.heap.size w w' := by
  have h := pcheck_two f v _ xs [c] _ (h1.below (alloc_below _ _)) (rw1 w c hc T) T2
  have e2 : (w.alloc (.cells #[.int .u64 c] T)).heap.size = w.heap.size + 1 := by simp
  rw [e2] at h
  exact h.mono fun e w' ⟨he, hb⟩ => ⟨he, below_one (by rw [e2]; exact hb)⟩

set_option maxHeartbeats 200000 in
theorem pMul_any (f : Int) (v1 v2 : Value) (xs ys : List Int) (w : World) (h1 : Rw w v1 xs) (h2 : Rw w v2 ys) : Gives 107 #[.int .u8 f, v1, v2] w (mulL f xs ys) (mulE f xs ys) := by
  obtain ⟨a1, c1, rfl, _⟩ := h1.spell
  obtain ⟨a2, c2, rfl, _⟩ := h2.spell
  have hk := hide (fun T => pcheck_two f _ _ xs ys w h1 h2 T)
  by_cases he : er f xs ys = 0
  · obtain ⟨p, wd, h, i1, i2, m1, m2⟩ := er_zero he
    rw [he] at hk
    have t1 := hide (fun W (hb : Below w.heap.size w W) => trimmed_any _ _ xs W (h1.below hb))
    have t2 := hide (fun W (hb : Below w.heap.size w W) => trimmed_any _ _ ys W (h2.below hb))
    have r1 := hide (fun W (hb : Below w.heap.size w W) => (h1.below hb).take (tr_len xs))
    have r2 := hide (fun W (hb : Below w.heap.size w W) => (h2.below hb).take (tr_len ys))
    rw [take_tr_len] at r1 r2
    have n1 := tr_len xs
    have n2 := tr_len ys
    have HP := hide (fun W (hb : Below w.heap.size w W) => product_any f p wd _ _ (tr xs) (tr ys) W h (r1.out W hb) (r2.out W hb) ((els_of i1 h1.words).tr h.pos) ((els_of i2 h2.words).tr h.pos) (by omega))
    by_cases hm : 4096 < (tr xs).length + (tr ys).length - 1
    · have HE : Hid (mulE f xs ys = 4) := by show _ = _; unfold mulE; rw [if_pos he, if_pos hm]
      have HL : Hid (mulL f xs ys = []) := by show _ = _; unfold mulL; rw [HE.out]; rfl
      rw [HE.out, HL.out]
      apply Gives.none
      clear h1 h2 HP r1 r2 h
      generalize (tr xs).length = k1 at *
      generalize (tr ys).length = k2 at *
      go_enter Try.func107, Try.ntmps107
      go_wp2_with fail
      refine (hk.out _).mono ?_; rintro e w1 ⟨rfl, hb⟩
      go_wp2_with fail
      refine (t1.out _ hb).mono ?_; rintro e w2 ⟨rfl, hb2⟩
      have hb3 := Below.next hb hb2
      go_wp2_with fail
      refine (t2.out _ hb3).mono ?_; rintro e w3 ⟨rfl, hb4⟩
      go_wp2
      go_ret2
      exact ⟨rfl, Below.next hb3 hb4⟩
    · have HE : Hid (mulE f xs ys = 0) := by show _ = _; unfold mulE; rw [if_pos he, if_neg hm]
      have HL : Hid (mulL f xs ys = prd p (tr xs) (tr ys)) := by show _ = _; unfold mulL; rw [HE.out, if_pos rfl, pOf_eq h]
      rw [HE.out, HL.out]
      clear h1 h2 r1 r2 h
      generalize prd p (tr xs) (tr ys) = zs at *
      generalize (tr xs).length = k1 at *
      generalize (tr ys).length = k2 at *
      show Calls _ _ _ _ _
      go_enter Try.func107, Try.ntmps107
      go_wp2_with fail
      refine (hk.out _).mono ?_; rintro e w1 ⟨rfl, hb⟩
      go_wp2_with fail
      refine (t1.out _ hb).mono ?_; rintro e w2 ⟨rfl, hb2⟩
      have hb3 := Below.next hb hb2
      go_wp2_with fail
      refine (t2.out _ hb3).mono ?_; rintro e w3 ⟨rfl, hb4⟩
      have hb5 := Below.next hb3 hb4
      go_wp2_with (go_at_call 111; refine (HP.out _ hb5).mono ?_; rintro e w6 ⟨v', rfl, hO, hb6⟩)
      go_ret2
      exact ⟨_, rfl, own_mono hO hb5.size, Below.next hb5 hb6⟩
  · have ht : (er f xs ys != 0) = true := bne_iff_ne.2 he
    have HE : Hid (mulE f xs ys = er f xs ys) := by show _ = _; unfold mulE; rw [if_neg he]
    have HL : Hid (mulL f xs ys = []) := by show _ = _; unfold mulL; rw [HE.out, if_neg he]
    rw [HE.out, HL.out]
    clear h1 h2 he HE HL
    generalize er f xs ys = e0 at *
    apply Gives.none
    go_enter Try.func107, Try.ntmps107
    go_wp2_with (go_at_call 109; refine (hk.out _).mono ?_; rintro e w1 ⟨rfl, hb⟩)
    go_ret2
    exact ⟨rfl, hb⟩

end Go.Proofs.Ytfbipnhhnmlhfaa
