/-
  Layer 4: powers; the program's Kara, Mul and Power, or their errors.
-/
import Derived.Test.YtcjgjgkoeokooaaDoorBFasN
namespace Go.Proofs.YtcjgjgkoeokooaaDoor
open Go.RowKit Fld
set_option linter.unusedVariables false

theorem is_one {p : Int} {wd : Bool} (hm : Md p wd) : Is p [1] (pt 0 1) := by
  refine ⟨fun x hx => by rw [List.mem_singleton.1 hx]; exact one_el hm, tr_full (.inr (by decide)), fun i => ?_⟩
  cases i with
  | zero => rfl
  | succ i => rfl
theorem is_cp_len {p : Int} (hp : 0 < p) {xs zs : List Int} {n : Nat} (h : Is p zs (cp (co xs) n)) : zs.length ≤ (xs.length - 1) * n + 1 :=
  is_len hp h (fun i hi => by
    rw [cp_end (d := xs.length - 1) (fun j hj => co_out _ _ (by omega)) n i (by omega)]; exact Int.zero_emod p)
theorem is_sq {p : Int} {wd : Bool} (hm : Md p wd) {xs zs : List Int} {m : Nat} (h : Is p zs (cp (co xs) m)) : Is p (prd p zs zs) (cp (co xs) (m + m)) := by
  have i := is_prd hm h.1 h.1 h.2.1 h.2.1
  rw [cp_add]
  exact i.al (h.2.2.cv h.2.2)
theorem is_odd {p : Int} {wd : Bool} (hm : Md p wd) {xs zs : List Int} {m : Nat} (h : Is p zs (cp (co xs) m)) (hx : Els p xs) (tx : tr xs = xs) : Is p (prd p zs xs) (cp (co xs) (m + 1)) := by
  have i := is_prd hm h.1 hx h.2.1 tx
  exact i.al (h.2.2.cv (Al.refl p _))
theorem is_wd {p : Int} {zs : List Int} {F : Nat → Int} (h : Is p zs F) (hp : p ≤ 18446744073709551615) : ∀ x ∈ zs, 0 ≤ x ∧ x ≤ 18446744073709551615 := els_words h.1 hp

/-- What a power answers. -/
def Ps (f p : Int) (v : Value) (xs : List Int) (n : Nat) (w : World) : Prop := Calls Tryd.prog 45 #[.int .u8 f, v, .int .i64 (n : Int)] w fun e w' => ∃ v' zs, e = .returned v' ∧ Is p zs (cp (co xs) n) ∧ Rw w' v' zs ∧ Below w.heap.size w w'

set_option maxHeartbeats 200000 in
theorem power_zero (f p : Int) (wd : Bool) (v : Value) (xs : List Int) (w : World) (h : Fi f p wd) (h1 : Rw w v xs) : Ps f p v xs 0 w := by
  unfold Ps
  have HI := hide (is_one h.md)
  have HR := hide (fun T => rw1 w 1 (by decide) T)
  obtain ⟨a1, c1, rfl, k1⟩ := h1.spell
  clear h1 h
  go_enter Tryd.func45, Tryd.ntmps45
  go_wp2
  go_ret
  exact ⟨_, _, rfl, HI.out, HR.out _, alloc_below _ _⟩

set_option maxRecDepth 100000 in
set_option maxHeartbeats 200000 in
theorem power_step (f p : Int) (wd : Bool) (v : Value) (xs : List Int) (n m : Nat) (w : World) (h : Fi f p wd) (h1 : Rw w v xs) (hx : Els p xs) (tx : tr xs = xs) (hl : xs.length ≤ 4096) (hT : Tb w) (h0 : 0 < n) (hn : n ≤ 9223372036854775807) (hd : (xs.length - 1) * n ≤ 4095) (hm : m = n / 2) (ih : Ps f p v xs m w) : Ps f p v xs n w := by
  unfold Ps at ih ⊢
  have hp0 := h.pos
  have hp1 := h.top
  have e1 : (n : Int) / 2 = (m : Int) := by omega
  have n0 : (0 : Int) < (n : Int) := by omega
  have n1 : (n : Int) ≤ 9223372036854775807 := by omega
  have ez : ((n : Int) == 0) = false := beq_eq_false_iff_ne.2 (by omega)
  have hmn : (xs.length - 1) * (m + m) ≤ (xs.length - 1) * n := Nat.mul_le_mul_left _ (by omega)
  have hmm : (xs.length - 1) * (m + m) = (xs.length - 1) * m + (xs.length - 1) * m := Nat.mul_add _ _ _
  have IH := hide ih
  have H := hide h
  have HX := hide hx
  have HTx := hide tx
  have HR1 := hide h1
  have HTb := hide hT
  obtain ⟨a1, c1, rfl, k1⟩ := h1.spell
  clear h1 h hx tx hT ih
  by_cases hodd : n = m + m
  · have er : (n : Int) % 2 = 0 := by omega
    have HNM := hide hodd
    clear hm hodd
    go_enter Tryd.func45, Tryd.ntmps45
    go_wp2_with fail
    refine IH.out.mono ?_; rintro e w1 ⟨u1, zs, rfl, is1, r1, hb1⟩
    have I1 := hide is1
    have R1 := hide r1
    have hz := is_cp_len hp0 is1
    clear is1 r1
    go_wp2_with fail
    refine (multiply_any f p wd u1 u1 zs zs w1 H.out R1.out R1.out I1.out.1 I1.out.1 I1.out.2.1 I1.out.2.1 (by omega) (HTb.out.below hb1)).mono ?_; rintro e w2 ⟨u2, rfl, r2, hb2⟩
    have R2 := hide r2
    clear r2
    go_wp2
    go_ret
    exact ⟨_, _, rfl, by rw [HNM.out]; exact is_sq H.out.md I1.out, R2.out, Below.next hb1 hb2⟩
  · have er : (n : Int) % 2 = 1 := by omega
    have HNM : Hid (n = m + m + 1) := by show n = _; omega
    have hxl : (xs.length - 1) * n = (xs.length - 1) * (m + m) + (xs.length - 1) := by rw [HNM.out, Nat.mul_add, Nat.mul_one]
    clear hm hodd
    go_enter Tryd.func45, Tryd.ntmps45
    go_wp2_with fail
    refine IH.out.mono ?_; rintro e w1 ⟨u1, zs, rfl, is1, r1, hb1⟩
    have I1 := hide is1
    have R1 := hide r1
    have hz := is_cp_len hp0 is1
    clear is1 r1
    go_wp2_with fail
    refine (multiply_any f p wd u1 u1 zs zs w1 H.out R1.out R1.out I1.out.1 I1.out.1 I1.out.2.1 I1.out.2.1 (by omega) (HTb.out.below hb1)).mono ?_; rintro e w2 ⟨u2, rfl, r2, hb2⟩
    have R2 := hide r2
    have I2 := hide (is_sq H.out.md I1.out)
    have hz2 := is_cp_len hp0 I2.out
    have hB2 := Below.next hb1 hb2
    clear r2 hb1 hb2 R1
    go_wp2_with fail
    refine (multiply_any f p wd u2 (.slice a1 xs.length c1) (prd p zs zs) xs w2 H.out R2.out (HR1.out.below hB2) I2.out.1 HX.out I2.out.2.1 HTx.out (by omega) (HTb.out.below hB2)).mono ?_; rintro e w3 ⟨u3, rfl, r3, hb3⟩
    have R3 := hide r3
    clear r3
    go_wp2
    go_ret
    exact ⟨_, _, rfl, by rw [HNM.out]; exact is_odd H.out.md I2.out HX.out HTx.out, R3.out, Below.next hB2 hb3⟩

theorem fpower_any (f p : Int) (wd : Bool) (v : Value) (xs : List Int) (w : World) (h : Fi f p wd) (h1 : Rw w v xs) (hx : Els p xs) (tx : tr xs = xs) (hl : xs.length ≤ 4096) (hT : Tb w) : ∀ n, n ≤ 9223372036854775807 → (xs.length - 1) * n ≤ 4095 → Ps f p v xs n w := by
  intro n
  induction n using Nat.strongRecOn with
  | _ n ih =>
    intro hn hd
    by_cases h0 : n = 0
    · subst h0; exact power_zero f p wd v xs w h h1
    · exact power_step f p wd v xs n (n / 2) w h h1 hx tx hl hT (by omega) hn hd rfl (ih (n / 2) (by omega) (by omega) (Nat.le_trans (Nat.mul_le_mul_left _ (by omega)) hd))

/-- A call that answers a list and an error. -/
def Gets (k : FuncId) (args : Array Value) (W : World) (zs : List Int) (e0 : Int) : Prop :=
  Calls Tryd.prog k args W fun e w' => ∃ v', e = .returned (.tuple #[v', .int .i64 e0]) ∧ Rw w' v' zs ∧ Below W.heap.size W w'
theorem Gets.none {k : FuncId} {args : Array Value} {W : World} {e0 : Int} (h : Calls Tryd.prog k args W fun e w' => e = .returned (.tuple #[.slice none 0 0, .int .i64 e0]) ∧ Below W.heap.size W w') : Gets k args W [] e0 :=
  h.mono fun e w' ⟨he, hb⟩ => ⟨_, he, rw0 _, hb⟩

set_option maxHeartbeats 200000 in
theorem factors_no (f e0 : Int) (v1 v2 : Value) (xs ys : List Int) (w : World) (h1 : Rw w v1 xs) (h2 : Rw w v2 ys) (he : er f xs ys = e0) (h0 : e0 ≠ 0) :
    Calls Tryd.prog 28 #[.int .u8 f, v1, v2] w fun e w' => e = .returned (.tuple #[.slice none 0 0, .slice none 0 0, .int .i64 e0]) ∧ Below w.heap.size w w' := by
  have hk := hide (fun T => fcheck_two f v1 v2 xs ys w h1 h2 T)
  rw [he] at hk
  have ht : (e0 != 0) = true := bne_iff_ne.2 h0
  obtain ⟨a1, c1, rfl, k1⟩ := h1.spell
  obtain ⟨a2, c2, rfl, k2⟩ := h2.spell
  clear h1 h2 he h0
  go_enter Tryd.func28, Tryd.ntmps28
  go_wp2_with (go_at_call 42; refine (hk.out _).mono ?_; rintro e w1 ⟨rfl, hb⟩)
  go_ret3
  exact ⟨rfl, hb⟩

theorem deg_int (xs : List Int) (h : xs.length ≤ 17592186043904) : ((tr xs).length : Int) - 1 + 1 = ((tr xs).length : Int) := by omega

set_option maxRecDepth 100000 in
set_option maxHeartbeats 200000 in
theorem factors_in (f : Int) (v1 v2 : Value) (xs ys : List Int) (w : World) (h1 : Rw w v1 xs) (h2 : Rw w v2 ys) (he : er f xs ys = 0) :
    Calls Tryd.prog 28 #[.int .u8 f, v1, v2] w fun e w' => (4096 < (tr xs).length + (tr ys).length - 1 ∧ e = .returned (.tuple #[.slice none 0 0, .slice none 0 0, .int .i64 4]) ∨ ¬ 4096 < (tr xs).length + (tr ys).length - 1 ∧ ∃ u1 u2, e = .returned (.tuple #[u1, u2, .int .i64 0]) ∧ Rw w' u1 (tr xs) ∧ Rw w' u2 (tr ys)) ∧ Below w.heap.size w w' := by
  have hk := hide (fun T => fcheck_two f v1 v2 xs ys w h1 h2 T)
  rw [he] at hk
  have l1 := h1.len
  have l2 := h2.len
  have n1 := tr_len xs
  have n2 := tr_len ys
  obtain ⟨a1, c1, rfl, k1⟩ := h1.spell
  obtain ⟨a2, c2, rfl, k2⟩ := h2.spell
  have d1 := hide (fun W (hb : Below w.heap.size w W) => Degree_any _ xs W (h1.below hb))
  have d2 := hide (fun W (hb : Below w.heap.size w W) => Degree_any _ ys W (h2.below hb))
  have c1' := hide (fun W (hb : Below w.heap.size w W) => cut_any a1 c1 (tr xs).length xs W (h1.below hb) n1)
  have c2' := hide (fun W (hb : Below w.heap.size w W) => cut_any a2 c2 (tr ys).length ys W (h2.below hb) n2)
  rw [take_tr_len] at c1' c2'
  clear h1 h2 he
  generalize hz1 : tr xs = zs at *
  generalize hz2 : tr ys = us at *
  clear hz1 hz2
  go_enter Tryd.func28, Tryd.ntmps28
  go_wp2_with fail
  refine (hk.out _).mono ?_; rintro e w1 ⟨rfl, hb1⟩
  go_wp2_with fail
  refine (d1.out _ hb1).mono ?_; rintro e w2 ⟨rfl, hb⟩
  have hb2 := Below.next hb1 hb
  clear hb hb1
  go_wp2_with fail
  refine (c1'.out _ hb2).mono ?_; rintro e w3 ⟨b1, rfl, r1, _, hb⟩
  have R1 := hide r1
  have hb3 := Below.next hb2 hb
  clear hb hb2 r1
  go_wp2_with fail
  refine (d2.out _ hb3).mono ?_; rintro e w4 ⟨rfl, hb⟩
  have R1 := hide (R1.out.below hb)
  have hb4 := Below.next hb3 hb
  clear hb hb3
  go_wp2_with fail
  refine (c2'.out _ hb4).mono ?_; rintro e w5 ⟨b2, rfl, r2, _, hb⟩
  have R1 := hide (R1.out.below hb)
  have R2 := hide r2
  have hb5 := Below.next hb4 hb
  clear hb hb4 r2
  by_cases hbig : 4096 < zs.length + us.length - 1
  · go_wp2
    go_ret3
    exact ⟨.inl ⟨hbig, rfl⟩, hb5⟩
  · go_wp2
    go_ret3
    exact ⟨.inr ⟨hbig, _, _, rfl, R1.out, R2.out⟩, hb5⟩

theorem mulL_zero {f : Int} {xs ys : List Int} (h : mulE f xs ys ≠ 0) : mulL f xs ys = [] := by unfold mulL; rw [if_neg h]

end Go.Proofs.YtcjgjgkoeokooaaDoor
