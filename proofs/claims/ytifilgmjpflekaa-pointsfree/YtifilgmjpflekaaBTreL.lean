/-
  Layer 6: values handed down the tree.
-/
import Derived.Test.YtifilgmjpflekaaBTreK
namespace Go.Proofs.Ytifilgmjpflekaa
open Go.RowKit Fld
set_option linter.unusedVariables false

theorem pow_int (K : Nat) : (2 : Int) ^ K = ((2 ^ K : Nat) : Int) := by rw [Int.natCast_pow]; rfl
theorem wrap_two (K : Nat) (h : 2 ^ K ≤ 1000000) : IntKind.i64.wrap ((2 : Int) ^ K) = ((2 ^ K : Nat) : Int) := by
  rw [pow_int]
  generalize 2 ^ K = q at *
  rw [IntKind.wrap_i64]; omega
theorem ck_length (xs : List Int) (s a : Nat) : (ck xs s a).length = min s (xs.length - a * s) := by unfold ck; rw [List.length_take, List.length_drop]
theorem co_ck (xs : List Int) (s a i : Nat) (h : i < (ck xs s a).length) : co (ck xs s a) i = co xs (a * s + i) := by
  rw [ck_length] at h
  unfold ck co
  rw [List.getD_eq_getElem?_getD, List.getD_eq_getElem?_getD, List.getElem?_take_of_lt (by omega), List.getElem?_drop]
theorem ck_els {p : Int} {xs : List Int} (hx : Els p xs) (s a : Nat) : Els p (ck xs s a) := fun x hm => hx x (List.mem_of_mem_drop (List.mem_of_mem_take hm))
/-- The remainder has the values, at the elements beneath. -/
theorem hand_val {p : Int} {wd : Bool} (hm : Md p wd) {xs P Q R : List Int} (hx : Els p xs) {s a i : Nat} (hd : Dv p P (zl p (ck xs s a)) Q R) (h1 : a * s ≤ i) (h2 : i < a * s + (ck xs s a).length) : vl p (co xs i) P = vl p (co xs i) R := by
  have hp : 0 < p := by have := hm.bounds; omega
  refine rem_vl hd ((zl_root hm (hx.co hp i) (ck_els hx s a)).2 ?_)
  have e := co_ck xs s a (i - a * s) (by omega)
  rw [show a * s + (i - a * s) = i by omega] at e
  rw [← e, co_at (by omega)]; exact List.getElem_mem _

/-- What handing down does, from a level on. -/
def Hand (f p : Int) (xs : List Int) (lo N g cap gv : Nat) (cut : Nat → Nat) (vs : List Value) (uss : Nat → List Value) (L : Nat) : Prop :=
  ∀ (a off m c cv : Nat) (P ys : List Int) (vp : Value) (va : Option Addr) (w : World),
    L < N → Lvs w lo cut (.slice (some ⟨g, 0, none⟩) N cap) vs uss (tre p xs) N → L + 1 ≤ c → Rw w vp P → Els p P → P.length ≤ 2048 → off = a * 2 ^ L → m = (ck xs (2 ^ L) a).length → m ≤ cv → (0 < m → va = some ⟨gv, off, none⟩) → Ow w gv xs.length ys → (∀ i, off ≤ i → i < off + m → co ys i = 0) →
    Calls Try.prog 78 #[.int .u8 f, .slice (some ⟨g, 0, none⟩) (L + 1) c, .int .i64 (a : Int), vp, .slice va m cv] w fun e w' => e = .returned (.tuple #[]) ∧ ∃ ys', Ow w' gv xs.length ys' ∧ (∀ i, co ys' i = if off ≤ i ∧ i < off + m then vl p (co xs i) P else co ys i) ∧ w.grownBy w' (some gv)

theorem Lvs.kept {w w' : World} {lo N gv : Nat} {cut : Nat → Nat} {v : Value} {vs : List Value} {uss : Nat → List Value} {A : Nat → List (List Int)} (h : Lvs w lo cut v vs uss A N) (hg : w.grownBy w' (some gv)) (hlt : gv < lo) : Lvs w' lo cut v vs uss A N := by
  have hcut : ∀ i, i < N → lo ≤ cut i := fun i hi => Nat.le_trans h.from_ (h.cuts i (by omega) 0 (by omega))
  refine ⟨own_kept h.row hg (fun b hb hc => ?_), fun i hi => (h.each i hi).kept hg (fun b hb hc => ?_) (fun j b hj hb hc => ?_), h.mono, h.from_⟩
  · have := own_base h.row b hb; cases hc; omega
  · have := own_base (h.each i hi).row b hb; have := hcut i hi; cases hc; omega
  · have := (h.each i hi).from_ j b hb; have := hcut i hi; cases hc; omega

/-- The level's list at a place. -/
theorem hand_cells {w : World} {p : Int} {wd : Bool} {xs : List Int} {lo N g cap L a : Nat} {cut : Nat → Nat} {vs : List Value} {uss : Nat → List Value} (hm : Md p wd) (htop : p ≤ 18446744073709551615) (hl : xs.length ≤ 2048) (hV : Lvs w lo cut (.slice (some ⟨g, 0, none⟩) N cap) vs uss (tre p xs) N) (hL : L < N) (ha : a * 2 ^ L < xs.length) :
    ∃ gl capl u n1, w.cell? ⟨g, L, none⟩ = some (.slice (some ⟨gl, 0, none⟩) n1 capl) ∧ a < n1 ∧ n1 ≤ 2048 ∧ w.cell? ⟨gl, a, none⟩ = some u ∧ Rw w u (zl p (ck xs (2 ^ L) a)) := by
  have hc := (cn_lt (n := xs.length) (i := a) (s := 2 ^ L) (Nat.pow_pos (by decide))).2 ha
  have hcn : cn xs.length (2 ^ L) ≤ 2048 := by
    apply Nat.le_of_not_lt; intro hcon
    have := (cn_lt (Nat.pow_pos (by decide))).1 hcon
    have := Nat.le_mul_of_pos_right 2048 (Nat.pow_pos (n := L) (show 0 < 2 by decide))
    omega
  have h1 := hV.level hL
  have hE := hV.each L hL
  have hlen : (tre p xs L).length = cn xs.length (2 ^ L) := lvl_len p xs (2 ^ L)
  obtain ⟨gl, capl, hvl, _, _⟩ := hE.row.form (by rw [hlen]; omega)
  rw [hvl] at h1 hE
  have h2 := hE.list (i := a) (by rw [hlen]; exact hc)
  have h3 := hE.each a (by rw [hlen]; exact hc)
  have e : (tre p xs L).getD a [] = zl p (ck xs (2 ^ L) a) := lvl_at hc
  rw [e] at h3
  refine ⟨gl, capl, _, _, h1, by rw [hlen]; exact hc, by rw [hlen]; exact hcn, h2, (zl_wd hm htop _ (by have := ck_len xs (2 ^ L) a; omega)).row h3⟩

theorem hand_div {f p : Int} {wd : Bool} (h : Fi f p wd) {P zs : List Int} {vp u : Value} {w : World} (hz : Tm p zs) (hne : zs ≠ []) (hP : Els p P) (l1 : P.length ≤ 2048) (l2 : zs.length ≤ 4096) (r1 : Rw w vp P) (r2 : Rw w u zs) :
    Calls Try.prog 79 #[.int .u8 f, vp, u] w fun e w' => ∃ vq vr Q R, e = .returned (.tuple #[vq, vr, .int .i64 0]) ∧ Dv p P zs Q R ∧ w'.ownsRow w.heap.size 25 1 vr R.length (vals R) ∧ Below w.heap.size w w' := by
  have he : divE f P zs = 0 := by
    unfold divE
    rw [if_pos (er_yes h (allIn_of hP) (allIn_of hz.1) (by omega) l2), hz.2, if_neg hne]
  have := pDivMod_any f vp u P zs w r1 r2
  unfold Parts at this
  rw [he] at this
  exact this.mono fun e w' ⟨vq, vr, A, B, b, hE, hS, _, hor, _, _, hb⟩ => ⟨vq, vr, A, B, hE, by have := hS.2 he; rw [pOf_eq h] at this; exact this, hor, hb⟩

theorem ow_block {w : World} {g n : Nat} {ys : List Int} (h : Ow w g n ys) : w.heap[g]? = some (.cells (vals ys).toArray 25 (0, 0)) := own_block h
theorem ow_put {w : World} {g n a : Nat} {ys : List Int} {x : Int} (h : Ow w g n ys) (ha : a < n) (hn : n ≤ 17592186043904) : Ow (w.setRow g ((vals ys).toArray.toList.take a ++ ([Value.int .u64 x] ++ (vals ys).toArray.toList.drop (a + [Value.int .u64 x].length))).toArray) g n (ys.set a x) ∧ w.grownBy (w.setRow g ((vals ys).toArray.toList.take a ++ ([Value.int .u64 x] ++ (vals ys).toArray.toList.drop (a + [Value.int .u64 x].length))).toArray) (some g) := by
  have hl := own_len h
  have e : (vals ys).toArray.toList.take a ++ ([Value.int .u64 x] ++ (vals ys).toArray.toList.drop (a + [Value.int .u64 x].length)) = vals (ys.set a x) := by
    simp only [List.length_singleton]
    rw [← vals_set, List.set_eq_take_append_cons_drop, if_pos (by rw [vals_length]; omega)]; rfl
  rw [e]
  refine ⟨own_of_block (Nat.le_refl _) (setRow_heap w g _ _ _ _ (ow_block h)) (by simpa using hl) hn, ⟨rfl, rfl, rfl, by simp, fun j _ hj => setRow_other w g j _ (fun e => hj (by simp [e]))⟩⟩

/-- Nothing is handed down to no places. -/
theorem hand_nil (f : Int) (vv : Value) (a : Int) (cv : Nat) (vp : Value) (va : Option Addr) (w : World) :
    Calls Try.prog 78 #[.int .u8 f, vv, .int .i64 a, vp, .slice va 0 cv] w fun e w' => e = .returned (.tuple #[]) ∧ w' = w := by
  go_enter Try.func78, Try.ntmps78
  go_wp2
  refine bodyPost_ret (v := .tuple #[]) ?_ rfl ⟨rfl, rfl⟩
  simp [results, Try.results78, go_sem]
theorem hand_none (f : Int) (g L c a cv : Nat) (vp : Value) (va : Option Addr) (w : World) :
    Calls Try.prog 78 #[.int .u8 f, .slice (some ⟨g, 0, none⟩) (L + 1) c, .int .i64 (a : Int), vp, .slice va 0 cv] w fun e w' => e = .returned (.tuple #[]) ∧ w' = w := hand_nil f _ a cv vp va w

set_option maxRecDepth 100000 in
set_option maxHeartbeats 400000 in
theorem hand_zero (f p : Int) (wd : Bool) (xs : List Int) (lo N g cap gv : Nat) (cut : Nat → Nat) (vs : List Value) (uss : Nat → List Value) (h : Fi f p wd) (hx : Els p xs) (hl : xs.length ≤ 2048) (hlo : gv < lo) (hN : N ≤ 12) : Hand f p xs lo N g cap gv cut vs uss 0 := by
  intro a off m c cv P ys vp va w hL hV hc hP hPe hPl hoff hm hmc hva hO hz
  rw [Nat.pow_zero, Nat.mul_one] at hoff
  subst hoff
  rw [Nat.pow_zero] at hm
  by_cases ha : off < xs.length
  · rw [ck_one xs off ha] at hm
    have hm1 : m = 1 := hm
    subst hm1
    have e1 := hva (by omega)
    subst e1
    obtain ⟨gl, capl, u, n1, c1, hn1, hn2, c2, hru⟩ := hand_cells (a := off) (L := 0) h.md h.top hl hV hL (by rw [Nat.pow_zero]; omega)
    rw [Nat.pow_zero, ck_one xs off ha] at hru
    have hzf := zl_facts h.md [xs.getD off 0]
    have HD := hide (hand_div h hzf.1 (fun e => by have := hzf.2.2; rw [e] at this; simp at this) hPe hPl (by rw [hzf.2.2]; simp) hP hru)
    have hxe : El p (xs.getD off 0) := hx.co h.pos off
    have HR : Hid (∀ Q R, Dv p P (zl p [xs.getD off 0]) Q R → R = tr [vl p (xs.getD off 0) P]) := fun Q R hd => rem_fac h.md hxe (by rw [fac_zl h.md]; exact hd)
    have HC : Hid (co xs off = xs.getD off 0) := rfl
    have hvw := elWord (vl_el h.pos (xs.getD off 0) P) h.top
    obtain ⟨au, cu, hu, _⟩ := hru.spell
    subst hu
    obtain ⟨ap, cp, hp', _⟩ := hP.spell
    subst hp'
    have hz0 := hz off (Nat.le_refl _) (by omega)
    have hgl := own_top hO gv rfl
    clear hV hP hru hPe hx hm hz hva hzf hxe
    generalize (zl p [xs.getD off 0]).length = n3 at *
    generalize xs.getD off 0 = x at *
    have hol := own_len hO
    by_cases hv0 : vl p x P = 0
    · go_enter Try.func78, Try.ntmps78
      have i0 : (0 : Int) ≤ (off : Int) := by omega
      have i1 : (off : Int) < (n1 : Int) := by omega
      go_wp2_with (first
        | (go_at_call 79; refine HD.out.mono ?_; rintro e w1 ⟨vq, vr, Q, R, rfl, hd, hor, hb1⟩; have hR := HR.out Q R hd; rw [hv0] at hR; have hR : R = [] := hR; rw [hR] at hor; obtain ⟨ar, cr, rfl⟩ := own_form hor; clear hd hR)
        | (refine wpList_copy_nothing rfl _ _ _ _ rfl 25 Try.underlying26 u64_size _ _ _ _ _ _ rfl rfl rfl ?_))
      refine bodyPost_ret (v := .tuple #[]) ?_ rfl ⟨rfl, ys, hO.below hb1, fun i => ?_, ?_⟩
      · simp [results, Try.results78, go_sem]
      · by_cases hi : off ≤ i ∧ i < off + 1
        · have : i = off := by omega
          rw [if_pos hi, this, HC.out, hv0, hz0]
        · rw [if_neg hi]
      · exact ⟨hb1.os, hb1.tape, hb1.output, hb1.size, fun k hk _ => hb1.block k hk⟩
    · go_enter Try.func78, Try.ntmps78
      have i0 : (0 : Int) ≤ (off : Int) := by omega
      have i1 : (off : Int) < (n1 : Int) := by omega
      go_wp2_with (first
        | (go_at_call 79; refine HD.out.mono ?_; rintro e w1 ⟨vq, vr, Q, R, rfl, hd, hor, hb1⟩; have hR := HR.out Q R hd; have hR : R = [vl p x P] := hR.trans (tr_full (.inr hv0)); rw [hR] at hor; obtain ⟨gr, cr, hvr, hgr, _⟩ := hor.form (by simp); subst hvr; have hO1 := hide (hO.below hb1); clear hd hR)
        | (refine wpList_copy_own rfl _ _ _ _ rfl 25 Try.underlying26 u64_size gv off 1 cv ⟨gr, 0, none⟩ 1 cr rfl rfl (vals ys).toArray 25 (ow_block hO1.out) [.int .u64 (vl p x P)] rfl (hor.cells (g := gr) rfl) (by simp [vals_length]; omega) (by simp [Value.oneCell']) ?_))
      have R1 := ow_put (x := vl p x P) hO1.out ha (by omega)
      refine bodyPost_ret (v := .tuple #[]) ?_ rfl ⟨rfl, _, R1.1, fun i => ?_, ?_⟩
      · simp [results, Try.results78, go_sem]
      · rw [co_set _ _ _ _ (by omega)]
        by_cases hi : i = off
        · rw [if_pos hi, if_pos ⟨by omega, by omega⟩, hi, HC.out]
        · rw [if_neg hi, if_neg (by omega)]
      · exact ⟨R1.2.os.trans hb1.os, R1.2.tape.trans hb1.tape, R1.2.output.trans hb1.output, Nat.le_trans hb1.size R1.2.size, fun k hk hne => (R1.2.block k (Nat.lt_of_lt_of_le hk hb1.size) hne).trans (hb1.block k hk)⟩
  · have hm0 : m = 0 := by rw [hm, ck_out xs 1 off (by omega)]; rfl
    subst hm0
    exact (hand_none f g 0 c off cv vp va w).mono fun e w' ⟨he, hw⟩ => ⟨he, ys, by rw [hw]; exact hO, fun i => by rw [if_neg (by omega)], by rw [hw]; exact grown_refl _ _⟩

theorem below_grow {a b : World} {r : Option Nat} (hb : Below a.heap.size a b) : a.grownBy b r := ⟨hb.os, hb.tape, hb.output, hb.size, fun k hk _ => hb.block k hk⟩
/-- Two halves, one after the other. -/
theorem two_halves {p : Int} {xs P R ys ys1 ys2 : List Int} {off hh m : Nat} (hv : ∀ i, off ≤ i → i < off + m → vl p (co xs i) P = vl p (co xs i) R) (hhm : hh ≤ m) (h1 : ∀ i, co ys1 i = if off ≤ i ∧ i < off + hh then vl p (co xs i) R else co ys i) (h2 : ∀ i, co ys2 i = if off + hh ≤ i ∧ i < off + m then vl p (co xs i) R else co ys1 i) : ∀ i, co ys2 i = if off ≤ i ∧ i < off + m then vl p (co xs i) P else co ys i := fun i => by
  rw [h2 i]
  by_cases a : off + hh ≤ i ∧ i < off + m
  · rw [if_pos a, if_pos ⟨by omega, a.2⟩, hv i (by omega) a.2]
  · rw [if_neg a, h1 i]
    by_cases b : off ≤ i ∧ i < off + hh
    · rw [if_pos b, if_pos ⟨b.1, by omega⟩, hv i b.1 (by omega)]
    · rw [if_neg b, if_neg (by omega)]
theorem rw_grown {w w' : World} {base gv n : Nat} {v : Value} {xs : List Int} (h : w.ownsRow base 25 1 v n (vals xs)) (hg : w.grownBy w' (some gv)) (hlt : gv < base) : w'.ownsRow base 25 1 v n (vals xs) := own_kept h hg (fun b hb hc => by have := own_base h b hb; cases hc; omega)

set_option maxRecDepth 100000 in
set_option maxHeartbeats 400000 in
theorem hand_succ (f p : Int) (wd : Bool) (xs : List Int) (lo N g cap gv : Nat) (cut : Nat → Nat) (vs : List Value) (uss : Nat → List Value) (L : Nat) (h : Fi f p wd) (hx : Els p xs) (hl : xs.length ≤ 2048) (hlo : gv < lo) (hN : N ≤ 12) (ih : Hand f p xs lo N g cap gv cut vs uss L) : Hand f p xs lo N g cap gv cut vs uss (L + 1) := by
  intro a off m c cv P ys vp va w hL hV hc hP hPe hPl hoff hm hmc hva hO hz
  by_cases ha : off < xs.length
  · have hpow : 2 ^ (L + 1) = 2 * 2 ^ L := by rw [Nat.pow_succ, Nat.mul_comm]
    have hs0 : 0 < 2 ^ L := Nat.pow_pos (by decide)
    have hsL : 2 ^ L ≤ 4096 := by
      have : 2 ^ L ≤ 2 ^ 12 := Nat.pow_le_pow_right (by decide) (by omega)
      exact this
    have hoff2 : off = 2 * a * 2 ^ L := by rw [hoff, hpow, ← Nat.mul_assoc, Nat.mul_comm a 2]
    have hoff3 : (2 * a + 1) * 2 ^ L = off + 2 ^ L := by rw [hoff2, Nat.add_mul, Nat.one_mul]
    have hmv : m = min (2 * 2 ^ L) (xs.length - off) := by rw [hm, ck_length, ← hoff, hpow]
    have hmp : 0 < m := by omega
    have e1 := hva hmp
    subst e1
    obtain ⟨gl, capl, u, n1, c1, hn1, hn2, c2, hru⟩ := hand_cells (a := a) (L := L + 1) h.md h.top hl hV hL (by rw [← hoff]; exact ha)
    have hzf := zl_facts h.md (ck xs (2 ^ (L + 1)) a)
    have hzl : (zl p (ck xs (2 ^ (L + 1)) a)).length = m + 1 := by rw [hzf.2.2, hm]
    have HD := hide (hand_div h hzf.1 (fun e => by rw [e] at hzl; simp at hzl) hPe hPl (by rw [hzl]; omega) hP hru)
    have HVl : Hid (∀ Q R, Dv p P (zl p (ck xs (2 ^ (L + 1)) a)) Q R → (∀ i, off ≤ i → i < off + m → vl p (co xs i) P = vl p (co xs i) R) ∧ Els p R ∧ R.length ≤ 2048 ∧ Wd R) := fun Q R hd => by
      have h5 := hd.2.2.2.2.1
      rw [hzf.1.2, hzl] at h5
      exact ⟨fun i h1 h2 => hand_val h.md hx hd (by rw [← hoff]; exact h1) (by rw [← hoff, ← hm]; exact h2), hd.2.1, by omega, wd_els hd.2.1 h.top (by omega)⟩
    obtain ⟨au, cu, hu, _⟩ := hru.spell
    subst hu
    obtain ⟨ap, cp, hp', _⟩ := hP.spell
    subst hp'
    have hgl := own_top hO gv rfl
    obtain ⟨hh, HH⟩ : ∃ hh, Hid (min (2 ^ L) m = hh) := ⟨min (2 ^ L) m, hide (Eq.refl _)⟩
    have hhm : hh ≤ m := by have := HH.out; omega
    have hhp : 0 < hh := by have := HH.out; omega
    have hhl : hh = (ck xs (2 ^ L) (2 * a)).length := by rw [ck_length, ← hoff2, ← HH.out]; omega
    have hrl : m - hh = (ck xs (2 ^ L) (2 * a + 1)).length := by rw [ck_length, hoff3, ← HH.out]; omega
    have hro : 0 < m - hh → off + hh = (2 * a + 1) * 2 ^ L := fun hpos => by rw [hoff3]; have := HH.out; omega
    have I1 := hide (fun W P' vp' (hV' : Lvs W lo cut (.slice (some ⟨g, 0, none⟩) N cap) vs uss (tre p xs) N) (r : Rw W vp' P') (e : Els p P') (l : P'.length ≤ 2048) (o : Ow W gv xs.length ys) => ih (2 * a) off hh (L + 1) hh P' ys vp' (some ⟨gv, off, none⟩) W (by omega) hV' (Nat.le_refl _) r e l hoff2 hhl (Nat.le_refl _) (fun _ => rfl) o (fun i h1 h2 => hz i h1 (by omega)))
    have I2 : Hid (∀ W P' vp' ys' va', Lvs W lo cut (.slice (some ⟨g, 0, none⟩) N cap) vs uss (tre p xs) N → Rw W vp' P' → Els p P' → P'.length ≤ 2048 → Ow W gv xs.length ys' → (∀ i, off + hh ≤ i → i < off + m → co ys' i = 0) → (0 < m - hh → va' = some ⟨gv, off + hh, none⟩) →
        Calls Try.prog 78 #[.int .u8 f, .slice (some ⟨g, 0, none⟩) (L + 1) (L + 1), .int .i64 ((2 * a + 1 : Nat) : Int), vp', .slice va' (m - hh) (m - hh)] W fun e w' => e = .returned (.tuple #[]) ∧ ∃ ys'', Ow w' gv xs.length ys'' ∧ (∀ i, co ys'' i = if off + hh ≤ i ∧ i < off + m then vl p (co xs i) P' else co ys' i) ∧ W.grownBy w' (some gv)) := fun W P' vp' ys' va' hV' r e l o hz' hva' => by
      by_cases hpos : 0 < m - hh
      · have := ih (2 * a + 1) (off + hh) (m - hh) (L + 1) (m - hh) P' ys' vp' va' W (by omega) hV' (Nat.le_refl _) r e l (hro hpos) hrl (Nat.le_refl _) hva' o (fun i h1 h2 => hz' i h1 (by omega))
        rw [show off + hh + (m - hh) = off + m by omega] at this
        exact this
      · have e0 : m - hh = 0 := by omega
        rw [e0]
        exact (hand_none f g L (L + 1) (2 * a + 1) 0 vp' va' W).mono fun e w' ⟨he, hw⟩ => ⟨he, ys', by rw [hw]; exact o, fun i => by rw [if_neg (by omega)], by rw [hw]; exact grown_refl _ _⟩
    have HV := hide hV
    have hO' := hide hO
    have hzz := hide hz
    have HT := hide h.top
    clear hV hP hru hPe hx hz hva hzf hO ih hoff hoff2 hoff3 hm hzl hro hhl hrl
    generalize (zl p (ck xs (2 ^ (L + 1)) a)).length = n3 at *
    have hsh : IntKind.i64.wrap ((2 : Int) ^ L) = ((2 ^ L : Nat) : Int) := wrap_two L (by omega)
    have hsh2 : (2 : Int) ^ L = ((2 ^ L : Nat) : Int) := pow_int L
    have hm2 : m ≤ 2048 := by omega
    clear hmv hpow
    generalize hq : 2 ^ L = q at *
    clear hq
    obtain ⟨a2, HA2⟩ : ∃ a2, Hid (2 * a = a2) := ⟨2 * a, hide (Eq.refl _)⟩
    obtain ⟨a3, HA3⟩ : ∃ a3, Hid (2 * a + 1 = a3) := ⟨2 * a + 1, hide (Eq.refl _)⟩
    rw [HA2.out] at I1
    rw [HA3.out] at I2
    have hA2 : 2 * (a : Int) = (a2 : Int) := by have := HA2.out; omega
    have hA3 : (a2 : Int) + 1 = (a3 : Int) := by have := HA2.out; have := HA3.out; omega
    have wA2 : IntKind.i64.wrap (a2 : Int) = (a2 : Int) := by have := HA2.out; rw [IntKind.wrap_i64]; omega
    have wA3 : IntKind.i64.wrap (a3 : Int) = (a3 : Int) := by have := HA3.out; rw [IntKind.wrap_i64]; omega
    have i0 : (0 : Int) ≤ (a : Int) := by omega
    have i1 : (a : Int) < (n1 : Int) := by omega
    have L0 : (0 : Int) ≤ (L : Int) := by omega
    have L1 : (L : Int) ≤ 12 := by omega
    have L2 : (0 : Int) ≤ (L : Int) + 1 := by omega
    have L3 : (L : Int) + 1 ≤ (c : Int) := by omega
    have L4 : ((L : Int) + 1).toNat = L + 1 := by omega
    have hcase : (q < m ∧ hh = q) ∨ (m < q ∧ hh = m) ∨ (q = m ∧ hh = m) := by have := HH.out; omega
    rcases hcase with ⟨hqm, e⟩ | ⟨hqm, e⟩ | ⟨hqm, e⟩
    · subst e
      have j0 : (0 : Int) ≤ (hh : Int) := by omega
      have j1 : (hh : Int) ≤ (m : Int) := by omega
      have j2 : (hh : Int) ≤ (cv : Int) := by omega
      have j3 : (m : Int) ≤ (cv : Int) := by omega
      have j4 : ¬ m = hh := by omega
      have j5 : (hh : Int) < (m : Int) := by omega
      go_enter Try.func78, Try.ntmps78
      go_wp2_with (go_at_call 79; refine HD.out.mono ?_; rintro e w1 ⟨vq, vr, Q, R, rfl, hd, hor, hb1⟩; have hvl := hide (HVl.out Q R hd); obtain ⟨ar, cr, rfl⟩ := own_form hor; clear hd)
      have hb2 : Below w.heap.size w w1.drew := hb1.drew
      have c1' := hide (I1.out w1.drew R _ (HV.out.below hb2) (hvl.out.2.2.2.row (own_below hor ((Below.refl _ w1).drew))) hvl.out.2.1 hvl.out.2.2.1 (hO'.out.below hb2))
      go_region_held3 (fun _ => True) (trivial) (first
        | (go_at_call 78; refine c1'.out.mono ?_; rintro e w3 ⟨rfl, ys1, hO1, hy1, hg3⟩))
      have hor2 := own_below hor ((Below.refl _ w1).drew)
      have hV3 := hide ((HV.out.below hb2).kept hg3 hlo)
      have hor3 := hide (rw_grown hor2 hg3 hgl)
      have hz3 : Hid (∀ i, off + hh ≤ i → i < off + m → co ys1 i = 0) := fun i k1 k2 => by rw [hy1 i, if_neg (by omega)]; exact hzz.out i (by omega) k2
      have hw3 : Below w3.heap.size w3 w3.drew := (Below.refl _ w3).drew
      have c2' := hide (fun va' hva' => I2.out w3.drew R (.slice ar R.length cr) ys1 va' (hV3.out.below hw3) (hvl.out.2.2.2.row (own_below hor3.out hw3)) hvl.out.2.1 hvl.out.2.2.1 (hO1.below hw3) hz3.out hva')
      have HY1 := hide hy1
      have hG3 := hide hg3
      clear hor hor2 hy1 hg3 hO1 hV3 hor3
      go_wp2_with fail
      go_region_held3 (fun _ => True) (trivial) (first
        | (go_at_call 78; refine (c2'.out _ (fun _ => rfl)).mono ?_; rintro e w4 ⟨rfl, ys2, hO2, hy2, hg4⟩))
      go_wp2
      go_end0
      refine ⟨rfl, ys2, hO2, two_halves hvl.out.1 hhm HY1.out hy2, ?_⟩
      exact grown_trans (grown_trans (below_grow hb2) hG3.out) (grown_trans (below_grow hw3) hg4)
    · subst e
      have j5 : (hh : Int) < (q : Int) := by omega
      have j0 : (0 : Int) ≤ (hh : Int) := by omega
      have j2 : (hh : Int) ≤ (cv : Int) := by omega
      have j3 : (hh : Int) ≤ (hh : Int) := by omega
      have em : hh - hh = 0 := by omega
      rw [em] at I2
      go_enter Try.func78, Try.ntmps78
      go_wp2_with (go_at_call 79; refine HD.out.mono ?_; rintro e w1 ⟨vq, vr, Q, R, rfl, hd, hor, hb1⟩; have hvl := hide (HVl.out Q R hd); obtain ⟨ar, cr, rfl⟩ := own_form hor; clear hd)
      have hb2 : Below w.heap.size w w1.drew := hb1.drew
      have c1' := hide (I1.out w1.drew R _ (HV.out.below hb2) (hvl.out.2.2.2.row (own_below hor ((Below.refl _ w1).drew))) hvl.out.2.1 hvl.out.2.2.1 (hO'.out.below hb2))
      go_region_held3 (fun _ => True) (trivial) (first
        | (go_at_call 78; refine c1'.out.mono ?_; rintro e w3 ⟨rfl, ys1, hO1, hy1, hg3⟩))
      have hor2 := own_below hor ((Below.refl _ w1).drew)
      have hV3 := hide ((HV.out.below hb2).kept hg3 hlo)
      have hor3 := hide (rw_grown hor2 hg3 hgl)
      have hz3 : Hid (∀ i, off + hh ≤ i → i < off + hh → co ys1 i = 0) := fun i k1 k2 => by rw [hy1 i, if_neg (by omega)]; exact hzz.out i (by omega) k2
      have hw3 : Below w3.heap.size w3 w3.drew := (Below.refl _ w3).drew
      have c2' := hide (fun va' hva' => I2.out w3.drew R (.slice ar R.length cr) ys1 va' (hV3.out.below hw3) (hvl.out.2.2.2.row (own_below hor3.out hw3)) hvl.out.2.1 hvl.out.2.2.1 (hO1.below hw3) hz3.out hva')
      have HY1 := hide hy1
      have hG3 := hide hg3
      clear hor hor2 hy1 hg3 hO1 hV3 hor3
      go_wp2_with fail
      go_region_held3 (fun _ => True) (trivial) (first
        | (go_at_call 78; refine (c2'.out _ (fun h => absurd h (by decide))).mono ?_; rintro e w4 ⟨rfl, ys2, hO2, hy2, hg4⟩))
      go_wp2
      go_end0
      refine ⟨rfl, ys2, hO2, two_halves hvl.out.1 hhm HY1.out hy2, ?_⟩
      exact grown_trans (grown_trans (below_grow hb2) hG3.out) (grown_trans (below_grow hw3) hg4)
    · subst e
      have hqm2 := hqm.symm
      clear hqm
      subst hqm2
      have j0 : (0 : Int) ≤ (hh : Int) := by omega
      have j2 : (hh : Int) ≤ (cv : Int) := by omega
      have j3 : (hh : Int) ≤ (hh : Int) := by omega
      have em : hh - hh = 0 := by omega
      rw [em] at I2
      go_enter Try.func78, Try.ntmps78
      go_wp2_with (go_at_call 79; refine HD.out.mono ?_; rintro e w1 ⟨vq, vr, Q, R, rfl, hd, hor, hb1⟩; have hvl := hide (HVl.out Q R hd); obtain ⟨ar, cr, rfl⟩ := own_form hor; clear hd)
      have hb2 : Below w.heap.size w w1.drew := hb1.drew
      have c1' := hide (I1.out w1.drew R _ (HV.out.below hb2) (hvl.out.2.2.2.row (own_below hor ((Below.refl _ w1).drew))) hvl.out.2.1 hvl.out.2.2.1 (hO'.out.below hb2))
      go_region_held3 (fun _ => True) (trivial) (first
        | (go_at_call 78; refine c1'.out.mono ?_; rintro e w3 ⟨rfl, ys1, hO1, hy1, hg3⟩))
      have hor2 := own_below hor ((Below.refl _ w1).drew)
      have hV3 := hide ((HV.out.below hb2).kept hg3 hlo)
      have hor3 := hide (rw_grown hor2 hg3 hgl)
      have hz3 : Hid (∀ i, off + hh ≤ i → i < off + hh → co ys1 i = 0) := fun i k1 k2 => by rw [hy1 i, if_neg (by omega)]; exact hzz.out i (by omega) k2
      have hw3 : Below w3.heap.size w3 w3.drew := (Below.refl _ w3).drew
      have c2' := hide (fun va' hva' => I2.out w3.drew R (.slice ar R.length cr) ys1 va' (hV3.out.below hw3) (hvl.out.2.2.2.row (own_below hor3.out hw3)) hvl.out.2.1 hvl.out.2.2.1 (hO1.below hw3) hz3.out hva')
      have HY1 := hide hy1
      have hG3 := hide hg3
      clear hor hor2 hy1 hg3 hO1 hV3 hor3
      go_wp2_with fail
      go_region_held3 (fun _ => True) (trivial) (first
        | (go_at_call 78; refine (c2'.out _ (fun h => absurd h (by decide))).mono ?_; rintro e w4 ⟨rfl, ys2, hO2, hy2, hg4⟩))
      go_wp2
      go_end0
      refine ⟨rfl, ys2, hO2, two_halves hvl.out.1 hhm HY1.out hy2, ?_⟩
      exact grown_trans (grown_trans (below_grow hb2) hG3.out) (grown_trans (below_grow hw3) hg4)
  · have hm0 : m = 0 := by rw [hm, ck_out xs _ a (by rw [← hoff]; omega)]; rfl
    subst hm0
    exact (hand_none f g (L + 1) c a cv vp va w).mono fun e w' ⟨he, hw⟩ => ⟨he, ys, by rw [hw]; exact hO, fun i => by rw [if_neg (by omega)], by rw [hw]; exact grown_refl _ _⟩

theorem hand_any (f p : Int) (wd : Bool) (xs : List Int) (lo N g cap gv : Nat) (cut : Nat → Nat) (vs : List Value) (uss : Nat → List Value) (h : Fi f p wd) (hx : Els p xs) (hl : xs.length ≤ 2048) (hlo : gv < lo) (hN : N ≤ 12) : ∀ L, Hand f p xs lo N g cap gv cut vs uss L := by
  intro L
  induction L with
  | zero => exact hand_zero f p wd xs lo N g cap gv cut vs uss h hx hl hlo hN
  | succ L ih => exact hand_succ f p wd xs lo N g cap gv cut vs uss L h hx hl hlo hN ih

end Go.Proofs.Ytifilgmjpflekaa
