import Derived.Test.YtnapbdoalfbgnaaGreatBunQ
import Derived.Test.YtnapbdoalfbgnaaGreatBunW
import Derived.WalkMore
import Derived.Test.YtnapbdoalfbgnaaGreatBunJ
set_option linter.unusedVariables false
set_option linter.unusedSimpArgs false
set_option maxRecDepth 100000
set_option maxHeartbeats 4000000
namespace Go.Proofs.YtnapbdoalfbgnaaGreat
open Go.RowKit Fld
namespace Fld
def DI (p : Int) (xs qs A R : List Int) (m k : Nat) : Prop :=
 Els p A ∧ Els p R ∧ (∀ i, i < k → co A i = 0) ∧ (∀ i, k + m ≤ i → co R i = 0) ∧ Al p (fun i => cv (co A) (co qs) i + co R i) (co xs)
theorem co_rep (n i : Nat) : co (List.replicate n 0) i = 0 := by
 unfold co
 rw [List.getD_eq_getElem?_getD, List.getElem?_replicate]
 split <;> rfl
theorem els_rep {p : Int} (hp : 0 < p) (n : Nat) : Els p (List.replicate n 0) := fun x hx => by rw [List.eq_of_mem_replicate hx]; exact ⟨Int.le_refl 0, hp⟩
theorem DI.start {p : Int} {xs qs : List Int} {n m : Nat} (hp : 0 < p) (hx : Els p xs) (h : (tr xs).length ≤ n + m) : DI p xs qs (List.replicate n 0) (tr xs) m n :=
 ⟨els_rep hp n, hx.tr hp, fun i _ => co_rep n i, fun i hi => by rw [co_tr]; exact tr_out xs i (by omega), fun i => by
  show (cv (co (List.replicate n 0)) (co qs) i + co (tr xs) i) % p = co xs i % p
  rw [cv_zero_left _ i _ (fun j _ => co_rep n j), Int.zero_add, co_tr]⟩
theorem DI.skip {p : Int} {xs qs A R : List Int} {m k : Nat} (h : DI p xs qs A R m (k + 1)) (h0 : co R (k + m) = 0) : DI p xs qs A R m k :=
 ⟨h.1, h.2.1, fun i hi => h.2.2.1 i (by omega), fun i hi => by
  by_cases he : i = k + m
  · rw [he]; exact h0
  · exact h.2.2.2.1 i (by omega), h.2.2.2.2⟩
theorem neg_mod (p r c q : Int) : (r + sub p 0 c * q) % p = (r - c * q) % p := by
 unfold sub
 rw [Int.add_emod, Int.mul_emod, Int.emod_emod_of_dvd _ (Int.dvd_refl p), ← Int.mul_emod, ← Int.add_emod, Int.sub_mul, Int.zero_mul]
 congr 1; omega
theorem top_gone {p r q iv : Int} (hi : (q * iv) % p = 1 % p) : (r - (r * iv) % p * q) % p = 0 := by
 have e : ((r * iv) % p * q) % p = r % p := by
  rw [Int.mul_emod, Int.emod_emod_of_dvd _ (Int.dvd_refl p), ← Int.mul_emod, Int.mul_assoc, Int.mul_comm iv q, Int.mul_emod, hi, ← Int.mul_emod, Int.mul_one]
 rw [Int.sub_emod, e, Int.sub_self]; rfl
theorem DI.step {p c iv : Int} {xs qs A R : List Int} {m k : Nat} (hp : 0 < p) (hq : qs.length = m + 1) (hi : (co qs m * iv) % p = 1 % p) (hc : c = (co R (k + m) * iv) % p) (hA : k < A.length) (hR : k + m < R.length)
 (h : DI p xs qs A R m (k + 1)) : DI p xs qs (A.set k c) (gr p (sub p 0 c) k qs R qs.length) m k := by
 obtain ⟨h1, h2, h3, h4, h5⟩ := h
 refine ⟨Els.of_co fun i _ => ?_, els_gr hp h2 _, fun i hi' => ?_, fun i hi' => ?_, div_step h5 (d := k) (c := c) (fun i => ?_) (fun i => ?_)⟩
 · rw [co_set _ _ _ _ hA]; split
   · rw [hc]; exact emod_el hp _
   · exact h1.co hp i
 · rw [co_set _ _ _ _ hA, if_neg (by omega)]; exact h3 i (by omega)
 · rw [co_gr]
   by_cases he : i = k + m
   · subst he
     have e : k + m - k = m := by omega
     rw [if_pos (by omega), e, neg_mod, hc]
     exact top_gone hi
   · rw [if_neg (by omega)]; exact h4 i (by omega)
 · rw [co_set _ _ _ _ hA]
   unfold pt
   by_cases he : i = k
   · rw [if_pos he, if_pos he, he, h3 k (by omega), Int.zero_add]
   · rw [if_neg he, if_neg he, Int.add_zero]
 · rw [co_gr]
   by_cases hk : k ≤ i
   · rw [if_pos hk]
     by_cases hr : i < k + qs.length
     · rw [if_pos (by omega), Int.emod_emod_of_dvd _ (Int.dvd_refl p), neg_mod]
     · rw [if_neg (by omega), co_out qs (i - k) (by omega), Int.mul_zero, Int.sub_zero]
   · rw [if_neg (by omega), if_neg hk, Int.sub_zero]
theorem DI.fin {p : Int} {wd : Bool} {xs qs A R : List Int} {m n : Nat} (hm : Md p wd) (hx : Els p xs) (tq : tr qs = qs) (hq : qs.length = m + 1) (hA : A.length = n) (hn : n = 0 ∨ n + m = (tr xs).length)
 (h : DI p xs qs A R m 0) : Dv p xs qs A (tr R) := by
 have hp : 0 < p := by have := hm.bounds; omega
 obtain ⟨h1, h2, h3, h4, h5⟩ := h
 refine ⟨h1, h2.tr hp, ?_, tr_tr R, ?_, fun i => ?_⟩
 · by_cases hA0 : A = []
   · rw [hA0]; rfl
   apply tr_full
   right
   have hA1 := List.length_pos_iff.2 hA0
   intro h0
   have e := h5 ((n - 1) + m)
   have e1 : cv (co A) (co qs) ((n - 1) + m) = co A (n - 1) * co qs m := cv_top (n := m) (n - 1) (f := co A) (g := co qs) (fun i hi => co_out _ _ (by omega)) (fun i hi => co_out _ _ (by omega))
   rw [hA] at h0
   simp only [e1, h0, Int.zero_mul, Int.zero_add] at e
   rw [h4 _ (by omega), Int.zero_emod] at e
   have hne : tr xs ≠ [] := by intro h; rw [h] at hn; simp at hn; omega
   have e2 := tr_last xs hne
   have e3 : (tr xs).length - 1 = (n - 1) + m := by omega
   rw [e3] at e2
   rw [(hx.co hp _).mod] at e
   exact e2 e.symm
 · rw [tq, hq]
   by_cases hR : tr R = []
   · rw [hR]; simp
   · have := tr_last R hR
     have hR1 := List.length_pos_iff.2 hR
     apply Nat.lt_of_not_le
     intro hc
     exact this (h4 _ (by omega))
 · show (cv (co A) (co qs) i + co (tr R) i) % p = co xs i % p
   rw [co_tr]; exact h5 i
end Fld
theorem inv_one {p a : Int} {wd : Bool} (hm : Md p wd) (ha : El p a) (h0 : a ≠ 0) : (a * inv p a) % p = 1 % p := by
 have h := mul_inv hm a ha h0
 have h1 := one_el hm
 unfold mul at h
 rw [h, Int.emod_eq_of_lt h1.1 h1.2]
theorem Inv_yes3 (f p a : Int) (wd : Bool) (w : World) (h : Fi f p wd) (ha : El p a) (h0 : a ≠ 0) :
 Calls Tryz.prog 117 #[.int .u8 f, .int .u64 a] w fun x w' => x = .returned (.tuple #[.int .u64 (inv p a), .int .i64 0]) ∧ Below w.heap.size w w' := by
 have := Inv_of f a _ 0 w (Div_yes f p 1 a wd w h (one_el h.md) ha (by have := ha.1; omega))
 have e : mul p 1 (inv p a) = inv p a := by
  have h := inv_el (p := p) (a := a) h.pos
  unfold mul; rw [Int.one_mul]; exact Int.emod_eq_of_lt h.1 h.2
 rw [e] at this; exact this
theorem two_set {w wr w4 w5 : World} {bq br gq g nq nr i : Nat} {A R : List Int} {c : Int} {T : TypeId} (hq : wr.ownsRow bq T 1 (.slice (some ⟨gq, 0, none⟩) nq nq) nq (vals A)) (hr : wr.ownsRow br T 1 (.slice (some ⟨g, 0, none⟩) nr nr) nr (vals R)) (hne : gq ≠ g)
 (hB : Below w.heap.size w wr) (hbq : w.heap.size ≤ gq) (hb4 : Below wr.heap.size wr w4) (hb5 : Below (w4.setCell ⟨gq, i, none⟩ (.int .u64 c)).heap.size (w4.setCell ⟨gq, i, none⟩ (.int .u64 c)) w5) :
 w5.ownsRow bq T 1 (.slice (some ⟨gq, 0, none⟩) nq nq) nq (vals (A.set i c)) ∧ w5.ownsRow br T 1 (.slice (some ⟨g, 0, none⟩) nr nr) nr (vals R) ∧ Below w.heap.size w w5 := by
 have h1 := spoil_step (x := c) (k := i) (own_below hq hb4) (grown_refl w4 (some gq)) (.inl rfl)
 have h2 := (own_below hr hb4).kept h1.2 (.inr (by intro e; cases e; exact hne rfl))
 exact ⟨own_below h1.1 hb5, own_below h2 hb5, Below.next ((Below.next hB hb4).setCell (p := ⟨gq, i, none⟩) hbq _) hb5⟩
end Go.Proofs.YtnapbdoalfbgnaaGreat
namespace Go.Proofs.YtnapbdoalfbgnaaGreat
open Go.RowKit Fld
theorem divide_any (f p : Int) (wd : Bool) (v1 v2 : Value) (xs qs : List Int) (m : Nat) (w : World) (h : Fi f p wd) (h1 : Rw w v1 xs) (h2 : Rw w v2 qs) (hx : Els p xs) (hq : Els p qs) (tq : tr qs = qs) (hm : qs.length = m + 1) (hl : xs.length ≤ 4096) (hl2 : qs.length ≤ 4096) :
 Calls Tryz.prog 98 #[.int .u8 f, v1, v2] w fun e w' => ∃ vq vr A R b, e = .returned (.tuple #[vq, vr]) ∧ Dv p xs qs A (tr R) ∧ Els p R ∧ R.length ≤ 4096 ∧
  w'.ownsRow b 42 1 vq A.length (vals A) ∧ w'.ownsRow w.heap.size 42 1 vr R.length (vals R) ∧ (∀ k, vr.ownBlock = some k → k < b) ∧ w.heap.size ≤ b ∧ Below w.heap.size w w' := by
 obtain ⟨i0, hi0, hz0, hz1, hz2⟩ := info_parts u64_info
 have hp0 := h.pos
 have ht := hide (Trim_at v1 xs w h1)
 have hnr := tr_len xs
 have hqe := hq.co hp0 m
 have hqn : co qs m ≠ 0 := by have := last_ne tq (by intro e; rw [e] at hm; simp at hm); rw [hm, Nat.add_sub_cancel] at this; exact this
 have hI := hide (fun W => Inv_yes3 f p (co qs m) wd W h hqe hqn)
 have hI1 := hide (inv_one h.md hqe hqn)
 have hie := inv_el (p := p) (a := co qs m) hp0
 have HM := hide (fun W x (hx : El p x) => Mul_yes f p x (inv p (co qs m)) wd W h hx hie)
 have HSb := hide (fun W x (hx : El p x) => Sub_yes f p 0 x wd W h ⟨Int.le_refl 0, hp0⟩ hx)
 obtain ⟨nq, HNQ⟩ : ∃ nq, Hid (nq = (tr xs).length - m) := ⟨_, rfl⟩
 have HFin := hide (fun A R (hA : A.length = nq) (hd : DI p xs qs A R m 0) => hd.fin h.md hx tq hm hA (by have := HNQ.out; omega))
 have HStart := hide (DI.start (qs := qs) (n := nq) (m := m) hp0 hx (by have := HNQ.out; omega))
 have HStep := hide (fun A R k c (hc : c = (co R (k + m) * inv p (co qs m)) % p) (hA : k < A.length) (hR : k + m < R.length) (hd : DI p xs qs A R m (k + 1)) => hd.step hp0 hm hI1.out hc hA hR)
 obtain ⟨a2, c2, rfl, hcap2⟩ := h2.spell
 have HG := hide (fun W g R k c (hce : El p c) (hb : Below w.heap.size w W) (hg : w.heap.size ≤ g) (nr : Nat) (hO : W.ownsRow w.heap.size 42 1 (.slice (some ⟨g, 0, none⟩) nr nr) nr (vals R)) (hR : Els p R) (hk : k + m < nr) =>
  grow_any f p c wd (.slice a2 qs.length c2) qs R W w.heap.size g k nr nr (nr - k) (nr - k) h hce (h2.1.below hb) hq hO hR (by omega) (by omega) (row_far h2.1 hg))
 have hco : qs.getD m 0 = co qs m := rfl
 obtain ⟨b2, o2, rfl, hbl2, hcl2⟩ : ∃ b o, a2 = some ⟨b, o, none⟩ ∧ b < w.heap.size ∧ w.cell? ⟨b, o + m, none⟩ = some (.int .u64 (co qs m)) := by
  obtain ⟨⟨a, c, he, _, _, hc⟩, _⟩ := h2
  cases he
  obtain ⟨b, o, h3, h4, h5⟩ := hc (by intro e; rw [e] at hm; simp at hm)
  exact ⟨b, o, h3, h4, h5 m (by omega)⟩
 have HSE := hide (fun c => sub_el (p := p) (a := 0) (b := c) hp0)
 have HME := hide (fun x => mul_el (p := p) (a := x) (b := inv p (co qs m)) hp0)
 generalize inv p (co qs m) = iv at *
 generalize co qs m = q0 at *
 obtain ⟨nr, HNR⟩ : ∃ nr, Hid ((tr xs).length = nr) := ⟨_, rfl⟩
 have hnq := HNQ.out
 rw [HNR.out] at ht hnr hnq
 have hm' : (qs.length : Int) = (m : Int) + 1 := by omega
 have HRL : Hid ((tr xs).length = nr) := HNR
 clear h h1 h2 hx hq tq hqe hqn hI1 hie hco HNQ
 have hcase : (nr < m ∧ nq = 0) ∨ (¬ nr < m ∧ nr = nq + m) := by omega
 clear hnq
 rw [hm]
 rw [hm] at hcap2 HG HStep
 rcases hcase with ⟨hlt, hnq⟩ | ⟨hlt, hnq⟩
 · subst hnq
   go_enter Tryz.func98, Tryz.ntmps98
   go_wp2
   go_step3
   go_wp2_with (first
    | (go_at_call 80; refine ht.out.mono ?_; rintro e w1 ⟨g, rfl, hOr, hb1⟩; have hs1 := hb1.size; have hgl := (hOr.lt g rfl).2)
    | (at_make; refine wpList_make_full _ rfl _ _ 22 rfl w1.heap.size 42 i0 (.int .u64 0) 1 Tryz.underlying22 hi0 hz0 hz1 .i64 .i64 _ _ 0 rfl rfl (by omega) (by omega) (by rw [hz2]; omega) (by unfold maxLen; omega) (Nat.le_refl _) ?_; intro w2 hown hgrow; have hOq := own_made hown; have hOr := own_below hOr (below_grown_none hgrow); have hb2 := Below.next hb1 (below_grown_none hgrow); clear hown hgrow; have d2 := (hb2.cell (p := ⟨b2, o2 + m, none⟩) hbl2).trans hcl2)
    | (go_at_call 117; refine (hI.out _).mono ?_; rintro e w3 ⟨rfl, hb⟩; have hOq := own_below hOq hb; have hOr := own_below hOr hb; have hb3 := Below.next hb2 hb; clear hb))
   go_step3
   go_wp2
   go_loopw [11] (fun vi wr => vi = .int .i64 (-1) ∧ wr = w3) (fun _ _ => 0)
   case atStart => exact ⟨rfl, rfl⟩
   case round =>
    obtain ⟨rfl, rfl⟩ := hrel
    go_wp2
    rw [Exit.noGoto_ret]
    go_ret2
    exact ⟨_, _, _, _, w1.heap.size, rfl, HFin.out [] _ rfl HStart.out, HStart.out.2.1, by rw [HRL.out]; omega, hOq, by rw [HRL.out]; exact hOr, fun k hk => by cases hk; exact hgl, hs1, hb3⟩
 · subst hnq
   go_enter Tryz.func98, Tryz.ntmps98
   go_wp2
   go_step3
   go_wp2_with (first
    | (go_at_call 80; refine ht.out.mono ?_; rintro e w1 ⟨g, rfl, hOr, hb1⟩; have hs1 := hb1.size; have hgl := (hOr.lt g rfl).2)
    | (at_make; refine wpList_make_full _ rfl _ _ 22 rfl w1.heap.size 42 i0 (.int .u64 0) 1 Tryz.underlying22 hi0 hz0 hz1 .i64 .i64 _ _ nq rfl rfl (by omega) (by omega) (by rw [hz2]; omega) (by unfold maxLen; omega) (Nat.le_refl _) ?_; intro w2 hown hgrow; have hOq := own_made hown; have hOr := own_below hOr (below_grown_none hgrow); have hb2 := Below.next hb1 (below_grown_none hgrow); clear hown hgrow; have d2 := (hb2.cell (p := ⟨b2, o2 + m, none⟩) hbl2).trans hcl2)
    | (go_at_call 117; refine (hI.out _).mono ?_; rintro e w3 ⟨rfl, hb⟩; have hOq := own_below hOq hb; have hOr := own_below hOr hb; have hb3 := Below.next hb2 hb; clear hb))
   go_step3
   go_wp2
   have hne : w1.heap.size ≠ g := by omega
   have hgw := own_base hOr g rfl
   clear d2 hb1 hb2 ht hI
   go_loopw [11] (fun vi wr => ∃ (k : Nat) (A R : List Int), k ≤ nq ∧ vi = .int .i64 ((k : Int) - 1) ∧ Hid (DI p xs qs A R m k) ∧ wr.ownsRow w1.heap.size 42 1 (.slice (some ⟨w1.heap.size, 0, none⟩) nq nq) nq (vals A) ∧ wr.ownsRow w.heap.size 42 1 (.slice (some ⟨g, 0, none⟩) (nq + m) (nq + m)) (nq + m) (vals R) ∧ Below w.heap.size w wr) (fun vi _ => (intOf vi + 1).toNat)
   case atStart => exact ⟨nq, _, _, Nat.le_refl _, rfl, HStart, hOq, hOr, hb3⟩
   case round =>
    clear hOq hOr hb3 HStart
    obtain ⟨k, A, R, hk, rfl, HD, hOq, hOr, hB⟩ := hrel
    have hAl := own_len hOq
    have hRl := own_len hOr
    by_cases hpos : 0 < k
    · obtain ⟨k, rfl⟩ : ∃ j, k = j + 1 := ⟨k - 1, by omega⟩
      have ek : (((k + 1 : Nat) : Int) - 1) = (k : Int) := by omega
      rw [ek]
      clear ek
      go_wp2
      go_loopw [11] (fun vi wx => ∃ i : Nat, i ≤ k ∧ vi = .int .i64 i ∧ Hid (DI p xs qs A R m (i + 1)) ∧ wx = wr) (fun vi _ => (intOf vi).toNat)
      case atStart => exact ⟨k, Nat.le_refl _, rfl, HD, rfl⟩
      case round =>
       clear HD
       obtain ⟨i, hi, rfl, HD, rfl⟩ := hrel
       have hin : i < nq := by omega
       have him : i + m < nq + m := by omega
       have d := own_cell hOr hRl him
       have hco : R.getD (i + m) 0 = co R (i + m) := rfl
       rw [hco] at d
       clear hco
       by_cases hz : co R (i + m) = 0
       · have HD2 := hide (HD.out.skip hz)
         rw [hz] at d
         clear hz HD
         by_cases hi0 : 0 < i
         · obtain ⟨i, rfl⟩ : ∃ j, i = j + 1 := ⟨i - 1, by omega⟩
           go_wp2
           go_roundw
           case rel => exact ⟨i, by omega, by go_num, HD2, by trivial⟩
           case measure => simp [intOf]
         · obtain rfl : i = 0 := by omega
           rw [Nat.zero_add] at d
           go_wp2
           rw [Exit.noGoto_ret]
           go_ret2
           exact ⟨_, _, A, R, w1.heap.size, rfl, HFin.out A R hAl HD2.out, HD2.out.2.1, by omega, by rw [hAl]; exact hOq, by rw [hRl]; exact hOr, fun k hk => by cases hk; exact hgl, hs1, hB⟩
       · have hre := HD.out.2.1.co hp0 (i + m)
         obtain ⟨c, HC⟩ : ∃ c, Hid (c = (co R (i + m) * iv) % p) := ⟨_, rfl⟩
         have hmu := hide (fun W => HM.out W _ hre)
         have hce : El p c := by rw [HC.out]; exact emod_el hp0 _
         have ecm : mul p (co R (i + m)) iv = c := by rw [HC.out]; rfl
         rw [ecm] at hmu
         have HS2 := hide (HStep.out A R i c HC.out (by omega) (by omega) HD.out)
         have hsu := hide (fun W => HSb.out W c hce)
         have hse := HSE.out c
         have hg := hide (fun W hb hO => HG.out W g R i (sub p 0 c) hse hb hgw (nq + m) hO HD.out.2.1 him)
         have hz' : (co R (i + m) == 0) = false := beq_eq_false_iff_ne.2 hz
         have HT2 := hide (fun w4 w5 hb4 hb5 => two_set (w4 := w4) (w5 := w5) (i := i) (c := c) hOq hOr hne hB hs1 hb4 hb5)
         have HQ4 := hide (fun W (hb : Below wr.heap.size wr W) => own_cell (k := i) (own_below hOq hb) hAl hin)
         have HF4 := hide (fun W (hb : Below wr.heap.size wr W) => (own_below hOq hb).frozenAt i)
         clear hz hre ecm HD
         generalize co R (i + m) = r at *
         generalize A.getD i 0 = y at *
         generalize sub p 0 c = s at *
         have HOq := hide hOq
         have HOr := hide hOr
         clear hOq hOr
         go_wp2_with (first
          | (go_at_call 37; refine (hmu.out _).mono ?_; rintro e w4 ⟨rfl, hb4⟩; have q4 := HQ4.out _ hb4; have f4 := HF4.out _ hb4)
          | (go_at_call 113; refine (hsu.out _).mono ?_; rintro e w5 ⟨rfl, hb5⟩; have hT := hide (HT2.out _ _ hb4 hb5))
          | (go_at_call 112; refine (hg.out _ hT.out.2.2 hT.out.2.1).mono ?_; rintro e w6 ⟨rfl, hO6, hG6⟩))
         have R1 := hT.out.1.kept hG6 (.inr (by intro e; cases e; exact hne rfl))
         have R2 := hT.out.2.2.grown hG6 hT.out.2.2.size (fun k hk => by cases hk; exact hgw)
         go_roundw
         case rel => exact ⟨i, _, _, by omega, rfl, HS2, R1, hO6, R2⟩
         case measure => simp [intOf]; omega
    · obtain rfl : k = 0 := by omega
      go_wp2
      rw [Exit.noGoto_ret]
      go_ret2
      exact ⟨_, _, A, R, w1.heap.size, rfl, HFin.out A R hAl HD.out, HD.out.2.1, by omega, by rw [hAl]; exact hOq, by rw [hRl]; exact hOr, fun k hk => by cases hk; exact hgl, hs1, hB⟩
def divE (f : Int) (xs ys : List Int) : Int := if er f xs ys = 0 then (if tr ys = [] then 5 else 0) else er f xs ys
def DvE (f : Int) (xs ys A B : List Int) : Prop := (divE f xs ys ≠ 0 → A = [] ∧ B = []) ∧ (divE f xs ys = 0 → Dv (pOf f) xs ys A B)
theorem dv_of_tr {p : Int} {xs ys A B : List Int} (h : Dv p xs (tr ys) A B) : Dv p xs ys A B := by
 obtain ⟨h1, h2, h3, h4, h5, h6⟩ := h
 rw [tr_tr] at h5
 refine ⟨h1, h2, h3, h4, h5, fun i => ?_⟩
 have e : cv (co A) (co ys) i = cv (co A) (co (tr ys)) i := cv_congr i (fun j _ => rfl) (fun j _ => (co_tr ys j).symm)
 show (cv (co A) (co ys) i + co B i) % p = _
 rw [e]; exact h6 i
def Parts (k : FuncId) (args : Array Value) (W : World) (S : List Int → List Int → Prop) (e0 : Int) : Prop :=
 Calls Tryz.prog k args W fun e w' => ∃ vq vr A B b, e = .returned (.tuple #[vq, vr, .int .i64 e0]) ∧ S A B ∧ w'.ownsRow b 42 1 vq A.length (vals A) ∧ w'.ownsRow W.heap.size 42 1 vr B.length (vals B) ∧
  (∀ k, vr.ownBlock = some k → k < b) ∧ W.heap.size ≤ b ∧ Below W.heap.size W w'
theorem Parts.none {k : FuncId} {args : Array Value} {W : World} {S : List Int → List Int → Prop} {e0 : Int} (hS : S [] []) (h : Calls Tryz.prog k args W fun e w' => e = .returned (.tuple #[.slice none 0 0, .slice none 0 0, .int .i64 e0]) ∧ Below W.heap.size W w') : Parts k args W S e0 :=
 h.mono fun e w' ⟨he, hb⟩ => ⟨_, _, [], [], W.heap.size, he, hS, World.ownsRow_nil _ _ _ _, World.ownsRow_nil _ _ _ _, (fun k hk => by cases hk), Nat.le_refl _, hb⟩
theorem pDivMod_any (f : Int) (v1 v2 : Value) (xs ys : List Int) (w : World) (h1 : Rw w v1 xs) (h2 : Rw w v2 ys) : Parts 76 #[.int .u8 f, v1, v2] w (DvE f xs ys) (divE f xs ys) := by
 obtain ⟨a1, c1, rfl, _⟩ := h1.spell
 obtain ⟨a2, c2, rfl, _⟩ := h2.spell
 have hk := hide (fun T => pcheck_two f _ _ xs ys w h1 h2 T)
 by_cases he : er f xs ys = 0
 · obtain ⟨p, wd, h, i1, i2, m1, m2⟩ := er_zero he
   rw [he] at hk
   have ht := hide (fun W (hb : Below w.heap.size w W) => trimmed_any _ _ ys W (h2.below hb))
   have n2 := tr_len ys
   by_cases ez : tr ys = []
   · have hE : divE f xs ys = 5 := by unfold divE; rw [if_pos he, if_pos ez]
     refine Parts.none ⟨fun _ => ⟨rfl, rfl⟩, fun h0 => by rw [hE] at h0; cases h0⟩ ?_
     rw [hE]
     rw [ez] at ht
     clear h1 h2 h hE
     go_enter Tryz.func76, Tryz.ntmps76
     go_wp2_with (first
      | (go_at_call 36; refine (hk.out _).mono ?_; rintro e w1 ⟨rfl, hb⟩)
      | (go_at_call 85; refine (ht.out _ hb).mono ?_; rintro e w2 ⟨rfl, hb2⟩))
     go_ret3
     exact ⟨rfl, Below.next hb hb2⟩
   · have hE : divE f xs ys = 0 := by unfold divE; rw [if_pos he, if_neg ez]
     have hpos := List.length_pos_iff.2 ez
     obtain ⟨m, hm⟩ : ∃ m, (tr ys).length = m + 1 := ⟨(tr ys).length - 1, by omega⟩
     have r2 := hide (fun W (hb : Below w.heap.size w W) => (h2.below hb).take (tr_len ys))
     rw [take_tr_len] at r2
     have hd := hide (fun W (hb : Below w.heap.size w W) => divide_any f p wd _ _ xs (tr ys) m W h (h1.below hb) (r2.out W hb) (els_of i1 h1.words) ((els_of i2 h2.words).tr h.pos) (tr_tr ys) hm m1 (by omega))
     have HR := hide (fun W v R n base (hR : Els p R) (hl : R.length ≤ 4096) (hO : World.ownsRow W base 42 1 v n (vals R)) => rw_of_own hO (by omega) (els_words hR h.top))
     have HT := hide (fun W ao cap R hr => trimmed_any ao cap R W hr)
     have HS : Hid (∀ A B, Dv p xs (tr ys) A B → DvE f xs ys A B) := fun A B hv => ⟨fun h0 => absurd hE h0, fun _ => by rw [pOf_eq h]; exact dv_of_tr hv⟩
     rw [hE]
     have bz : (((tr ys).length : Int) == 0) = false := beq_eq_false_iff_ne.2 (by omega)
     clear h1 h2 h r2 hE ez hpos hm
     obtain ⟨k2, HK2⟩ : ∃ k2, Hid ((tr ys).length = k2) := ⟨_, rfl⟩
     rw [HK2.out] at ht hd bz n2
     show Calls _ _ _ _ _
     go_enter Tryz.func76, Tryz.ntmps76
     go_wp2_with fail
     refine (hk.out _).mono ?_; rintro e w1 ⟨rfl, hb⟩
     go_wp2_with fail
     refine (ht.out _ hb).mono ?_; rintro e w2 ⟨rfl, hb2⟩
     have hb3 := Below.next hb hb2
     go_wp2_with fail
     refine (hd.out _ hb3).mono ?_; rintro e w3 ⟨vq, vr, A, R, b, rfl, hv, hR, hRl, hOq, hOr, hbb, hwb, hb4⟩
     have hr := HR.out _ _ _ _ _ hR hRl hOr
     obtain ⟨ao, cap, rfl, _⟩ := hr.spell
     have HO := hide hOr
     have HOq := hide hOq
     clear hOr hOq
     go_wp2_with fail
     refine (HT.out _ _ _ _ hr).mono ?_; rintro e w4 ⟨rfl, hb5⟩
     go_wp2
     go_ret3
     refine ⟨_, _, A, tr R, b, rfl, HS.out _ _ hv, own_below HOq.out hb5, own_mono (own_tr (own_below HO.out hb5)) hb3.size, (fun k hk => hbb k (by cases ao <;> exact hk)), Nat.le_trans hb3.size hwb, Below.next (Below.next hb3 hb4) hb5⟩
 · have ht : (er f xs ys != 0) = true := bne_iff_ne.2 he
   have hE : divE f xs ys = er f xs ys := by unfold divE; rw [if_neg he]
   refine Parts.none ⟨fun _ => ⟨rfl, rfl⟩, fun h0 => by rw [hE] at h0; exact absurd h0 he⟩ ?_
   rw [hE]
   clear h1 h2 he hE
   generalize er f xs ys = e0 at *
   go_enter Tryz.func76, Tryz.ntmps76
   go_wp2_with (go_at_call 36; refine (hk.out _).mono ?_; rintro e w1 ⟨rfl, hb⟩)
   go_ret3
   exact ⟨rfl, hb⟩
namespace Fld
def le (p c : Int) (d : Nat) (qs R : List Int) (j : Nat) : List Int := mk R.length (fun i => if d ≤ i ∧ i < d + j then sub p (co R i) (mul p c (co qs (i - d))) else co R i)
end Fld
theorem own_other {wr : World} {base g k n : Nat} {v u : Value} {xs : List Value} {T : TypeId} (h : wr.ownsRow base T 1 v n xs) (hne : v.ownBlock ≠ some g) : (wr.setCell ⟨g, k, none⟩ u).ownsRow base T 1 v n xs := by
 refine ⟨h.1, ?_⟩
 rcases h.2 with h1 | ⟨g', cap, cur, rfl, h2, h3, h4⟩
 · exact .inl h1
 · refine .inr ⟨g', cap, cur, rfl, h2, ?_, h4⟩
   rw [Below.heap_setCell wr _ _ _ (fun e => hne (by show some g' = some g; rw [e]))]; exact h3
theorem own_here {wr : World} {base g k n cap : Nat} {ys : List Int} {z : Int} {T : TypeId} (h : wr.ownsRow base T 1 (.slice (some ⟨g, 0, none⟩) n cap) n (vals ys)) : (wr.setCell ⟨g, k, none⟩ (.int .u64 z)).ownsRow base T 1 (.slice (some ⟨g, 0, none⟩) n cap) n (vals (ys.set k z)) :=
 (spoil_step h (grown_refl wr (some g)) (.inl rfl)).1
end Go.Proofs.YtnapbdoalfbgnaaGreat
