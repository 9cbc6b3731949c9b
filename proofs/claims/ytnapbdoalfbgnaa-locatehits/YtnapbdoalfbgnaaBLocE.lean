import Derived.Test.YtnapbdoalfbgnaaBIntA
import Derived.Test.YtnapbdoalfbgnaaBunAE
import Derived.Test.YtnapbdoalfbgnaaBunIB
set_option linter.unusedVariables false
set_option linter.unusedSimpArgs false
set_option maxRecDepth 100000
set_option maxHeartbeats 4000000
namespace Go.Proofs.Ytnapbdoalfbgnaa
open Go.RowKit Fld
def dcE (f : Int) (xs ys : List Int) (d w : Int) : Int := if d < -1 ∨ w < 0 then 2 else if bad f xs ys ys.length ≠ 0 then bad f xs ys ys.length else if (xs.length : Int) < d + 2 * w + 1 then 7 else 0
def ofI (p : Int) (P xs ys : List Int) : List Int := (offp p P xs ys).map (fun (i : Nat) => (i : Int))
def Dcd (f : Int) (xs ys : List Int) (d w : Int) (P at' : List Int) (ok : Bool) : Prop :=
 (dcE f xs ys d w ≠ 0 → P = [] ∧ at' = [] ∧ ok = false) ∧
 (dcE f xs ys d w = 0 → (ok = true ∧ Dec (pOf f) (d + 1).toNat w.toNat xs ys P ∧ at' = ofI (pOf f) P xs ys) ∨ (ok = false ∧ P = [] ∧ at' = [] ∧ ∀ R, ¬ Dec (pOf f) (d + 1).toNat w.toNat xs ys R))
theorem dcE_arg {f : Int} {xs ys : List Int} {d w : Int} (h : d < -1 ∨ w < 0) : dcE f xs ys d w = 2 := by unfold dcE; rw [if_pos h]
theorem dcE_bad {f : Int} {xs ys : List Int} {d w : Int} (h : ¬ (d < -1 ∨ w < 0)) (hb : bad f xs ys ys.length ≠ 0) : dcE f xs ys d w = bad f xs ys ys.length := by unfold dcE; rw [if_neg h, if_pos hb]
theorem dcE_short {f : Int} {xs ys : List Int} {d w : Int} (h : ¬ (d < -1 ∨ w < 0)) (hb : bad f xs ys ys.length = 0) (hs : (xs.length : Int) < d + 2 * w + 1) : dcE f xs ys d w = 7 := by unfold dcE; rw [if_neg h, if_neg (fun e => e hb), if_pos hs]
theorem dcE_ok {f : Int} {xs ys : List Int} {d w : Int} (h : ¬ (d < -1 ∨ w < 0)) (hb : bad f xs ys ys.length = 0) (hs : ¬ (xs.length : Int) < d + 2 * w + 1) : dcE f xs ys d w = 0 := by unfold dcE; rw [if_neg h, if_neg (fun e => e hb), if_neg hs]
theorem dcE_zero {f : Int} {xs ys : List Int} {d w : Int} (h : dcE f xs ys d w = 0) : -1 ≤ d ∧ 0 ≤ w ∧ bad f xs ys ys.length = 0 ∧ d + 2 * w + 1 ≤ xs.length := by
 by_cases h1 : d < -1 ∨ w < 0
 · rw [dcE_arg h1] at h; exact absurd h (by decide)
 · by_cases h2 : bad f xs ys ys.length = 0
   · by_cases h3 : (xs.length : Int) < d + 2 * w + 1
     · rw [dcE_short h1 h2 h3] at h; exact absurd h (by decide)
     · exact ⟨by omega, by omega, h2, by omega⟩
   · rw [dcE_bad h1 h2] at h; exact absurd h h2
theorem dcE_facts {f : Int} {xs ys : List Int} {d w : Int} (hx : ∀ x ∈ xs, 0 ≤ x ∧ x ≤ 18446744073709551615) (hy : ∀ x ∈ ys, 0 ≤ x ∧ x ≤ 18446744073709551615) (h : dcE f xs ys d w = 0) : ∃ p wd, Fi f p wd ∧ pOf f = p ∧ Els p xs ∧ Els p ys ∧ xs.length = ys.length ∧ xs.length ≤ 512 ∧ xs.Nodup ∧ (d + 1).toNat + 2 * w.toNat ≤ xs.length ∧ -1 ≤ d ∧ 0 ≤ w ∧ bad f xs ys ys.length = 0 := by
 obtain ⟨h1, h2, h3, h4⟩ := dcE_zero h
 obtain ⟨p, wd, hf, i1, i2, l1, l2, hn⟩ := bad_zero h3
 exact ⟨p, wd, hf, pOf_eq hf, els_of i1 hx, els_of i2 hy, l1, l2, hn, by omega, h1, h2, h3⟩
theorem Dcd.only {f : Int} {xs ys : List Int} {d w : Int} {P Q a b : List Int} {k l : Bool} (hx : ∀ x ∈ xs, 0 ≤ x ∧ x ≤ 18446744073709551615) (hy : ∀ x ∈ ys, 0 ≤ x ∧ x ≤ 18446744073709551615) (h : Dcd f xs ys d w P a k) (h' : Dcd f xs ys d w Q b l) : P = Q ∧ a = b ∧ k = l := by
 by_cases he : dcE f xs ys d w = 0
 · obtain ⟨p, wd, hf, hp, e1, e2, l1, l2, hn, hl, _⟩ := dcE_facts hx hy he
   have h1 := h.2 he
   have h2 := h'.2 he
   rw [hp] at h1 h2
   rcases h1 with ⟨rfl, h1, rfl⟩ | ⟨rfl, rfl, rfl, h1⟩ <;> rcases h2 with ⟨rfl, h2, rfl⟩ | ⟨rfl, rfl, rfl, h2⟩
   · obtain rfl := Dec.only hf.md e1 hn hl h1 h2
     exact ⟨rfl, rfl, rfl⟩
   · exact absurd h1 (h2 _)
   · exact absurd h2 (h1 _)
   · exact ⟨rfl, rfl, rfl⟩
 · obtain ⟨rfl, rfl, rfl⟩ := h.1 he
   obtain ⟨rfl, rfl, rfl⟩ := h'.1 he
   exact ⟨rfl, rfl, rfl⟩
theorem Dcd.no {f : Int} {xs ys : List Int} {d w e : Int} (h : dcE f xs ys d w = e) (he : e ≠ 0) : Dcd f xs ys d w [] [] false := ⟨fun _ => ⟨rfl, rfl, rfl⟩, fun h0 => absurd (h ▸ h0) he⟩
theorem offp_len (p : Int) (P xs ys : List Int) : (offp p P xs ys).length ≤ xs.length := by have := on_off p P xs ys; omega
theorem ofI_len (p : Int) (P xs ys : List Int) : (ofI p P xs ys).length = (offp p P xs ys).length := by unfold ofI; rw [List.length_map]
theorem Dcd.lens {f : Int} {xs ys : List Int} {d w : Int} {P a : List Int} {k : Bool} (hx : ∀ x ∈ xs, 0 ≤ x ∧ x ≤ 18446744073709551615) (hy : ∀ x ∈ ys, 0 ≤ x ∧ x ≤ 18446744073709551615) (h : Dcd f xs ys d w P a k) : (∀ x ∈ P, 0 ≤ x ∧ x ≤ 18446744073709551615) ∧ P.length ≤ 512 ∧ a.length ≤ 512 ∧ ∀ x ∈ a, 0 ≤ x ∧ x ≤ 512 := by
 have hz : (∀ x ∈ ([] : List Int), 0 ≤ x ∧ x ≤ 18446744073709551615) ∧ ([] : List Int).length ≤ 512 ∧ ([] : List Int).length ≤ 512 ∧ ∀ x ∈ ([] : List Int), 0 ≤ x ∧ x ≤ 512 := by simp
 by_cases he : dcE f xs ys d w = 0
 · obtain ⟨p, wd, hf, hp, e1, e2, l1, l2, hn, hl, _⟩ := dcE_facts hx hy he
   rcases h.2 he with ⟨_, h1, rfl⟩ | ⟨_, rfl, rfl, _⟩
   · rw [hp] at h1 ⊢
     refine ⟨fun x hx' => ?_, by have := h1.2.1; omega, ?_, fun x hx' => ?_⟩
     · have := h1.1.1 x hx'
       have ht := hf.top
       exact ⟨this.1, by have := this.2; omega⟩
     · rw [ofI_len]; have := offp_len p P xs ys; omega
     · obtain ⟨i, hi, rfl⟩ := List.mem_map.1 hx'
       have := (offp_mem.1 hi).1
       omega
   · exact hz
 · obtain ⟨rfl, rfl, _⟩ := h.1 he
   exact hz
theorem offp_cons (p : Int) (P : List Int) (x y : Int) (xs ys : List Int) : (offp p P (x :: xs) (y :: ys)).length = (if vl p x P = y then 0 else 1) + (offp p P xs ys).length := by
 unfold offp
 rw [List.length_cons, List.range_succ_eq_map, List.filter_cons]
 have e : ((List.range xs.length).map Nat.succ).filter (fun i => decide (vl p (co (x :: xs) i) P ≠ co (y :: ys) i)) = ((List.range xs.length).filter (fun i => decide (vl p (co xs i) P ≠ co ys i))).map Nat.succ := by
  rw [List.filter_map]
  congr 1
 rw [e]
 by_cases h : vl p x P = y
 · have hd : decide (vl p (co (x :: xs) 0) P ≠ co (y :: ys) 0) = false := decide_eq_false (fun c => c h)
   rw [hd, if_pos h]; simp
 · have hd : decide (vl p (co (x :: xs) 0) P ≠ co (y :: ys) 0) = true := decide_eq_true h
   rw [hd, if_neg h]; simp; omega
theorem offp_erase (p : Int) (P : List Int) : ∀ (xs ys : List Int) (i : Nat), xs.length = ys.length → i < xs.length → vl p (co xs i) P = co ys i → (offp p P (xs.eraseIdx i) (ys.eraseIdx i)).length = (offp p P xs ys).length := by
 intro xs
 induction xs with
 | nil => intro ys i _ hi; cases hi
 | cons x xs ih =>
  intro ys i hl hi h
  cases ys with
  | nil => cases hl
  | cons y ys =>
   cases i with
   | zero =>
    have h' : vl p x P = y := h
    rw [offp_cons, if_pos h']; simp
   | succ i =>
    rw [List.eraseIdx_cons_succ, List.eraseIdx_cons_succ, offp_cons, offp_cons, ih ys i (by simpa using hl) (by simpa using hi) h]
theorem offp_set (p : Int) (P : List Int) : ∀ (xs ys : List Int) (j : Nat) (y : Int), (offp p P xs (ys.set j y)).length ≤ (offp p P xs ys).length + 1 := by
 intro xs
 induction xs with
 | nil => intro ys j y; simp [offp]
 | cons x xs ih =>
  intro ys j y
  cases ys with
  | nil => simp
  | cons z ys =>
   cases j with
   | zero =>
    rw [List.set_cons_zero, offp_cons, offp_cons]
    split <;> split <;> omega
   | succ j =>
    rw [List.set_cons_succ, offp_cons, offp_cons]
    have := ih ys j y
    omega
theorem Dcd.fewer {f : Int} {xs ys : List Int} {d w : Int} {P : List Int} (hx : ∀ x ∈ xs, 0 ≤ x ∧ x ≤ 18446744073709551615) (hy : ∀ x ∈ ys, 0 ≤ x ∧ x ≤ 18446744073709551615) (he : dcE f xs ys d w = 0) (hD : Dec (pOf f) (d + 1).toNat w.toNat xs ys P) {i : Nat} (hi : i < xs.length) (hno : i ∉ offp (pOf f) P xs ys) (hs : d + 2 * w + 2 ≤ xs.length) {Q a : List Int} {k : Bool} (h : Dcd f (xs.eraseIdx i) (ys.eraseIdx i) d w Q a k) :
 dcE f (xs.eraseIdx i) (ys.eraseIdx i) d w = 0 ∧ Q = P ∧ k = true ∧ a.length = (offp (pOf f) P xs ys).length := by
 obtain ⟨p, wd, hf, hp, e1, e2, l1, l2, hn, hl, hd0, hw0, hb⟩ := dcE_facts hx hy he
 rw [hp] at hD hno ⊢
 have hon : vl p (co xs i) P = co ys i := Classical.byContradiction fun c => hno (offp_mem.2 ⟨hi, c⟩)
 have hlx : (xs.eraseIdx i).length + 1 = xs.length := by rw [List.length_eraseIdx, if_pos hi]; omega
 have hly : (ys.eraseIdx i).length + 1 = ys.length := by rw [List.length_eraseIdx, if_pos (by omega)]; omega
 have sx : ∀ x ∈ xs.eraseIdx i, x ∈ xs := fun x hx' => List.mem_of_mem_eraseIdx hx'
 have sy : ∀ x ∈ ys.eraseIdx i, x ∈ ys := fun x hx' => List.mem_of_mem_eraseIdx hx'
 have hb2 : bad f (xs.eraseIdx i) (ys.eraseIdx i) (ys.eraseIdx i).length = 0 := by
  rw [bad_end (by rw [inF_yes hf]; exact allIn_of (fun x hx' => e1 x (sx x hx'))) (by rw [inF_yes hf]; exact allIn_of (fun x hx' => e2 x (sy x hx'))) (by omega) (by omega), if_pos (List.Nodup.sublist (List.eraseIdx_sublist xs i) hn)]
 have hz : dcE f (xs.eraseIdx i) (ys.eraseIdx i) d w = 0 := dcE_ok (by omega) hb2 (by omega)
 have hD2 : Dec p (d + 1).toNat w.toNat (xs.eraseIdx i) (ys.eraseIdx i) P := ⟨hD.1, hD.2.1, by rw [offp_erase p P xs ys i l1 hi hon]; exact hD.2.2⟩
 have h0 : Dcd f (xs.eraseIdx i) (ys.eraseIdx i) d w P (ofI p P (xs.eraseIdx i) (ys.eraseIdx i)) true := ⟨fun c => absurd hz c, fun _ => .inl ⟨rfl, by rw [hp]; exact hD2, by rw [hp]⟩⟩
 obtain ⟨rfl, rfl, rfl⟩ := h.only (fun x hx' => hx x (sx x hx')) (fun x hx' => hy x (sy x hx')) h0
 exact ⟨hz, rfl, rfl, by rw [ofI_len, offp_erase p Q xs ys i l1 hi hon]⟩
end Go.Proofs.Ytnapbdoalfbgnaa
