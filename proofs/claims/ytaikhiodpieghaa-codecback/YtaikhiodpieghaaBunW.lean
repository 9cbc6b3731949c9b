import Derived.Test.YtaikhiodpieghaaBunP
import Derived.Test.YtaikhiodpieghaaBBas
import Derived.Shelf.Spec.BitsCarry
import Derived.Shelf.Bits.Mul64
import Derived.Deep.RegionHeld3
import Derived.Deep.AppendLies
import Derived.BigQuiet
import Derived.Laws.AppendOwnNone
set_option linter.unusedVariables false
set_option linter.unusedSimpArgs false
set_option maxRecDepth 100000
set_option maxHeartbeats 4000000
namespace Go.Proofs.Ytaikhiodpieghaa
open Go.RowKit Fld
def Fi (f p : Int) (wd : Bool) : Prop := (f = 1 ∧ p = 2013265921 ∧ wd = false) ∨ (f = 2 ∧ p = 18446744069414584321 ∧ wd = true)
theorem Fi.md {f p : Int} {wd : Bool} (h : Fi f p wd) : Md p wd := by
 rcases h with ⟨_, h, k⟩ | ⟨_, h, k⟩
 · exact .inl ⟨h, k⟩
 · exact .inr ⟨h, k⟩
def Row (w : World) (v : Value) (xs : List Int) : Prop :=
 ∃ ao cap, v = .slice ao xs.length cap ∧ xs.length <= 17592186043904 ∧ (∀ x ∈ xs, 0 <= x ∧ x <= 18446744073709551615) ∧
  (xs ≠ [] -> ∃ b off, ao = some ⟨b, off, none⟩ ∧ b < w.heap.size ∧ ∀ i, i < xs.length -> w.cell? ⟨b, off + i, none⟩ = some (.int .u64 (xs.getD i 0)))
theorem Row.below {w w' : World} {v : Value} {xs : List Int} (h : Row w v xs) (hb : Below w.heap.size w w') : Row w' v xs := by
 obtain ⟨ao, cap, rfl, h1, h2, h3⟩ := h
 refine ⟨ao, cap, rfl, h1, h2, fun hne => ?_⟩
 obtain ⟨b, off, rfl, hlt, hc⟩ := h3 hne
 exact ⟨b, off, rfl, Nat.lt_of_lt_of_le hlt hb.size, fun i hi => by rw [hb.cell (p := ⟨b, off + i, none⟩) hlt]; exact hc i hi⟩
theorem getD_at {xs : List Int} {i : Nat} (h : i < xs.length) : xs.getD i 0 = xs[i] := by
 simp [List.getD_eq_getElem?_getD, h]
def allIn (p : Int) (xs : List Int) : Bool := xs.all fun x => decide (x < p)
theorem allIn_true {p : Int} {xs : List Int} (h : ∀ i, i < xs.length -> xs.getD i 0 < p) : allIn p xs = true := by
 unfold allIn; rw [List.all_eq_true]
 intro x hx
 obtain ⟨i, hi, rfl⟩ := List.getElem_of_mem hx
 have := h i hi
 rw [getD_at hi] at this
 simpa using this
theorem allIn_false {p : Int} {xs : List Int} (i : Nat) (hi : i < xs.length) (h : ¬ xs.getD i 0 < p) : allIn p xs = false := by
 unfold allIn
 rw [List.all_eq_false]
 rw [getD_at hi] at h
 exact ⟨xs[i], List.getElem_mem hi, by simpa using h⟩
theorem all_snoc {p x : Int} {xs : List Int} {k : Nat} (h : ∀ i, i < k -> xs.getD i 0 < p) (hx : xs.getD k 0 = x) (hlt : x < p) : ∀ i, i < k + 1 -> xs.getD i 0 < p := by
 intro i hi
 by_cases he : i = k
 · rw [he, hx]; exact hlt
 · exact h i (by omega)
theorem modulusOf_yes (f p : Int) (wd : Bool) (w : World) (h : Fi f p wd) :
 Calls Try.prog 60 #[.int .u8 f] w fun e w' => e = .returned (.tuple #[.agg #[.int .u64 p, .bool wd], .bool true]) ∧ Below w.heap.size w w' := by
 rcases h with ⟨rfl, rfl, rfl⟩ | ⟨rfl, rfl, rfl⟩
 · go_enter Try.func60, Try.ntmps60
   go_wp2
   exact bodyPost_ret (v := .tuple #[.agg #[.int .u64 2013265921, .bool false], .bool true]) (by simp [results, Try.results60, go_sem]) rfl ⟨rfl, (Below.refl _ _).alloc (Nat.le_refl _) _⟩
 · go_enter Try.func60, Try.ntmps60
   go_wp2
   exact bodyPost_ret (v := .tuple #[.agg #[.int .u64 18446744069414584321, .bool true], .bool true]) (by simp [results, Try.results60, go_sem]) rfl ⟨rfl, (Below.refl _ _).alloc (Nat.le_refl _) _⟩
theorem modulusOf_no (f : Int) (w : World) (h1 : f ≠ 1) (h2 : f ≠ 2) :
 Calls Try.prog 60 #[.int .u8 f] w fun e w' => e = .returned (.tuple #[.agg #[.int .u64 0, .bool false], .bool false]) ∧ Below w.heap.size w w' := by
 have e1 : (f == 1) = false := beq_eq_false_iff_ne.2 h1
 have e2 : (f == 2) = false := beq_eq_false_iff_ne.2 h2
 clear h1 h2
 go_enter Try.func60, Try.ntmps60
 go_wp2
 exact bodyPost_ret (v := .tuple #[.agg #[.int .u64 0, .bool false], .bool false]) (by simp [results, Try.results60, go_sem]) rfl ⟨rfl, (Below.refl _ _).alloc (Nat.le_refl _) _⟩
theorem has_any (p : Int) (wd : Bool) (v : Value) (xs : List Int) (w : World) (hp : p <= 18446744073709551615) (hr : Row w v xs) :
 Calls Try.prog 61 #[.agg #[.int .u64 p, .bool wd], v] w fun e w' => e = .returned (.bool (allIn p xs)) ∧ Below w.heap.size w w' := by
 obtain ⟨ao, cap, rfl, hlen, hw, hc⟩ := hr
 go_enter Try.func61, Try.ntmps61
 go_wp2
 go_loop [9] (fun vi => ∃ k : Nat, k <= xs.length ∧ vi = .int .i64 k ∧ ∀ i, i < k -> xs.getD i 0 < p) (fun vi => xs.length - (intOf vi).toNat)
 case atStart => exact ⟨0, Nat.zero_le _, rfl, fun i hi => by omega⟩
 case round =>
  obtain ⟨k, hk, rfl, hall⟩ := hrel
  by_cases hlt : k < xs.length
  · obtain ⟨b, off, rfl, hbl, hcell⟩ := hc (by intro h; rw [h] at hlt; simp at hlt)
    have hck : (w.alloc (.cells #[.int .u64 p, .bool wd] 96)).cell? ⟨b, off + k, none⟩ = some (.int .u64 (xs.getD k 0)) := by
     rw [World.cell?_alloc_lt (h := hbl)]; exact hcell k hlt
    have HA := hide hall
    clear hall hcell hc
    by_cases hin : xs.getD k 0 < p
    · generalize hx : xs.getD k 0 = x at *
      have HX := hide hx
      clear hx
      go_wp2
      go_round
      case rel => exact ⟨k + 1, by omega, by go_num, all_snoc HA.out HX.out hin⟩
      case measure => simp [intOf]; omega
    · have HF := hide (allIn_false k hlt hin)
      generalize xs.getD k 0 = x at *
      go_wp2
      go_ret
      rw [HF.out]
      exact ⟨rfl, (Below.refl _ _).alloc (Nat.le_refl _) _⟩
  · have HF := hide (allIn_true (p := p) (xs := xs) (fun i hi => hall i (by omega)))
    clear hall hc
    go_wp2
    go_ret
    rw [HF.out]
    exact ⟨rfl, (Below.refl _ _).alloc (Nat.le_refl _) _⟩
end Go.Proofs.Ytaikhiodpieghaa
namespace Go.Proofs.Ytaikhiodpieghaa.Fld
def Un (p a : Int) : Prop := El p a ∧ a ≠ 0
end Go.Proofs.Ytaikhiodpieghaa.Fld
namespace Go.Proofs.Ytaikhiodpieghaa
open Go.RowKit Fld
def Two (k : Nat) (a b : Value) (w : World) : Prop :=
 w.cell? ⟨k, 0, none⟩ = some a ∧ w.cell? ⟨k, 1, none⟩ = some b ∧ w.frozen? ⟨k, 0, none⟩ = false ∧ w.frozen? ⟨k, 1, none⟩ = false ∧ k < w.heap.size
theorem Two.below {k : Nat} {a b : Value} {w w' : World} (h : Two k a b w) (hb : Below w.heap.size w w') : Two k a b w' := by
 obtain ⟨h1, h2, h3, h4, h5⟩ := h
 exact ⟨by rw [hb.cell (p := ⟨k, 0, none⟩) h5]; exact h1, by rw [hb.cell (p := ⟨k, 1, none⟩) h5]; exact h2, by rw [hb.frozen (p := ⟨k, 0, none⟩) h5]; exact h3, by rw [hb.frozen (p := ⟨k, 1, none⟩) h5]; exact h4, Nat.lt_of_lt_of_le h5 hb.size⟩
theorem Two.alloc {k : Nat} {a b : Value} {w : World} (h : Two k a b w) (o : Obj) : Two k a b (w.alloc o) := h.below ((Below.refl _ _).alloc (Nat.le_refl _) o)
theorem Two.first (w : World) (a b : Value) (T : TypeId) : Two w.heap.size a b (w.alloc (.cells #[a, b] T)) :=
 ⟨by simp [go_sem], by simp [go_sem], by simp [go_sem], by simp [go_sem], by simp⟩
theorem below_one {w w1 : World} {o : Obj} (hb : Below (w.alloc o).heap.size (w.alloc o) w1) : Below w.heap.size w w1 :=
 ((Below.refl _ _).alloc (Nat.le_refl _) o).trans (hb.mono (by simp))
theorem check_nof (f : Int) (v : Value) (w : World) (h1 : f ≠ 1) (h2 : f ≠ 2) :
 Calls Try.prog 57 #[.int .u8 f, v] w fun e w' => e = .returned (.tuple #[.agg #[.int .u64 0, .bool false], .bool false]) ∧ Below w.heap.size w w' := by
 have hx := fun W => modulusOf_no f W h1 h2
 clear h1 h2
 go_enter Try.func57, Try.ntmps57
 go_wp2_with (go_at_call 60; refine (hx _).mono ?_; rintro e w1 ⟨rfl, hb⟩; have hT := (Two.first w (.int .u64 0) (.bool false) 96).below hb; have hTo := fun o => hT.alloc o; simp only [Two] at hTo; obtain ⟨g1, g2, g3, g4, g5⟩ := hT)
 refine bodyPost_ret (v := .tuple #[.agg #[.int .u64 0, .bool false], .bool false]) ?_ rfl ⟨rfl, ?_⟩
 · simp [results, Try.results57, go_sem, g1, g2, g5]
 · exact (((below_one hb).setCell (Nat.le_refl _) _).setCell (Nat.le_refl _) _).alloc (by simp; omega) _
theorem check_yes (f p : Int) (wd : Bool) (v : Value) (xs : List Int) (w : World) (hfi : Fi f p wd) (hr : Row w v xs) (hin : allIn p xs = true) :
 Calls Try.prog 57 #[.int .u8 f, v] w fun e w' => e = .returned (.tuple #[.agg #[.int .u64 p, .bool wd], .bool true]) ∧ Below w.heap.size w w' := by
 have hx := fun W => modulusOf_yes f p wd W hfi
 have hp : p <= 18446744073709551615 := by have := hfi.md.bounds; omega
 have hy := fun W h => has_any p wd v xs W hp h
 rw [hin] at hy
 have HY := hide hy
 have HR := hide hr
 clear hfi hin hy hr
 go_enter Try.func57, Try.ntmps57
 go_wp2_with (first
  | (go_at_call 60; refine (hx _).mono ?_; rintro e w1 ⟨rfl, hb⟩; have hT := (Two.first w (.int .u64 0) (.bool false) 96).below hb; obtain ⟨g1, g2, g3, g4, g5⟩ := id hT)
  | (go_at_call 61; refine (HY.out _ (HR.out.below ((below_one hb).alloc (Nat.le_of_lt g5) _))).mono ?_; rintro e w2 ⟨rfl, hb2⟩; have hT2 := (Two.first w1 (.int .u64 p) (.bool wd) 96).below hb2; obtain ⟨k1, k2, k3, k4, k5⟩ := hT2; have hT3 := (hT.alloc _).below hb2; obtain ⟨j1, j2, j3, j4, j5⟩ := hT3))
 refine bodyPost_ret (v := .tuple #[.agg #[.int .u64 p, .bool wd], .bool true]) ?_ rfl ⟨rfl, ?_⟩
 · simp [results, Try.results57, go_sem, j1, j2]
 · exact ((((below_one hb).alloc (Nat.le_of_lt g5) _).trans (hb2.mono (by simp; omega))).setCell (Nat.le_refl _) _).setCell (Nat.le_refl _) _
theorem check_out (f p : Int) (wd : Bool) (v : Value) (xs : List Int) (w : World) (hfi : Fi f p wd) (hr : Row w v xs) (hin : allIn p xs = false) :
 Calls Try.prog 57 #[.int .u8 f, v] w fun e w' => e = .returned (.tuple #[.agg #[.int .u64 0, .bool false], .bool false]) ∧ Below w.heap.size w w' := by
 have hx := fun W => modulusOf_yes f p wd W hfi
 have hp : p <= 18446744073709551615 := by have := hfi.md.bounds; omega
 have hy := fun W h => has_any p wd v xs W hp h
 rw [hin] at hy
 have HY := hide hy
 have HR := hide hr
 clear hfi hin hy hr
 go_enter Try.func57, Try.ntmps57
 go_wp2_with (first
  | (go_at_call 60; refine (hx _).mono ?_; rintro e w1 ⟨rfl, hb⟩; have hT := (Two.first w (.int .u64 0) (.bool false) 96).below hb; obtain ⟨g1, g2, g3, g4, g5⟩ := id hT)
  | (go_at_call 61; refine (HY.out _ (HR.out.below ((below_one hb).alloc (Nat.le_of_lt g5) _))).mono ?_; rintro e w2 ⟨rfl, hb2⟩; have hT3 := (hT.alloc _).below hb2; obtain ⟨j1, j2, j3, j4, j5⟩ := hT3))
 refine bodyPost_ret (v := .tuple #[.agg #[.int .u64 0, .bool false], .bool false]) ?_ rfl ⟨rfl, ?_⟩
 · simp [results, Try.results57, go_sem, j1, j2]
 · exact ((((below_one hb).alloc (Nat.le_of_lt g5) _).trans (hb2.mono (by simp; omega))).setCell (Nat.le_refl _) _).setCell (Nat.le_refl _) _
def Bad (f : Int) (xs : List Int) : Prop := (f ≠ 1 ∧ f ≠ 2) ∨ ∃ p wd, Fi f p wd ∧ allIn p xs = false
theorem check_no (f : Int) (v : Value) (xs : List Int) (w : World) (h : Bad f xs) (hr : Row w v xs) :
 Calls Try.prog 57 #[.int .u8 f, v] w fun e w' => e = .returned (.tuple #[.agg #[.int .u64 0, .bool false], .bool false]) ∧ Below w.heap.size w w' := by
 rcases h with ⟨h1, h2⟩ | ⟨p, wd, hf, hi⟩
 · exact check_nof f v w h1 h2
 · exact check_out f p wd v xs w hf hr hi
theorem Fi.top {f p : Int} {wd : Bool} (h : Fi f p wd) : p <= 18446744073709551615 := by have := h.md.bounds; omega
theorem Fi.pos {f p : Int} {wd : Bool} (h : Fi f p wd) : 0 < p := by have := h.md.bounds; omega
theorem In_yes (f p : Int) (wd : Bool) (v : Value) (xs : List Int) (w : World) (h : Fi f p wd) (hr : Row w v xs) (hi : allIn p xs = true) :
 Calls Try.prog 47 #[.int .u8 f, v] w fun e w' => e = .returned (.bool true) ∧ Below w.heap.size w w' := by
 have hx := hide (check_yes f p wd v xs w h hr hi)
 clear h hr hi
 go_enter Try.func47, Try.ntmps47
 go_wp2_with (go_at_call 57; refine hx.out.mono ?_; rintro e w1 ⟨rfl, hb⟩)
 go_ret
 exact ⟨rfl, hb.alloc hb.size _⟩
theorem In_no (f : Int) (v : Value) (xs : List Int) (w : World) (h : Bad f xs) (hr : Row w v xs) :
 Calls Try.prog 47 #[.int .u8 f, v] w fun e w' => e = .returned (.bool false) ∧ Below w.heap.size w w' := by
 have hx := hide (check_no f v xs w h hr)
 clear h hr
 go_enter Try.func47, Try.ntmps47
 go_wp2_with (go_at_call 57; refine hx.out.mono ?_; rintro e w1 ⟨rfl, hb⟩)
 go_ret
 exact ⟨rfl, hb.alloc hb.size _⟩
theorem rP_yes (f p : Int) (wd : Bool) (w : World) (h : Fi f p wd) :
 Calls Try.prog 38 #[.int .u8 f] w fun e w' => e = .returned (.int .u64 p) ∧ w' = w := by
 rcases h with ⟨rfl, rfl, rfl⟩ | ⟨rfl, rfl, rfl⟩
 · go_enter Try.func38, Try.ntmps38
   go_wp2
   go_ret
   exact ⟨rfl, rfl⟩
 · go_enter Try.func38, Try.ntmps38
   go_wp2
   go_ret
   exact ⟨rfl, rfl⟩
theorem rP_no (f : Int) (w : World) (h1 : f ≠ 1) (h2 : f ≠ 2) :
 Calls Try.prog 38 #[.int .u8 f] w fun e w' => e = .returned (.int .u64 0) ∧ w' = w := by
 have e1 : (f == 1) = false := beq_eq_false_iff_ne.2 h1
 have e2 : (f == 2) = false := beq_eq_false_iff_ne.2 h2
 clear h1 h2
 go_enter Try.func38, Try.ntmps38
 go_wp2
 go_ret
 exact ⟨rfl, rfl⟩
theorem rIn_of (f p : Int) (v : Value) (xs : List Int) (w : World) (hp0 : 0 <= p) (hp1 : p <= 18446744073709551615) (hr : Row w v xs)
 (hP : ∀ W, Calls Try.prog 38 #[.int .u8 f] W fun e w' => e = .returned (.int .u64 p) ∧ w' = W) :
 Calls Try.prog 22 #[.int .u8 f, v] w fun e w' => e = .returned (.bool (allIn p xs && (p != 0))) ∧ w' = w := by
 obtain ⟨ao, cap, rfl, hlen, hw, hc⟩ := hr
 have HP := hide hP
 clear hP
 go_enter Try.func22, Try.ntmps22
 go_wp2_with (go_at_call 38; refine (HP.out _).mono ?_; rintro e w1 ⟨rfl, rfl⟩)
 rename_i w1
 go_loop [6] (fun vi => ∃ k : Nat, k <= xs.length ∧ vi = .int .i64 k ∧ ∀ i, i < k -> xs.getD i 0 < p) (fun vi => xs.length - (intOf vi).toNat)
 case atStart => exact ⟨0, Nat.zero_le _, rfl, fun i hi => by omega⟩
 case round =>
  obtain ⟨k, hk, rfl, hall⟩ := hrel
  by_cases hlt : k < xs.length
  · obtain ⟨b, off, rfl, hbl, hcell⟩ := hc (by intro h; rw [h] at hlt; simp at hlt)
    have hck := hcell k hlt
    have HA := hide hall
    clear hall hcell hc
    by_cases hin : xs.getD k 0 < p
    · generalize hx : xs.getD k 0 = x at *
      have HX := hide hx
      clear hx
      go_wp2
      go_round
      case rel => exact ⟨k + 1, by omega, by go_num, all_snoc HA.out HX.out hin⟩
      case measure => simp [intOf]; omega
    · have HF := hide (allIn_false k hlt hin)
      generalize xs.getD k 0 = x at *
      go_wp2
      go_ret
      rw [HF.out]
      exact ⟨rfl, rfl⟩
  · have HF := hide (allIn_true (p := p) (xs := xs) (fun i hi => hall i (by omega)))
    clear hall hc
    go_wp2
    go_ret
    rw [HF.out]
    exact ⟨rfl, rfl⟩
theorem rIn_yes (f p : Int) (wd : Bool) (v : Value) (xs : List Int) (w : World) (h : Fi f p wd) (hr : Row w v xs) (hi : allIn p xs = true) :
 Calls Try.prog 22 #[.int .u8 f, v] w fun e w' => e = .returned (.bool true) ∧ w' = w := by
 have hz := h.pos
 refine (rIn_of f p v xs w (by omega) h.top hr (fun W => rP_yes f p wd W h)).mono ?_
 rintro e w' ⟨rfl, rfl⟩
 have : (p != 0) = true := by simp; omega
 rw [hi, this]; exact ⟨rfl, rfl⟩
theorem rIn_no (f : Int) (v : Value) (xs : List Int) (w : World) (h : Bad f xs) (hr : Row w v xs) :
 Calls Try.prog 22 #[.int .u8 f, v] w fun e w' => e = .returned (.bool false) ∧ w' = w := by
 rcases h with ⟨h1, h2⟩ | ⟨p, wd, hf, hi⟩
 · refine (rIn_of f 0 v xs w (by decide) (by decide) hr (fun W => rP_no f W h1 h2)).mono ?_
   rintro e w' ⟨rfl, rfl⟩
   exact ⟨by simp, rfl⟩
 · have hz := hf.pos
   refine (rIn_of f p v xs w (by omega) hf.top hr (fun W => rP_yes f p wd W hf)).mono ?_
   rintro e w' ⟨rfl, rfl⟩
   rw [hi]; exact ⟨rfl, rfl⟩
theorem Fi_or (f : Int) : (∃ p wd, Fi f p wd) ∨ (f ≠ 1 ∧ f ≠ 2) := by
 by_cases h1 : f = 1
 · exact .inl ⟨_, _, .inl ⟨h1, rfl, rfl⟩⟩
 by_cases h2 : f = 2
 · exact .inl ⟨_, _, .inr ⟨h2, rfl, rfl⟩⟩
 exact .inr ⟨h1, h2⟩
theorem u64_info : (Try.prog.info? 48).map (fun i => (i.zero, i.size, i.bytes)) = some (some (.int .u64 0), 1, 8) := by kernel_rfl
def vals (xs : List Int) : List Value := xs.map (Value.int .u64)
theorem vals_snoc (xs : List Int) (x : Int) : vals xs ++ [.int .u64 x] = vals (xs ++ [x]) := by simp [vals]
theorem own_base {w : World} {base e size n : Nat} {v : Value} {xs : List Value} (h : w.ownsRow base e size v n xs) : ∀ k, v.ownBlock = some k -> base <= k := by
 intro k hk
 rcases h.2 with ⟨rfl, _⟩ | ⟨g, cap, cur, rfl, hb, _⟩
 · cases hk
 · cases hk; exact hb
theorem row_of_own {w : World} {base : Nat} {v : Value} {n : Nat} {xs : List Int} (h : w.ownsRow base 48 1 v n (vals xs)) (hn : n = xs.length) (hl : xs.length <= 17592186043904)
 (hw : ∀ x ∈ xs, 0 <= x ∧ x <= 18446744073709551615) : Row w v xs := by
 subst hn
 rcases h.2 with ⟨rfl, h0⟩ | ⟨g, cap, cur, rfl, hb, hh, h1, h2, h3, h4⟩
 · exact ⟨none, 0, by rw [h0], hl, hw, fun hne => absurd (List.length_eq_zero_iff.1 h0) hne⟩
 · refine ⟨_, cap, rfl, hl, hw, fun hne => ⟨g, 0, rfl, ?_, fun i hi => ?_⟩⟩
   · apply Nat.lt_of_not_le; intro hc; rw [Array.getElem?_eq_none hc] at hh; cases hh
   · rw [cell_of_row w g (0 + i) cur 48 (0, 0) hh, Nat.zero_add]
     have e1 : cur[i]? = cur.toList[i]? := by simp
     have e2 : cur.toList[i]? = (vals xs)[i]? := by rw [<- h4, List.getElem?_take_of_lt (by omega)]
     rw [e1, e2]; simp [vals, List.getD_eq_getElem?_getD, hi]
theorem own_below {w w' : World} {base e size n : Nat} {v : Value} {xs : List Value} (h : w.ownsRow base e size v n xs) (hb : Below w.heap.size w w') : w'.ownsRow base e size v n xs := by
 refine ⟨h.1, ?_⟩
 rcases h.2 with h1 | ⟨g, cap, cur, h1, h2, h3, h4⟩
 · exact .inl h1
 · refine .inr ⟨g, cap, cur, h1, h2, ?_, h4⟩
   have hlt : g < w.heap.size := by
    apply Nat.lt_of_not_le; intro hc; rw [Array.getElem?_eq_none hc] at h3; cases h3
   rw [hb.block g hlt]; exact h3
theorem vals_set (ys : List Int) (k : Nat) (x : Int) : (vals ys).set k (.int .u64 x) = vals (ys.set k x) := by simp [vals, List.map_set]
theorem vals_at (ys : List Int) (k : Nat) (h : k < ys.length) : (vals ys)[k]? = some (.int .u64 (ys.getD k 0)) := by simp [vals, h, List.getD_eq_getElem?_getD]
theorem below_grown_none {W w1 : World} (h : W.grownBy w1 none) : Below W.heap.size W w1 := (Below.refl _ W).grown h (Nat.le_refl _) (fun k hk => by cases hk)
theorem own_empty (w : World) (T : TypeId) : (w.alloc (.cells #[] T)).ownsRow w.heap.size T 1 (.slice (some ⟨w.heap.size, 0, none⟩) 0 0) 0 (vals []) :=
 ⟨by simp [vals], .inr ⟨_, 0, #[], rfl, Nat.le_refl _, heap_alloc_new w _, Nat.le_refl _, by unfold maxLen; omega, by simp, by simp [vals]⟩⟩
theorem grown_refl (a : World) (r : Option Nat) : a.grownBy a r := ⟨rfl, rfl, rfl, Nat.le_refl _, fun _ _ _ => rfl⟩
theorem grown_far {a b c : World} {r : Option Nat} {g : Nat} (h : a.grownBy b r) (k : b.grownBy c (some g)) (hg : r = some g ∨ a.heap.size <= g) : a.grownBy c r := by
 refine ⟨k.os.trans h.os, k.tape.trans h.tape, k.output.trans h.output, Nat.le_trans h.size k.size, fun j hj hne => ?_⟩
 refine (k.block j (Nat.lt_of_lt_of_le hj h.size) ?_).trans (h.block j hj hne)
 rcases hg with rfl | hg
 · exact hne
 · intro e; cases e; omega
theorem spoil_step {w wr : World} {base g n cap k : Nat} {ys : List Int} {r : Option Nat} {x : Int} {T : TypeId} (hO : wr.ownsRow base T 1 (.slice (some ⟨g, 0, none⟩) n cap) n (vals ys)) (hG : w.grownBy wr r) (hr : r = some g ∨ w.heap.size <= g) :
 (wr.setCell ⟨g, k, none⟩ (.int .u64 x)).ownsRow base T 1 (.slice (some ⟨g, 0, none⟩) n cap) n (vals (ys.set k x)) ∧ w.grownBy (wr.setCell ⟨g, k, none⟩ (.int .u64 x)) r := by
 have := hO.stored k (.int .u64 x)
 rw [vals_set] at this
 exact ⟨this.1, grown_far hG this.2 hr⟩
theorem own_cell {wr : World} {base g n cap k : Nat} {ys : List Int} {T : TypeId} (hO : wr.ownsRow base T 1 (.slice (some ⟨g, 0, none⟩) n cap) n (vals ys)) (hl : ys.length = n) (hk : k < n) : wr.cell? ⟨g, k, none⟩ = some (.int .u64 (ys.getD k 0)) := by
 rw [hO.cellAt k (by omega), vals_at ys k (by omega)]
end Go.Proofs.Ytaikhiodpieghaa
