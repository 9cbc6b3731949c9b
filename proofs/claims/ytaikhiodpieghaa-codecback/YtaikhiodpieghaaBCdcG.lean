import Derived.Test.YtaikhiodpieghaaBCdcF
import Derived.Test.YtaikhiodpieghaaBCdcD
import Derived.Test.YtaikhiodpieghaaBWirL
set_option linter.unusedVariables false
set_option linter.unusedSimpArgs false
set_option maxRecDepth 100000
set_option maxHeartbeats 4000000
namespace Go.Proofs.Ytaikhiodpieghaa
open Go.RowKit Fld
theorem Mb.set {w : World} {g : Nat} {m n : Mg} {s t : Value} (h : Mb w g m s) (k : Nat) (v : Value) (hq : mgc n t = (mgc m s).setIfInBounds k v) : Mb (w.setCell ⟨g, k, none⟩ v) g n t := by
 unfold Mb
 rw [set_blk h, hq]
structure Rg (w W : World) (r p g : Nat) (m : Mg) (s : Value) (bs : List Int) : Prop where
 un : Un W p g bs
 mb : Mb W r m s
 pl : p < W.heap.size
 np : p ≠ r
 ng : g ≠ r
 bel : Below w.heap.size w W
 gB : w.heap.size <= g
 rB : w.heap.size <= r
theorem Rg.step {w W W' : World} {r p g : Nat} {m : Mg} {s : Value} {bs cs : List Int} (h : Rg w W r p g m s bs) (u : Un W' p g cs) (k : Kq (Bu W g) W W') : Rg w W' r p g m s cs :=
 ⟨u, (k.block r ⟨h.mb.lt, h.ng.symm⟩).trans h.mb, Nat.lt_of_lt_of_le h.pl k.size, h.np, h.ng, h.bel.trans (k.below (fun j hj => ⟨Nat.lt_of_lt_of_le hj h.bel.size, by have := h.gB; omega⟩)), h.gB, h.rB⟩
theorem Rg.left {w W W' : World} {r p g : Nat} {m : Mg} {s : Value} {bs : List Int} (h : Rg w W r p g m s bs) (k : Kq (Bu W g) W W') : Below w.heap.size w W' :=
 h.bel.trans (k.below (fun j hj => ⟨Nat.lt_of_lt_of_le hj h.bel.size, by have := h.gB; omega⟩))
theorem Rg.put {w W : World} {r p g : Nat} {m n : Mg} {s t : Value} {bs : List Int} (h : Rg w W r p g m s bs) (k : Nat) (v : Value) (hq : mgc n t = (mgc m s).setIfInBounds k v) : Rg w (W.setCell ⟨r, k, none⟩ v) r p g n t bs :=
 ⟨h.un.kept (set_kq W r k v) ⟨h.un.lt, h.ng⟩ ⟨h.pl, h.np⟩, h.mb.set k v hq, Nat.lt_of_lt_of_le h.pl (set_kq W r k v).size, h.np, h.ng, h.bel.setCell (p := ⟨r, k, none⟩) h.rB v, h.gB, h.rB⟩
theorem mz_box (w : World) : Mb (w.alloc (.cells #[.int .u8 0, .int .i64 0, .int .i64 0, .int .u8 0, .slice none 0 0] 26)) w.heap.size mg0 (.slice none 0 0) ∧ Below w.heap.size w (w.alloc (.cells #[.int .u8 0, .int .i64 0, .int .i64 0, .int .u8 0, .slice none 0 0] 26)) := ⟨heap_alloc_new w _, alloc_below _ _⟩
theorem rg_new {w W0 W1 W2 : World} {r g : Nat} {is : List Int} (hM : Mb W0 r mg0 (.slice none 0 0)) (hB : Below w.heap.size w W0) (hr : w.heap.size <= r) {p : Nat} (hp : W0.heap.size <= p) (hp1 : p < W1.heap.size) (hb1 : Below W0.heap.size W0 W1) (hu : Un W2 p g is) (hg : W1.heap.size <= g) (hb2 : Below W1.heap.size W1 W2) : Rg w W2 r p g mg0 (.slice none 0 0) is := by
 have h1 := hM.lt
 have h2 := hb1.size
 have h3 := hB.size
 exact ⟨hu, (hM.below hb1).below hb2, Nat.lt_of_lt_of_le hp1 hb2.size, by omega, by omega, (hB.trans (hb1.mono h3)).trans (hb2.mono (Nat.le_trans h3 h2)), by omega, hr⟩
theorem mi_cases {is : List Int} (hb : By is) : (is = [] ∧ miK is = false) ∨ (0 < is.length ∧ rcE (is.drop 1) ≠ 0 ∧ miK is = false) ∨ (0 < is.length ∧ rcE (is.drop 1) = 0 ∧ rcE (is.drop 5) ≠ 0 ∧ miK is = false) ∨ (0 < is.length ∧ rcE (is.drop 1) = 0 ∧ rcE (is.drop 5) = 0 ∧ rlE (is.drop 9) ≠ 0 ∧ miK is = false) ∨
 (0 < is.length ∧ rcE (is.drop 1) = 0 ∧ rcE (is.drop 5) = 0 ∧ rlE (is.drop 9) = 0 ∧ 0 < ((is.drop 9).drop (5 + rlN (is.drop 9) * wF (rlF (is.drop 9)))).length ∧ miK is = false) ∨
 (0 < is.length ∧ rcE (is.drop 1) = 0 ∧ rcE (is.drop 5) = 0 ∧ rlE (is.drop 9) = 0 ∧ (is.drop 9).drop (5 + rlN (is.drop 9) * wF (rlF (is.drop 9))) = [] ∧ miK is = mgM (miM is)) := by
 have hi := miK_iff hb
 have no : ¬ (0 < is.length ∧ rcE (is.drop 1) = 0 ∧ rcE (is.drop 5) = 0 ∧ rlE (is.drop 9) = 0 ∧ (is.drop 9).length = 5 + rlN (is.drop 9) * wF (rlF (is.drop 9)) ∧ mgM (miM is) = true) -> miK is = false := fun h => by
  cases hm : miK is with
  | false => rfl
  | true => exact absurd (hi.1 hm) h
 by_cases h0 : 0 < is.length
 · by_cases h1 : rcE (is.drop 1) = 0
   · by_cases h2 : rcE (is.drop 5) = 0
     · by_cases h3 : rlE (is.drop 9) = 0
       · have h4 := (rlE_zero h3).2.2.2.2.1
         by_cases h5 : (is.drop 9).length = 5 + rlN (is.drop 9) * wF (rlF (is.drop 9))
         · refine .inr (.inr (.inr (.inr (.inr ⟨h0, h1, h2, h3, by rw [<- h5]; exact List.drop_length, ?_⟩))))
           cases hm : mgM (miM is) with
           | true => exact hi.2 ⟨h0, h1, h2, h3, h5, hm⟩
           | false => exact no (fun h => by rw [hm] at h; exact absurd h.2.2.2.2.2 (by decide))
         · exact .inr (.inr (.inr (.inr (.inl ⟨h0, h1, h2, h3, by rw [List.length_drop]; omega, no (fun h => h5 h.2.2.2.2.1)⟩))))
       · exact .inr (.inr (.inr (.inl ⟨h0, h1, h2, h3, no (fun h => h3 h.2.2.2.1)⟩)))
     · exact .inr (.inr (.inl ⟨h0, h1, h2, no (fun h => h2 h.2.2.1)⟩))
   · exact .inr (.inl ⟨h0, h1, no (fun h => h1 h.2.1)⟩)
 · exact .inl ⟨List.length_eq_zero_iff.1 (by omega), no (fun h => h0 h.1)⟩
theorem mr_bad {S : List Int -> Int} {bs : List Int} (h : usE S bs = 0) (hk : 12 + usN bs ≠ bs.length ∨ miK (usL S bs) = false) : mrE S bs = 8 := by
 unfold mrE
 rw [if_neg (by omega), if_neg]
 rintro ⟨h1, h2⟩
 rcases hk with hk | hk
 · exact hk h1
 · rw [hk] at h2; cases h2
theorem mr_good {S : List Int -> Int} {bs : List Int} (h : usE S bs = 0) (hn : 12 + usN bs = bs.length) (hk : miK (usL S bs) = true) : mrE S bs = 0 ∧ mrM S bs = miM (usL S bs) := by
 have e : mrE S bs = 0 := by unfold mrE; rw [if_neg (by omega), if_pos ⟨hn, hk⟩]
 exact ⟨e, by unfold mrM; rw [if_pos e]⟩
theorem mr_unseal {S : List Int -> Int} {bs : List Int} (h : usE S bs ≠ 0) : mrE S bs = usE S bs := by unfold mrE; rw [if_pos h]
end Go.Proofs.Ytaikhiodpieghaa
