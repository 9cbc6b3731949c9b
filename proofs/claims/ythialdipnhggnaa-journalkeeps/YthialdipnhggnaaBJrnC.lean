import Derived.Test.YthialdipnhggnaaBDskF
import Derived.Test.YthialdipnhggnaaBJrnB
import Derived.Test.YthialdipnhggnaaBWirL
set_option linter.unusedVariables false
set_option linter.unusedSimpArgs false
set_option maxRecDepth 100000
set_option maxHeartbeats 4000000
namespace Go.Proofs.Ythialdipnhggnaa
open Go.RowKit Fld
theorem gWrite_none {w : World} {base g : Nat} {v : Value} {D : Dsk} (h : Hd w base g v D) :
 Calls Try.prog 23 #[.pointer (some ⟨g, 0, none⟩), .slice none 0 0] w fun e w' => e = .returned (.int .i64 2) ∧ w' = w := by
 have H := hide (dIsThere h)
 clear h
 go_enter Try.func23, Try.ntmps23
 go_wp2_with (go_at_call 37; refine H.out.mono ?_; rintro e w1 ⟨rfl, rfl⟩)
 go_ret
 exact ⟨rfl, rfl⟩
theorem gThere_no (w : World) : Calls Try.prog 32 #[.pointer none] w fun e w' => e = .returned (.bool false) ∧ w' = w := by
 have H := hide (fun W => gWrite_nil (.slice none 0 0) W)
 go_enter Try.func32, Try.ntmps32
 go_wp2_with (go_at_call 23; refine (H.out _).mono ?_; rintro e w1 ⟨rfl, rfl⟩)
 go_ret
 exact ⟨rfl, rfl⟩
theorem gThere {w : World} {base g : Nat} {v : Value} {D : Dsk} (h : Hd w base g v D) : Calls Try.prog 32 #[.pointer (some ⟨g, 0, none⟩)] w fun e w' => e = .returned (.bool true) ∧ w' = w := by
 have H := hide (gWrite_none h)
 clear h
 go_enter Try.func32, Try.ntmps32
 go_wp2_with (go_at_call 23; refine H.out.mono ?_; rintro e w1 ⟨rfl, rfl⟩)
 go_ret
 exact ⟨rfl, rfl⟩
theorem gSize23 (v : Value) (bs : List Int) (w : World) (h : Rb w v bs) : Calls Try.prog 10 #[v] w fun e w' => e = .returned (.int .i64 ((jrN bs.length : Nat) : Int)) ∧ w' = w := by
 have hl := h.len
 obtain ⟨a, c, rfl, _⟩ := h.spell
 clear h
 have e1 : ((jrN bs.length : Nat) : Int) = ((bs.length : Int) + 12 + 32 - 1) / 32 := by unfold jrN; omega
 have HE := hide e1
 clear e1
 generalize bs.length = n at *
 go_enter Try.func10, Try.ntmps10
 go_wp2
 go_ret
 exact ⟨by rw [HE.out]; rfl, rfl⟩
def keF (b : Nat) : Value := .func (.func 63) #[] #[.pointer (some ⟨b, 0, none⟩)]
def Ke (W : World) (b : Nat) (x : Int) : Prop := W.heap[b]? = some (.cells #[.int .i64 x] 39 (0, 0))
theorem gFirst (w : World) : Calls Try.prog 54 #[] w fun e w' => e = .returned (keF w.heap.size) ∧ w' = w.alloc (.cells #[.int .i64 0] 39) := by
 unfold keF
 go_enter Try.func54, Try.ntmps54
 go_wp2
 go_ret
 exact ⟨rfl, rfl⟩
theorem gKeep (w : World) (b : Nat) (x e : Int) (h : Ke w b x) : Calls Try.prog 63 #[.int .i64 e, .pointer (some ⟨b, 0, none⟩)] w fun r w' => r = .returned (.int .i64 (if x = 0 then e else x)) ∧ Ke w' b (if x = 0 then e else x) ∧ (w' = w ∨ w' = w.setCell ⟨b, 0, none⟩ (.int .i64 e)) := by
 have HX := hide h
 have c0 : w.cell? ⟨b, 0, none⟩ = some (.int .i64 x) := (Lib.cell_of_heap h 0).trans rfl
 have cf : w.frozen? ⟨b, 0, none⟩ = false := Lib.frozen_of_heap h 0
 clear h
 by_cases hx : x = 0
 · subst hx
   rw [if_pos rfl]
   go_enter Try.func63, Try.ntmps63
   go_wp2
   go_ret
   exact ⟨rfl, (set_blk HX.out 0 _).trans rfl, .inr rfl⟩
 · rw [if_neg hx]
   go_enter Try.func63, Try.ntmps63
   go_wp2
   go_ret
   exact ⟨rfl, HX.out, .inl rfl⟩
end Go.Proofs.Ythialdipnhggnaa
