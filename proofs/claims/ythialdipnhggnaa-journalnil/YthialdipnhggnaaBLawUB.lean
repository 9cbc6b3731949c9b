import Derived.Test.YthialdipnhggnaaBLawUA
set_option linter.unusedVariables false
set_option linter.unusedSimpArgs false
set_option maxRecDepth 100000
set_option maxHeartbeats 4000000
namespace Go.Proofs.Ythialdipnhggnaa
open Go.RowKit Fld
theorem journalNil_any (v : Value) (r : List Int) (w : World) (h : Rb w v r) : Calls Try.prog 5 #[v] w fun e w' => e = .returned (.bool true) ∧ Below w.heap.size w w' := by
 have H1 := hide (fun W => gOpen_nil W)
 have H2 := hide (fun u W => gAppend_nil u W)
 have ga := hide (fun W => anch23 W)
 obtain ⟨a, c, rfl, _⟩ := h.spell
 clear h
 go_enter Try.func5, Try.ntmps5
 go_wp2_with (first
  | (go_at_call 17; refine (H1.out _).mono ?_; rintro e w2 ⟨rfl, hw2⟩; rw [hw2]; clear hw2)
  | (go_at_call 15; refine (H2.out _ _).mono ?_; rintro e w2 ⟨rfl, hw2⟩; rw [hw2]; clear hw2)
  | (go_at_call 12; refine (ga.out _).mono ?_; rintro e w5 ⟨rfl, hb5⟩))
 go_ret
 exact ⟨rfl, hb5⟩
theorem journalRecords_any (v : Value) (bs : List (List Int)) (u : Value) (r : List Int) (w : World) (h : Bz w v bs) (hu : Rb w u r) (hl : r.length <= 140737488351232) : Calls Try.prog 3 #[v, u] w fun e w' => e = .returned (.bool true) ∧ Below w.heap.size w w' := by
 have H1 := hide (gRecords v bs w h)
 have H2 := hide (fun W (hb : Below w.heap.size w W) => dRecords v bs W (h.below hb))
 unfold GivesRd at H1 H2
 have hjl : (jrA (jn32 bs)).length <= 5864062014634 := by
  have h1 := jrW_ge (jrA (jn32 bs))
  have h2 := jrA_len (jn32 bs)
  rw [jn32_len] at h2
  have := j32_le bs
  have := h.len
  omega
 have HS := hide (fun W x y (h1 : Bl W x (jrA (jn32 bs))) (h2 : Bl W y (jrA (jn32 bs))) => dSame22 x y _ W h1 h2 (by omega))
 have H3 := hide (fun W (hb : Below w.heap.size w W) => gSize23 u r W (hu.below hb))
 have H4 := hide (fun W (hb : Below w.heap.size w W) => dSize23 u r W (hu.below hb) hl)
 have ga := hide (fun W => anch23 W)
 obtain ⟨a, c, rfl, _⟩ := h.spell
 obtain ⟨a', c', rfl, _⟩ := hu.spell
 clear h hu hl hjl
 generalize jrA (jn32 bs) = rs at *
 generalize ((jrW rs : Nat) : Int) = wh at *
 generalize bs.length = n at *
 generalize ((jrN r.length : Nat) : Int) = sz at *
 generalize r.length = m at *
 go_enter Try.func3, Try.ntmps3
 go_wp2_with (first
  | (go_at_call 7; refine H1.out.mono ?_; rintro e w2 ⟨v2, es, rfl, hl2, he2, hb2⟩; obtain ⟨a2, k2, hv2, _⟩ := own_spellO hl2.row; have hbl2 := hl2.bl; rw [he2] at hbl2; subst hv2; have HBl2 := hide hbl2; have H5 := hide (H2.out _ hb2); clear hl2 he2 hbl2)
  | (go_at_call 8; refine H5.out.mono ?_; rintro e w3 ⟨v3, es3, rfl, hl3, he3, hb3⟩; obtain ⟨a3, k3, hv3, _⟩ := own_spellO hl3.row; have hbl3 := hl3.bl; rw [he3] at hbl3; subst hv3; have HS3 := hide (HS.out _ _ _ (HBl2.out.below hb3) hbl3); have hB3 := Below.next hb2 hb3; clear hl3 he3 hbl3)
  | (go_at_call 9; refine HS3.out.mono ?_; rintro e w4 ⟨rfl, hb4⟩; have hB4 := Below.next hB3 hb4)
  | (go_at_call 10; refine (H3.out _ hB4).mono ?_; rintro e w5 ⟨rfl, hw5⟩; rw [hw5]; clear hw5)
  | (go_at_call 11; refine (H4.out _ hB4).mono ?_; rintro e w6 ⟨rfl, hb6⟩; have hB6 := Below.next hB4 hb6)
  | (go_at_call 12; refine (ga.out _).mono ?_; rintro e w7 ⟨rfl, hb7⟩))
 go_ret
 exact ⟨by simp, Below.next hB6 hb7⟩
end Go.Proofs.Ythialdipnhggnaa
