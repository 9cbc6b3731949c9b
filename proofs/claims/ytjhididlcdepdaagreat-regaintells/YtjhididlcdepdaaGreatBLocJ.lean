import Derived.Test.YtjhididlcdepdaaGreatBLocH
import Derived.Test.YtjhididlcdepdaaGreatBLocF
set_option linter.unusedVariables false
set_option linter.unusedSimpArgs false
set_option maxRecDepth 100000
set_option maxHeartbeats 4000000
namespace Go.Proofs.YtjhididlcdepdaaGreat
open Go.RowKit Go.Shelf Fld
theorem ev_ok {f p t : Int} {wd : Bool} (h : Fi f p wd) {V : List Int} (hV : Els p V) (hl : V.length <= 4096) (ht : El p t) : er f V [t] = 0 ∧ valE f t V = vl p t V := by
 have h1 : er f V [t] = 0 := er_yes h (allIn_of hV) (allIn_of (fun x hx => by rw [List.mem_singleton.1 hx]; exact ht)) hl (by simp)
 refine ⟨h1, ?_⟩
 unfold valE
 rw [h1, if_pos rfl, pOf_eq h]
theorem gEv (f p t : Int) (wd : Bool) (v : Value) (V : List Int) (W : World) (h : Fi f p wd) (hr : Rw W v V) (hV : Els p V) (hl : V.length <= 4096) (ht : El p t) : Calls Tryz.prog 76 #[.int .u8 f, v, .int .u64 t] W fun e w' => e = .returned (.tuple #[.int .u64 (vl p t V), .int .i64 0]) ∧ Below W.heap.size W w' := by
 have := pEval_any f t v V W (by have := ht.1; have := ht.2; have := h.top; omega) hr
 rw [(ev_ok h hV hl ht).1, (ev_ok h hV hl ht).2] at this
 exact this
theorem gLies (f p : Int) (wd : Bool) (bf br bx : Nat) (vV vx : Value) (V xs : List Int) (i : Nat) (W : World) (h : Fi f p wd) (c1 : W.cell? ⟨bf, 0, none⟩ = some (.int .u8 f)) (c2 : W.cell? ⟨br, 1, none⟩ = some vV) (c3 : W.cell? ⟨bx, 0, none⟩ = some vx) (hr : Rw W vV V) (hx : Rw W vx xs) (hV : Els p V) (hl : V.length <= 4096) (hxe : Els p xs) (hi : i < xs.length) :
 Calls Tryz.prog 90 #[.int .i64 (i : Int), .pointer (some ⟨bf, 0, none⟩), .pointer (some ⟨br, 0, none⟩), .pointer (some ⟨bx, 0, none⟩)] W fun e w' => e = .returned (.bool (vl p (co xs i) V != 0)) ∧ Below W.heap.size W w' := by
 have HE := hide (fun W' (hb : Below W.heap.size W W') => gEv f p (co xs i) wd vV V W' h (hr.below hb) hV hl (hxe.co h.pos i))
 have hxl := hx.len
 obtain ⟨⟨ao, cap, rfl, _, _, hc⟩, _⟩ := hx
 obtain ⟨b, off, rfl, hb, hcell⟩ := hc (fun e => by rw [e] at hi; cases hi)
 have c4 : W.cell? ⟨b, off + i, none⟩ = some (.int .u64 (co xs i)) := hcell i hi
 obtain ⟨x2, y2, rfl, _⟩ := hr.spell
 have h0 : (0 : Int) <= (i : Int) := Int.natCast_nonneg _
 have h1 : (i : Int) < (xs.length : Int) := by omega
 have HEl := hide (elWord (hxe.co h.pos i) h.top)
 have HV0 := hide (vl_el h.pos (co xs i) V)
 obtain ⟨t, Ht⟩ : ∃ t, Hid (co xs i = t) := ⟨_, rfl⟩
 rw [Ht.out] at HE c4 HV0 ⊢
 generalize hn : xs.length = n at *
 generalize hm : V.length = m at *
 generalize vl p t V = z at *
 clear hn hm hcell hr hV hxe h hb hl hi
 go_enter Tryz.func90, Tryz.ntmps90
 go_wp2
 go_region_held3 (fun w' => w'.cell? ⟨bf, 0, none⟩ = some (.int .u8 f) ∧ w'.cell? ⟨br, 1, none⟩ = some (.slice x2 m y2) ∧ w'.cell? ⟨bx, 0, none⟩ = some (.slice (some ⟨b, off, none⟩) n cap) ∧ w'.cell? ⟨b, off + i, none⟩ = some (.int .u64 t)) (first | with_reducible exact hd.out | exact ⟨c1, c2, c3, c4⟩) (first | (go_at_call 76; refine (HE.out _ (Below.refl _ _).drew).mono ?_; rintro e w2 ⟨rfl, hb2⟩; have hB2 := Below.next (Below.refl W.heap.size W).drew hb2; have hd := hide (And.intro ((hB2.cell (cell_lt c1)).trans c1) (And.intro ((hB2.cell (cell_lt c2)).trans c2) (And.intro ((hB2.cell (cell_lt c3)).trans c3) ((hB2.cell (cell_lt c4)).trans c4))))))
 go_wp2
 go_ret
 exact ⟨rfl, hB2⟩
def fst2 (a b : Int) : Int := if a = 0 then b else if b = 0 then a else if b < a then b else a
def agE (f : Int) (P xs ys : List Int) : Int := fst2 (bad f xs ys ys.length) (er f P [0])
def agV (f : Int) (P xs ys : List Int) : Int := if agE f P xs ys = 0 then (xs.length : Int) - (offp (pOf f) P xs ys).length else 0
theorem vlu_zero (f : Int) (xs ys : List Int) : vluE f xs ys 0 = bad f xs ys ys.length := by
 unfold vluE
 by_cases h : inF f [0] = true
 · rw [if_pos h]
 · rw [if_neg h]
   have hno : f ≠ 1 ∧ f ≠ 2 := by
    constructor <;> intro e <;> apply h <;> rw [e] <;> decide +kernel
   rw [bad_arg (.inl (inF_no hno.1 hno.2 xs))]
theorem fst2_zero {a b : Int} (h : fst2 a b = 0) : a = 0 ∧ b = 0 := by
 unfold fst2 at h
 by_cases h1 : a = 0
 · rw [if_pos h1] at h; exact ⟨h1, h⟩
 · rw [if_neg h1] at h
   by_cases h2 : b = 0
   · rw [if_pos h2] at h; exact absurd h h1
   · rw [if_neg h2] at h
     by_cases h3 : b < a
     · rw [if_pos h3] at h; exact absurd h h2
     · rw [if_neg h3] at h; exact absurd h h1
theorem gFirst (a b : Int) (w : World) : Calls Tryz.prog 78 #[.slice (some ⟨w.heap.size, 0, none⟩) 2 2] (w.alloc (.cells #[.int .i64 a, .int .i64 b] 30)) fun e w' => e = .returned (.int .i64 (fst2 a b)) ∧ w' = (w.alloc (.cells #[.int .i64 a, .int .i64 b] 30)) := by
 have h0 := heap_alloc_new w (.cells #[.int .i64 a, .int .i64 b] 30)
 obtain ⟨k0, k1, _, _⟩ := cell_two h0
 generalize w.alloc (.cells #[.int .i64 a, .int .i64 b] 30) = W at *
 generalize w.heap.size = g at *
 clear h0
 by_cases ha : a = 0
 · subst ha
   by_cases hb : b = 0
   · subst hb
     go_enter Tryz.func78, Tryz.ntmps78
     go_wp2_with fail
     refine wp_loop_rounds 3 ?_
     rw [rounds_succ]
     go_wp2
     rw [rounds_succ]
     go_wp2
     rw [rounds_succ]
     go_wp2
     go_ret
     exact ⟨rfl, rfl⟩
   · have hb2 : (b != 0) = true := bne_iff_ne.2 hb
     have HE : Hid (fst2 0 b = b) := rfl
     rw [HE.out]
     go_enter Tryz.func78, Tryz.ntmps78
     go_wp2_with fail
     refine wp_loop_rounds 3 ?_
     rw [rounds_succ]
     go_wp2
     rw [rounds_succ]
     go_wp2
     rw [rounds_succ]
     go_wp2
     go_ret
     exact ⟨rfl, rfl⟩
 · have ha2 : (a != 0) = true := bne_iff_ne.2 ha
   have ha3 : (a == 0) = false := beq_eq_false_iff_ne.2 ha
   by_cases hb : b = 0
   · subst hb
     have HE : Hid (fst2 a 0 = a) := by show _ = _; unfold fst2; rw [if_neg ha, if_pos rfl]
     rw [HE.out]
     go_enter Tryz.func78, Tryz.ntmps78
     go_wp2_with fail
     refine wp_loop_rounds 3 ?_
     rw [rounds_succ]
     go_wp2
     rw [rounds_succ]
     go_wp2
     rw [rounds_succ]
     go_wp2
     go_ret
     exact ⟨rfl, rfl⟩
   · have hb2 : (b != 0) = true := bne_iff_ne.2 hb
     by_cases hl : b < a
     · have HE : Hid (fst2 a b = b) := by show _ = _; unfold fst2; rw [if_neg ha, if_neg hb, if_pos hl]
       rw [HE.out]
       go_enter Tryz.func78, Tryz.ntmps78
       go_wp2_with fail
       refine wp_loop_rounds 3 ?_
       rw [rounds_succ]
       go_wp2
       rw [rounds_succ]
       go_wp2
       rw [rounds_succ]
       go_wp2
       go_ret
       exact ⟨rfl, rfl⟩
     · have HE : Hid (fst2 a b = a) := by show _ = _; unfold fst2; rw [if_neg ha, if_neg hb, if_neg hl]
       rw [HE.out]
       go_enter Tryz.func78, Tryz.ntmps78
       go_wp2_with fail
       refine wp_loop_rounds 3 ?_
       rw [rounds_succ]
       go_wp2
       rw [rounds_succ]
       go_wp2
       rw [rounds_succ]
       go_wp2
       go_ret
       exact ⟨rfl, rfl⟩
theorem gLies2 (f p : Int) (wd : Bool) (bf bp bx bY : Nat) (vV vx vy : Value) (V xs ys : List Int) (i : Nat) (W : World) (h : Fi f p wd) (c1 : W.cell? ⟨bf, 0, none⟩ = some (.int .u8 f)) (c2 : W.cell? ⟨bp, 0, none⟩ = some vV) (c3 : W.cell? ⟨bx, 0, none⟩ = some vx) (c5 : W.cell? ⟨bY, 0, none⟩ = some vy) (hr : Rw W vV V) (hx : Rw W vx xs) (hy : Rw W vy ys) (hV : Els p V) (hl : V.length <= 4096) (hxe : Els p xs) (hi : i < xs.length) (hxy : xs.length = ys.length) :
 Calls Tryz.prog 79 #[.int .i64 (i : Int), .pointer (some ⟨bf, 0, none⟩), .pointer (some ⟨bp, 0, none⟩), .pointer (some ⟨bx, 0, none⟩), .pointer (some ⟨bY, 0, none⟩)] W fun e w' => e = .returned (.bool (vl p (co xs i) V == co ys i)) ∧ Below W.heap.size W w' := by
 have HE := hide (fun W' (hb : Below W.heap.size W W') => gEv f p (co xs i) wd vV V W' h (hr.below hb) hV hl (hxe.co h.pos i))
 have hxl := hx.len
 obtain ⟨⟨ao, cap, rfl, _, _, hc⟩, _⟩ := hx
 obtain ⟨b, off, rfl, hb, hcell⟩ := hc (fun e => by rw [e] at hi; cases hi)
 have c4 : W.cell? ⟨b, off + i, none⟩ = some (.int .u64 (co xs i)) := hcell i hi
 have hyw := hy.words
 obtain ⟨⟨ay, cay, rfl, _, _, hcy⟩, _⟩ := hy
 obtain ⟨by', oy, rfl, hby, hcelly⟩ := hcy (fun e => by rw [hxy, e] at hi; cases hi)
 have c6 : W.cell? ⟨by', oy + i, none⟩ = some (.int .u64 (co ys i)) := hcelly i (by omega)
 obtain ⟨x2, y2, rfl, _⟩ := hr.spell
 have h0 : (0 : Int) <= (i : Int) := Int.natCast_nonneg _
 have h1 : (i : Int) < (xs.length : Int) := by omega
 obtain ⟨t, Ht⟩ : ∃ t, Hid (co xs i = t) := ⟨_, rfl⟩
 rw [Ht.out] at HE c4 ⊢
 generalize hn : xs.length = n at *
 rw [<- hxy] at c5
 generalize hm : V.length = m at *
 generalize vl p t V = z at *
 generalize co ys i = y at *
 clear hn hm hcell hcelly hr hV hxe h hb hl hi hxy hcy hc hyw
 go_enter Tryz.func79, Tryz.ntmps79
 go_wp2
 go_region_held3 (fun w' => w'.cell? ⟨bf, 0, none⟩ = some (.int .u8 f) ∧ w'.cell? ⟨bp, 0, none⟩ = some (.slice x2 m y2) ∧ w'.cell? ⟨bx, 0, none⟩ = some (.slice (some ⟨b, off, none⟩) n cap) ∧ w'.cell? ⟨b, off + i, none⟩ = some (.int .u64 t)) (first | with_reducible exact hd.out | exact ⟨c1, c2, c3, c4⟩) (first | (go_at_call 76; refine (HE.out _ (Below.refl _ _).drew).mono ?_; rintro e w2 ⟨rfl, hb2⟩; have hB2 := Below.next (Below.refl W.heap.size W).drew hb2; have hd := hide (And.intro ((hB2.cell (cell_lt c1)).trans c1) (And.intro ((hB2.cell (cell_lt c2)).trans c2) (And.intro ((hB2.cell (cell_lt c3)).trans c3) ((hB2.cell (cell_lt c4)).trans c4))))))
 have d5 := (hB2.cell (cell_lt c5)).trans c5
 have d6 := (hB2.cell (cell_lt c6)).trans c6
 go_wp2
 go_ret
 exact ⟨rfl, hB2⟩
end Go.Proofs.YtjhididlcdepdaaGreat
