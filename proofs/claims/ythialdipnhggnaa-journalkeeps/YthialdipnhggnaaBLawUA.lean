import Derived.Test.YthialdipnhggnaaBJrdD
import Derived.Test.YthialdipnhggnaaBJrnF
set_option linter.unusedVariables false
set_option linter.unusedSimpArgs false
set_option maxRecDepth 100000
set_option maxHeartbeats 4000000
namespace Go.Proofs.Ythialdipnhggnaa
open Go.RowKit Fld
theorem Rl.bl {w : World} {base : Nat} {v : Value} {es : List Be} (h : Rl w base v es) : Bl w v (es.map (·.1)) := by
 obtain ⟨ao, cap, rfl, hcap, hsp⟩ := own_spellO h.row
 refine ⟨ao, cap, by rw [List.length_map], by rw [List.length_map]; exact hcap, fun i b hi => ?_⟩
 have hil : i < es.length := by have := (List.getElem?_eq_some_iff.1 hi).1; rwa [List.length_map] at this
 obtain ⟨r, rfl, _, hrl⟩ := hsp (by omega)
 have he : es[i]? = some es[i] := List.getElem?_eq_getElem hil
 have hm := List.getElem_mem hil
 rw [List.getElem?_map, he] at hi
 have hb : es[i].1 = b := by simpa using hi
 subst hb
 exact ⟨r, es[i].2, rfl, hrl, own_atO h.row (by rw [List.getElem?_map, he]; rfl), rb_of_own (h.each _ hm) (h.by_ _ hm).1 (by have := (h.by_ _ hm).2; omega)⟩
def an3 : List Int := [1, 2, 3]
def an23 : Dsk := apN23 sum8 dk0 an3
theorem an_vals23 : apE23 sum8 dk0 an3 = 0 ∧ rdD sum8 an23 = [an3] ∧ an23.l.length <= 65536 := by
 have h1 := jex_new (S := sum8)
 have hl : (jrC sum8 an3).length = 1 := by rw [jrC_len]; rfl
 obtain ⟨b, hb⟩ : ∃ b, jrC sum8 an3 = [b] := List.length_eq_one_iff.1 hl
 have h32 : b.length = 32 := ck32_32 (jrB_len sum8 an3) b (by show b ∈ jrC sum8 an3; rw [hb]; exact List.mem_cons_self)
 have e : apE23 sum8 dk0 an3 = 0 := by
  unfold apE23
  rw [if_neg (by decide), hb, (ws_one _ _).1]
  unfold wrE22
  rw [if_pos h32, if_neg (by decide), if_neg (by decide)]
 rcases h1.append (r := an3) (by decide) (by decide) with ⟨_, h2⟩ | ⟨h2, _⟩
 · exact ⟨e, h2.kp.read sum8_bd, h2.ok.len⟩
 · rw [e] at h2; cases h2
theorem an_jrW : jrW [an3] = 1 := by decide
theorem an_by : By an3 := by intro x hx; simp [an3] at hx; omega
theorem rb_three (W : World) : Rb (W.alloc (.cells #[.int .u8 1, .int .u8 2, .int .u8 3] 5)) (.slice (some ⟨W.heap.size, 0, none⟩) 3 3) an3 := by
 refine ⟨_, 3, rfl, ⟨Nat.le_refl _, by decide, fun h => by cases h⟩, an_by, fun _ => ⟨W.heap.size, 0, rfl, by simp, fun i hi => ?_⟩⟩
 have hi : i < 3 := hi
 have h := heap_alloc_new W (.cells #[.int .u8 1, .int .u8 2, .int .u8 3] 5)
 have hc := Lib.cell_of_heap h (0 + i)
 rw [hc]
 rcases (by omega : i = 0 ∨ i = 1 ∨ i = 2) with rfl | rfl | rfl <;> rfl
theorem bl_three (W : World) : Bl ((W.alloc (.cells #[.int .u8 1, .int .u8 2, .int .u8 3] 5)).alloc (.cells #[.slice (some ⟨W.heap.size, 0, none⟩) 3 3] 23)) (.slice (some ⟨W.heap.size + 1, 0, none⟩) 1 1) [an3] := by
 have hz : (W.alloc (.cells #[.int .u8 1, .int .u8 2, .int .u8 3] 5)).heap.size = W.heap.size + 1 := by simp
 have h := heap_alloc_new (W.alloc (.cells #[.int .u8 1, .int .u8 2, .int .u8 3] 5)) (.cells #[.slice (some ⟨W.heap.size, 0, none⟩) 3 3] 23)
 rw [hz] at h
 refine ⟨_, 1, rfl, Nat.le_refl _, fun i b hi => ?_⟩
 have : i = 0 ∧ b = an3 := by
  cases i with
  | zero => simp at hi; exact ⟨rfl, hi.symm⟩
  | succ i => simp at hi
 obtain ⟨rfl, rfl⟩ := this
 exact ⟨_, _, rfl, (Array.getElem?_eq_some_iff.1 h).1, (Lib.cell_of_heap h 0).trans rfl, (rb_three W).below (alloc_below _ _)⟩
def zr21 : List Int := List.replicate 21 0
theorem made_21 (W : World) : (Instr.makeSlice 23 (.int .i64 21) (.int .i64 21)).run Try.prog W = .ok (.slice (some ⟨W.heap.size, 0, none⟩) 21 21) (W.alloc (.cells (valb zr21).toArray 5)) := by
 obtain ⟨i, hi, hz, hs, hb⟩ := info_parts u8_info
 have := run_make (P := Try.prog) W 23 5 i (.int .u8 0) Try.underlying23 hi hz .i64 .i64 21 21 (by omega) (by omega) (by rw [hb]; decide) (by omega)
 rw [this, hs]
 show Result.ok _ (W.alloc (.cells (madeCells #[.int .u8 0] (21 * 1)) 5)) = _
 rw [made_listO]
 unfold valb zr21
 rw [List.map_replicate]
 rfl
theorem rb_21 (W : World) : Rb (W.alloc (.cells (valb zr21).toArray 5)) (.slice (some ⟨W.heap.size, 0, none⟩) 21 21) zr21 := by
 have := own_newY (W := W) (base := W.heap.size) (n := 21) (T := 5) (cs := valb zr21) (Nat.le_refl _) rfl (by decide)
 exact rb_of_own this (fun x hx => by rw [List.eq_of_mem_replicate hx]; exact ⟨by decide, by decide⟩) (by decide)
theorem anch23 : Ans 12 #[] (.bool true) := by
 intro w
 obtain ⟨q0, q1, q2⟩ := an_vals23
 have H0 := hide (gNew22 w)
 have H1 := hide (fun W g v u (h : Hd W w.heap.size g v dk0) (hb : w.heap.size <= W.heap.size) (hu : Rb W u an3) => gAppend h hb (by decide) hu)
 rw [q0] at H1
 have E1 : Hid (apN23 sum8 dk0 an3 = an23) := rfl
 have H2 := hide (fun W g v (h : Hd W w.heap.size g v an23) => gBlocks22 h)
 have HB2 := hide (fun W g v (h : Hd W w.heap.size g v an23) => rdD_jrA h.o.ok)
 have H3 := hide (fun W x (hx : Bz W x an23.l) => gRecords x an23.l W hx)
 unfold GivesRd at H3
 have HZ := hide (fun W x (h : Bl W x an23.l) => bl_bz h (by omega))
 have HS := hide (fun W x y (h1 : Bl W x [an3]) (h2 : Bl W y [an3]) => dSame22 x y [an3] W h1 h2 (by decide))
 have H4 := hide (fun W x (hx : Rb W x zr21) => gSize23 x zr21 W hx)
 have Q1 := hide q1
 have hmk := made_21
 clear q0 q1 q2
 go_enter Try.func12, Try.ntmps12
 go_wp2_with (first
  | (go_at_call 13; refine H0.out.mono ?_; rintro e w1 ⟨rfl, hN1, hb1⟩; have hal := alloc_below w1 (.cells #[.int .u8 1, .int .u8 2, .int .u8 3] 5); have HB1 := hide (Below.next hb1 hal); have HN1 := hide (hN1.below hal); have HA1 := hide (H1.out _ _ _ _ HN1.out HB1.out.size (rb_three w1)); clear hb1 hN1 hal)
  | (go_at_call 15; refine HA1.out.mono ?_; rintro e w2 ⟨v2, rfl, hN2, hm2⟩; rw [E1.out] at hN2; have HB2' := hide (HB1.out.trans (HN1.out.mvb hm2 HB1.out.size)); have HN2 := hide hN2; have HC2 := hide (H2.out _ _ _ hN2); have hrd := HB2.out _ _ _ hN2; rw [Q1.out] at hrd; have HRd := hide hrd; clear hN2 hm2 hrd)
  | (go_at_call 26; refine HC2.out.mono ?_; rintro e w3 ⟨v3, r3, c3, rfl, hT3, hb3⟩; obtain ⟨a3, k3, hv3, _⟩ := own_spellO hT3.row; subst hv3; have HB3 := hide (HB2'.out.trans (hb3.mono HB2'.out.size)); have HR3 := H3.out _ _ (HZ.out _ _ hT3.bl); rw [<- HRd.out, an_jrW] at HR3; have HR3 := hide HR3; clear hT3 hb3)
  | (go_at_call 7; refine HR3.out.mono ?_; rintro e w4 ⟨v4, es, rfl, hl4, he4, hb4⟩; obtain ⟨a4, k4, hv4, _⟩ := own_spellO hl4.row; have hbl := hl4.bl; rw [he4] at hbl; have HBl := hide hbl; subst hv4; have HB4 := hide (HB3.out.trans (hb4.mono HB3.out.size)); have al1 := alloc_below w4 (.cells #[.int .u8 1, .int .u8 2, .int .u8 3] 5); have al2 := Below.next al1 (alloc_below (w4.alloc (.cells #[.int .u8 1, .int .u8 2, .int .u8 3] 5)) (.cells #[.slice (some ⟨w4.heap.size, 0, none⟩) 3 3] 23)); have HB5 := hide (HB4.out.trans (al2.mono HB4.out.size)); have HS5 := hide (HS.out _ _ _ (HBl.out.below al2) (bl_three w4)); clear hl4 he4 hbl hb4 al1 al2)
  | (go_at_call 9; refine HS5.out.mono ?_; rintro e w6 ⟨rfl, hb6⟩; have HB6 := hide ((HB5.out.trans (hb6.mono HB5.out.size)).trans ((alloc_below w6 (.cells (valb zr21).toArray 5)).mono (HB5.out.trans (hb6.mono HB5.out.size)).size)); have HS6 := hide (H4.out _ _ (rb_21 w6)))
  | (go_at_call 10; refine HS6.out.mono ?_; rintro e w7 ⟨rfl, hw7⟩; rw [hw7]; clear hw7))
 go_ret
 exact ⟨rfl, HB6.out⟩
end Go.Proofs.Ythialdipnhggnaa
