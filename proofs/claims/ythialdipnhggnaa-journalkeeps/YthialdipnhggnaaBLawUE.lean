import Derived.Test.YthialdipnhggnaaBLawUD
import Derived.Test.YthialdipnhggnaaBOpenI
set_option linter.unusedVariables false
set_option linter.unusedSimpArgs false
set_option maxRecDepth 100000
set_option maxHeartbeats 4000000
namespace Go.Proofs.Ythialdipnhggnaa
open Go.RowKit Fld
structure One (w W : World) (D : Dsk) : Prop where
 p : ∃ v, Hd W w.heap.size w.heap.size v D
 low : Below w.heap.size w W
 sz : w.heap.size <= W.heap.size
theorem One.below {w W W' : World} {D : Dsk} (h : One w W D) (hb : Below W.heap.size W W') : One w W' D := by
 obtain ⟨v, h1⟩ := h.p
 exact ⟨⟨v, h1.below hb⟩, h.low.trans (hb.mono h.sz), Nat.le_trans h.sz hb.size⟩
theorem One.step {w W W2 : World} {v v2 : Value} {D E : Dsk} (h : Hd W w.heap.size w.heap.size v D) (hl : Below w.heap.size w W) (hs : w.heap.size <= W.heap.size) (n : Hd W2 w.heap.size w.heap.size v2 E) (m : Mv W W2 w.heap.size v v2) : One w W2 E :=
 ⟨⟨v2, n⟩, hl.trans (h.mvb m hs), Nat.le_trans hs m.kq.size⟩
theorem one_new (w : World) : Calls Try.prog 13 #[] w fun e w' => e = .returned (.pointer (some ⟨w.heap.size, 0, none⟩)) ∧ One w w' dk0 :=
 (gNew22 w).mono fun e w' ⟨h1, h2, h3⟩ => ⟨h1, ⟨_, h2⟩, h3, h3.size⟩
theorem one_append {w W : World} {D : Dsk} (h : One w W D) (hn : D.n + 100000 < 4611686018427387904) {u : Value} {r : List Int} (hu : Rb w u r) :
 Calls Try.prog 15 #[.pointer (some ⟨w.heap.size, 0, none⟩), u] W fun e w' => e = .returned (.int .i64 (apE23 sum8 D r)) ∧ One w w' (apN23 sum8 D r) := by
 obtain ⟨⟨v, hp⟩, hl, hs⟩ := h
 exact (gAppend hp hs hn (hu.below hl)).mono fun e w' ⟨v2, h1, h2, h3⟩ => ⟨h1, One.step hp hl hs h2 h3⟩
theorem one_fuse {w W : World} {D : Dsk} (h : One w W D) (i : Int) (hi : i <= 9223372036854775807) :
 Calls Try.prog 19 #[.pointer (some ⟨w.heap.size, 0, none⟩), .int .i64 i] W fun e w' => e = .returned (.int .i64 (fuE i)) ∧ One w w' (fuN D i) := by
 obtain ⟨⟨v, hp⟩, hl, hs⟩ := h
 exact (gFuse hp i hi).mono fun e w' ⟨h1, h2, h3⟩ => ⟨h1, One.step hp hl hs h2 h3⟩
theorem one_mend {w W : World} {D : Dsk} (h : One w W D) :
 Calls Try.prog 21 #[.pointer (some ⟨w.heap.size, 0, none⟩)] W fun e w' => e = .returned (.int .i64 0) ∧ One w w' (mdN D) := by
 obtain ⟨⟨v, hp⟩, hl, hs⟩ := h
 exact (gMend hp).mono fun e w' ⟨h1, h2, h3⟩ => ⟨h1, One.step hp hl hs h2 h3⟩
theorem one_open {w W : World} {D : Dsk} (h : One w W D) (hn : D.n < 4611686018427387904) :
 Calls Try.prog 17 #[.pointer (some ⟨w.heap.size, 0, none⟩)] W fun e w' => ∃ ao cap, e = .returned (.tuple #[.slice ao (opR23 sum8 D).length cap, .int .i64 (opE23 sum8 D)]) ∧ One w w' (opN23 sum8 D) ∧ Bz w' (.slice ao (opR23 sum8 D).length cap) (opR23 sum8 D) := by
 obtain ⟨⟨v, hp⟩, hl, hs⟩ := h
 have hok := hp.o.ok
 refine (gOpen hp hs hn).mono fun e w' ⟨v2, lv, es, h1, h2, h3, h4, h5⟩ => ?_
 have hb := h4.bl
 rw [h5] at hb
 have hz := bl_bz hb (rd23_len hok)
 obtain ⟨ao, cap, rfl, _⟩ := hz.spell
 exact ⟨ao, cap, h1, One.step hp hl hs h2 h3, hz⟩
theorem one_blocks {w W : World} {D : Dsk} (h : One w W D) :
 Calls Try.prog 26 #[.pointer (some ⟨w.heap.size, 0, none⟩)] W fun e w' => ∃ ao cap, e = .returned (.slice ao D.l.length cap) ∧ Below W.heap.size W w' := by
 obtain ⟨⟨v, hp⟩, hl, hs⟩ := h
 refine (gBlocks22 hp).mono fun e w' ⟨v2, r, c, h1, h2, h3⟩ => ?_
 obtain ⟨ao, cap, rfl, _⟩ := own_spellO h2.row
 exact ⟨ao, cap, h1, h3⟩
theorem apN23_n (D : Dsk) (bs : List Int) : (apN23 sum8 D bs).n <= D.n + 100000 := stp3_n D ⟨0, .bool true, bs, 0⟩
theorem opN23_n (D : Dsk) : (opN23 sum8 D).n <= D.n + 100000 := stp3_n D ⟨1, .bool true, [], 0⟩
theorem fuN_n (D : Dsk) (i : Int) : (fuN D i).n = D.n := by unfold fuN; split <;> rfl
theorem fuN_l (D : Dsk) (i : Int) : (fuN D i).l = D.l := by unfold fuN; split <;> rfl
theorem mdN_n (D : Dsk) : (mdN D).n = D.n := rfl
theorem Fld.Jkp.cut {D : Dsk} {rs : List (List Int)} (h : Jkp sum8 D rs) (i : Int) : Jkp sum8 (opN23 sum8 (fuN (mdN D) i)) rs :=
 (Jkp.open_ sum8_bd (h.of_l (by rw [fuN_l]; rfl) (fuN_ok (mdN_ok h.ok) i))).1
theorem cut_n (D : Dsk) (i : Int) : (opN23 sum8 (fuN (mdN D) i)).n <= D.n + 100000 := by
 have := opN23_n (fuN (mdN D) i)
 rw [fuN_n, mdN_n] at this
 exact this
theorem Fld.Jkp.last {D : Dsk} {rs : List (List Int)} (h : Jkp sum8 D rs) : opE23 sum8 (mdN D) = 0 ∧ opR23 sum8 (mdN D) = rs ∧ (opN23 sum8 (mdN D)).l.length = jrW rs := by
 obtain ⟨h1, h2, h3⟩ := (Jkp.open_ sum8_bd (h.of_l (E := mdN D) rfl (mdN_ok h.ok))).2 (md_die D)
 exact ⟨h1, h2, h3.count⟩
theorem take_snoc23 {rs : List (List Int)} {k : Nat} (h : k < rs.length) : rs.take (k + 1) = rs.take k ++ [rs.getD k []] := by
 rw [List.take_add_one, List.getElem?_eq_getElem h, List.getD_eq_getElem?_getD, List.getElem?_eq_getElem h]; rfl
theorem jrW_snoc {rs : List (List Int)} {k : Nat} (h : k < rs.length) : jrW (rs.take (k + 1)) = jrW (rs.take k) + jrN (rs.getD k []).length := by
 rw [take_snoc23 h, jrW_app]; rfl
theorem jrW_mono {rs : List (List Int)} {i k : Nat} (h : i <= k) : jrW (rs.take i) <= jrW (rs.take k) := by
 have h1 := List.take_append_drop i (rs.take k)
 rw [List.take_take, Nat.min_eq_left h] at h1
 have h2 := congrArg jrW h1
 rw [jrW_app] at h2
 omega
theorem getD_take23 {rs : List (List Int)} {k i : Nat} (h : i < k) : (rs.take k).getD i [] = rs.getD i [] := by
 rw [List.getD_eq_getElem?_getD, List.getD_eq_getElem?_getD, List.getElem?_take_of_lt h]
theorem Fld.Jex.keep {D : Dsk} {rs : List (List Int)} {k : Nat} (h : Jex sum8 D (rs.take k)) (hk : k < rs.length) (h2 : k < 200) (hw : jrW (rs.take k) <= 32 * k) (hr : (rs.getD k []).length <= 1000) :
 (apE23 sum8 D (rs.getD k []) = 0 ∧ Jex sum8 (apN23 sum8 D (rs.getD k [])) (rs.take (k + 1)) ∧ jrW (rs.take (k + 1)) <= 32 * (k + 1)) ∨ (apE23 sum8 D (rs.getD k []) = 220 ∧ Jkp sum8 (apN23 sum8 D (rs.getD k [])) (rs.take k)) := by
 have hj : jrN (rs.getD k []).length <= 32 := by unfold jrN; omega
 have hc := h.count
 rcases h.append (r := rs.getD k []) (by omega) (by omega) with ⟨h3, h4⟩ | ⟨h3, h4⟩
 · exact .inl ⟨h3, (take_snoc23 hk).symm ▸ h4, by rw [jrW_snoc hk]; omega⟩
 · exact .inr ⟨h3, h4⟩
end Go.Proofs.Ythialdipnhggnaa
