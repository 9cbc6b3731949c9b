import Derived.Test.YtipobchbnjgenaaGreatBWkrC
set_option linter.unusedVariables false
set_option linter.unusedSimpArgs false
set_option maxRecDepth 100000
set_option maxHeartbeats 4000000
namespace Go.Proofs.YtipobchbnjgenaaGreat
open Go.RowKit Fld
theorem vals_append (a b : List Int) : vals (a ++ b) = vals a ++ vals b := by unfold vals; rw [List.map_append]
theorem appWO (W : World) (base lo : Nat) (u : Value) (A B : List Int) (vb : Value) (hO : W.ownsRow base 83 1 u A.length (vals A)) (hB : W.ownsRow lo 83 1 vb B.length (vals B)) (hl : A.length + B.length <= 100000) (hb : base <= W.heap.size) :
 ∃ v' W', (Builtin.append_ #[54, 54] 54 #[u, vb]).run Tryz.prog W = .ok v' W' ∧ W'.ownsRow base 83 1 v' (A ++ B).length (vals (A ++ B)) ∧ Below base W W' := by
 obtain ⟨i0, hi0, hz0, hz1, hz2⟩ := info_parts u64_info
 rcases hB.2 with ⟨rfl, h0⟩ | ⟨g, cap, cur, rfl, h2, h3, h4, h5, h6, h7⟩
 · have hB0 : B = [] := List.length_eq_zero_iff.1 h0
   subst hB0
   exact ⟨u, W, run_append_owned_none (P := Tryz.prog) W base 54 54 83 i0 1 Tryz.underlying54 hi0 u A.length (vals A) hO, by rw [List.append_nil]; exact hO, Below.refl _ _⟩
 · obtain ⟨v', W', hr, ho, hg, _, hbk⟩ := run_append_own_at (P := Tryz.prog) (w := W) base 54 54 83 i0 (.int .u64 0) 1 8 Tryz.underlying54 hi0 hz0 hz1 hz2 rfl (by decide) u A.length (vals A) hO ⟨g, 0, none⟩ B.length cap (vals B) (by rw [vals_length, Nat.mul_one]) (fun j u hj => by
    have hjl : j < B.length := by
     have := (List.getElem?_eq_some_iff.1 hj).1
     rwa [vals_length] at this
    have hadd : (⟨g, 0, none⟩ : Addr).add j = ⟨g, j, none⟩ := by unfold Addr.add; split <;> simp_all
    rw [vals_at B j hjl] at hj
    rw [hadd, own_cell hB rfl hjl]; exact hj) (vals_one B) (by unfold maxLen; omega) (by omega) hb
   refine ⟨v', W', hr, ?_, (Below.refl base W).grown hg hb (fun k hk => own_base hO k hk)⟩
   rw [vals_append, List.length_append]; exact ho
end Go.Proofs.YtipobchbnjgenaaGreat
namespace Go.Proofs.YtipobchbnjgenaaGreat
open Go.RowKit Go.Maps Fld Slp Pln
theorem lCloneO (v : Value) (xs : List O4) (w : World) (h : Lm opw 4 w v xs) (hl : xs.length <= 100000) : Calls Tryz.prog 42 #[v] w fun e w' => ∃ v', e = .returned v' ∧ w'.ownsRow w.heap.size 85 4 v' xs.length (xs.flatMap opw) ∧ Below w.heap.size w w' := by
 obtain ⟨a, c, rfl, hc⟩ := h.spell
 cases a with
 | none =>
  obtain ⟨h1, h2, rfl⟩ := h.none_
  subst h2
  clear h hc hl h1
  have hq := Lib.run_eql_slice_nil (P := Tryz.prog)
  go_enter Tryz.func42, Tryz.ntmps42
  go_wp2
  go_ret
  exact ⟨_, rfl, own_nil _ _ _ _, Below.refl _ _⟩
 | some ad =>
  have hB := alloc_below w (.cells #[] 85)
  obtain ⟨v', W', hr, ho, hb, hg⟩ := appOw (w.alloc (.cells #[] 85)) w.heap.size _ [] xs (.slice (some ad) xs.length c) (own_zero w 85 4 w.heap.size (Nat.le_refl _)) (h.below hB) (by simp; omega) hB.size
  rw [List.nil_append, List.length_nil, Nat.zero_add] at ho
  have HO := hide ho
  have hq := Lib.run_eql_slice_nil (P := Tryz.prog)
  clear ho h
  go_enter Tryz.func42, Tryz.ntmps42
  go_wp2_with (at_builtin; refine Lib.wpList_append_run _ rfl _ _ _ _ rfl _ _ rfl rfl _ _ hr ?_)
  go_ret
  exact ⟨_, rfl, HO.out, hB.trans hb⟩
theorem lCloneWO (v : Value) (xs : List Int) (lo : Nat) (w : World) (h : w.ownsRow lo 83 1 v xs.length (vals xs)) (hl : xs.length <= 100000) : Calls Tryz.prog 53 #[v] w fun e w' => ∃ v', e = .returned v' ∧ w'.ownsRow w.heap.size 83 1 v' xs.length (vals xs) ∧ Below w.heap.size w w' := by
 have hq := Lib.run_eql_slice_nil (P := Tryz.prog)
 have hB := alloc_below w (.cells #[] 83)
 obtain ⟨v', W', hr, ho, hb⟩ := appWO (w.alloc (.cells #[] 83)) w.heap.size lo _ [] xs v (own_zero w 83 1 w.heap.size (Nat.le_refl _)) (own_below h hB) (by simp; omega) hB.size
 rw [List.nil_append] at ho
 have HO := hide ho
 clear ho
 rcases h.2 with ⟨rfl, h0⟩ | ⟨g, cap, cur, rfl, _⟩
 · have hx : xs = [] := List.length_eq_zero_iff.1 h0
   subst hx
   clear h hr hB hb HO
   go_enter Tryz.func53, Tryz.ntmps53
   go_wp2
   go_ret
   exact ⟨_, rfl, own_nil _ _ _ _, Below.refl _ _⟩
 · clear h
   go_enter Tryz.func53, Tryz.ntmps53
   go_wp2_with (at_builtin; refine Lib.wpList_append_run _ rfl _ _ _ _ rfl _ _ rfl rfl _ _ hr ?_)
   go_ret
   exact ⟨_, rfl, HO.out, hB.trans hb⟩
section
variable {w : World} {base kb mb g : Nat} {vo vu : Value} {p : Pn} {q : Pr} {id : Int} {st : Wk}
theorem gShare24 (h : Wp w base kb mb g vo vu p q id st) (r : Int) (hr : -9223372036854775808 <= r ∧ r <= 9223372036854775807) (hl : (shW st.L r).length <= 100000) :
 Calls Tryz.prog 14 #[.pointer (some ⟨kb, 0, none⟩), .int .i64 r] w fun e w' => ∃ v', e = .returned (.tuple #[v', .bool (fndW st.L r).isSome]) ∧ w'.ownsRow w.heap.size 83 1 v' (shW st.L r).length (vals (shW st.L r)) ∧ Below w.heap.size w w' := by
 have HM := hide (gMade h)
 obtain ⟨_, _, k13, _⟩ := h.cells
 obtain ⟨vs, hlk, hos⟩ := h.map.look hr
 have HC := hide (lCloneWO vs (shW st.L r) base w hos hl)
 obtain ⟨av, cv, rfl⟩ := own_form hos
 clear h hos hl
 generalize (fndW st.L r).isSome = b at *
 generalize shW st.L r = xs at *
 obtain ⟨n7, hn7⟩ : ∃ n7, Hid (xs.length = n7) := ⟨_, rfl⟩
 rw [hn7.out] at hlk HC ⊢
 go_enter Tryz.func14, Tryz.ntmps14
 go_wp2_with (first
  | (go_at_call 49; refine HM.out.mono ?_; rintro e w1 ⟨rfl, hw1⟩; rw [hw1]; clear hw1)
  | (go_at_call 53; refine HC.out.mono ?_; rintro e w2 ⟨v2, rfl, ho2, hb2⟩))
 go_ret2
 exact ⟨_, rfl, ho2, hb2⟩
theorem gDown (h : Wp w base kb mb g vo vu p q id st) : Calls Tryz.prog 20 #[.pointer (some ⟨kb, 0, none⟩)] w fun e w' => e = .returned (.bool st.x) ∧ w' = w := by
 have HM := hide (gMade h)
 obtain ⟨_, _, _, k14⟩ := h.cells
 clear h
 generalize st.x = b at *
 go_enter Tryz.func20, Tryz.ntmps20
 go_wp2_with (go_at_call 49; refine HM.out.mono ?_; rintro e w1 ⟨rfl, hw1⟩; rw [hw1]; clear hw1)
 go_ret
 exact ⟨rfl, rfl⟩
end
theorem gOn_no (u : Value) (w : World) : Calls Tryz.prog 11 #[.pointer none, u] w fun e w' => e = .returned (.tuple #[.slice none 0 0, .int .i64 1]) ∧ w' = w := by
 have HM := hide (fun W => gMade_no W)
 go_enter Tryz.func11, Tryz.ntmps11
 go_wp2_with (go_at_call 49; refine (HM.out _).mono ?_; rintro e w1 ⟨rfl, hw1⟩; rw [hw1]; clear hw1)
 go_ret2
 exact ⟨rfl, rfl⟩
theorem gShare_no (r : Int) (w : World) : Calls Tryz.prog 14 #[.pointer none, .int .i64 r] w fun e w' => e = .returned (.tuple #[.slice none 0 0, .bool false]) ∧ w' = w := by
 have HM := hide (fun W => gMade_no W)
 go_enter Tryz.func14, Tryz.ntmps14
 go_wp2_with (go_at_call 49; refine (HM.out _).mono ?_; rintro e w1 ⟨rfl, hw1⟩; rw [hw1]; clear hw1)
 go_ret2
 exact ⟨rfl, rfl⟩
theorem gDown_no (w : World) : Calls Tryz.prog 20 #[.pointer none] w fun e w' => e = .returned (.bool false) ∧ w' = w := by
 have HM := hide (fun W => gMade_no W)
 go_enter Tryz.func20, Tryz.ntmps20
 go_wp2_with (go_at_call 49; refine (HM.out _).mono ?_; rintro e w1 ⟨rfl, hw1⟩; rw [hw1]; clear hw1)
 go_ret
 exact ⟨rfl, rfl⟩
theorem gRounds_no (w : World) : Calls Tryz.prog 18 #[.pointer none] w fun e w' => e = .returned (.slice none 0 0) ∧ w' = w := by
 have HM := hide (fun W => gMade_no W)
 go_enter Tryz.func18, Tryz.ntmps18
 go_wp2_with (go_at_call 49; refine (HM.out _).mono ?_; rintro e w1 ⟨rfl, hw1⟩; rw [hw1]; clear hw1)
 go_ret
 exact ⟨rfl, rfl⟩
theorem gNew_no24 (v1 v2 : Value) (id : Int) (w : World) (f n k t s e d wd inp : Int) (vo vu : Value) (h1 : v1 = .agg #[.int .u8 f, .int .i64 n, .int .i64 k, .int .i64 t, .int .i64 s, .int .i64 e, .int .i64 d, .int .i64 wd]) (h2 : v2 = .agg #[.int .i64 inp, vo, vu]) (ho : ∃ a l c, vo = .slice a l c) (hu : ∃ a l c, vu = .slice a l c) : Calls Tryz.prog 9 #[v1, v2, .int .i64 id, .pointer none] w fun e w' => e = .returned (.tuple #[.pointer none, .int .i64 1]) ∧ Below w.heap.size w w' := by
 have HM := hide (fun W => gDisk_no W)
 obtain ⟨ao, lo, co', rfl⟩ := ho
 obtain ⟨au, lu, cu, rfl⟩ := hu
 subst h1 h2
 have hB := Below.next (alloc_below w (.cells #[.int .u8 f, .int .i64 n, .int .i64 k, .int .i64 t, .int .i64 s, .int .i64 e, .int .i64 d, .int .i64 wd] 24)) (alloc_below (w.alloc (.cells #[.int .u8 f, .int .i64 n, .int .i64 k, .int .i64 t, .int .i64 s, .int .i64 e, .int .i64 d, .int .i64 wd] 24)) (.cells #[.int .i64 inp, .slice ao lo co', .slice au lu cu] 28))
 go_enter Tryz.func9, Tryz.ntmps9
 go_wp2_with (go_at_call 39; refine (HM.out _).mono ?_; rintro e w1 ⟨rfl, hw1⟩; rw [hw1]; clear hw1)
 go_ret2
 exact ⟨rfl, hB⟩
end Go.Proofs.YtipobchbnjgenaaGreat
