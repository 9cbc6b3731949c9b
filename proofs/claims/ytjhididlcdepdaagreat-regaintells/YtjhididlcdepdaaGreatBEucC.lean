import Derived.Test.YtjhididlcdepdaaGreatBunJ
set_option linter.unusedVariables false
set_option linter.unusedSimpArgs false
set_option maxRecDepth 100000
set_option maxHeartbeats 4000000
namespace Go.Proofs.YtjhididlcdepdaaGreat
open Go.RowKit Fld
namespace Fld
end Fld
theorem mul_facts {f p : Int} {wd : Bool} (h : Fi f p wd) {xs ys : List Int} (hx : Tm p xs) (hy : Tm p ys) (l1 : xs.length <= 4096) (l2 : ys.length <= 4096) (l : xs.length + ys.length <= 4097) :
 mulE f xs ys = 0 ∧ Tm p (mulL f xs ys) ∧ pl p (mulL f xs ys) = qm (pl p xs) (pl p ys) ∧ (mulL f xs ys).length <= 4096 := by
 have he := er_yes h (allIn_of hx.1) (allIn_of hy.1) l1 l2
 have h0 : mulE f xs ys = 0 := by unfold mulE; rw [if_pos he, hx.2, hy.2, if_neg (by omega)]
 have e : mulL f xs ys = prd p xs ys := by unfold mulL; rw [h0, if_pos rfl, pOf_eq h, hx.2, hy.2]
 have hi := (is_prd h.md hx.1 hy.1 hx.2 hy.2).tm
 exact ⟨h0, by rw [e]; exact hi.1, by rw [e]; exact hi.2, mulL_len f xs ys⟩
theorem sub_facts {f p : Int} {wd : Bool} (h : Fi f p wd) {xs ys : List Int} (hx : Els p xs) (hy : Els p ys) (l1 : xs.length <= 4096) (l2 : ys.length <= 4096) :
 er f xs ys = 0 ∧ Tm p (subL f xs ys) ∧ qa (pl p (subL f xs ys)) (pl p ys) = pl p xs := by
 have he := er_yes h (allIn_of hx) (allIn_of hy) l1 l2
 have e : subL f xs ys = tr (sm p (sub p 0 1) xs ys) := by unfold subL; rw [if_pos he, pOf_eq h]
 have hi := (is_sub h.pos xs ys).tm
 refine ⟨he, by rw [e]; exact hi.1, ?_⟩
 rw [e, hi.2]
 show qa (pu p _) (pu p (co ys)) = pu p (co xs)
 rw [qa_pu]; congr 1; funext i; exact Int.sub_add_cancel _ _
def chE (f : Int) (xs ys : List Int) : Int := if er f xs ys = 2 then 2 else if 2048 < xs.length ∨ 2048 < ys.length then 4 else 0
def stE (f : Int) (xs ys : List Int) (s : Int) : Int := if s < 0 then 2 else chE f xs ys
theorem er_four {f : Int} {xs ys : List Int} (h : er f xs ys = 4) : 4096 < xs.length ∨ 4096 < ys.length := by
 unfold er erb at h
 split at h
 · split at h
   · assumption
   · cases h
 · cases h
theorem er_cases (f : Int) (xs ys : List Int) : er f xs ys = 0 ∨ er f xs ys = 2 ∨ er f xs ys = 4 := erb_ne _ _ _ _
theorem chE_ne {f : Int} {xs ys : List Int} (h : er f xs ys ≠ 0) : chE f xs ys = er f xs ys := by
 unfold chE
 rcases er_cases f xs ys with e | e | e
 · exact absurd e h
 · rw [if_pos e, e]
 · rw [if_neg (by omega), e]
   have := er_four e
   rw [if_pos (by omega)]
theorem chE_zero {f : Int} {xs ys : List Int} (h : chE f xs ys = 0) : ∃ p wd, Fi f p wd ∧ allIn p xs = true ∧ allIn p ys = true ∧ xs.length <= 2048 ∧ ys.length <= 2048 := by
 by_cases he : er f xs ys = 0
 · obtain ⟨p, wd, hf, i1, i2, _, _⟩ := er_zero he
   refine ⟨p, wd, hf, i1, i2, ?_⟩
   unfold chE at h
   rw [if_neg (by omega)] at h
   split at h
   · cases h
   · omega
 · rw [chE_ne he] at h; exact absurd h he
theorem chE_yes {f p : Int} {wd : Bool} {xs ys : List Int} (h : Fi f p wd) (h1 : Els p xs) (h2 : Els p ys) (l1 : xs.length <= 2048) (l2 : ys.length <= 2048) : chE f xs ys = 0 := by
 unfold chE
 rw [er_yes h (allIn_of h1) (allIn_of h2) (by omega) (by omega), if_neg (by decide), if_neg (by omega)]
theorem stE_zero {f s : Int} {xs ys : List Int} (h : stE f xs ys s = 0) : 0 <= s ∧ chE f xs ys = 0 := by
 unfold stE at h
 split at h
 · cases h
 · exact ⟨by omega, h⟩
theorem eCheck_any (f : Int) (v1 v2 : Value) (xs ys : List Int) (w : World) (h1 : Rw w v1 xs) (h2 : Rw w v2 ys) :
 Calls Tryz.prog 178 #[.int .u8 f, v1, v2] w fun e w' => e = .returned (.int .i64 (chE f xs ys)) ∧ Below w.heap.size w w' := by
 obtain ⟨a1, c1, rfl, _⟩ := h1.spell
 obtain ⟨a2, c2, rfl, _⟩ := h2.spell
 have hk := hide (pAdd_any f _ _ xs ys w h1 h2)
 unfold Gives at hk
 have l1 := h1.len
 have l2 := h2.len
 clear h1 h2
 by_cases he : er f xs ys = 0
 · have HC : Hid (chE f xs ys = if 2048 < xs.length ∨ 2048 < ys.length then 4 else 0) := by show _ = _; unfold chE; rw [if_neg (by omega)]
   rw [he] at hk
   rw [HC.out]
   clear HC he
   generalize xs.length = n1 at *
   generalize ys.length = n2 at *
   generalize addL f xs ys = zs at *
   by_cases hn : 2048 < n1 ∨ 2048 < n2
   · rw [if_pos hn]
     have hmx : (2048 : Int) < max (n1 : Int) (n2 : Int) := by omega
     go_enter Tryz.func178, Tryz.ntmps178
     go_wp2_with (go_at_call 118; refine hk.out.mono ?_; rintro e w1 ⟨v', rfl, _, hb⟩)
     all_goals (go_ret; exact ⟨rfl, hb⟩)
   · rw [if_neg hn]
     have hmx : ¬ (2048 : Int) < max (n1 : Int) (n2 : Int) := by omega
     go_enter Tryz.func178, Tryz.ntmps178
     go_wp2_with (go_at_call 118; refine hk.out.mono ?_; rintro e w1 ⟨v', rfl, _, hb⟩)
     all_goals (go_ret; exact ⟨rfl, hb⟩)
 · have ht : (er f xs ys != 0) = true := bne_iff_ne.2 he
   rw [chE_ne he]
   clear he
   generalize er f xs ys = e0 at *
   generalize addL f xs ys = zs at *
   go_enter Tryz.func178, Tryz.ntmps178
   go_wp2_with (go_at_call 118; refine hk.out.mono ?_; rintro e w1 ⟨v', rfl, _, hb⟩)
   go_ret
   exact ⟨rfl, hb⟩
theorem eStop_any (f : Int) (v1 v2 : Value) (xs ys : List Int) (s : Int) (w : World) (h1 : Rw w v1 xs) (h2 : Rw w v2 ys) :
 Calls Tryz.prog 149 #[.int .u8 f, v1, v2, .int .i64 s] w fun e w' => e = .returned (.int .i64 (stE f xs ys s)) ∧ Below w.heap.size w w' := by
 have hk := hide (eCheck_any f v1 v2 xs ys w h1 h2)
 unfold stE
 clear h1 h2
 generalize chE f xs ys = e0 at *
 by_cases hs : s < 0
 · rw [if_pos hs]
   go_enter Tryz.func149, Tryz.ntmps149
   go_wp2
   go_ret
   exact ⟨rfl, Below.refl _ _⟩
 · rw [if_neg hs]
   go_enter Tryz.func149, Tryz.ntmps149
   go_wp2_with (go_at_call 178; refine hk.out.mono ?_; rintro e w1 ⟨rfl, hb⟩)
   go_ret
   exact ⟨rfl, hb⟩
theorem less_any (f p : Int) (wd : Bool) (v1 v2 v3 : Value) (xs qs ys : List Int) (w : World) (h : Fi f p wd) (h1 : Rw w v1 xs) (h2 : Rw w v2 qs) (h3 : Rw w v3 ys) (t1 : Tm p xs) (t2 : Tm p qs) (t3 : Tm p ys) (l1 : xs.length <= 4096) (l2 : qs.length <= 4096) (l3 : ys.length <= 4096) (l : qs.length + ys.length <= 4097) :
 Calls Tryz.prog 190 #[.int .u8 f, v1, v2, v3] w fun e w' => ∃ v' zs, e = .returned v' ∧ Rw w' v' zs ∧ Tm p zs ∧ qa (pl p zs) (qm (pl p qs) (pl p ys)) = pl p xs ∧ Below w.heap.size w w' := by
 have hmf := mul_facts h t2 t3 l2 l3 l
 have hm := hide (pMul_any f v2 v3 qs ys w h2 h3)
 unfold Gives at hm
 rw [hmf.1] at hm
 have hsf := sub_facts h t1.1 hmf.2.1.1 l1 hmf.2.2.2
 have HW := hide (mulL_wd f qs ys)
 have HWs := hide (subL_wd f xs (mulL f qs ys))
 have hs := hide (fun W v (hb : Below w.heap.size w W) (hr : Rw W v (mulL f qs ys)) => pSub_any f v1 v xs (mulL f qs ys) W (h1.below hb) hr)
 unfold Gives at hs
 rw [hsf.1] at hs
 have HF := hide (show Tm p (subL f xs (mulL f qs ys)) ∧ qa (pl p (subL f xs (mulL f qs ys))) (qm (pl p qs) (pl p ys)) = pl p xs from ⟨hsf.2.1, by rw [<- hmf.2.2.1]; exact hsf.2.2⟩)
 clear h1 h2 h3 h hmf hsf t1 t2 t3
 generalize subL f xs (mulL f qs ys) = Z at *
 generalize mulL f qs ys = M at *
 go_enter Tryz.func190, Tryz.ntmps190
 go_wp2_with (first
  | (go_at_call 170; refine hm.out.mono ?_; rintro e w1 ⟨u, rfl, hO, hb⟩; have HR := hide (HW.out.row hO); clear hO)
  | (go_at_call 163; refine (hs.out _ _ hb HR.out).mono ?_; rintro e w2 ⟨u2, rfl, hO, hb2⟩; have HR2 := hide (HWs.out.row hO); clear hO))
 go_ret
 exact ⟨_, Z, rfl, HR2.out, HF.out.1, HF.out.2, Below.next hb hb2⟩
theorem Tm.wd {p : Int} {zs : List Int} (h : Tm p zs) (hp : p <= 18446744073709551615) (hl : zs.length <= 17592186043904) : Wd zs := wd_els h.1 hp hl
theorem dv_wd {p : Int} {wd : Bool} (hm : Md p wd) (hp : p <= 18446744073709551615) {xs ys A B : List Int} (hy : Els p ys) (h : Dv p xs ys A B) (l1 : xs.length <= 4096) (l2 : ys.length <= 4096) : Wd A ∧ Wd B := by
 have := h.rg
 have hl := tr_len ys
 refine ⟨wd_els this.1.1 hp ?_, wd_els this.2.1.1 hp (by omega)⟩
 by_cases hn : A = []
 · rw [hn]; simp
 · have := h.len hm hy hn; omega
end Go.Proofs.YtjhididlcdepdaaGreat
namespace Go.Proofs.YtjhididlcdepdaaGreat
open Go.RowKit Fld
def Rr (w : World) (c0 c1 c2 : Value) (X : R3) : Prop := Rw w c0 X.x ∧ Rw w c1 X.u ∧ Rw w c2 X.v
theorem Rr.below {w w' : World} {c0 c1 c2 : Value} {X : R3} (h : Rr w c0 c1 c2 X) (hb : Below w.heap.size w w') : Rr w' c0 c1 c2 X := ⟨h.1.below hb, h.2.1.below hb, h.2.2.below hb⟩
def Th (T : TypeId) (g : Nat) (c0 c1 c2 : Value) (w : World) : Prop := w.heap[g]? = some (.cells #[c0, c1, c2] T (0, 0))
theorem Th.lt {T : TypeId} {g : Nat} {c0 c1 c2 : Value} {w : World} (h : Th T g c0 c1 c2 w) : g < w.heap.size := by
 apply Nat.lt_of_not_le; intro hc; unfold Th at h; rw [Array.getElem?_eq_none hc] at h; cases h
theorem Th.below {T : TypeId} {g : Nat} {c0 c1 c2 : Value} {w w' : World} (h : Th T g c0 c1 c2 w) (hb : Below w.heap.size w w') : Th T g c0 c1 c2 w' := by unfold Th; rw [hb.block g h.lt]; exact h
theorem Th.cell {T : TypeId} {g : Nat} {c0 c1 c2 : Value} {w : World} (h : Th T g c0 c1 c2 w) : w.cell? ⟨g, 0, none⟩ = some c0 ∧ w.cell? ⟨g, 1, none⟩ = some c1 ∧ w.cell? ⟨g, 2, none⟩ = some c2 := by
 refine ⟨?_, ?_, ?_⟩ <;> (rw [cell_of_row w g _ _ _ _ h]; rfl)
theorem Th.free {T : TypeId} {g : Nat} {c0 c1 c2 : Value} {w : World} (h : Th T g c0 c1 c2 w) (k : Nat) : w.frozen? ⟨g, k, none⟩ = false := by
 unfold Th at h; simp [World.frozen?, h]
theorem Th.first (w : World) (c0 c1 c2 : Value) (T : TypeId) : Th T w.heap.size c0 c1 c2 (w.alloc (.cells #[c0, c1, c2] T)) := by
 unfold Th
 have : (w.alloc (.cells #[c0, c1, c2] T)).heap = w.heap.push (.cells #[c0, c1, c2] T) := rfl
 rw [this]; simp
def Sl (v : Value) : Prop := ∃ a n c, v = .slice a n c
theorem Rw.sl {w : World} {v : Value} {xs : List Int} (h : Rw w v xs) : Sl v := by obtain ⟨_, a, n, c, h, _⟩ := h; exact ⟨a, n, c, h⟩
theorem sl_nil : Sl (.slice none 0 0) := ⟨_, _, _, rfl⟩
theorem cell_apart {w : World} {k g i j : Nat} {v : Value} (h : g ≠ k) : (w.setCell ⟨k, i, none⟩ v).cell? ⟨g, j, none⟩ = w.cell? ⟨g, j, none⟩ := by
 have := Below.heap_setCell w ⟨k, i, none⟩ v g h
 simp only [World.cell?]
 rw [this]
def set3 (w : World) (g : Nat) (e0 e1 e2 : Value) : World := ((w.setCell ⟨g, 0, none⟩ e0).setCell ⟨g, 1, none⟩ e1).setCell ⟨g, 2, none⟩ e2
theorem set3_size (w : World) (g : Nat) (e0 e1 e2 : Value) : (set3 w g e0 e1 e2).heap.size = w.heap.size := by unfold set3; simp [World.setCell]
theorem Rw.apart {T : TypeId} {w : World} {v : Value} {xs : List Int} {k : Nat} {c0 c1 c2 e0 e1 e2 : Value} (h : Rw w v xs) (hT : Th T k c0 c1 c2 w) (s0 : Sl c0) (s1 : Sl c1) (s2 : Sl c2) : Rw (set3 w k e0 e1 e2) v xs := by
 obtain ⟨⟨ao, cap, h1, h2, h3, h4⟩, h5⟩ := h
 refine ⟨⟨ao, cap, h1, h2, h3, fun hne => ?_⟩, h5⟩
 obtain ⟨b, off, h6, h7, h8⟩ := h4 hne
 refine ⟨b, off, h6, by rw [set3_size]; exact h7, fun i hi => ?_⟩
 have hbk : b ≠ k := by
  intro e
  subst e
  have h9 := h8 0 (List.length_pos_iff.2 hne)
  rw [cell_of_row w b (off + 0) _ _ _ hT] at h9
  obtain ⟨_, _, _, rfl⟩ := s0
  obtain ⟨_, _, _, rfl⟩ := s1
  obtain ⟨_, _, _, rfl⟩ := s2
  match off, h9 with
  | 0, h9 => simp at h9
  | 1, h9 => simp at h9
  | 2, h9 => simp at h9
  | n + 3, h9 => simp at h9
 unfold set3
 rw [cell_apart hbk, cell_apart hbk, cell_apart hbk]; exact h8 i hi
theorem Rr.apart {T : TypeId} {w : World} {x0 x1 x2 : Value} {X : R3} {k : Nat} {c0 c1 c2 e0 e1 e2 : Value} (h : Rr w x0 x1 x2 X) (hT : Th T k c0 c1 c2 w) (s0 : Sl c0) (s1 : Sl c1) (s2 : Sl c2) : Rr (set3 w k e0 e1 e2) x0 x1 x2 X :=
 ⟨h.1.apart hT s0 s1 s2, h.2.1.apart hT s0 s1 s2, h.2.2.apart hT s0 s1 s2⟩
theorem below_set3 {b g : Nat} {w w' : World} {e0 e1 e2 : Value} (h : Below b w w') (hg : b <= g) : Below b w (set3 w' g e0 e1 e2) := ((h.setCell hg _).setCell hg _).setCell hg _
def FK (T : TypeId) (w : World) (n : Nat) (c0 c1 c2 d0 d1 d2 vq vr : Value) (A B : List Int) (w' : World) : Prop := Th T n c0 c1 c2 w' ∧ Th T (n + 1) d0 d1 d2 w' ∧ Th T (n + 1 + 1) (.slice none 0 0) (.slice none 0 0) (.slice none 0 0) w' ∧ Rw w' vq A ∧ Rw w' vr B ∧ Below w.heap.size w w'
theorem FK.below {T : TypeId} {w : World} {n : Nat} {c0 c1 c2 d0 d1 d2 vq vr : Value} {A B : List Int} {w1 w2 : World} (h : FK T w n c0 c1 c2 d0 d1 d2 vq vr A B w1) (hb : Below w1.heap.size w1 w2) : FK T w n c0 c1 c2 d0 d1 d2 vq vr A B w2 :=
 ⟨h.1.below hb, h.2.1.below hb, h.2.2.1.below hb, h.2.2.2.1.below hb, h.2.2.2.2.1.below hb, Below.next h.2.2.2.2.2 hb⟩
theorem block_set {T : TypeId} {g i : Nat} {cs : Array Value} {z : Nat × Nat} {v : Value} {w : World} (h : w.heap[g]? = some (.cells cs T z)) : (w.setCell ⟨g, i, none⟩ v).heap[g]? = some (.cells (cs.setIfInBounds i v) T z) := by
 simp only [World.setCell, Array.getElem?_modify, if_true, h]; rfl
theorem Th.set {T : TypeId} {g : Nat} {c0 c1 c2 e0 e1 e2 : Value} {w : World} (h : Th T g c0 c1 c2 w) : Th T g e0 e1 e2 (set3 w g e0 e1 e2) := block_set (block_set (block_set h))
theorem Th.apart {T : TypeId} {g k : Nat} {c0 c1 c2 e0 e1 e2 : Value} {w : World} (h : Th T g c0 c1 c2 w) (hne : g ≠ k) : Th T g c0 c1 c2 (set3 w k e0 e1 e2) := by
 unfold Th at h ⊢
 unfold set3
 rw [Below.heap_setCell _ _ _ _ hne, Below.heap_setCell _ _ _ _ hne, Below.heap_setCell _ _ _ _ hne]; exact h
theorem FK.fs {T : TypeId} {w : World} {n : Nat} {c0 c1 c2 d0 d1 d2 vq vr : Value} {A B : List Int} {w' : World} (h : FK T w n c0 c1 c2 d0 d1 d2 vq vr A B w') : w'.cell? ⟨n, 1, none⟩ = some c1 ∧ w'.cell? ⟨n, 2, none⟩ = some c2 ∧ w'.cell? ⟨n + 1, 1, none⟩ = some d1 ∧ w'.cell? ⟨n + 1, 2, none⟩ = some d2 := ⟨h.1.cell.2.1, h.1.cell.2.2, h.2.1.cell.2.1, h.2.1.cell.2.2⟩
theorem FK.fs3 {T : TypeId} {w : World} {n : Nat} {c0 c1 c2 d0 d1 d2 vq vr e0 e1 e2 : Value} {A B : List Int} {w' : World} (h : FK T w n c0 c1 c2 d0 d1 d2 vq vr A B w') : (((w'.setCell ⟨n + 1 + 1, 0, none⟩ e0).setCell ⟨n + 1 + 1, 1, none⟩ e1).setCell ⟨n + 1 + 1, 2, none⟩ e2).cell? ⟨n, 1, none⟩ = some c1 ∧ (((w'.setCell ⟨n + 1 + 1, 0, none⟩ e0).setCell ⟨n + 1 + 1, 1, none⟩ e1).setCell ⟨n + 1 + 1, 2, none⟩ e2).cell? ⟨n, 2, none⟩ = some c2 ∧ (((w'.setCell ⟨n + 1 + 1, 0, none⟩ e0).setCell ⟨n + 1 + 1, 1, none⟩ e1).setCell ⟨n + 1 + 1, 2, none⟩ e2).cell? ⟨n + 1, 1, none⟩ = some d1 ∧ (((w'.setCell ⟨n + 1 + 1, 0, none⟩ e0).setCell ⟨n + 1 + 1, 1, none⟩ e1).setCell ⟨n + 1 + 1, 2, none⟩ e2).cell? ⟨n + 1, 2, none⟩ = some d2 := by
 have h1 : n ≠ n + 1 + 1 := by omega
 have h2 : n + 1 ≠ n + 1 + 1 := by omega
 refine ⟨?_, ?_, ?_, ?_⟩
 · rw [cell_apart h1, cell_apart h1, cell_apart h1]; exact h.fs.1
 · rw [cell_apart h1, cell_apart h1, cell_apart h1]; exact h.fs.2.1
 · rw [cell_apart h2, cell_apart h2, cell_apart h2]; exact h.fs.2.2.1
 · rw [cell_apart h2, cell_apart h2, cell_apart h2]; exact h.fs.2.2.2
theorem in2_lens {p : Int} {wd : Bool} (hm : Md p wd) {a b : List Int} {X Y : R3} (h : In2 p a b X Y) (ha : (tr a).length <= 2048) (hb : (tr b).length <= 2048) : X.x.length <= 2048 ∧ Y.x.length <= 2048 ∧ X.u.length <= 2049 ∧ Y.u.length <= 2049 ∧ X.v.length <= 2049 ∧ Y.v.length <= 2049 ∧
 (∀ q z, Dv p X.x Y.x q z -> q.length <= 2048 ∧ q.length + Y.u.length <= 4097 ∧ q.length + Y.v.length <= 4097) := by
 have h1 := h.nx
 have h2 := h.ny
 have h3 : X.u.length <= 2049 := by rcases h.lu with e | e; (rw [e]; exact Nat.zero_le _); omega
 have h4 : Y.u.length <= 2049 := by rcases h.mu with e | e; (rw [e]; exact Nat.zero_le _); omega
 have h5 : X.v.length <= 2049 := by rcases h.lv with e | e; (rw [e]; exact Nat.zero_le _); omega
 have h6 : Y.v.length <= 2049 := by rcases h.mv with e | e; (rw [e]; exact Nat.zero_le _); omega
 refine ⟨by omega, by omega, h3, h4, h5, h6, fun q z hd => ?_⟩
 have hq : q.length <= 2048 := by
  by_cases hn : q = []
  · rw [hn]; exact Nat.zero_le _
  · have := hd.len hm h.sx.1 hn
    have k := hd.2.2.2.2.1
    omega
 exact ⟨hq, by omega, by omega⟩
theorem following_any (f p : Int) (wd : Bool) (a b : List Int) (X Y : R3) (c0 c1 c2 d0 d1 d2 : Value) (w : World) (h : Fi f p wd) (hi : In2 p a b X Y) (ha : (tr a).length <= 2048) (hb : (tr b).length <= 2048) (hX : Rr w c0 c1 c2 X) (hY : Rr w d0 d1 d2 Y) (hy : Y.x ≠ []) :
 Calls Tryz.prog 179 #[.int .u8 f, .agg #[c0, c1, c2], .agg #[d0, d1, d2]] w fun e w' => ∃ e0 e1 e2 Z, e = .returned (.agg #[e0, e1, e2]) ∧ Rr w' e0 e1 e2 Z ∧ Nx p X Y Z ∧ Below w.heap.size w w' := by
 have hl := in2_lens h.md hi ha hb
 have hE : divE f X.x Y.x = 0 := by
  unfold divE
  rw [er_yes h (allIn_of hi.tx.1) (allIn_of hi.sx.1) (by omega) (by omega), if_pos rfl, hi.sx.2, if_neg hy]
 have HD := hide (fun W (hb : Below w.heap.size w W) => pDivMod_any f _ _ X.x Y.x W (hX.1.below hb) (hY.1.below hb))
 unfold Parts at HD
 rw [hE] at HD
 have HS := hide (fun A B (hs : DvE f X.x Y.x A B) => show Dv p X.x Y.x A B by have := hs.2 hE; rw [pOf_eq h] at this; exact this)
 have HWd := hide (fun A B (hv : Dv p X.x Y.x A B) => dv_wd h.md h.top hi.sx.1 hv (by omega) (by omega))
 have L1 := hide (fun W vq q z (hv : Dv p X.x Y.x q z) (hb : Below w.heap.size w W) (hq : Rw W vq q) => less_any f p wd _ vq _ X.u q Y.u W h (hX.2.1.below hb) hq (hY.2.1.below hb) hi.tu hv.rg.1 hi.su (by omega) (by have := hl.2.2.2.2.2.2 q z hv; omega) (by omega) (by have := hl.2.2.2.2.2.2 q z hv; omega))
 have L2 := hide (fun W vq q z (hv : Dv p X.x Y.x q z) (hb : Below w.heap.size w W) (hq : Rw W vq q) => less_any f p wd _ vq _ X.v q Y.v W h (hX.2.2.below hb) hq (hY.2.2.below hb) hi.tv hv.rg.1 hi.sv (by omega) (by have := hl.2.2.2.2.2.2 q z hv; omega) (by omega) (by have := hl.2.2.2.2.2.2 q z hv; omega))
 clear hX hY hi h hE hl
 go_enter Tryz.func179, Tryz.ntmps179
 go_wp2_with fail
 have hb0 : Below w.heap.size w (((w.alloc (.cells #[c0, c1, c2] 192)).alloc (.cells #[d0, d1, d2] 192)).alloc (.cells #[.slice none 0 0, .slice none 0 0, .slice none 0 0] 192)) := ((Below.refl _ _).alloc (Nat.le_refl _) _).alloc (by simp) _ |>.alloc (by simp; omega) _
 refine (HD.out _ hb0).mono ?_; rintro e w1 ⟨vq, vr, A, B, b', rfl, hS, hOq, hOr, _, _, hb1⟩
 have HV := hide (HS.out A B hS)
 obtain ⟨ar, cr, rfl, _⟩ := ((HWd.out A B HV.out).2.row hOr).spell
 have T1 := ((((Th.first w c0 c1 c2 192).below (alloc_below _ (.cells #[d0, d1, d2] 192))).below (alloc_below _ (.cells #[.slice none 0 0, .slice none 0 0, .slice none 0 0] 192))).below hb1)
 have T2 := (((Th.first (w.alloc (.cells #[c0, c1, c2] 192)) d0 d1 d2 192).below (alloc_below _ (.cells #[.slice none 0 0, .slice none 0 0, .slice none 0 0] 192))).below hb1)
 have T3 := ((Th.first ((w.alloc (.cells #[c0, c1, c2] 192)).alloc (.cells #[d0, d1, d2] 192)) (.slice none 0 0) (.slice none 0 0) (.slice none 0 0) 192).below hb1)
 have e1 : (w.alloc (.cells #[c0, c1, c2] 192)).heap.size = w.heap.size + 1 := by simp
 have e2 : ((w.alloc (.cells #[c0, c1, c2] 192)).alloc (.cells #[d0, d1, d2] 192)).heap.size = w.heap.size + 1 + 1 := by simp
 rw [e1] at T2
 rw [e2] at T3
 have hK0 : Hid (FK 192 w w.heap.size c0 c1 c2 d0 d1 d2 vq (.slice ar B.length cr) A B w1) := ⟨T1, T2, T3, (HWd.out A B HV.out).1.row hOq, (HWd.out A B HV.out).2.row hOr, Below.next hb0 hb1⟩
 clear T1 T2 T3 e1 e2 hOq hOr hb1 hb0
 go_wp2
 have hK := hide (hK0.out.below (Below.refl w1.heap.size w1).drew)
 have hS0 := hide hK.out.fs
 go_region_held3 (fun w' => w'.cell? ⟨w.heap.size, 1, none⟩ = some c1 ∧ w'.cell? ⟨w.heap.size, 2, none⟩ = some c2 ∧ w'.cell? ⟨w.heap.size + 1, 1, none⟩ = some d1 ∧ w'.cell? ⟨w.heap.size + 1, 2, none⟩ = some d2) (first | with_reducible exact hS2.out | with_reducible exact hS1.out | with_reducible exact hS0.out | with_reducible exact hK2.out.fs3) (first
  | (go_at_call 190; refine (L2.out _ vq A B HV.out hK1.out.2.2.2.2.2 hK1.out.2.2.2.1).mono ?_; rintro e w3 ⟨u2, Z2, rfl, hr2, ht2, hz2, hb3⟩; have hK2 := hide (hK1.out.below hb3); have hS2 := hide hK2.out.fs; have q0 := hK2.out.2.2.1.cell; have q1 := q0.1; have q2 := q0.2.1; have q3 := q0.2.2; clear q0; have q4 := hK2.out.2.2.1.free 0; have q5 := hK2.out.2.2.1.free 1; have q6 := hK2.out.2.2.1.free 2; have HU2 := hide (HU.out.below hb3); obtain ⟨x2, y2, rfl, _⟩ := hr2.spell; have HU3 := hide hr2; clear hr2)
  | (go_at_call 190; refine (L1.out _ vq A B HV.out hK.out.2.2.2.2.2 hK.out.2.2.2.1).mono ?_; rintro e w2 ⟨u1, Z1, rfl, hr1, ht1, hz1, hb2⟩; have hK1 := hide (hK.out.below hb2); have hS1 := hide hK1.out.fs; obtain ⟨x1, y1, rfl, _⟩ := hr1.spell; have HU := hide hr1; clear hr1))
 have hT := hK2.out.2.2.1
 have HT := hide (hT.set (e0 := .slice ar B.length cr) (e1 := .slice x1 Z1.length y1) (e2 := .slice x2 Z2.length y2))
 have HB := hide (below_set3 (e0 := .slice ar B.length cr) (e1 := .slice x1 Z1.length y1) (e2 := .slice x2 Z2.length y2) hK2.out.2.2.2.2.2 (show w.heap.size <= w.heap.size + 1 + 1 by omega))
 have HR : Hid (Rr (set3 w3 (w.heap.size + 1 + 1) (.slice ar B.length cr) (.slice x1 Z1.length y1) (.slice x2 Z2.length y2)) (.slice ar B.length cr) (.slice x1 Z1.length y1) (.slice x2 Z2.length y2) ⟨B, Z1, Z2⟩) :=
  Rr.apart ⟨hK2.out.2.2.2.2.1, HU2.out, HU3.out⟩ hT sl_nil sl_nil sl_nil
 clear hT
 have e : ((w3.setCell ⟨w.heap.size + 1 + 1, 0, none⟩ (.slice ar B.length cr)).setCell ⟨w.heap.size + 1 + 1, 1, none⟩ (.slice x1 Z1.length y1)).setCell ⟨w.heap.size + 1 + 1, 2, none⟩ (.slice x2 Z2.length y2) = set3 w3 (w.heap.size + 1 + 1) (.slice ar B.length cr) (.slice x1 Z1.length y1) (.slice x2 Z2.length y2) := rfl
 rw [e]
 clear e q1 q2 q3 q4 q5 q6
 generalize set3 w3 (w.heap.size + 1 + 1) (.slice ar B.length cr) (.slice x1 Z1.length y1) (.slice x2 Z2.length y2) = wF at *
 obtain ⟨g1, g2, g3⟩ := HT.out.cell
 go_wp2
 refine bodyPost_ret (v := .agg #[.slice ar B.length cr, .slice x1 Z1.length y1, .slice x2 Z2.length y2]) ?_ rfl ⟨_, _, _, ⟨B, Z1, Z2⟩, rfl, HR.out, ⟨A, HV.out, ht1, ht2, hz1, hz2⟩, HB.out⟩
 simp [results, Tryz.results179, go_sem, g1, g2, g3]
theorem rw_one (w : World) (T : TypeId) : Rw (w.alloc (.cells #[.int .u64 1] T)) (.slice (some ⟨w.heap.size, 0, none⟩) 1 1) [1] := rw1 w 1 (by decide) T
theorem drew_below (w : World) : Below w.heap.size w w.drew := (Below.refl w.heap.size w).drew
theorem set_two {T : TypeId} {w : World} {g1 g2 : Nat} {o0 o1 o2 p0 p1 p2 e0 e1 e2 d0 d1 d2 : Value} (T1 : Th T g1 o0 o1 o2 w) (T2 : Th T g2 p0 p1 p2 w) (hne : g1 ≠ g2) (s0 : Sl o0) (s1 : Sl o1) (s2 : Sl o2) (t0 : Sl p0) (t1 : Sl p1) (t2 : Sl p2) :
 Th T g1 e0 e1 e2 (set3 (set3 w g1 e0 e1 e2) g2 d0 d1 d2).drew ∧ Th T g2 d0 d1 d2 (set3 (set3 w g1 e0 e1 e2) g2 d0 d1 d2).drew ∧ (∀ g c0 c1 c2, g ≠ g1 -> g ≠ g2 -> Th T g c0 c1 c2 w -> Th T g c0 c1 c2 (set3 (set3 w g1 e0 e1 e2) g2 d0 d1 d2).drew) ∧
  (∀ c0 c1 c2 X, Rr w c0 c1 c2 X -> Rr (set3 (set3 w g1 e0 e1 e2) g2 d0 d1 d2).drew c0 c1 c2 X) ∧ ∀ b w0, Below b w0 w -> b <= g1 -> b <= g2 -> Below b w0 (set3 (set3 w g1 e0 e1 e2) g2 d0 d1 d2).drew :=
 ⟨((T1.set).apart hne).below (drew_below _), ((T2.apart (Ne.symm hne)).set).below (drew_below _), fun g c0 c1 c2 h1 h2 h => ((h.apart h1).apart h2).below (drew_below _),
  fun c0 c1 c2 X h => ((h.apart T1 s0 s1 s2).apart (T2.apart (Ne.symm hne)) t0 t1 t2).below (drew_below _), fun b w0 h h1 h2 => (below_set3 (below_set3 h h1) h2).drew⟩
theorem set_two0 {T : TypeId} {w : World} {g1 g2 : Nat} {o0 o1 o2 p0 p1 p2 e0 e1 e2 d0 d1 d2 : Value} (T1 : Th T g1 o0 o1 o2 w) (T2 : Th T g2 p0 p1 p2 w) (hne : g1 ≠ g2) (s0 : Sl o0) (s1 : Sl o1) (s2 : Sl o2) (t0 : Sl p0) (t1 : Sl p1) (t2 : Sl p2) :
 Th T g1 e0 e1 e2 (set3 (set3 w g1 e0 e1 e2) g2 d0 d1 d2) ∧ Th T g2 d0 d1 d2 (set3 (set3 w g1 e0 e1 e2) g2 d0 d1 d2) ∧ (∀ g c0 c1 c2, g ≠ g1 -> g ≠ g2 -> Th T g c0 c1 c2 w -> Th T g c0 c1 c2 (set3 (set3 w g1 e0 e1 e2) g2 d0 d1 d2)) ∧
  (∀ c0 c1 c2 X, Rr w c0 c1 c2 X -> Rr (set3 (set3 w g1 e0 e1 e2) g2 d0 d1 d2) c0 c1 c2 X) ∧ ∀ b w0, Below b w0 w -> b <= g1 -> b <= g2 -> Below b w0 (set3 (set3 w g1 e0 e1 e2) g2 d0 d1 d2) :=
 ⟨(T1.set).apart hne, (T2.apart (Ne.symm hne)).set, fun g c0 c1 c2 h1 h2 h => (h.apart h1).apart h2,
  fun c0 c1 c2 X h => (h.apart T1 s0 s1 s2).apart (T2.apart (Ne.symm hne)) t0 t1 t2, fun b w0 h h1 h2 => below_set3 (below_set3 h h1) h2⟩
def DK (T : TypeId) (w : World) (g1 g2 g3 : Nat) (c0 c1 c2 d0 d1 d2 : Value) (X Y : R3) (wr : World) : Prop :=
 Th T g1 (.slice none 0 0) (.slice none 0 0) (.slice none 0 0) wr ∧ Th T g2 c0 c1 c2 wr ∧ Th T g3 d0 d1 d2 wr ∧ Rr wr c0 c1 c2 X ∧ Rr wr d0 d1 d2 Y ∧ Below w.heap.size w wr
theorem DK.below {T : TypeId} {w : World} {g1 g2 g3 : Nat} {c0 c1 c2 d0 d1 d2 : Value} {X Y : R3} {w1 w2 : World} (h : DK T w g1 g2 g3 c0 c1 c2 d0 d1 d2 X Y w1) (hb : Below w1.heap.size w1 w2) : DK T w g1 g2 g3 c0 c1 c2 d0 d1 d2 X Y w2 :=
 ⟨h.1.below hb, h.2.1.below hb, h.2.2.1.below hb, h.2.2.2.1.below hb, h.2.2.2.2.1.below hb, Below.next h.2.2.2.2.2 hb⟩
theorem descend_any (f p : Int) (wd : Bool) (va vb : Value) (a b : List Int) (s : Int) (w : World) (h : Fi f p wd) (h1 : Rw w va a) (h2 : Rw w vb b) (ha : Els p a) (hb : Els p b) (la : a.length <= 2048) (lb : b.length <= 2048) (hs : 0 <= s) :
 Calls Tryz.prog 150 #[.int .u8 f, va, vb, .int .i64 s] w fun e w' => ∃ c0 c1 c2 d0 d1 d2 A B, e = .returned (.tuple #[.agg #[c0, c1, c2], .agg #[d0, d1, d2]]) ∧ Rr w' c0 c1 c2 A ∧ Rr w' d0 d1 d2 B ∧ Fnd p s.toNat a b A B ∧ Below w.heap.size w w' := by
 have HT1 := hide (fun W (hb : Below w.heap.size w W) => Trim_any va a W (h1.below hb))
 have HT2 := hide (fun W (hb : Below w.heap.size w W) => Trim_any vb b W (h2.below hb))
 have na := tr_len a
 have nb := tr_len b
 have W1 := hide (wd_els (ha.tr h.pos) h.top (show (tr a).length <= 17592186043904 by omega))
 have W2 := hide (wd_els (hb.tr h.pos) h.top (show (tr b).length <= 17592186043904 by omega))
 have HI0 := hide (In2.start h.md ha hb)
 have HF := hide (fun X Y c0 c1 c2 d0 d1 d2 W hi hX hY hy => following_any f p wd a b X Y c0 c1 c2 d0 d1 d2 W h hi (by omega) (by omega) hX hY hy)
 have HN := hide (fun X Y Z (hi : In2 p a b X Y) (hn : Nx p X Y Z) => hi.next h.md hn)
 clear h h1 h2 ha hb
 go_enter Tryz.func150, Tryz.ntmps150
 go_wp2
 go_step3
 go_wp2_with fail
 have hb0 : Below w.heap.size w ((w.alloc (.cells #[.slice none 0 0, .slice none 0 0, .slice none 0 0] 192)).alloc (.cells #[.slice none 0 0, .slice none 0 0, .slice none 0 0] 192)) := ((Below.refl _ _).alloc (Nat.le_refl _) _).alloc (by simp) _
 refine (HT1.out _ hb0).mono ?_; rintro e w1 ⟨u1, rfl, hO1, hb1⟩
 have T1 := ((Th.first w (.slice none 0 0) (.slice none 0 0) (.slice none 0 0) 192).below (alloc_below _ (.cells #[.slice none 0 0, .slice none 0 0, .slice none 0 0] 192))).below hb1
 have T2 := (Th.first (w.alloc (.cells #[.slice none 0 0, .slice none 0 0, .slice none 0 0] 192)) (.slice none 0 0) (.slice none 0 0) (.slice none 0 0) 192).below hb1
 have e1 : (w.alloc (.cells #[.slice none 0 0, .slice none 0 0, .slice none 0 0] 192)).heap.size = w.heap.size + 1 := by simp
 rw [e1] at T2
 have R1 := W1.out.row hO1
 obtain ⟨a1, k1, rfl, _⟩ := R1.spell
 have B1 := Below.next hb0 hb1
 clear e1 hO1 hb1 hb0
 have hal := alloc_below w1 (.cells #[.int .u64 1] 64)
 have T1' := T1.below hal
 have T2' := T2.below hal
 have RX : Rr (w1.alloc (.cells #[.int .u64 1] 64)) (.slice a1 (tr a).length k1) (.slice (some ⟨w1.heap.size, 0, none⟩) 1 1) (.slice none 0 0) (rwA a) := ⟨R1.below hal, rw_one w1 _, rw0 _⟩
 have B1' := Below.next B1 hal
 obtain ⟨q1, q2, q3⟩ := T2'.cell
 have q4 := T2'.free 0
 have q5 := T2'.free 1
 have q6 := T2'.free 2
 go_wp2_with fail
 have e : ((((w1.alloc (.cells #[.int .u64 1] 64)).setCell ⟨w.heap.size + 1, 0, none⟩ (.slice a1 (tr a).length k1)).setCell ⟨w.heap.size + 1, 1, none⟩ (.slice (some ⟨w1.heap.size, 0, none⟩) 1 1)).setCell ⟨w.heap.size + 1, 2, none⟩ (.slice none 0 0)) = set3 (w1.alloc (.cells #[.int .u64 1] 64)) (w.heap.size + 1) (.slice a1 (tr a).length k1) (.slice (some ⟨w1.heap.size, 0, none⟩) 1 1) (.slice none 0 0) := rfl
 rw [e]
 clear e q1 q2 q3 q4 q5 q6
 have T3 := T1'.apart (e0 := .slice a1 (tr a).length k1) (e1 := .slice (some ⟨w1.heap.size, 0, none⟩) 1 1) (e2 := .slice none 0 0) (show w.heap.size ≠ w.heap.size + 1 by omega)
 have T4 := T2'.set (e0 := .slice a1 (tr a).length k1) (e1 := .slice (some ⟨w1.heap.size, 0, none⟩) 1 1) (e2 := .slice none 0 0)
 have RX2 := RX.apart (e0 := .slice a1 (tr a).length k1) (e1 := .slice (some ⟨w1.heap.size, 0, none⟩) 1 1) (e2 := .slice none 0 0) T2' sl_nil sl_nil sl_nil
 have B2 := below_set3 (e0 := .slice a1 (tr a).length k1) (e1 := .slice (some ⟨w1.heap.size, 0, none⟩) 1 1) (e2 := .slice none 0 0) B1' (show w.heap.size <= w.heap.size + 1 by omega)
 clear T1 T2 T1' T2' RX B1' B1 hal R1
 generalize set3 (w1.alloc (.cells #[.int .u64 1] 64)) (w.heap.size + 1) (.slice a1 (tr a).length k1) (.slice (some ⟨w1.heap.size, 0, none⟩) 1 1) (.slice none 0 0) = wA at *
 refine (HT2.out _ B2).mono ?_; rintro e w2 ⟨u2, rfl, hO2, hb2⟩
 have R2 := W2.out.row hO2
 obtain ⟨a2, k2, rfl, _⟩ := R2.spell
 have hal := alloc_below w2 (.cells #[.int .u64 1] 64)
 have hal2 := alloc_below (w2.alloc (.cells #[.int .u64 1] 64)) (.cells #[.slice a2 (tr b).length k2, .slice none 0 0, .slice (some ⟨w2.heap.size, 0, none⟩) 1 1] 192)
 have T1 := ((T3.below hb2).below hal).below hal2
 have T2 := ((T4.below hb2).below hal).below hal2
 have RX := ((RX2.below hb2).below hal).below hal2
 have TB := Th.first (w2.alloc (.cells #[.int .u64 1] 64)) (.slice a2 (tr b).length k2) (.slice none 0 0) (.slice (some ⟨w2.heap.size, 0, none⟩) 1 1) 192
 have e1 : (w2.alloc (.cells #[.int .u64 1] 64)).heap.size = w2.heap.size + 1 := by simp
 rw [e1] at TB
 have RY : Rr ((w2.alloc (.cells #[.int .u64 1] 64)).alloc (.cells #[.slice a2 (tr b).length k2, .slice none 0 0, .slice (some ⟨w2.heap.size, 0, none⟩) 1 1] 192)) (.slice a2 (tr b).length k2) (.slice none 0 0) (.slice (some ⟨w2.heap.size, 0, none⟩) 1 1) (rwB b) := ⟨(R2.below hal).below hal2, rw0 _, (rw_one w2 _).below hal2⟩
 have B3 := Below.next (Below.next (Below.next B2 hb2) hal) hal2
 have hsz := (Below.next B2 hb2).size
 have hlt := (T4.below hb2).lt
 have HK : Hid (DK 192 w w.heap.size (w.heap.size + 1) (w2.heap.size + 1) _ _ _ _ _ _ (rwA a) (rwB b) _) := ⟨T1, T2, TB, RX, RY, B3⟩
 clear e1 hO2 R2 hb2 T3 T4 RX2 B2 hal hal2 T1 T2 TB RX RY B3
 have hne : w2.heap.size + 1 ≠ w.heap.size + 1 := by omega
 have hne0 : w.heap.size ≠ w2.heap.size + 1 := by omega
 have hgw : w.heap.size <= w2.heap.size + 1 := by omega
 go_wp2_with fail
 generalize ((w2.alloc (.cells #[.int .u64 1] 64)).alloc (.cells #[.slice a2 (tr b).length k2, .slice none 0 0, .slice (some ⟨w2.heap.size, 0, none⟩) 1 1] 192)) = wL at *
 go_step3
 go_wp2
 go_loopw [19] (fun _ wr => ∃ (c0 c1 c2 d0 d1 d2 : Value) (X Y : R3) (n : Nat), Hid (In2 p a b X Y) ∧ Hid (∀ m A B, Ds p s.toNat m X Y A B -> Ds p s.toNat (m + n) (rwA a) (rwB b) A B) ∧ Hid (DK 192 w w.heap.size (w.heap.size + 1) (w2.heap.size + 1) c0 c1 c2 d0 d1 d2 X Y wr)) (fun _ wr => match wr.cell? ⟨w2.heap.size + 1, 0, none⟩ with | some (.slice _ n _) => n | _ => 0)
 case atStart => exact ⟨_, _, _, _, _, _, _, _, 0, HI0, fun m A B h => h, HK⟩
 case round =>
  clear HK HT1 HT2 W1 W2 HI0
  obtain ⟨c0, c1, c2, d0, d1, d2, X, Y, n, HI, HD, HK⟩ := hrel
  obtain ⟨T1, T2, T3, RX, RY, B3⟩ := HK.out
  obtain ⟨x1, y1, rfl, _⟩ := RX.1.spell
  obtain ⟨x2, y2, rfl, _⟩ := RX.2.1.spell
  obtain ⟨x3, y3, rfl, _⟩ := RX.2.2.spell
  obtain ⟨x4, y4, rfl, _⟩ := RY.1.spell
  obtain ⟨x5, y5, rfl, _⟩ := RY.2.1.spell
  obtain ⟨x6, y6, rfl, _⟩ := RY.2.2.spell
  have HG1 := hide (Degree_any _ X.x wr RX.1)
  rw [HI.out.tx.2] at HG1
  have HG2 := hide (fun W hb => Degree_any _ Y.x W (RY.1.below hb))
  rw [HI.out.sx.2] at HG2
  obtain ⟨q1, q2, q3⟩ := T2.cell
  clear T1 T2 T3 RX RY B3
  by_cases hx : X.x.length <= s.toNat
  · have hx1 : (X.x.length : Int) - 1 < s := by omega
    go_wp2_with fail
    refine HG1.out.mono ?_; rintro e w4 ⟨rfl, hb4⟩
    have HK4 := hide (HK.out.below hb4)
    go_wp2
    obtain ⟨T1, T2, T3, RX, RY, B3⟩ := HK4.out
    obtain ⟨q1, q2, q3⟩ := T2.cell
    obtain ⟨q4, q5, q6⟩ := T1.cell
    have f1 := T1.free 0
    have f2 := T1.free 1
    have f3 := T1.free 2
    have f4 := T2.free 0
    have f5 := T2.free 1
    have f6 := T2.free 2
    go_region
    all_goals (
     have E : ((((((w4.setCell ⟨w.heap.size, 0, none⟩ (.slice none 0 0)).setCell ⟨w.heap.size, 1, none⟩ (.slice none 0 0)).setCell ⟨w.heap.size, 2, none⟩ (.slice none 0 0)).setCell ⟨w.heap.size + 1, 0, none⟩ (.slice x1 X.x.length y1)).setCell ⟨w.heap.size + 1, 1, none⟩ (.slice x2 X.u.length y2)).setCell ⟨w.heap.size + 1, 2, none⟩ (.slice x3 X.v.length y3)).drew = (set3 (set3 w4 w.heap.size (.slice none 0 0) (.slice none 0 0) (.slice none 0 0)) (w.heap.size + 1) (.slice x1 X.x.length y1) (.slice x2 X.u.length y2) (.slice x3 X.v.length y3)).drew := rfl
     have F := set_two (e0 := .slice none 0 0) (e1 := .slice none 0 0) (e2 := .slice none 0 0) (d0 := .slice x1 X.x.length y1) (d1 := .slice x2 X.u.length y2) (d2 := .slice x3 X.v.length y3) T1 T2 (by omega) sl_nil sl_nil sl_nil RX.1.sl RX.2.1.sl RX.2.2.sl
     rw [E]
     clear E q1 q2 q3 q4 q5 q6 f1 f2 f3 f4 f5 f6
     generalize (set3 (set3 w4 w.heap.size (.slice none 0 0) (.slice none 0 0) (.slice none 0 0)) (w.heap.size + 1) (.slice x1 X.x.length y1) (.slice x2 X.u.length y2) (.slice x3 X.v.length y3)).drew = wF at F ⊢
     obtain ⟨F1, F2, _, F4, F5⟩ := F
     have FR := hide (F4 _ _ _ _ RX)
     have FN := hide (F4 _ _ _ R3.nil ⟨rw0 _, rw0 _, rw0 _⟩)
     have FB := hide (F5 _ _ B3 (Nat.le_refl _) (by omega))
     clear F4 F5 T1 T2 T3 RX RY B3
     obtain ⟨q1, q2, q3⟩ := F2.cell
     obtain ⟨q4, q5, q6⟩ := F1.cell
     go_wp2
     rw [Exit.noGoto_ret]
     refine bodyPost_ret (v := .tuple #[.agg #[.slice none 0 0, .slice none 0 0, .slice none 0 0], .agg #[.slice x1 X.x.length y1, .slice x2 X.u.length y2, .slice x3 X.v.length y3]]) ?_ rfl ⟨_, _, _, _, _, _, R3.nil, X, rfl, FN.out, FR.out, ⟨_, HD.out 1 _ _ (.inl ⟨hx, rfl, rfl⟩)⟩, FB.out⟩
     simp [results, Tryz.results150, go_sem, q1, q2, q3, q4, q5, q6])
  · have hx1 : ¬ (X.x.length : Int) - 1 < s := by omega
    go_wp2_with fail
    refine HG1.out.mono ?_; rintro e w4 ⟨rfl, hb4⟩
    have HK4 := hide (HK.out.below hb4)
    obtain ⟨q7, q8, q9⟩ := HK4.out.2.2.1.cell
    go_wp2_with fail
    refine (HG2.out _ hb4).mono ?_; rintro e w5 ⟨rfl, hb5⟩
    have HK5 := hide (HK4.out.below hb5)
    clear q1 q2 q3 q7 q8 q9 HG1 HG2
    obtain ⟨T1, T2, T3, RX, RY, B3⟩ := HK5.out
    obtain ⟨q1, q2, q3⟩ := T2.cell
    obtain ⟨q4, q5, q6⟩ := T1.cell
    obtain ⟨q7, q8, q9⟩ := T3.cell
    have f1 := T1.free 0
    have f2 := T1.free 1
    have f3 := T1.free 2
    have f4 := T2.free 0
    have f5 := T2.free 1
    have f6 := T2.free 2
    by_cases hy : Y.x.length <= s.toNat
    · have hy1 : (Y.x.length : Int) - 1 < s := by omega
      go_wp2
      go_region
      all_goals (
       have E : ((((((w5.setCell ⟨w.heap.size, 0, none⟩ (.slice x1 X.x.length y1)).setCell ⟨w.heap.size, 1, none⟩ (.slice x2 X.u.length y2)).setCell ⟨w.heap.size, 2, none⟩ (.slice x3 X.v.length y3)).setCell ⟨w.heap.size + 1, 0, none⟩ (.slice x4 Y.x.length y4)).setCell ⟨w.heap.size + 1, 1, none⟩ (.slice x5 Y.u.length y5)).setCell ⟨w.heap.size + 1, 2, none⟩ (.slice x6 Y.v.length y6)).drew = (set3 (set3 w5 (w.heap.size) (.slice x1 X.x.length y1) (.slice x2 X.u.length y2) (.slice x3 X.v.length y3)) (w.heap.size + 1) (.slice x4 Y.x.length y4) (.slice x5 Y.u.length y5) (.slice x6 Y.v.length y6)).drew := rfl
       have F := set_two (e0 := .slice x1 X.x.length y1) (e1 := .slice x2 X.u.length y2) (e2 := .slice x3 X.v.length y3) (d0 := .slice x4 Y.x.length y4) (d1 := .slice x5 Y.u.length y5) (d2 := .slice x6 Y.v.length y6) T1 T2 (by omega) sl_nil sl_nil sl_nil RX.1.sl RX.2.1.sl RX.2.2.sl
       rw [E]
       clear E q1 q2 q3 q4 q5 q6 q7 q8 q9 f1 f2 f3 f4 f5 f6
       generalize (set3 (set3 w5 (w.heap.size) (.slice x1 X.x.length y1) (.slice x2 X.u.length y2) (.slice x3 X.v.length y3)) (w.heap.size + 1) (.slice x4 Y.x.length y4) (.slice x5 Y.u.length y5) (.slice x6 Y.v.length y6)).drew = w6 at F ⊢
       obtain ⟨F1, F2, _, F4, F5⟩ := F
       have RX := F4 _ _ _ _ RX
       have RY := F4 _ _ _ _ RY
       have B3 := F5 _ _ B3 (Nat.le_refl _) (by omega)
       clear F4 F5 T1 T2 T3
       obtain ⟨q1, q2, q3⟩ := F2.cell
       obtain ⟨q4, q5, q6⟩ := F1.cell
       have f1 := F1.free 0
       have f2 := F1.free 1
       have f3 := F1.free 2
       have f4 := F2.free 0
       have f5 := F2.free 1
       have f6 := F2.free 2
       go_wp2
       go_region
       all_goals (
        have E : ((((((w6.setCell ⟨w.heap.size, 0, none⟩ (.slice x1 X.x.length y1)).setCell ⟨w.heap.size, 1, none⟩ (.slice x2 X.u.length y2)).setCell ⟨w.heap.size, 2, none⟩ (.slice x3 X.v.length y3)).setCell ⟨w.heap.size + 1, 0, none⟩ (.slice x4 Y.x.length y4)).setCell ⟨w.heap.size + 1, 1, none⟩ (.slice x5 Y.u.length y5)).setCell ⟨w.heap.size + 1, 2, none⟩ (.slice x6 Y.v.length y6)).drew = (set3 (set3 w6 (w.heap.size) (.slice x1 X.x.length y1) (.slice x2 X.u.length y2) (.slice x3 X.v.length y3)) (w.heap.size + 1) (.slice x4 Y.x.length y4) (.slice x5 Y.u.length y5) (.slice x6 Y.v.length y6)).drew := rfl
        have F := set_two (e0 := .slice x1 X.x.length y1) (e1 := .slice x2 X.u.length y2) (e2 := .slice x3 X.v.length y3) (d0 := .slice x4 Y.x.length y4) (d1 := .slice x5 Y.u.length y5) (d2 := .slice x6 Y.v.length y6) F1 F2 (by omega) RX.1.sl RX.2.1.sl RX.2.2.sl RY.1.sl RY.2.1.sl RY.2.2.sl
        rw [E]
        clear E q1 q2 q3 q4 q5 q6 f1 f2 f3 f4 f5 f6
        generalize (set3 (set3 w6 (w.heap.size) (.slice x1 X.x.length y1) (.slice x2 X.u.length y2) (.slice x3 X.v.length y3)) (w.heap.size + 1) (.slice x4 Y.x.length y4) (.slice x5 Y.u.length y5) (.slice x6 Y.v.length y6)).drew = wF at F ⊢
        obtain ⟨F1, F2, _, F4, F5⟩ := F
        have FR := hide (F4 _ _ _ _ RY)
        have FN := hide (F4 _ _ _ _ RX)
        have FB := hide (F5 _ _ B3 (Nat.le_refl _) (by omega))
        clear F4 F5 RX RY B3
        obtain ⟨q1, q2, q3⟩ := F2.cell
        obtain ⟨q4, q5, q6⟩ := F1.cell
        go_wp2
        rw [Exit.noGoto_ret]
        refine bodyPost_ret (v := .tuple #[.agg #[.slice x1 X.x.length y1, .slice x2 X.u.length y2, .slice x3 X.v.length y3], .agg #[.slice x4 Y.x.length y4, .slice x5 Y.u.length y5, .slice x6 Y.v.length y6]]) ?_ rfl ⟨_, _, _, _, _, _, X, Y, rfl, FN.out, FR.out, ⟨_, HD.out 1 _ _ (.inr (.inl ⟨by omega, hy, rfl, rfl⟩))⟩, FB.out⟩
        simp [results, Tryz.results150, go_sem, q1, q2, q3, q4, q5, q6]))
    · have hy1 : ¬ (Y.x.length : Int) - 1 < s := by omega
      have hyn : Y.x ≠ [] := fun e0 => hy (by rw [e0]; exact Nat.zero_le _)
      go_wp2
      clear f1 f2 f3 f4 f5 f6 q4 q5 q6
      go_region_with (go_at_call 179; refine (HF.out X Y _ _ _ _ _ _ _ HI.out (RX.below (drew_below _)) (RY.below (drew_below _)) hyn).mono ?_; rintro e w6 ⟨e0, e1, e2, Z, rfl, RZ, hn, hb6⟩; obtain ⟨x7, y7, rfl, _⟩ := RZ.1.spell; obtain ⟨x8, y8, rfl, _⟩ := RZ.2.1.spell; obtain ⟨x9, y9, rfl, _⟩ := RZ.2.2.spell; have HK6 := hide ((HK5.out.below (drew_below _)).below hb6); have r2 := HK6.out.2.1.cell; have r21 := r2.1; have r22 := r2.2.1; have r23 := r2.2.2; clear r2; have r3 := HK6.out.2.2.1.cell; have r31 := r3.1; have r32 := r3.2.1; have r33 := r3.2.2; clear r3; have f1 := HK6.out.2.1.free 0; have f2 := HK6.out.2.1.free 1; have f3 := HK6.out.2.1.free 2; have f4 := HK6.out.2.2.1.free 0; have f5 := HK6.out.2.2.1.free 1; have f6 := HK6.out.2.2.1.free 2)
      all_goals (
       have E : ((((((w6.setCell ⟨w.heap.size + 1, 0, none⟩ (.slice x4 Y.x.length y4)).setCell ⟨w.heap.size + 1, 1, none⟩ (.slice x5 Y.u.length y5)).setCell ⟨w.heap.size + 1, 2, none⟩ (.slice x6 Y.v.length y6)).setCell ⟨w2.heap.size + 1, 0, none⟩ (.slice x7 Z.x.length y7)).setCell ⟨w2.heap.size + 1, 1, none⟩ (.slice x8 Z.u.length y8)).setCell ⟨w2.heap.size + 1, 2, none⟩ (.slice x9 Z.v.length y9)) = (set3 (set3 w6 (w.heap.size + 1) (.slice x4 Y.x.length y4) (.slice x5 Y.u.length y5) (.slice x6 Y.v.length y6)) (w2.heap.size + 1) (.slice x7 Z.x.length y7) (.slice x8 Z.u.length y8) (.slice x9 Z.v.length y9)) := rfl
       clear T1 T2 T3 RX RY B3
       obtain ⟨T1, T2, T3, RX, RY, B3⟩ := HK6.out
       have F := set_two0 (e0 := .slice x4 Y.x.length y4) (e1 := .slice x5 Y.u.length y5) (e2 := .slice x6 Y.v.length y6) (d0 := .slice x7 Z.x.length y7) (d1 := .slice x8 Z.u.length y8) (d2 := .slice x9 Z.v.length y9) T2 T3 (by omega) RX.1.sl RX.2.1.sl RX.2.2.sl RY.1.sl RY.2.1.sl RY.2.2.sl
       rw [E]
       clear E q1 q2 q3 q7 q8 q9 f1 f2 f3 f4 f5 f6 r21 r22 r23 r31 r32 r33
       generalize (set3 (set3 w6 (w.heap.size + 1) (.slice x4 Y.x.length y4) (.slice x5 Y.u.length y5) (.slice x6 Y.v.length y6)) (w2.heap.size + 1) (.slice x7 Z.x.length y7) (.slice x8 Z.u.length y8) (.slice x9 Z.v.length y9)) = w7 at F ⊢
       obtain ⟨F1, F2, F3, F4, F5⟩ := F
       have HK7 : Hid (DK 192 w w.heap.size (w.heap.size + 1) (w2.heap.size + 1) _ _ _ _ _ _ Y Z w7) := ⟨F3 _ _ _ _ (by omega) (by omega) T1, F1, F2, F4 _ _ _ _ RY, F4 _ _ _ _ RZ, F5 _ _ B3 (by omega) (by omega)⟩
       have m1 := HK7.out.2.2.1.cell.1
       have m2 := HK.out.2.2.1.cell.1
       go_wp2
       go_roundw
       case rel => exact ⟨_, _, _, _, _, _, Y, Z, n + 1, HN.out _ _ _ HI.out hn, (fun m A B hd => by
        have := HD.out (m + 1) A B (.inr (.inr ⟨by omega, by omega, Z, hn, hd⟩))
        have e : m + (n + 1) = m + 1 + n := by omega
        rw [e]; exact this), HK7⟩
       case measure =>
        rw [m1, m2]
        obtain ⟨q, hd, _⟩ := hn
        have := hd.2.2.2.2.1
        rw [HI.out.sx.2] at this
        exact this)
def PtE (f : Int) (a b : List Int) (s : Int) (B : R3) : Prop := (stE f a b s ≠ 0 -> B = R3.nil) ∧ (stE f a b s = 0 -> ∃ A, Fnd (pOf f) s.toNat a b A B)
theorem al_two (w : World) (T : TypeId) (c0 c1 c2 d0 d1 d2 : Value) (A B : R3) (RA : Rr w c0 c1 c2 A) (RB : Rr w d0 d1 d2 B) :
 Th T w.heap.size c0 c1 c2 ((w.alloc (.cells #[c0, c1, c2] T)).alloc (.cells #[d0, d1, d2] T)) ∧ Th T (w.heap.size + 1) d0 d1 d2 ((w.alloc (.cells #[c0, c1, c2] T)).alloc (.cells #[d0, d1, d2] T)) ∧
  Rr ((w.alloc (.cells #[c0, c1, c2] T)).alloc (.cells #[d0, d1, d2] T)) c0 c1 c2 A ∧ Rr ((w.alloc (.cells #[c0, c1, c2] T)).alloc (.cells #[d0, d1, d2] T)) d0 d1 d2 B ∧ Below w.heap.size w ((w.alloc (.cells #[c0, c1, c2] T)).alloc (.cells #[d0, d1, d2] T)) := by
 have a1 := alloc_below w (.cells #[c0, c1, c2] T)
 have a2 := alloc_below (w.alloc (.cells #[c0, c1, c2] T)) (.cells #[d0, d1, d2] T)
 have t2 := Th.first (w.alloc (.cells #[c0, c1, c2] T)) d0 d1 d2 T
 have e : (w.alloc (.cells #[c0, c1, c2] T)).heap.size = w.heap.size + 1 := by simp
 rw [e] at t2
 exact ⟨(Th.first w c0 c1 c2 T).below a2, t2, (RA.below a1).below a2, (RB.below a1).below a2, Below.next a1 a2⟩
theorem div_ok {f p : Int} {wd : Bool} (h : Fi f p wd) {xs ys : List Int} (hx : Els p xs) (hy : Tm p ys) (l1 : xs.length <= 4096) (l2 : ys.length <= 4096) : divE f xs ys = if ys = [] then 5 else 0 := by
 unfold divE
 rw [er_yes h (allIn_of hx) (allIn_of hy.1) l1 l2, if_pos rfl, hy.2]
theorem DvE.dv {f p : Int} {wd : Bool} (h : Fi f p wd) {xs ys A B : List Int} (he : divE f xs ys = 0) (hs : DvE f xs ys A B) : Dv p xs ys A B := by have := hs.2 he; rw [pOf_eq h] at this; exact this
theorem rr_nil (w : World) : Rr w (.slice none 0 0) (.slice none 0 0) (.slice none 0 0) R3.nil := ⟨rw0 _, rw0 _, rw0 _⟩
theorem ePartial_any (f : Int) (va vb : Value) (a b : List Int) (s : Int) (w : World) (h1 : Rw w va a) (h2 : Rw w vb b) :
 Calls Tryz.prog 119 #[.int .u8 f, va, vb, .int .i64 s] w fun e w' => ∃ c0 c1 c2 B, e = .returned (.tuple #[c0, c1, c2, .int .i64 (stE f a b s)]) ∧ Rr w' c0 c1 c2 B ∧ PtE f a b s B ∧ Below w.heap.size w w' := by
 have hk := hide (eStop_any f va vb a b s w h1 h2)
 by_cases he : stE f a b s = 0
 · obtain ⟨hs, hc⟩ := stE_zero he
   obtain ⟨p, wd, hf, i1, i2, la, lb⟩ := chE_zero hc
   have hd := hide (fun W (hb : Below w.heap.size w W) => descend_any f p wd va vb a b s W hf (h1.below hb) (h2.below hb) (els_of i1 h1.words) (els_of i2 h2.words) la lb hs)
   have HP : Hid (∀ A B, Fnd p s.toNat a b A B -> PtE f a b s B) := fun A B hv => ⟨fun h0 => absurd he h0, fun _ => ⟨A, by rw [pOf_eq hf]; exact hv⟩⟩
   rw [he]
   rw [he] at hk
   clear h1 h2 hf hc he
   go_enter Tryz.func119, Tryz.ntmps119
   go_wp2_with fail
   refine hk.out.mono ?_; rintro e w1 ⟨rfl, hb1⟩
   go_wp2_with fail
   refine (hd.out _ hb1).mono ?_; rintro e w2 ⟨c0, c1, c2, d0, d1, d2, A, B, rfl, RA, RB, hv, hb2⟩
   obtain ⟨x1, y1, rfl, _⟩ := RA.1.spell
   obtain ⟨x2, y2, rfl, _⟩ := RA.2.1.spell
   obtain ⟨x3, y3, rfl, _⟩ := RA.2.2.spell
   obtain ⟨x4, y4, rfl, _⟩ := RB.1.spell
   obtain ⟨x5, y5, rfl, _⟩ := RB.2.1.spell
   obtain ⟨x6, y6, rfl, _⟩ := RB.2.2.spell
   have hb3 := Below.next hb1 hb2
   have HA := hide (al_two w2 192 _ _ _ _ _ _ A B RA RB)
   clear RA RB
   go_wp2
   generalize ((w2.alloc (.cells #[.slice x1 A.x.length y1, .slice x2 A.u.length y2, .slice x3 A.v.length y3] 192)).alloc (.cells #[.slice x4 B.x.length y4, .slice x5 B.u.length y5, .slice x6 B.v.length y6] 192)) = w3 at HA ⊢
   obtain ⟨T1, T2, RA, RB, hb4⟩ := HA.out
   obtain ⟨q1, q2, q3⟩ := T2.cell
   have HRB := hide RB
   clear T1 T2 RA RB HA
   go_quiet (fail)
   have hb5 := Below.next hb3 hb4
   have hb6 := below_drewN hb5 nq
   have HR := hide (HRB.out.below (below_drewN (Below.refl w3.heap.size w3) nq))
   go_wp2
   refine bodyPost_ret (v := .tuple #[.slice x4 B.x.length y4, .slice x5 B.u.length y5, .slice x6 B.v.length y6, .int .i64 0]) ?_ rfl ⟨_, _, _, B, rfl, HR.out, HP.out _ _ hv, hb6⟩
   simp [results, Tryz.results119, go_sem]
 · have ht : (stE f a b s != 0) = true := bne_iff_ne.2 he
   have HP : Hid (PtE f a b s R3.nil) := ⟨fun _ => rfl, fun h0 => absurd h0 he⟩
   clear h1 h2 he
   generalize stE f a b s = e0 at *
   go_enter Tryz.func119, Tryz.ntmps119
   go_wp2_with (go_at_call 149; refine hk.out.mono ?_; rintro e w1 ⟨rfl, hb⟩)
   refine bodyPost_ret (v := .tuple #[.slice none 0 0, .slice none 0 0, .slice none 0 0, .int .i64 e0]) ?_ rfl ⟨_, _, _, _, rfl, rr_nil _, HP.out, hb⟩
   simp [results, Tryz.results119, go_sem]
end Go.Proofs.YtjhididlcdepdaaGreat
