import Derived.Test.YtnapbdoalfbgnaaGreatBEucC
import Derived.Deep.RegionHeld3
set_option linter.unusedVariables false
set_option linter.unusedSimpArgs false
set_option maxRecDepth 100000
set_option maxHeartbeats 4000000
namespace Go.Proofs.YtnapbdoalfbgnaaGreat
open Go.RowKit Fld
def Rr (w : World) (c0 c1 c2 : Value) (X : R3) : Prop := Rw w c0 X.x ∧ Rw w c1 X.u ∧ Rw w c2 X.v
theorem Rr.below {w w' : World} {c0 c1 c2 : Value} {X : R3} (h : Rr w c0 c1 c2 X) (hb : Below w.heap.size w w') : Rr w' c0 c1 c2 X := ⟨h.1.below hb, h.2.1.below hb, h.2.2.below hb⟩
def Th (T : TypeId) (g : Nat) (c0 c1 c2 : Value) (w : World) : Prop := w.heap[g]? = some (.cells #[c0, c1, c2] T (0, 0))
theorem Th.lt {T : TypeId} {g : Nat} {c0 c1 c2 : Value} {w : World} (h : Th T g c0 c1 c2 w) : g < w.heap.size := by
 apply Nat.lt_of_not_le; intro hc; unfold Th at h; rw [Array.getElem?_eq_none hc] at h; cases h
theorem Th.below {T : TypeId} {g : Nat} {c0 c1 c2 : Value} {w w' : World} (h : Th T g c0 c1 c2 w) (hb : Below w.heap.size w w') : Th T g c0 c1 c2 w' := by unfold Th; rw [hb.block g h.lt]; exact h
theorem Th.cell {T : TypeId} {g : Nat} {c0 c1 c2 : Value} {w : World} (h : Th T g c0 c1 c2 w) : w.cell? ⟨g, 0, none⟩ = some c0 ∧ w.cell? ⟨g, 1, none⟩ = some c1 ∧ w.cell? ⟨g, 2, none⟩ = some c2 := by
 refine ⟨?_, ?_, ?_⟩ <;> (rw [cell_of_row w g _ _ _ _ h]; rfl)
theorem Th.free {T : TypeId} {g : Nat} {c0 c1 c2 : Value} {w : World} (h : Th T g c0 c1 c2 w) (k : Nat) : w.frozen? ⟨g, k, none⟩ = false := by
 unfold Th at h; simp [World.frozen?, h]
theorem Th.first (w : World) (c0 c1 c2 : Value) (T : TypeId) : Th T w.heap.size c0 c1 c2 (w.alloc (.cells #[c0, c1, c2] T)) := by
 unfold Th
 have : (w.alloc (.cells #[c0, c1, c2] T)).heap = w.heap.push (.cells #[c0, c1, c2] T) := rfl
 rw [this]; simp
def Sl (v : Value) : Prop := ∃ a n c, v = .slice a n c
theorem Rw.sl {w : World} {v : Value} {xs : List Int} (h : Rw w v xs) : Sl v := by obtain ⟨_, a, n, c, h, _⟩ := h; exact ⟨a, n, c, h⟩
theorem sl_nil : Sl (.slice none 0 0) := ⟨_, _, _, rfl⟩
theorem cell_apart {w : World} {k g i j : Nat} {v : Value} (h : g ≠ k) : (w.setCell ⟨k, i, none⟩ v).cell? ⟨g, j, none⟩ = w.cell? ⟨g, j, none⟩ := by
 have := Below.heap_setCell w ⟨k, i, none⟩ v g h
 simp only [World.cell?]
 rw [this]
def set3 (w : World) (g : Nat) (e0 e1 e2 : Value) : World := ((w.setCell ⟨g, 0, none⟩ e0).setCell ⟨g, 1, none⟩ e1).setCell ⟨g, 2, none⟩ e2
theorem set3_size (w : World) (g : Nat) (e0 e1 e2 : Value) : (set3 w g e0 e1 e2).heap.size = w.heap.size := by unfold set3; simp [World.setCell]
theorem Rw.apart {T : TypeId} {w : World} {v : Value} {xs : List Int} {k : Nat} {c0 c1 c2 e0 e1 e2 : Value} (h : Rw w v xs) (hT : Th T k c0 c1 c2 w) (s0 : Sl c0) (s1 : Sl c1) (s2 : Sl c2) : Rw (set3 w k e0 e1 e2) v xs := by
 obtain ⟨⟨ao, cap, h1, h2, h3, h4⟩, h5⟩ := h
 refine ⟨⟨ao, cap, h1, h2, h3, fun hne => ?_⟩, h5⟩
 obtain ⟨b, off, h6, h7, h8⟩ := h4 hne
 refine ⟨b, off, h6, by rw [set3_size]; exact h7, fun i hi => ?_⟩
 have hbk : b ≠ k := by
  intro e
  subst e
  have h9 := h8 0 (List.length_pos_iff.2 hne)
  rw [cell_of_row w b (off + 0) _ _ _ hT] at h9
  obtain ⟨_, _, _, rfl⟩ := s0
  obtain ⟨_, _, _, rfl⟩ := s1
  obtain ⟨_, _, _, rfl⟩ := s2
  match off, h9 with
  | 0, h9 => simp at h9
  | 1, h9 => simp at h9
  | 2, h9 => simp at h9
  | n + 3, h9 => simp at h9
 unfold set3
 rw [cell_apart hbk, cell_apart hbk, cell_apart hbk]; exact h8 i hi
theorem Rr.apart {T : TypeId} {w : World} {x0 x1 x2 : Value} {X : R3} {k : Nat} {c0 c1 c2 e0 e1 e2 : Value} (h : Rr w x0 x1 x2 X) (hT : Th T k c0 c1 c2 w) (s0 : Sl c0) (s1 : Sl c1) (s2 : Sl c2) : Rr (set3 w k e0 e1 e2) x0 x1 x2 X :=
 ⟨h.1.apart hT s0 s1 s2, h.2.1.apart hT s0 s1 s2, h.2.2.apart hT s0 s1 s2⟩
theorem below_set3 {b g : Nat} {w w' : World} {e0 e1 e2 : Value} (h : Below b w w') (hg : b ≤ g) : Below b w (set3 w' g e0 e1 e2) := ((h.setCell hg _).setCell hg _).setCell hg _
def FK (T : TypeId) (w : World) (n : Nat) (c0 c1 c2 d0 d1 d2 vq vr : Value) (A B : List Int) (w' : World) : Prop := Th T n c0 c1 c2 w' ∧ Th T (n + 1) d0 d1 d2 w' ∧ Th T (n + 1 + 1) (.slice none 0 0) (.slice none 0 0) (.slice none 0 0) w' ∧ Rw w' vq A ∧ Rw w' vr B ∧ Below w.heap.size w w'
theorem FK.below {T : TypeId} {w : World} {n : Nat} {c0 c1 c2 d0 d1 d2 vq vr : Value} {A B : List Int} {w1 w2 : World} (h : FK T w n c0 c1 c2 d0 d1 d2 vq vr A B w1) (hb : Below w1.heap.size w1 w2) : FK T w n c0 c1 c2 d0 d1 d2 vq vr A B w2 :=
 ⟨h.1.below hb, h.2.1.below hb, h.2.2.1.below hb, h.2.2.2.1.below hb, h.2.2.2.2.1.below hb, Below.next h.2.2.2.2.2 hb⟩
theorem block_set {T : TypeId} {g i : Nat} {cs : Array Value} {z : Nat × Nat} {v : Value} {w : World} (h : w.heap[g]? = some (.cells cs T z)) : (w.setCell ⟨g, i, none⟩ v).heap[g]? = some (.cells (cs.setIfInBounds i v) T z) := by
 simp only [World.setCell, Array.getElem?_modify, if_true, h]; rfl
theorem Th.set {T : TypeId} {g : Nat} {c0 c1 c2 e0 e1 e2 : Value} {w : World} (h : Th T g c0 c1 c2 w) : Th T g e0 e1 e2 (set3 w g e0 e1 e2) := block_set (block_set (block_set h))
theorem Th.apart {T : TypeId} {g k : Nat} {c0 c1 c2 e0 e1 e2 : Value} {w : World} (h : Th T g c0 c1 c2 w) (hne : g ≠ k) : Th T g c0 c1 c2 (set3 w k e0 e1 e2) := by
 unfold Th at h ⊢
 unfold set3
 rw [Below.heap_setCell _ _ _ _ hne, Below.heap_setCell _ _ _ _ hne, Below.heap_setCell _ _ _ _ hne]; exact h
theorem FK.fs {T : TypeId} {w : World} {n : Nat} {c0 c1 c2 d0 d1 d2 vq vr : Value} {A B : List Int} {w' : World} (h : FK T w n c0 c1 c2 d0 d1 d2 vq vr A B w') : w'.cell? ⟨n, 1, none⟩ = some c1 ∧ w'.cell? ⟨n, 2, none⟩ = some c2 ∧ w'.cell? ⟨n + 1, 1, none⟩ = some d1 ∧ w'.cell? ⟨n + 1, 2, none⟩ = some d2 := ⟨h.1.cell.2.1, h.1.cell.2.2, h.2.1.cell.2.1, h.2.1.cell.2.2⟩
theorem FK.fs3 {T : TypeId} {w : World} {n : Nat} {c0 c1 c2 d0 d1 d2 vq vr e0 e1 e2 : Value} {A B : List Int} {w' : World} (h : FK T w n c0 c1 c2 d0 d1 d2 vq vr A B w') : (((w'.setCell ⟨n + 1 + 1, 0, none⟩ e0).setCell ⟨n + 1 + 1, 1, none⟩ e1).setCell ⟨n + 1 + 1, 2, none⟩ e2).cell? ⟨n, 1, none⟩ = some c1 ∧ (((w'.setCell ⟨n + 1 + 1, 0, none⟩ e0).setCell ⟨n + 1 + 1, 1, none⟩ e1).setCell ⟨n + 1 + 1, 2, none⟩ e2).cell? ⟨n, 2, none⟩ = some c2 ∧ (((w'.setCell ⟨n + 1 + 1, 0, none⟩ e0).setCell ⟨n + 1 + 1, 1, none⟩ e1).setCell ⟨n + 1 + 1, 2, none⟩ e2).cell? ⟨n + 1, 1, none⟩ = some d1 ∧ (((w'.setCell ⟨n + 1 + 1, 0, none⟩ e0).setCell ⟨n + 1 + 1, 1, none⟩ e1).setCell ⟨n + 1 + 1, 2, none⟩ e2).cell? ⟨n + 1, 2, none⟩ = some d2 := by
 have h1 : n ≠ n + 1 + 1 := by omega
 have h2 : n + 1 ≠ n + 1 + 1 := by omega
 refine ⟨?_, ?_, ?_, ?_⟩
 · rw [cell_apart h1, cell_apart h1, cell_apart h1]; exact h.fs.1
 · rw [cell_apart h1, cell_apart h1, cell_apart h1]; exact h.fs.2.1
 · rw [cell_apart h2, cell_apart h2, cell_apart h2]; exact h.fs.2.2.1
 · rw [cell_apart h2, cell_apart h2, cell_apart h2]; exact h.fs.2.2.2
theorem in2_lens {p : Int} {wd : Bool} (hm : Md p wd) {a b : List Int} {X Y : R3} (h : In2 p a b X Y) (ha : (tr a).length ≤ 2048) (hb : (tr b).length ≤ 2048) : X.x.length ≤ 2048 ∧ Y.x.length ≤ 2048 ∧ X.u.length ≤ 2049 ∧ Y.u.length ≤ 2049 ∧ X.v.length ≤ 2049 ∧ Y.v.length ≤ 2049 ∧
 (∀ q z, Dv p X.x Y.x q z → q.length ≤ 2048 ∧ q.length + Y.u.length ≤ 4097 ∧ q.length + Y.v.length ≤ 4097) := by
 have h1 := h.nx
 have h2 := h.ny
 have h3 : X.u.length ≤ 2049 := by rcases h.lu with e | e; (rw [e]; exact Nat.zero_le _); omega
 have h4 : Y.u.length ≤ 2049 := by rcases h.mu with e | e; (rw [e]; exact Nat.zero_le _); omega
 have h5 : X.v.length ≤ 2049 := by rcases h.lv with e | e; (rw [e]; exact Nat.zero_le _); omega
 have h6 : Y.v.length ≤ 2049 := by rcases h.mv with e | e; (rw [e]; exact Nat.zero_le _); omega
 refine ⟨by omega, by omega, h3, h4, h5, h6, fun q z hd => ?_⟩
 have hq : q.length ≤ 2048 := by
  by_cases hn : q = []
  · rw [hn]; exact Nat.zero_le _
  · have := hd.len hm h.sx.1 hn
    have k := hd.2.2.2.2.1
    omega
 exact ⟨hq, by omega, by omega⟩
theorem following_any (f p : Int) (wd : Bool) (a b : List Int) (X Y : R3) (c0 c1 c2 d0 d1 d2 : Value) (w : World) (h : Fi f p wd) (hi : In2 p a b X Y) (ha : (tr a).length ≤ 2048) (hb : (tr b).length ≤ 2048) (hX : Rr w c0 c1 c2 X) (hY : Rr w d0 d1 d2 Y) (hy : Y.x ≠ []) :
 Calls Tryz.prog 119 #[.int .u8 f, .agg #[c0, c1, c2], .agg #[d0, d1, d2]] w fun e w' => ∃ e0 e1 e2 Z, e = .returned (.agg #[e0, e1, e2]) ∧ Rr w' e0 e1 e2 Z ∧ Nx p X Y Z ∧ Below w.heap.size w w' := by
 have hl := in2_lens h.md hi ha hb
 have hE : divE f X.x Y.x = 0 := by
  unfold divE
  rw [er_yes h (allIn_of hi.tx.1) (allIn_of hi.sx.1) (by omega) (by omega), if_pos rfl, hi.sx.2, if_neg hy]
 have HD := hide (fun W (hb : Below w.heap.size w W) => pDivMod_any f _ _ X.x Y.x W (hX.1.below hb) (hY.1.below hb))
 unfold Parts at HD
 rw [hE] at HD
 have HS := hide (fun A B (hs : DvE f X.x Y.x A B) => show Dv p X.x Y.x A B by have := hs.2 hE; rw [pOf_eq h] at this; exact this)
 have HWd := hide (fun A B (hv : Dv p X.x Y.x A B) => dv_wd h.md h.top hi.sx.1 hv (by omega) (by omega))
 have L1 := hide (fun W vq q z (hv : Dv p X.x Y.x q z) (hb : Below w.heap.size w W) (hq : Rw W vq q) => less_any f p wd _ vq _ X.u q Y.u W h (hX.2.1.below hb) hq (hY.2.1.below hb) hi.tu hv.rg.1 hi.su (by omega) (by have := hl.2.2.2.2.2.2 q z hv; omega) (by omega) (by have := hl.2.2.2.2.2.2 q z hv; omega))
 have L2 := hide (fun W vq q z (hv : Dv p X.x Y.x q z) (hb : Below w.heap.size w W) (hq : Rw W vq q) => less_any f p wd _ vq _ X.v q Y.v W h (hX.2.2.below hb) hq (hY.2.2.below hb) hi.tv hv.rg.1 hi.sv (by omega) (by have := hl.2.2.2.2.2.2 q z hv; omega) (by omega) (by have := hl.2.2.2.2.2.2 q z hv; omega))
 clear hX hY hi h hE hl
 go_enter Tryz.func119, Tryz.ntmps119
 go_wp2_with fail
 have hb0 : Below w.heap.size w (((w.alloc (.cells #[c0, c1, c2] 131)).alloc (.cells #[d0, d1, d2] 131)).alloc (.cells #[.slice none 0 0, .slice none 0 0, .slice none 0 0] 131)) := ((Below.refl _ _).alloc (Nat.le_refl _) _).alloc (by simp) _ |>.alloc (by simp; omega) _
 refine (HD.out _ hb0).mono ?_; rintro e w1 ⟨vq, vr, A, B, b', rfl, hS, hOq, hOr, _, _, hb1⟩
 have HV := hide (HS.out A B hS)
 obtain ⟨ar, cr, rfl, _⟩ := ((HWd.out A B HV.out).2.row hOr).spell
 have T1 := ((((Th.first w c0 c1 c2 131).below (alloc_below _ (.cells #[d0, d1, d2] 131))).below (alloc_below _ (.cells #[.slice none 0 0, .slice none 0 0, .slice none 0 0] 131))).below hb1)
 have T2 := (((Th.first (w.alloc (.cells #[c0, c1, c2] 131)) d0 d1 d2 131).below (alloc_below _ (.cells #[.slice none 0 0, .slice none 0 0, .slice none 0 0] 131))).below hb1)
 have T3 := ((Th.first ((w.alloc (.cells #[c0, c1, c2] 131)).alloc (.cells #[d0, d1, d2] 131)) (.slice none 0 0) (.slice none 0 0) (.slice none 0 0) 131).below hb1)
 have e1 : (w.alloc (.cells #[c0, c1, c2] 131)).heap.size = w.heap.size + 1 := by simp
 have e2 : ((w.alloc (.cells #[c0, c1, c2] 131)).alloc (.cells #[d0, d1, d2] 131)).heap.size = w.heap.size + 1 + 1 := by simp
 rw [e1] at T2
 rw [e2] at T3
 have hK0 : Hid (FK 131 w w.heap.size c0 c1 c2 d0 d1 d2 vq (.slice ar B.length cr) A B w1) := ⟨T1, T2, T3, (HWd.out A B HV.out).1.row hOq, (HWd.out A B HV.out).2.row hOr, Below.next hb0 hb1⟩
 clear T1 T2 T3 e1 e2 hOq hOr hb1 hb0
 go_wp2
 have hK := hide (hK0.out.below (Below.refl w1.heap.size w1).drew)
 have hS0 := hide hK.out.fs
 go_region_held3 (fun w' => w'.cell? ⟨w.heap.size, 1, none⟩ = some c1 ∧ w'.cell? ⟨w.heap.size, 2, none⟩ = some c2 ∧ w'.cell? ⟨w.heap.size + 1, 1, none⟩ = some d1 ∧ w'.cell? ⟨w.heap.size + 1, 2, none⟩ = some d2) (first | with_reducible exact hS2.out | with_reducible exact hS1.out | with_reducible exact hS0.out | with_reducible exact hK2.out.fs3) (first
  | (go_at_call 130; refine (L2.out _ vq A B HV.out hK1.out.2.2.2.2.2 hK1.out.2.2.2.1).mono ?_; rintro e w3 ⟨u2, Z2, rfl, hr2, ht2, hz2, hb3⟩; have hK2 := hide (hK1.out.below hb3); have hS2 := hide hK2.out.fs; have q0 := hK2.out.2.2.1.cell; have q1 := q0.1; have q2 := q0.2.1; have q3 := q0.2.2; clear q0; have q4 := hK2.out.2.2.1.free 0; have q5 := hK2.out.2.2.1.free 1; have q6 := hK2.out.2.2.1.free 2; have HU2 := hide (HU.out.below hb3); obtain ⟨x2, y2, rfl, _⟩ := hr2.spell; have HU3 := hide hr2; clear hr2)
  | (go_at_call 130; refine (L1.out _ vq A B HV.out hK.out.2.2.2.2.2 hK.out.2.2.2.1).mono ?_; rintro e w2 ⟨u1, Z1, rfl, hr1, ht1, hz1, hb2⟩; have hK1 := hide (hK.out.below hb2); have hS1 := hide hK1.out.fs; obtain ⟨x1, y1, rfl, _⟩ := hr1.spell; have HU := hide hr1; clear hr1))
 have hT := hK2.out.2.2.1
 have HT := hide (hT.set (e0 := .slice ar B.length cr) (e1 := .slice x1 Z1.length y1) (e2 := .slice x2 Z2.length y2))
 have HB := hide (below_set3 (e0 := .slice ar B.length cr) (e1 := .slice x1 Z1.length y1) (e2 := .slice x2 Z2.length y2) hK2.out.2.2.2.2.2 (show w.heap.size ≤ w.heap.size + 1 + 1 by omega))
 have HR : Hid (Rr (set3 w3 (w.heap.size + 1 + 1) (.slice ar B.length cr) (.slice x1 Z1.length y1) (.slice x2 Z2.length y2)) (.slice ar B.length cr) (.slice x1 Z1.length y1) (.slice x2 Z2.length y2) ⟨B, Z1, Z2⟩) :=
  Rr.apart ⟨hK2.out.2.2.2.2.1, HU2.out, HU3.out⟩ hT sl_nil sl_nil sl_nil
 clear hT
 have e : ((w3.setCell ⟨w.heap.size + 1 + 1, 0, none⟩ (.slice ar B.length cr)).setCell ⟨w.heap.size + 1 + 1, 1, none⟩ (.slice x1 Z1.length y1)).setCell ⟨w.heap.size + 1 + 1, 2, none⟩ (.slice x2 Z2.length y2) = set3 w3 (w.heap.size + 1 + 1) (.slice ar B.length cr) (.slice x1 Z1.length y1) (.slice x2 Z2.length y2) := rfl
 rw [e]
 clear e q1 q2 q3 q4 q5 q6
 generalize set3 w3 (w.heap.size + 1 + 1) (.slice ar B.length cr) (.slice x1 Z1.length y1) (.slice x2 Z2.length y2) = wF at *
 obtain ⟨g1, g2, g3⟩ := HT.out.cell
 go_wp2
 refine bodyPost_ret (v := .agg #[.slice ar B.length cr, .slice x1 Z1.length y1, .slice x2 Z2.length y2]) ?_ rfl ⟨_, _, _, ⟨B, Z1, Z2⟩, rfl, HR.out, ⟨A, HV.out, ht1, ht2, hz1, hz2⟩, HB.out⟩
 simp [results, Tryz.results119, go_sem, g1, g2, g3]
end Go.Proofs.YtnapbdoalfbgnaaGreat
