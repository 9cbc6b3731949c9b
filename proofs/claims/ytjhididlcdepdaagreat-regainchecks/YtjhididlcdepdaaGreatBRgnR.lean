import Derived.Test.YtjhididlcdepdaaGreatBRgnP
import Derived.Test.YtjhididlcdepdaaGreatBRgnJ
set_option linter.unusedVariables false
set_option linter.unusedSimpArgs false
set_option maxRecDepth 100000
set_option maxHeartbeats 4000000
namespace Go.Proofs.YtjhididlcdepdaaGreat
open Go.RowKit Fld Pln
def ok1 (f : Int) (P : List Int) (v : Int) : Bool := inF f [v] && (inF f P && decide (P.length ≤ 4096))
def on1 (q x : Int) (P : List Int) (v : Int) : Bool := decide (vl q x P = v)
def pjk (Ps : List (List Int)) (vs : List Int) (g : List Int → Int → Bool) (k : Nat) : Bool := g (Ps.getD k []) (co vs k)
def cnt (b : Nat → Bool) (k : Nat) : Nat := ((List.range k).filter b).length
theorem cnt_next (b : Nat → Bool) (k : Nat) : cnt b (k + 1) = cnt b k + (if b k = true then 1 else 0) := by
 unfold cnt
 rw [List.range_succ, List.filter_append, List.length_append]
 by_cases h : b k = true
 · rw [if_pos h]; simp [h]
 · rw [if_neg h]; simp [h]
theorem cnt_le (b : Nat → Bool) (k : Nat) : cnt b k ≤ k := by
 unfold cnt
 have := List.length_filter_le b (List.range k)
 rw [List.length_range] at this
 exact this
theorem cnt_all (b : Nat → Bool) : ∀ k, cnt b k = k ↔ ∀ j, j < k → b j = true
 | 0 => by simp [cnt]
 | k + 1 => by
  rw [cnt_next]
  have h1 := cnt_le b k
  constructor
  · intro h j hj
    by_cases hb : b k = true
    · rw [if_pos hb] at h
      by_cases e : j < k
      · exact (cnt_all b k).1 (by omega) j e
      · obtain rfl : j = k := by omega
        exact hb
    · rw [if_neg hb] at h; omega
  · intro h
    rw [if_pos (h k (by omega)), (cnt_all b k).2 (fun j hj => h j (by omega))]
theorem ag_one {f q x v : Int} {wd : Bool} {P : List Int} (hf : Fi f q wd) (hx : El q x) (hv : 0 ≤ v ∧ v ≤ 18446744073709551615) (hP : ∀ y ∈ P, 0 ≤ y ∧ y ≤ 18446744073709551615) : (ok1 f P v = true → agE f P [x] [v] = 0 ∧ agV f P [x] [v] = if on1 q x P v = true then 1 else 0) ∧ (ok1 f P v = false → agE f P [x] [v] ≠ 0) := by
 have hx1 : inF f [x] = true := by rw [inF_yes hf]; exact allIn_of (fun y hy => by rw [List.mem_singleton.1 hy]; exact hx)
 constructor
 · intro h
   unfold ok1 at h
   rw [Bool.and_eq_true, Bool.and_eq_true, decide_eq_true_iff] at h
   obtain ⟨h1, h2, h3⟩ := h
   have e1 : bad f [x] [v] ([v] : List Int).length = 0 := by
    show bad f [x] [v] 1 = 0
    rw [bad_end (n := 1) hx1 h1 rfl (by simp), if_pos (by simp)]
   have e2 : er f P [0] = 0 := by
    rw [inF_yes hf] at h2
    exact er_yes hf h2 (allIn_of (fun y hy => by rw [List.mem_singleton.1 hy]; have := hf.big; exact ⟨by omega, by omega⟩)) h3 (by decide)
   have e3 : agE f P [x] [v] = 0 := by unfold agE fst2; rw [e1, if_pos rfl, e2]
   refine ⟨e3, ?_⟩
   unfold agV
   rw [if_pos e3, pOf_eq hf]
   unfold offp on1
   by_cases e : vl q x P = v
   · have hc : co [x] 0 = x := rfl
     have hd : co [v] 0 = v := rfl
     simp [hc, hd, e, List.range_succ]
   · have hc : co [x] 0 = x := rfl
     have hd : co [v] 0 = v := rfl
     simp [hc, hd, e, List.range_succ]
 · intro h h0
   unfold agE at h0
   have hb : bad f [x] [v] ([v] : List Int).length = 0 ∧ er f P [0] = 0 := by
    unfold fst2 at h0
    by_cases c1 : bad f [x] [v] ([v] : List Int).length = 0
    · rw [if_pos c1] at h0; exact ⟨c1, h0⟩
    · rw [if_neg c1] at h0
      by_cases c2 : er f P [0] = 0
      · rw [if_pos c2] at h0; exact absurd h0 c1
      · rw [if_neg c2] at h0
        split at h0
        · exact absurd h0 c2
        · exact absurd h0 c1
   obtain ⟨p1, w1, f1, _, i2, _⟩ := bad_zero hb.1
   obtain ⟨p2, w2, f2, j1, _, j3, _⟩ := er_zero hb.2
   have : ok1 f P v = true := by
    unfold ok1
    rw [inF_yes f1, i2, inF_yes f2, j1, decide_eq_true j3]; rfl
   rw [this] at h; cases h
theorem inF_all {p : Pn} (hm : mayP p = true) (vs : List Int) : inF p.f vs = true ↔ ∀ k, k < vs.length → inF p.f [co vs k] = true := by
 obtain ⟨q, wd, hf⟩ := may_field hm
 rw [inF_yes hf]
 constructor
 · intro h k hk
   rw [inF_yes hf]
   unfold allIn at *
   rw [List.all_eq_true] at *
   intro x hx
   rw [List.mem_singleton.1 hx, co_at hk]
   exact h _ (List.getElem_mem hk)
 · intro h
   unfold allIn
   rw [List.all_eq_true]
   intro x hx
   obtain ⟨k, hk, rfl⟩ := List.mem_iff_getElem.1 hx
   have := h k hk
   rw [inF_yes hf, co_at hk] at this
   unfold allIn at this
   rw [List.all_eq_true] at this
   exact this _ (by simp)
theorem cq_yes {p : Pn} {Ps : List (List Int)} {i : Int} {vs : List Int} (hm : mayP p = true) (hi : isW p i = true) (hl : vs.length = Ps.length) : (cqE p Ps i vs = 0 ↔ ∀ k, k < vs.length → pjk Ps vs (ok1 p.f) k = true) ∧ (cqE p Ps i vs = 0 ∨ cqE p Ps i vs = 2) := by
 have hc : cqE p Ps i vs = if (inF p.f vs && Ps.all (fun P => inF p.f P && decide (P.length ≤ 4096))) = true then 0 else 2 := by
  unfold cqE; rw [hm, hi, decide_eq_true hl, Bool.true_and, Bool.true_and, Bool.true_and]
 have hk : (inF p.f vs && Ps.all (fun P => inF p.f P && decide (P.length ≤ 4096))) = true ↔ ∀ k, k < vs.length → pjk Ps vs (ok1 p.f) k = true := by
  rw [Bool.and_eq_true, inF_all hm, List.all_eq_true]
  unfold pjk ok1
  constructor
  · rintro ⟨h1, h2⟩ k hk
    rw [h1 k hk, h2 _ (getD_in8 [] (by omega))]; rfl
  · intro h
    refine ⟨fun k hk => ?_, fun P hP => ?_⟩
    · have := h k hk
      rw [Bool.and_eq_true] at this
      exact this.1
    · obtain ⟨k, hk, rfl⟩ := List.mem_iff_getElem.1 hP
      have := h k (by omega)
      rw [Bool.and_eq_true] at this
      have h2 := this.2
      rw [List.getD_eq_getElem?_getD, List.getElem?_eq_getElem hk] at h2
      exact h2
 rw [hc]
 by_cases h : (inF p.f vs && Ps.all (fun P => inF p.f P && decide (P.length ≤ 4096))) = true
 · rw [if_pos h]; exact ⟨⟨fun _ => hk.1 h, fun _ => rfl⟩, .inl rfl⟩
 · rw [if_neg h]; exact ⟨⟨fun c => absurd c (by decide), fun c => absurd (hk.2 c) h⟩, .inr rfl⟩
theorem cq_no {p : Pn} {Ps : List (List Int)} {i : Int} {vs : List Int} (h : ¬ (mayP p = true ∧ isW p i = true ∧ vs.length = Ps.length)) : cqE p Ps i vs = 2 := by
 unfold cqE
 rw [if_neg]
 intro hc
 rw [Bool.and_eq_true, Bool.and_eq_true, Bool.and_eq_true, decide_eq_true_iff] at hc
 exact h ⟨hc.1, hc.2.1, hc.2.2.1⟩
theorem cqB_on {p : Pn} {Ps : List (List Int)} {i : Int} {vs : List Int} (h0 : cqE p Ps i vs = 0) (hl : vs.length = Ps.length) : cqB p Ps i vs = decide (∀ k, k < vs.length → pjk Ps vs (on1 (pOf p.f) (p.k + p.t + i)) k = true) := by
 unfold cqB
 rw [decide_eq_true h0, Bool.true_and]
 congr 1
 rw [eq_iff_iff]
 unfold pjk on1
 constructor
 · intro h k hk
   rw [decide_eq_true_iff, ← h, co_mapR _ [] (by omega)]
 · intro h
   refine ext_co (by rw [List.length_map, hl]) (fun k hk => ?_)
   rw [List.length_map] at hk
   rw [co_mapR _ [] hk]
   exact of_decide_eq_true (h k (by omega))
theorem cqB_no {p : Pn} {Ps : List (List Int)} {i : Int} {vs : List Int} (h0 : cqE p Ps i vs = 2) : cqB p Ps i vs = false := by
 unfold cqB; rw [h0]; rfl
theorem rw_midR {w : World} {b off n cap : Nat} {xs : List Int} (h : Rw w (.slice (some ⟨b, off, none⟩) n cap) xs) {k m : Nat} (hk : k + m ≤ xs.length) : Rw w (.slice (some ⟨b, off + k, none⟩) m (cap - k)) ((xs.drop k).take m) := by
 obtain ⟨⟨ao', cap', h1, h2, h3, h4⟩, a, q, c, h5, h6⟩ := h
 cases h1; cases h5
 have hl : ((xs.drop k).take m).length = m := by rw [List.length_take, List.length_drop]; omega
 refine ⟨⟨_, _, by rw [hl], by omega, fun x hx => h3 x (List.mem_of_mem_drop (List.mem_of_mem_take hx)), fun hne => ?_⟩, _, _, _, rfl, by omega⟩
 have hm : 0 < m := by rw [← hl]; exact List.length_pos_iff.2 hne
 obtain ⟨b', off', h7, hb, hc⟩ := h4 (by intro e; rw [e] at hk; simp at hk; omega)
 cases h7
 refine ⟨b, off + k, rfl, hb, fun i hi => ?_⟩
 rw [hl] at hi
 have := hc (k + i) (by omega)
 rw [show off + k + i = off + (k + i) by omega, this]
 rw [List.getD_eq_getElem?_getD, List.getD_eq_getElem?_getD, List.getElem?_take_of_lt hi, List.getElem?_drop]
structure Ckf (p : Pn) (Ps : List (List Int)) (vs : List Int) (x : Int) (w0 Wb : World) (gp gr gx gv gl : Nat) (vr vq va vx vv : Value) : Prop where
 ps : Rws w0 vq Ps
 vl : Rw w0 vv vs
 bl : Below w0.heap.size w0 Wb
 pb : Pb Wb gp p
 br : Wb.heap[gr]? = some (.cells #[vr, vq, va] 29 (0, 0))
 bx : Wb.heap[gx]? = some (.cells #[vx] 36 (0, 0))
 bv : Wb.heap[gv]? = some (.cells #[vv] 36 (0, 0))
 xs : Wb.ownsRow w0.heap.size 64 1 vx 1 (vals [x])
 lw : w0.heap.size ≤ gl ∧ gl < Wb.heap.size
 ne : gp ≠ gl ∧ gr ≠ gl ∧ gx ≠ gl ∧ gv ≠ gl
 xo : ∀ g, vx.ownBlock = some g → g ≠ gl
def Sc (Wb : World) (gl : Nat) (j : Nat) : Prop := j < Wb.heap.size ∧ j ≠ gl
structure Cks (f q x : Int) (Ps : List (List Int)) (vs : List Int) (Wb : World) (gl : Nat) (k : Nat) (W : World) : Prop where
 kq : Kq (Sc Wb gl) Wb W
 li : W.heap[gl]? = some (.cells #[.int .i64 (cnt (pjk Ps vs (on1 q x)) k : Int)] 3 (0, 0))
 ok : ∀ j, j < k → pjk Ps vs (ok1 f) j = true
structure Ckx (f : Int) (Ps : List (List Int)) (vs : List Int) (Wb : World) (gl : Nat) (r : Int) (W : World) : Prop where
 e : r = 2
 kq : Kq (Sc Wb gl) Wb W
 li : ∃ z : Int, W.heap[gl]? = some (.cells #[.int .i64 z] 3 (0, 0))
 no : ∃ j, j < vs.length ∧ pjk Ps vs (ok1 f) j = false
theorem Ckf.at {p : Pn} {Ps : List (List Int)} {vs : List Int} {x : Int} {w0 Wb W : World} {gp gr gx gv gl : Nat} {vr vq va vx vv : Value} (h : Ckf p Ps vs x w0 Wb gp gr gx gv gl vr vq va vx vv) (hk : Kq (Sc Wb gl) Wb W) :
 Pb W gp p ∧ W.heap[gr]? = some (.cells #[vr, vq, va] 29 (0, 0)) ∧ W.heap[gx]? = some (.cells #[vx] 36 (0, 0)) ∧ W.heap[gv]? = some (.cells #[vv] 36 (0, 0)) ∧ W.ownsRow w0.heap.size 64 1 vx 1 (vals [x]) ∧ Below w0.heap.size w0 W := by
 have l : ∀ {g : Nat} {o : Obj}, Wb.heap[g]? = some o → g < Wb.heap.size := fun h => (Array.getElem?_eq_some_iff.1 h).1
 obtain ⟨n1, n2, n3, n4⟩ := h.ne
 exact ⟨(hk.block gp ⟨h.pb.lt, n1⟩).trans h.pb, (hk.block gr ⟨l h.br, n2⟩).trans h.br, (hk.block gx ⟨l h.bx, n3⟩).trans h.bx, (hk.block gv ⟨l h.bv, n4⟩).trans h.bv, hk.own h.xs (fun g hg => ⟨own_top h.xs g hg, h.xo g hg⟩), h.bl.trans (hk.below (fun j hj => ⟨by have := h.lw; omega, by have := h.lw; omega⟩))⟩
theorem gChk1 (p : Pn) (q : Int) (wd : Bool) (Ps : List (List Int)) (vs : List Int) (x : Int) (k : Nat) (w0 Wb W : World) (gp gr gx gv gl : Nat) (vr vq va vx vv : Value) (hfi : Fi p.f q wd) (hx : El q x) (hf : Ckf p Ps vs x w0 Wb gp gr gx gv gl vr vq va vx vv) (hk : k < vs.length) (hl : vs.length = Ps.length) (h : Cks p.f q x Ps vs Wb gl k W) :
 Calls Tryz.prog 46 #[.int .i64 (k : Int), .pointer (some ⟨gp, 0, none⟩), .pointer (some ⟨gr, 0, none⟩), .pointer (some ⟨gx, 0, none⟩), .pointer (some ⟨gv, 0, none⟩), .pointer (some ⟨gl, 0, none⟩)] W fun e w' => ∃ r : Int, e = .returned (.int .i64 r) ∧ ((r = 0 ∧ Cks p.f q x Ps vs Wb gl (k + 1) w') ∨ (r ≠ 0 ∧ Ckx p.f Ps vs Wb gl r w')) := by
 obtain ⟨f1, f2, f3, f4, f5, f6⟩ := hf.at h.kq
 have hvl := hf.vl.len
 obtain ⟨bq, oq, cq, rfl, hcq⟩ := hf.ps.some_ (by omega)
 obtain ⟨bv, ov, cv, rfl, hcv⟩ := rw_some8 hf.vl (by omega)
 obtain ⟨a2, c2, d1, d2⟩ := hf.ps.pick8 f6 (j := k) (by omega)
 have hcap : vs.length ≤ cv := by
  obtain ⟨_, _, e, h⟩ := hf.vl.spell
  injection e with _ _ e
  omega
 have hmid := rw_midR (hf.vl.below f6) (k := k) (m := 1) (by omega)
 have e1 : (vs.drop k).take 1 = [co vs k] := by
  rw [co_at hk, List.drop_eq_getElem_cons hk]; rfl
 rw [e1] at hmid
 have HA := hide (fun W' (hb : Below W.heap.size W W') => gAgree p.f (.slice a2 (Ps.getD k []).length c2) vx _ (Ps.getD k []) [x] [co vs k] W' (d2.below hb) ((rw_of_own (xs := [x]) f5 (by simp) (fun y hy => by rw [List.mem_singleton.1 hy]; exact elWord hx hfi.top)).below hb) (hmid.below hb))
 have HG := hide (ag_one (P := Ps.getD k []) hfi hx (hf.vl.words (co vs k) (by rw [co_at hk]; exact List.getElem_mem hk)) d2.words)
 obtain ⟨ax, cx, rfl⟩ := own_form f5
 have HF := hide hf
 have HH := hide h
 have hdr : Below W.heap.size W W.drew := (Below.refl _ W).drew
 have HS : Hid (∀ V, Below W.heap.size W V → V.cell? ⟨gp, 0, none⟩ = some (.int .u8 p.f) ∧ V.cell? ⟨gr, 1, none⟩ = some (.slice (some ⟨bq, oq, none⟩) Ps.length cq) ∧ V.cell? ⟨bq, oq + k, none⟩ = some (.slice a2 (Ps.getD k []).length c2) ∧ V.cell? ⟨gx, 0, none⟩ = some (.slice ax 1 cx) ∧ V.cell? ⟨gv, 0, none⟩ = some (.slice (some ⟨bv, ov, none⟩) vs.length cv)) := fun V hb =>
  ⟨(f1.below hb).cells.1, (cell3 (blk8 f2 hb)).2.1, (hb.cell (cell_in d1)).trans d1, (box_cell (blk8 f3 hb)).1, (box_cell (blk8 f4 hb)).1⟩
 have hS0 := HS.out _ hdr
 have k0 : (0 : Int) ≤ (k : Int) := by omega
 have k1 : (k : Int) < (vs.length : Int) := by omega
 have k2 : (k : Int) < (Ps.length : Int) := by omega
 have k3 : (vs.length : Int) ≤ (cv : Int) := by omega
 have hw1 : IntKind.i64.wrap ((k : Int) + 1) = (k : Int) + 1 := by rw [IntKind.wrap_i64]; omega
 have hw2 : ((k : Int) + 1).toNat = k + 1 := by omega
 have hw3 : (0 : Int) ≤ (k : Int) + 1 := by omega
 have hw4 : (k : Int) + 1 ≤ (cv : Int) := by omega
 have hw5 : ¬ cv = k := by omega
 have hw6 : k + 1 - k = 1 := by omega
 clear f1 f2 f3 f4 f5 hf h hmid d1 d2
 have Hpo : Hid (pjk Ps vs (ok1 p.f) k = ok1 p.f (Ps.getD k []) (co vs k)) := rfl
 have Hpn : Hid (pjk Ps vs (on1 q x) k = on1 q x (Ps.getD k []) (co vs k)) := rfl
 generalize Ps.getD k [] = PK at *
 generalize agE p.f PK [x] [co vs k] = e0 at *
 generalize agV p.f PK [x] [co vs k] = v0 at *
 generalize ok1 p.f PK (co vs k) = bo at *
 generalize on1 q x PK (co vs k) = bn at *
 generalize PK.length = m2 at *
 go_enter Tryz.func46, Tryz.ntmps46
 go_upto_region 1 with fail
 refine wp_region_held_drew (S := (fun V => V.cell? ⟨gp, 0, none⟩ = some (.int .u8 p.f) ∧ V.cell? ⟨gr, 1, none⟩ = some (.slice (some ⟨bq, oq, none⟩) Ps.length cq) ∧ V.cell? ⟨bq, oq + k, none⟩ = some (.slice a2 m2 c2) ∧ V.cell? ⟨gx, 0, none⟩ = some (.slice ax 1 cx) ∧ V.cell? ⟨gv, 0, none⟩ = some (.slice (some ⟨bv, ov, none⟩) vs.length cv))) (by kernel_rfl) (by ((try dsimp only) <;> (first | with_reducible exact hS1 | with_reducible exact hS0))) (fun hHeld => ?_)
 refine tkY 0 ?_
 refine tkY 1 ?_
 refine tkY 2 ?_
 refine tkY 3 ?_
 refine tkY 4 ?_
 refine tkY 5 ?_
 refine tkY 6 ?_
 refine tkY 7 ?_
 refine tkY 8 ?_
 refine tkY 9 ?_
 refine tkY 10 ?_
 refine tkY 11 ?_
 refine tkY 12 ?_
 refine rd1 13 (fun K hK => ?_)
 (try simp only [ly0, ly1, ly2, ly3, ly4, ly5, ly6, ly7])
 go_simp
 (go_at_call 47; refine (HA.out _ hdr).mono ?_; rintro e w1 ⟨rfl, hb1⟩; have hC1 := Below.next hdr hb1; have hS1 := HS.out _ hC1)
 first | refine hK.out _ _ ?k1 (fun hHeld => ?_) | (go_wp2_with fail; refine hK.out _ _ ?k1 (fun hHeld => ?_))
 case k1 => ((try dsimp only) <;> (first | with_reducible exact hS1 | with_reducible exact hS0))
 clear hK K
 (try simp only [ly0, ly1, ly2, ly3, ly4, ly5, ly6, ly7])
 refine tkY 14 ?_
 refine tkY 15 ?_
 refine tkY 16 ?_
 refine tkY 17 ?_
 refine tkY 18 ?_
 refine wpAnyH_done (by kernel_rfl) ?_ _
 have hsz : Wb.heap.size ≤ W.heap.size := HH.out.kq.size
 have HK1 : Hid (Kq (Sc Wb gl) Wb w1) := Kq.trans HH.out.kq (Below.kq hC1 (fun j hj => by have := hj.1; omega))
 have hli := blk8 HH.out.li hC1
 have cl := (box_cell hli).1
 have fl := (box_cell hli).2
 have hcn := cnt_le (pjk Ps vs (on1 q x)) k
 have HNx := hide (cnt_next (pjk Ps vs (on1 q x)) k)
 have HOk := hide HH.out.ok
 clear HA HS hS0 hS1 HF HH hw1 hw2 hw3 hw4 hw5 hw6
 cases ho : bo with
 | true =>
  obtain ⟨g1, g2⟩ := HG.out.1 ho
  subst g1
  subst g2
  have HSt : Hid (∀ z : Int, z = (cnt (pjk Ps vs (on1 q x)) (k + 1) : Int) → Cks p.f q x Ps vs Wb gl (k + 1) (w1.setCell ⟨gl, 0, none⟩ (.int .i64 z))) := fun z hz => by
   subst hz
   exact ⟨Kq.trans HK1.out (kq_set8 (fun hS => hS.2 rfl)), set_blk hli 0 _, fun j hj => by
    by_cases e : j < k
    · exact HOk.out j e
    · obtain rfl : j = k := by omega
      rw [Hpo.out]; exact ho⟩
  rw [Hpn.out] at HNx
  clear HG HOk Hpo Hpn hli HK1 ho
  cases hn : bn with
  | true =>
   rw [hn, if_pos rfl] at HNx
   rw [if_pos rfl]
   have HC := hide (HSt.out ((cnt (pjk Ps vs (on1 q x)) k : Int) + 1) (by rw [HNx.out]; omega))
   clear HSt HNx hn
   generalize cnt (pjk Ps vs (on1 q x)) k = c at *
   go_wp2_with fail
   go_ret
   exact ⟨0, rfl, .inl ⟨rfl, HC.out⟩⟩
  | false =>
   rw [hn, if_neg (by decide)] at HNx
   rw [if_neg (by decide)]
   have HC := hide (HSt.out ((cnt (pjk Ps vs (on1 q x)) k : Int) + 0) (by rw [HNx.out]; omega))
   rw [Int.add_zero] at HC
   clear HSt HNx hn
   generalize cnt (pjk Ps vs (on1 q x)) k = c at *
   go_wp2_with fail
   go_ret
   exact ⟨0, rfl, .inl ⟨rfl, HC.out⟩⟩
 | false =>
  have hne := HG.out.2 ho
  have HX : Hid (Ckx p.f Ps vs Wb gl 2 w1) := ⟨rfl, HK1.out, ⟨_, hli⟩, k, hk, by rw [Hpo.out]; exact ho⟩
  clear HG HOk Hpo Hpn hli HK1 ho HNx
  go_wp2_with fail
  go_ret
  exact ⟨2, rfl, .inr ⟨by decide, HX.out⟩⟩
def bx3C (w : World) (p : Pn) (vr vq va vv : Value) : World := ((w.alloc (.cells #[.int .u8 p.f, .int .i64 p.n, .int .i64 p.k, .int .i64 p.t, .int .i64 p.s, .int .i64 p.e, .int .i64 p.d, .int .i64 p.w] 24)).alloc (.cells #[vr, vq, va] 29)).alloc (.cells #[vv] 36)
theorem bx3C_facts (w : World) (p : Pn) (vr vq va vv : Value) : Pb (bx3C w p vr vq va vv) w.heap.size p ∧ (bx3C w p vr vq va vv).heap[w.heap.size + 1]? = some (.cells #[vr, vq, va] 29 (0, 0)) ∧ (bx3C w p vr vq va vv).heap[w.heap.size + 1 + 1]? = some (.cells #[vv] 36 (0, 0)) ∧ Below w.heap.size w (bx3C w p vr vq va vv) ∧ (bx3C w p vr vq va vv).heap.size = w.heap.size + 3 := by
 obtain ⟨pb, hA⟩ := pb_box (w := w) p
 unfold bx3C
 generalize hW1 : w.alloc (.cells #[.int .u8 p.f, .int .i64 p.n, .int .i64 p.k, .int .i64 p.t, .int .i64 p.s, .int .i64 p.e, .int .i64 p.d, .int .i64 p.w] 24) = W1 at *
 have s1 : W1.heap.size = w.heap.size + 1 := by rw [← hW1]; simp
 have a2 := heap_alloc_new W1 (.cells #[vr, vq, va] 29)
 have b2 := alloc_below W1 (.cells #[vr, vq, va] 29)
 have s2 : (W1.alloc (.cells #[vr, vq, va] 29)).heap.size = w.heap.size + 1 + 1 := by rw [World.size_alloc, s1]
 rw [s1] at a2
 generalize W1.alloc (.cells #[vr, vq, va] 29) = W2 at *
 have a3 := heap_alloc_new W2 (.cells #[vv] 36)
 have b3 := alloc_below W2 (.cells #[vv] 36)
 rw [s2] at a3
 exact ⟨(pb.below b2).below b3, blk8 a2 b3, a3, Below.next (Below.next hA b2) b3, by rw [World.size_alloc, s2]⟩
theorem gCheckR (p : Pn) (vr vq va vv : Value) (i : Int) (Ps : List (List Int)) (vs : List Int) (w : World) (hp : Ok8p p) (h1 : ∃ a b c, vr = .slice a b c) (h2 : Rws w vq Ps) (h3 : ∃ a b c, va = .slice a b c) (h4 : Rw w vv vs) :
 Calls Tryz.prog 14 #[plv p, .agg #[vr, vq, va], .int .i64 i, vv] w fun e w' => e = .returned (.tuple #[.bool (cqB p Ps i vs), .int .i64 (cqE p Ps i vs)]) ∧ Below w.heap.size w w' := by
 have HM := hide (fun W => gMay p hp W)
 have HW := hide (fun W => gIsWorker p i W)
 have hpl : Ps.length ≤ 5864062014700 := by obtain ⟨_, _, _, h, _⟩ := h2; exact h
 have hvl := h4.len
 obtain ⟨q1, q2, q3, q4, q5⟩ := bx3C_facts w p vr vq va vv
 have HR2 := hide h2
 have HR4 := hide h4
 obtain ⟨a1, n1, k1, rfl⟩ := h1
 obtain ⟨a3, n3, k3, rfl⟩ := h3
 obtain ⟨a2, k2, rfl, _, _, _⟩ := h2
 obtain ⟨a4, k4, rfl, _⟩ := h4.spell
 have HP := hide q1
 have HQ2 := hide q2
 have HQ3 := hide q3
 obtain ⟨c0, c1, c2, c3, c4, c5, c6, c7⟩ := q1.cells
 by_cases hall : mayP p = true ∧ isW p i = true ∧ vs.length = Ps.length
 · obtain ⟨hm, hi, hl⟩ := hall
   obtain ⟨q, wd, hf⟩ := may_field hm
   obtain ⟨⟨m0, m1⟩, ⟨t0, t1⟩, ⟨u0, u1⟩, _⟩ := may_facts hm
   have hiw := isW_iff.1 hi
   have hb := hf.big
   have hxel : El q (p.k + p.t + i) := ⟨by omega, by omega⟩
   have HPl : Hid (∀ W v, Rpl W v [(i, .slice none 0 0, [])] → Calls Tryz.prog 44 #[plv p, v] W fun e w' => ∃ v', e = .returned v' ∧ w'.ownsRow W.heap.size 64 1 v' 1 (vals [p.k + p.t + i]) ∧ Below W.heap.size W w') := fun W v hR => gPlaces p v [(i, .slice none 0 0, [])] W hp hm hR (fun x hx => by rw [List.mem_singleton.1 hx]; exact hiw) (by simp)
   obtain ⟨hcy, hcz⟩ := cq_yes (p := p) (Ps := Ps) (i := i) (vs := vs) hm hi hl
   have HCy := hide hcy
   have HCz := hide hcz
   have HCb := hide (fun h0 => cqB_on (p := p) (Ps := Ps) (i := i) (vs := vs) h0 hl)
   have HCn := hide (fun h0 => cqB_no (p := p) (Ps := Ps) (i := i) (vs := vs) h0)
   rw [pOf_eq hf] at HCb
   rw [hm] at HM
   rw [hi] at HW
   generalize cqE p Ps i vs = ce at *
   generalize cqB p Ps i vs = cb at *
   have HL := hide hl
   clear hcy hcz q1 q2 q3 h4 hm hi hp
   rw [hl] at HP HQ2 HQ3 q4 q5 c0 c1 c2 c3 c4 c5 c6 c7 ⊢
   clear hl
   unfold bx3C at *
   rw [plan_eq8] at *
   go_enter Tryz.func14, Tryz.ntmps14
   go_upto_region 1 with fail
   generalize ((w.alloc (.cells #[.int .u8 p.f, .int .i64 p.n, .int .i64 p.k, .int .i64 p.t, .int .i64 p.s, .int .i64 p.e, .int .i64 p.d, .int .i64 p.w] 24)).alloc (.cells #[.slice a1 n1 k1, .slice a2 Ps.length k2, .slice a3 n3 k3] 29)).alloc (.cells #[.slice a4 Ps.length k4] 36) = W0 at *
   go_upto_region 3 with (first
    | (go_at_call 43; refine (HM.out _).mono ?_; rintro e w1 ⟨rfl, hb1⟩; clear c0 c1 c2 c3 c4 c5 c6 c7; obtain ⟨c0, c1, c2, c3, c4, c5, c6, c7⟩ := (HP.out.below hb1).cells)
    | (go_at_call 37; refine (HW.out _).mono ?_; rintro e w2 ⟨rfl, hb2⟩; have hb12 := Below.next hb1 hb2; clear c0 c1 c2 c3 c4 c5 c6 c7; obtain ⟨c0, c1, c2, c3, c4, c5, c6, c7⟩ := (HP.out.below hb12).cells; obtain ⟨x0, x1, x2⟩ := cell3 (blk8 HQ2.out hb12); have x3 := (box_cell (blk8 HQ3.out hb12)).1))
   have ha3 := alloc_below w2 (.cells #[.int .i64 i, .slice none 0 0] 38)
   have n5 := heap_alloc_new w2 (.cells #[.int .i64 i, .slice none 0 0] 38)
   have HRp : Hid (Rpl (w2.alloc (.cells #[.int .i64 i, .slice none 0 0] 38)) (.slice (some ⟨w2.heap.size, 0, none⟩) 1 1) [(i, .slice none 0 0, [])]) :=
    ⟨lm_of_own (xs := [(i, .slice none 0 0, [])]) rpw_len (by decide) (own_lit ([(i, Value.slice none 0 0, ([] : List Int))].flatMap rpw) n5 rfl (by decide)) (by simp), fun x hx => by rw [List.mem_singleton.1 hx]; exact row_nilR _, fun x hx => by rw [List.mem_singleton.1 hx]; dsimp only; omega, by simp⟩
   have HPl2 := hide (HPl.out _ _ HRp.out)
   clear HPl HRp n5 HM HW x0 x1 x2 x3
   generalize hW3 : w2.alloc (.cells #[.int .i64 i, .slice none 0 0] 38) = W3 at *
   have hb13 := Below.next hb12 ha3
   go_upto_region 4 with (go_at_call 44; first | (refine HPl2.out.mono ?_; rintro e w4 ⟨vx, rfl, hOx, hb4⟩; obtain ⟨ax, cx, rfl⟩ := own_form hOx) | (subst hW3; refine HPl2.out.mono ?_; rintro e w4 ⟨vx, rfl, hOx, hb4⟩; obtain ⟨ax, cx, rfl⟩ := own_form hOx))
   have aX := heap_alloc_new w4 (.cells #[.slice ax 1 cx] 36)
   have hb5 := alloc_below w4 (.cells #[.slice ax 1 cx] 36)
   have s5 : (w4.alloc (.cells #[.slice ax 1 cx] 36)).heap.size = w4.heap.size + 1 := by simp
   generalize w4.alloc (.cells #[.slice ax 1 cx] 36) = W5 at *
   have aL := heap_alloc_new W5 (.cells #[.int .i64 0] 3)
   have hb6 := alloc_below W5 (.cells #[.int .i64 0] 3)
   have s6 : (W5.alloc (.cells #[.int .i64 0] 3)).heap.size = W5.heap.size + 1 := by simp
   rw [s5] at aL s6
   clear HPl2
   try subst hW3
   go_upto_region 5 with fail
   generalize W5.alloc (.cells #[.int .i64 0] 3) = W6 at *
   have l12 := hb12.size
   have l3 := ha3.size
   have l4 := hb4.size
   have hC6 := Below.next (Below.next (Below.next hb13 hb4) hb5) hb6
   have HCf : Hid (Ckf p Ps vs (p.k + p.t + i) w W6 w.heap.size (w.heap.size + 1) w4.heap.size (w.heap.size + 1 + 1) (w4.heap.size + 1) (.slice a1 n1 k1) (.slice a2 Ps.length k2) (.slice a3 n3 k3) (.slice ax 1 cx) (.slice a4 Ps.length k4)) :=
    ⟨HR2.out, by have := HR4.out; rw [HL.out] at this; exact this, Below.next q4 hC6, HP.out.below hC6, blk8 HQ2.out hC6, blk8 aX hb6, blk8 HQ3.out hC6, own_mono (own_below (own_below hOx hb5) hb6) (by omega), ⟨by omega, by omega⟩, ⟨by omega, by omega, by omega, by omega⟩, fun g hg => by have := own_top hOx g hg; omega⟩
   have HD0 : Hid (Cks p.f q (p.k + p.t + i) Ps vs W6 (w4.heap.size + 1) 0 W6) := ⟨Kq.refl _ _, aL, fun j hj => by omega⟩
   have hbW6 := Below.next q4 hC6
   have x3 := (box_cell (blk8 HQ3.out hC6)).1
   generalize hgl : w4.heap.size + 1 = gl at *
   clear hgl
   have HEa := hide (gEach8 Ps.length (by omega) 46 #[.pointer (some ⟨w.heap.size, 0, none⟩), .pointer (some ⟨w.heap.size + 1, 0, none⟩), .pointer (some ⟨w4.heap.size, 0, none⟩), .pointer (some ⟨w.heap.size + 1 + 1, 0, none⟩), .pointer (some ⟨gl, 0, none⟩)] W6 (fun k W => Cks p.f q (p.k + p.t + i) Ps vs W6 gl k W) (fun r W => Ckx p.f Ps vs W6 gl r W) (by intro args W; simp [go_sem]) HD0.out (fun k W hk hI => gChk1 p q wd Ps vs (p.k + p.t + i) k w W6 W _ _ _ _ _ _ _ _ _ _ hf hxel HCf.out (by rw [HL.out]; exact hk) HL.out hI))
   clear HP HQ2 hOx aX aL hC6 hb6 hb5 hb4 ha3 hb13 HD0 hf hxel s5 s6
   go_upto_region 6 with (go_at_call 45; refine HEa.out.mono ?_; rintro e w9 ⟨r, rfl, hr⟩)
   rcases hr with ⟨rfl, hI⟩ | ⟨_, hX⟩
   · obtain ⟨_, _, _, hv9, _, hB9⟩ := HCf.out.at hI.kq
     have y1 := (box_cell hv9).1
     have y2 := (box_cell hI.li).1
     have hce : ce = 0 := HCy.out.2 (fun k hk => hI.ok k (by rw [← HL.out]; exact hk))
     have hcb := HCb.out hce
     have hca := cnt_all (pjk Ps vs (on1 q (p.k + p.t + i))) Ps.length
     have hcl := cnt_le (pjk Ps vs (on1 q (p.k + p.t + i))) Ps.length
     have HB : Hid (cb = decide ((cnt (pjk Ps vs (on1 q (p.k + p.t + i))) Ps.length : Int) = (Ps.length : Int))) := by
      rw [hcb]
      by_cases e : cnt (pjk Ps vs (on1 q (p.k + p.t + i))) Ps.length = Ps.length
      · have e2 : (cnt (pjk Ps vs (on1 q (p.k + p.t + i))) Ps.length : Int) = (Ps.length : Int) := by omega
        exact (decide_eq_true (fun k hk => hca.1 e k (by rw [← HL.out]; exact hk))).trans (decide_eq_true e2).symm
      · have e2 : ¬ (cnt (pjk Ps vs (on1 q (p.k + p.t + i))) Ps.length : Int) = (Ps.length : Int) := by omega
        exact (decide_eq_false (fun h => e (hca.2 (fun k hk => h k (by rw [HL.out]; exact hk))))).trans (decide_eq_false e2).symm
     subst hce
     clear hcb hca hI HCf HEa HCb HCy HCn HCz hv9
     generalize cnt (pjk Ps vs (on1 q (p.k + p.t + i))) Ps.length = c at *
     go_wp2_with fail
     go_ret2
     exact ⟨by rw [HB.out]; rfl, hB9⟩
   · obtain ⟨_, _, _, hv9, _, hB9⟩ := HCf.out.at hX.kq
     obtain ⟨j, hj, hno⟩ := hX.no
     have hr2 := hX.e
     subst hr2
     have hce : ce = 2 := by
      rcases HCz.out with h | h
      · rw [HCy.out.1 h j hj] at hno; cases hno
      · exact h
     have hcb := HCn.out hce
     subst hce hcb
     clear hX HCf HEa HCb HCy HCn HCz
     go_wp2_with fail
     go_ret2
     exact ⟨rfl, hB9⟩
 · have e1 := cq_no hall
   have e2 := cqB_no e1
   rw [e1, e2]
   clear e1 e2
   have hcs : (mayP p = false) ∨ (mayP p = true ∧ isW p i = false) ∨ (mayP p = true ∧ isW p i = true ∧ ¬ ((vs.length : Nat) : Int) = (Ps.length : Int)) := by
    cases hm : mayP p with
    | false => exact .inl rfl
    | true =>
     cases hi : isW p i with
     | false => exact .inr (.inl ⟨rfl, rfl⟩)
     | true => exact .inr (.inr ⟨rfl, rfl, fun e => hall ⟨hm, hi, by omega⟩⟩)
   generalize mayP p = b0 at *
   generalize isW p i = b1 at *
   generalize hvs : vs.length = m1 at *
   generalize hps : Ps.length = m2 at *
   have HS0 : Hid (∀ V, Below (bx3C w p (.slice a1 n1 k1) (.slice a2 m2 k2) (.slice a3 n3 k3) (.slice a4 m1 k4)).heap.size (bx3C w p (.slice a1 n1 k1) (.slice a2 m2 k2) (.slice a3 n3 k3) (.slice a4 m1 k4)) V → Pb V w.heap.size p ∧ V.cell? ⟨w.heap.size + 1, 1, none⟩ = some (.slice a2 m2 k2) ∧ V.cell? ⟨w.heap.size + 1 + 1, 0, none⟩ = some (.slice a4 m1 k4)) := fun V hb => ⟨HP.out.below hb, (cell3 (blk8 HQ2.out hb)).2.1, (box_cell (blk8 HQ3.out hb)).1⟩
   clear q1 q2 q3 h4 hp hall HR2 HR4 HP HQ2 HQ3
   unfold bx3C at *
   rw [plan_eq8] at *
   rcases hcs with rfl | ⟨rfl, rfl⟩ | ⟨rfl, rfl, hne⟩
   all_goals
    go_enter Tryz.func14, Tryz.ntmps14
    go_upto_region 1 with fail
    generalize ((w.alloc (.cells #[.int .u8 p.f, .int .i64 p.n, .int .i64 p.k, .int .i64 p.t, .int .i64 p.s, .int .i64 p.e, .int .i64 p.d, .int .i64 p.w] 24)).alloc (.cells #[.slice a1 n1 k1, .slice a2 m2 k2, .slice a3 n3 k3] 29)).alloc (.cells #[.slice a4 m1 k4] 36) = W0 at *
    go_wp2_with (first
     | (go_at_call 43; refine (HM.out _).mono ?_; rintro e w1 ⟨rfl, hb1⟩; clear c0 c1 c2 c3 c4 c5 c6 c7; obtain ⟨pb1, _, _⟩ := HS0.out _ hb1; obtain ⟨c0, c1, c2, c3, c4, c5, c6, c7⟩ := pb1.cells)
     | (go_at_call 37; refine (HW.out _).mono ?_; rintro e w2 ⟨rfl, hb2⟩; have hb12 := Below.next hb1 hb2; obtain ⟨pb2, x1, x3⟩ := HS0.out _ hb12))
    go_ret2
   · exact ⟨rfl, Below.next q4 hb1⟩
   · exact ⟨rfl, Below.next q4 hb12⟩
   · exact ⟨rfl, Below.next q4 hb12⟩
end Go.Proofs.YtjhididlcdepdaaGreat
