import Derived.Test.YtjhididlcdepdaaGreatBRgnL
set_option linter.unusedVariables false
set_option linter.unusedSimpArgs false
set_option maxRecDepth 100000
set_option maxHeartbeats 4000000
namespace Go.Proofs.YtjhididlcdepdaaGreat
open Go.RowKit Fld Pln
theorem blk8 {W W' : World} {g : Nat} {o : Obj} (h : W.heap[g]? = some o) (hb : Below W.heap.size W W') : W'.heap[g]? = some o := (hb.block g (Array.getElem?_eq_some_iff.1 h).1).trans h
theorem setCell_same {V : World} {g : Nat} {T : TypeId} {v : Value} (h : V.heap[g]? = some (.cells #[v] T (0, 0))) : V.setCell ⟨g, 0, none⟩ v = V := by
 have e : (V.setCell ⟨g, 0, none⟩ v).heap = V.heap := by
  apply Array.ext_getElem?
  intro j
  by_cases hj : j = g
  · rw [hj, set_blk h 0 v, h]; rfl
  · exact Below.heap_setCell _ _ _ j hj
 show ({ V with heap := (V.setCell ⟨g, 0, none⟩ v).heap } : World) = V
 rw [e]
theorem setRow_same {V : World} {g : Nat} {T : TypeId} {cs : Array Value} (h : V.heap[g]? = some (.cells cs T (0, 0))) : V.setRow g cs = V := by
 have e : (V.setRow g cs).heap = V.heap := by
  apply Array.ext_getElem?
  intro j
  by_cases hj : j = g
  · rw [hj, setRow_heap V g cs cs T (0, 0) h, h]
  · show (V.heap.modify g _)[j]? = _
    rw [Array.getElem?_modify, if_neg (fun e => hj e.symm)]
 show ({ V with heap := (V.setRow g cs).heap } : World) = V
 rw [e]
theorem res_cct {P : Program} {fn : Func} {tmps : Array Value} {w : World} {a b c : Nat} {t s : TypeId} {ad bd : Addr} {v u x : Value} (hr : fn.results = #[.cell a t, .cell b s, .tmp c]) (ha : tmps.getD a undef = .pointer (some ad)) (hb : tmps.getD b undef = .pointer (some bd)) (hc : tmps.getD c undef = x) (hl : (loadVar t ad).run P w = .ok v w) (hm : (loadVar s bd).run P w = .ok u w) :
 (results fn tmps).run P w = .ok (.tuple #[v, u, x]) w := by
 have ha2 : tmps[a]?.getD undef = .pointer (some ad) := by rw [<- ha]; simp
 have hb2 : tmps[b]?.getD undef = .pointer (some bd) := by rw [<- hb]; simp
 have hc2 : tmps[c]?.getD undef = x := by rw [<- hc]; simp
 simp [results, hr, ha2, hb2, hc2, asAddr, hl, hm]
def bx4R (w : World) (p : Pn) (v : Value) : World := (((w.alloc (.cells #[.int .u8 p.f, .int .i64 p.n, .int .i64 p.k, .int .i64 p.t, .int .i64 p.s, .int .i64 p.e, .int .i64 p.d, .int .i64 p.w] 24)).alloc (.cells #[v] 25)).alloc (.cells #[.slice none 0 0] 26)).alloc (.cells (mkv (fun _ => false)) 67)
theorem bx4R_facts (w : World) (p : Pn) (v : Value) : Pb (bx4R w p v) w.heap.size p ∧ (bx4R w p v).heap[w.heap.size + 1]? = some (.cells #[v] 25 (0, 0)) ∧ (bx4R w p v).heap[w.heap.size + 2]? = some (.cells #[.slice none 0 0] 26 (0, 0)) ∧ Mks (bx4R w p v) (w.heap.size + 3) (fun _ => false) ∧ Below w.heap.size w (bx4R w p v) ∧ (bx4R w p v).heap.size = w.heap.size + 4 := by
 obtain ⟨pb, hA⟩ := pb_box (w := w) p
 unfold bx4R
 generalize hW1 : w.alloc (.cells #[.int .u8 p.f, .int .i64 p.n, .int .i64 p.k, .int .i64 p.t, .int .i64 p.s, .int .i64 p.e, .int .i64 p.d, .int .i64 p.w] 24) = W1 at *
 have s1 : W1.heap.size = w.heap.size + 1 := by rw [<- hW1]; simp
 have a2 := heap_alloc_new W1 (.cells #[v] 25)
 have b2 := alloc_below W1 (.cells #[v] 25)
 generalize hW2 : W1.alloc (.cells #[v] 25) = W2 at *
 have s2 : W2.heap.size = W1.heap.size + 1 := by rw [<- hW2]; simp
 have a3 := heap_alloc_new W2 (.cells #[.slice none 0 0] 26)
 have b3 := alloc_below W2 (.cells #[.slice none 0 0] 26)
 generalize hW3 : W2.alloc (.cells #[.slice none 0 0] 26) = W3 at *
 have s3 : W3.heap.size = W2.heap.size + 1 := by rw [<- hW3]; simp
 have a4 := mks_new W3
 have b4 := alloc_below W3 (.cells (mkv (fun _ => false)) 67)
 have s4 : (W3.alloc (.cells (mkv (fun _ => false)) 67)).heap.size = W3.heap.size + 1 := by simp
 refine ⟨((pb.below b2).below b3).below b4, ?_, ?_, ?_, Below.next (Below.next (Below.next hA b2) b3) b4, by omega⟩
 · rw [show w.heap.size + 1 = W1.heap.size by omega]; exact blk8 (blk8 a2 b3) b4
 · rw [show w.heap.size + 2 = W2.heap.size by omega]; exact blk8 a3 b4
 · rw [show w.heap.size + 3 = W3.heap.size by omega]; exact a4
theorem gDecoded (p : Pn) (n : Nat) (v : Value) (us : List Rq) (q : Int) (wd : Bool) (w : World) (hp : Ok8p p) (h : Rpl w v us) (hR : Rvf p n (rps us) q wd) :
 Calls Tryz.prog 27 #[plv p, .int .i64 (n : Int), v] w fun e w' => ∃ (G : Nat) (b : Nat -> Bool) (r : Int), e = .returned (.tuple #[.slice (some ⟨G, 0, none⟩) n n, .agg (mkv b), .int .i64 r]) ∧ ((r = 0 ∧ Fine p (rps us) n ∧ b = wrB p (rps us) n ∧ ∃ vs, Mtx w' w.heap.size (.slice (some ⟨G, 0, none⟩) n n) vs (plL p (rps us) n)) ∨ (r = 180 ∧ ¬ Fine p (rps us) n)) ∧ Below w.heap.size w w' := by
 have hhi := hR.hi
 have hfew := hR.few
 rw [rps_len] at hfew
 have HG : Hid (∀ W, Calls Tryz.prog 56 #[plv p] W fun e w' => e = .returned (.tuple #[.int .i64 (dg p), .int .i64 0]) ∧ Below W.heap.size W w') := fun W => by
  have := gDegree p hp W
  rw [dgV_yes hR.may, erP_yes hR.may] at this
  exact this
 have HPl := hide (fun W (hb : Below w.heap.size w W) => gPlaces p v us W hp hR.may (h.below hb) (fun x hx => hR.wk (rpO x) (List.mem_map.2 ⟨x, hx, rfl⟩)) (by omega))
 have HRp := hide h
 have HRv := hide hR
 have hmk := makeN n (by omega)
 have he0 := (may_facts hR.may).2.2.2.2.1.1
 obtain ⟨ao, cap, rfl, _⟩ := h.spell
 obtain ⟨q1, q2, q3, q4, q5, q6⟩ := bx4R_facts w p (.slice ao us.length cap)
 clear h hR
 rw [plan_eq8] at *
 go_enter Tryz.func27, Tryz.ntmps27
 go_upto_region 0 with fail
 refine wp_region_lit ?_
 refine rowOp (w1 := w.alloc (.cells #[.int .u8 p.f, .int .i64 p.n, .int .i64 p.k, .int .i64 p.t, .int .i64 p.s, .int .i64 p.e, .int .i64 p.d, .int .i64 p.w] 24)) rfl (.pointer (some ⟨w.heap.size, 0, none⟩)) (by simp [go_sem, execOp]) ?_
 refine rowOp (w1 := (w.alloc (.cells #[.int .u8 p.f, .int .i64 p.n, .int .i64 p.k, .int .i64 p.t, .int .i64 p.s, .int .i64 p.e, .int .i64 p.d, .int .i64 p.w] 24)).alloc (.cells #[.slice ao us.length cap] 25)) rfl (.pointer (some ⟨w.heap.size + 1, 0, none⟩)) (by simp [go_sem, execOp]) ?_
 refine rowOp (w1 := ((w.alloc (.cells #[.int .u8 p.f, .int .i64 p.n, .int .i64 p.k, .int .i64 p.t, .int .i64 p.s, .int .i64 p.e, .int .i64 p.d, .int .i64 p.w] 24)).alloc (.cells #[.slice ao us.length cap] 25)).alloc (.cells #[.slice none 0 0] 26)) rfl (.pointer (some ⟨w.heap.size + 2, 0, none⟩)) (by simp [go_sem, execOp]) ?_
 refine wpList_alloc_row rfl _ rfl _ marks_zero8 ?_
 have hs3 : (((w.alloc (.cells #[.int .u8 p.f, .int .i64 p.n, .int .i64 p.k, .int .i64 p.t, .int .i64 p.s, .int .i64 p.e, .int .i64 p.d, .int .i64 p.w] 24)).alloc (.cells #[.slice ao us.length cap] 25)).alloc (.cells #[.slice none 0 0] 26)).heap.size = w.heap.size + 3 := by simp
 rw [hs3]
 clear hs3
 have hW4 : (((w.alloc (.cells #[.int .u8 p.f, .int .i64 p.n, .int .i64 p.k, .int .i64 p.t, .int .i64 p.s, .int .i64 p.e, .int .i64 p.d, .int .i64 p.w] 24)).alloc (.cells #[.slice ao us.length cap] 25)).alloc (.cells #[.slice none 0 0] 26)).alloc (.cells (mkv (fun _ => false)) 67) = bx4R w p (.slice ao us.length cap) := rfl
 rw [hW4]
 clear hW4
 generalize bx4R w p (.slice ao us.length cap) = W4 at *
 obtain ⟨c0, c1, c2, c3, c4, c5, c6, c7⟩ := q1.cells
 have Q1 := hide q1
 have Q2 := hide q2
 have Q3 := hide q3
 have Q4 := hide q4
 clear q1 q2 q3 q4
 go_upto_region 2 with (go_at_call 56; refine (HG.out _).mono ?_; rintro e w5 ⟨rfl, hb5⟩)
 have aD := heap_alloc_new w5 (.cells #[.int .i64 (dg p)] 3)
 have hb6 := alloc_below w5 (.cells #[.int .i64 (dg p)] 3)
 generalize w5.alloc (.cells #[.int .i64 (dg p)] 3) = W6 at *
 have s45 := hb5.size
 have s56 := hb6.size
 have hC6 := Below.next hb5 hb6
 have hB6 := Below.next q5 hC6
 clear c0 c1 c2 c3 c4 c5 c6 c7
 obtain ⟨c0, c1, c2, c3, c4, c5, c6, c7⟩ := (Q1.out.below hC6).cells
 have cl := (box_cell (blk8 Q2.out hC6)).1
 go_upto_region 3 with (go_at_call 44; refine (HPl.out _ hB6).mono ?_; rintro e w7 ⟨vx, rfl, hOx, hb7⟩; obtain ⟨ax, cx, rfl⟩ := own_form hOx; have HOx := hide hOx; clear hOx)
 have aX := heap_alloc_new w7 (.cells #[.slice ax us.length cx] 36)
 have hb8 := alloc_below w7 (.cells #[.slice ax us.length cx] 36)
 have HOx8 := hide (own_below HOx.out hb8)
 generalize w7.alloc (.cells #[.slice ax us.length cx] 36) = W8 at *
 have hC8 := Below.next (Below.next hC6 hb7) hb8
 have hb9 := alloc_below W8 (.cells (nvs n).toArray 36)
 have HMt := hide (mtx_new W8 (lo := w.heap.size) (n := n) (by have := hC8.size; have := q5.size; omega) (by omega) (fun t => if t < 0 then dcL p (rps us) t else []) (fun t _ => if_neg (by omega)))
 have hC9 := Below.next hC8 hb9
 have cq := (box_cell (blk8 Q3.out hC9)).1
 have fq := (box_cell (blk8 Q3.out hC9)).2
 clear c0 c1 c2 c3 c4 c5 c6 c7 cl
 go_upto_region 4 with fail
 have hg2 : (W8.alloc (.cells (nvs n).toArray 36)).heap[w.heap.size + 2]? = some (.cells #[.slice none 0 0] 26 (0, 0)) := blk8 Q3.out hC9
 have hgG := (Array.getElem?_eq_some_iff.1 aX).1
 have hgD := (Array.getElem?_eq_some_iff.1 aD).1
 have s67 := hb7.size
 have s78 := hb8.size
 have sA : (W8.alloc (.cells (nvs n).toArray 36)).heap.size = W8.heap.size + 1 := by simp
 have HDf : Hid (Dcf p us n w ((W8.alloc (.cells (nvs n).toArray 36)).setCell ⟨w.heap.size + 2, 0, none⟩ (.slice (some ⟨W8.heap.size, 0, none⟩) n n)) w.heap.size w7.heap.size (w.heap.size + 1) w5.heap.size (w.heap.size + 2) (w.heap.size + 3) W8.heap.size (.slice ax us.length cx) (.slice ao us.length cap)) := by
  have far : ∀ {g : Nat} {o : Obj}, g ≠ w.heap.size + 2 -> (W8.alloc (.cells (nvs n).toArray 36)).heap[g]? = some o -> ((W8.alloc (.cells (nvs n).toArray 36)).setCell ⟨w.heap.size + 2, 0, none⟩ (.slice (some ⟨W8.heap.size, 0, none⟩) n n)).heap[g]? = some o := fun hne h => (Below.heap_setCell _ _ _ _ hne).trans h
  exact {
   rp := HRp.out,
   bl := (Below.next q5 hC9).setCell (p := ⟨w.heap.size + 2, 0, none⟩) (by show w.heap.size <= w.heap.size + 2; omega) _,
   pb := far (by omega) (Q1.out.below hC9),
   bx := far (by omega) (blk8 aX hb9),
   br := far (by omega) (blk8 Q2.out hC9),
   bd := far (by omega) (blk8 (blk8 (blk8 aD hb7) hb8) hb9),
   bq := set_blk hg2 0 _,
   xs := own_other (own_mono (own_below HOx8.out hb9) (by have := q5.size; omega)) (own_apart (own_below HOx8.out hb9) hg2 (by decide)),
   lw := ⟨by omega, by simp; omega⟩,
   lG := ⟨by omega, by simp⟩,
   ne := by omega,
   xo := fun g hg => by
    have h1 := own_base HOx.out g hg
    have h2 := own_top HOx.out g hg
    omega }
 have HD0 : Hid (Dcs p us n w ((W8.alloc (.cells (nvs n).toArray 36)).setCell ⟨w.heap.size + 2, 0, none⟩ (.slice (some ⟨W8.heap.size, 0, none⟩) n n)) (w.heap.size + 3) W8.heap.size 0 ((W8.alloc (.cells (nvs n).toArray 36)).setCell ⟨w.heap.size + 2, 0, none⟩ (.slice (some ⟨W8.heap.size, 0, none⟩) n n))) :=
  ⟨Kq.refl _ _, Mks.congr ((Below.heap_setCell _ _ _ (w.heap.size + 3) (by show w.heap.size + 3 ≠ w.heap.size + 2; omega)).trans (Q4.out.below hC9)) (fun j _ => (wrB_zero p (rps us) j).symm), ⟨_, Mtx.kqg HMt.out (kq_set8 (S := fun j => j ≠ w.heap.size + 2) (fun h => h rfl)) (fun j hj _ => hj) hg2 (by decide) (by decide)⟩, fine_zero he0⟩
 have hgp : w.heap.size <= W8.heap.size := by omega
 generalize (W8.alloc (.cells (nvs n).toArray 36)).setCell ⟨w.heap.size + 2, 0, none⟩ (.slice (some ⟨W8.heap.size, 0, none⟩) n n) = Wb at *
 generalize W8.heap.size = G at *
 have HEa := hide (gEach8 n (by omega) 57 #[.pointer (some ⟨w.heap.size, 0, none⟩), .pointer (some ⟨w7.heap.size, 0, none⟩), .pointer (some ⟨w.heap.size + 1, 0, none⟩), .pointer (some ⟨w5.heap.size, 0, none⟩), .pointer (some ⟨w.heap.size + 2, 0, none⟩), .pointer (some ⟨w.heap.size + 3, 0, none⟩)] Wb (fun k W => Dcs p us n w Wb (w.heap.size + 3) G k W) (fun r W => Dcx p us n Wb (w.heap.size + 3) G r W) (by intro args W; simp [go_sem]) HD0.out (fun k W hk hI => gDec1 p us n k q wd w Wb W _ _ _ _ _ _ _ _ _ HRv.out HDf.out hk hI))
 clear Q1 Q2 Q3 Q4 HOx HOx8 HMt HPl HG cq fq hg2 aX aD hC9 hC8 hC6 hb9 hb8 hb7 hb6 hb5 HRv HRp HD0 hmk
 go_upto_region 5 with (go_at_call 45; refine HEa.out.mono ?_; rintro e w9 ⟨r, rfl, hr⟩)
 have hb : ∃ b, Hid (Kq (Sd Wb (w.heap.size + 3) G) Wb w9) ∧ Mks w9 (w.heap.size + 3) b ∧ Hid ((r = 0 ∧ Fine p (rps us) n ∧ b = wrB p (rps us) n ∧ ∃ vs, Mtx w9 w.heap.size (.slice (some ⟨G, 0, none⟩) n n) vs (plL p (rps us) n)) ∨ (r = 180 ∧ ¬ Fine p (rps us) n)) := by
  rcases hr with ⟨rfl, hI⟩ | ⟨_, hX⟩
  · obtain ⟨vs, hM⟩ := hI.mt
    rw [plk_all] at hM
    exact ⟨_, hI.kq, hI.ms, .inl ⟨rfl, hI.fn, rfl, vs, hM⟩⟩
  · obtain ⟨b, hM⟩ := hX.ms
    exact ⟨b, hX.kq, hM, .inr ⟨hX.e, hX.no⟩⟩
 obtain ⟨b, HK, hMb, HFin⟩ := hb
 obtain ⟨_, _, _, _, hq9, _, hB9⟩ := HDf.out.at HK.out
 have hsz : (Tryz.prog.info? 67).map (·.size) = some (mkv b).size := by
  rw [show (mkv b).size = 64 by simp [mkv, mkl8]]; kernel_rfl
 have hone : (mkv b).all (·.oneCell') = true := by unfold mkv; simp [Value.oneCell']
 have hdr : Below w9.heap.size w9 w9.drew := (Below.refl _ w9).drew
 have hS0 : w9.drew.heap[w.heap.size + 2]? = some (.cells #[.slice (some ⟨G, 0, none⟩) n n] 26 (0, 0)) ∧ w9.drew.heap[w.heap.size + 3]? = some (.cells (mkv b) 67 (0, 0)) := ⟨blk8 hq9 hdr, hMb.below hdr⟩
 have HFin2 : Hid ((r = 0 ∧ Fine p (rps us) n ∧ b = wrB p (rps us) n ∧ ∃ vs, Mtx w9.drew w.heap.size (.slice (some ⟨G, 0, none⟩) n n) vs (plL p (rps us) n)) ∨ (r = 180 ∧ ¬ Fine p (rps us) n)) := by
  rcases HFin.out with ⟨h1, h2, h3, vs, h4⟩ | h
  · exact .inl ⟨h1, h2, h3, vs, h4.below hdr⟩
  · exact .inr h
 have hB10 := Below.next hB9 hdr
 clear HFin HK HDf HEa hr hMb hq9 hB9
 have HC0 : Hid (∀ V : World, V.heap[w.heap.size + 2]? = some (.cells #[.slice (some ⟨G, 0, none⟩) n n] 26 (0, 0)) ∧ V.heap[w.heap.size + 3]? = some (.cells (mkv b) 67 (0, 0)) -> V.cell? ⟨w.heap.size + 2, 0, none⟩ = some (.slice (some ⟨G, 0, none⟩) n n)) := fun V hV => (box_cell hV.1).1
 have HX1 : Hid (∀ V : World, V.heap[w.heap.size + 2]? = some (.cells #[.slice (some ⟨G, 0, none⟩) n n] 26 (0, 0)) ∧ V.heap[w.heap.size + 3]? = some (.cells (mkv b) 67 (0, 0)) -> (loadVar 67 ⟨w.heap.size + 3, 0, none⟩).run Tryz.prog V = .ok (.agg (mkv b)) V) := fun V hV => run_loadVar_row V _ _ _ _ (0, 0) _ hV.2 Tryz.underlying67 rfl hsz
 have HY4 : Hid ((storeVar 67 ⟨w.heap.size + 3, 0, none⟩ (.agg (mkv b))).run Tryz.prog w9.drew = .ok () w9.drew) := by
  have := run_storeVar_row (P := Tryz.prog) w9.drew _ _ _ _ _ hS0.2 hsz rfl hone
  rw [setRow_same hS0.2] at this
  exact this
 have cq := HC0.out _ hS0
 have fq := (box_cell hS0.1).2
 have hsame := setCell_same hS0.1
 refine wp_region_held_drew (S := (fun V => V.heap[w.heap.size + 2]? = some (.cells #[.slice (some ⟨G, 0, none⟩) n n] 26 (0, 0)) ∧ V.heap[w.heap.size + 3]? = some (.cells (mkv b) 67 (0, 0)))) (by kernel_rfl) hS0 (fun hHeld => ?_)
 refine tkY 0 ?_ (hy := by (intro w hSw; (try dsimp only at hSw); have hc := HC0.out _ hSw; go_simp; with_reducible rfl))
 refine tkY 1 ?_ (hy := by (intro w hSw; (try dsimp only at hSw); simp [execOp, Instr.loadAt, Instr.sureAddr, Act.eval, HX1.out _ hSw]; with_reducible rfl))
 refine tkY 2 ?_
 refine rd1 3 (fun K hK => ?_)
 (try simp only [ly0, ly1, ly2, ly3, ly4, ly5, ly6, ly7])
 go_simp
 try rw [hsame]
 refine hK.out _ _ hS0 (fun hHeld => ?_)
 clear hK K
 (try simp only [ly0, ly1, ly2, ly3, ly4, ly5, ly6, ly7])
 refine rd1 4 (fun K hK => ?_)
 (try simp only [ly0, ly1, ly2, ly3, ly4, ly5, ly6, ly7])
 refine (if_pos rfl).mpr ?_
 unfold Oper.wp
 rw [show ((execOp _ _).run Tryz.prog w9.drew) = .ok .skip w9.drew by simp [execOp, Instr.storeAt, Instr.sureAddr, Act.eval, HY4.out]]
 refine hK.out _ _ hS0 (fun hHeld => ?_)
 clear hK K
 (try simp only [ly0, ly1, ly2, ly3, ly4, ly5, ly6, ly7])
 refine tkY 5 ?_
 refine wpAnyH_done (by kernel_rfl) ?_ _
 go_wp2_with fail
 have hlq : (loadVar 26 ⟨w.heap.size + 2, 0, none⟩).run Tryz.prog w9.drew = .ok (.slice (some ⟨G, 0, none⟩) n n) w9.drew := by simp [go_sem, cq]
 refine bodyPost_ret (res_cct (a := 6) (b := 7) (c := 8) (v := .slice (some ⟨G, 0, none⟩) n n) (u := .agg (mkv b)) rfl rfl rfl rfl hlq (HX1.out _ hS0)) rfl ?_
 exact ⟨G, b, r, rfl, HFin2.out, hB10⟩
end Go.Proofs.YtjhididlcdepdaaGreat
