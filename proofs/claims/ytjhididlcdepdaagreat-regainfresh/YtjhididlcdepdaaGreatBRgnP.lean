import Derived.Test.YtjhididlcdepdaaGreatBRgnM
import Derived.Test.YtjhididlcdepdaaGreatBRgnO
set_option linter.unusedVariables false
set_option linter.unusedSimpArgs false
set_option maxRecDepth 100000
set_option maxHeartbeats 4000000
namespace Go.Proofs.YtjhididlcdepdaaGreat
open Go.RowKit Fld Pln Shr
structure Rcv (base : Nat) (w : World) (vr vq va : Value) (Rs Ps : List (List Int)) (Ws : List Int) : Prop where
 all : ∃ mid us1 us2, base <= mid ∧ Mtx w mid vr us1 Rs ∧ Mtx w base vq us2 Ps ∧ (∀ g, vq.ownBlock = some g -> g < mid) ∧ (∀ i g, i < Ps.length -> (us2.getD i nov).ownBlock = some g -> g < mid)
 wr : w.ownsRow base 3 1 va Ws.length (Ws.flatMap iw)
theorem mtx_nil8 (w : World) (lo : Nat) : Mtx w lo (.slice none 0 0) [] [] := (Lss.nil w lo 0).mtx
theorem Rcv.none_ (base : Nat) (w : World) : Rcv base w (.slice none 0 0) (.slice none 0 0) (.slice none 0 0) [] [] [] :=
 ⟨⟨base, [], [], Nat.le_refl _, mtx_nil8 _ _, mtx_nil8 _ _, (fun g hg => by simp [Value.ownBlock] at hg), fun i g hi => by simp at hi⟩, World.ownsRow_nil _ _ _ _⟩
theorem Rcv.below {base : Nat} {w w' : World} {vr vq va : Value} {Rs Ps : List (List Int)} {Ws : List Int} (h : Rcv base w vr vq va Rs Ps Ws) (hb : Below w.heap.size w w') : Rcv base w' vr vq va Rs Ps Ws := by
 obtain ⟨mid, us1, us2, h1, h2, h3, h4, h5⟩ := h.all
 exact ⟨⟨mid, us1, us2, h1, h2.below hb, h3.below hb, h4, h5⟩, own_below h.wr hb⟩
def GivesRc (k : FuncId) (args : Array Value) (W : World) (Rs Ps : List (List Int)) (Ws : List Int) (e0 : Int) : Prop :=
 Calls Tryz.prog k args W fun e w' => ∃ vr vq va, e = .returned (.tuple #[.agg #[vr, vq, va], .int .i64 e0]) ∧ Rcv W.heap.size w' vr vq va Rs Ps Ws ∧ Below W.heap.size W w'
def st3 (W : World) (B : Nat) (x y z : Value) : World := ((W.setCell ⟨B, 0, none⟩ x).setCell ⟨B, 1, none⟩ y).setCell ⟨B, 2, none⟩ z
theorem st3_blk {W : World} {B : Nat} {a b c : Value} {T : TypeId} (h : W.heap[B]? = some (.cells #[a, b, c] T (0, 0))) (x y z : Value) : (st3 W B x y z).heap[B]? = some (.cells #[x, y, z] T (0, 0)) := by
 have h1 := set_blk h 0 x
 have h2 := set_blk h1 1 y
 have h3 := set_blk h2 2 z
 exact h3
theorem st3_far {W : World} {B j : Nat} (h : j ≠ B) (x y z : Value) : (st3 W B x y z).heap[j]? = W.heap[j]? :=
 ((Below.heap_setCell _ _ _ j h).trans (Below.heap_setCell _ _ _ j h)).trans (Below.heap_setCell _ _ _ j h)
theorem st3_below {W w0 : World} {B base : Nat} (h : Below base w0 W) (hB : base <= B) (x y z : Value) : Below base w0 (st3 W B x y z) :=
 ((h.setCell (p := ⟨B, 0, none⟩) hB _).setCell (p := ⟨B, 1, none⟩) hB _).setCell (p := ⟨B, 2, none⟩) hB _
theorem st3_kq {W : World} {B : Nat} (x y z : Value) : Kq (fun j => j ≠ B) W (st3 W B x y z) :=
 Kq.trans (Kq.trans (kq_set8 (fun h => h rfl)) (kq_set8 (fun h => h rfl))) (kq_set8 (fun h => h rfl))
theorem res_load {W : World} {B : Nat} {x y z : Value} (h : W.heap[B]? = some (.cells #[x, y, z] 29 (0, 0))) : (loadVar 29 ⟨B, 0, none⟩).run Tryz.prog W = .ok (.agg #[x, y, z]) W :=
 run_loadVar_row W B _ _ #[x, y, z] (0, 0) _ h Tryz.underlying29 rfl (by kernel_rfl)
theorem dec_els {p : Pn} {n : Int} {l : List Rp} {q : Int} {wd : Bool} (h : Rvf p n l q wd) (o : Nat) : Els q (dcL p l o) ∧ (dcL p l o).length <= 64 := by
 cases hc : (dcP p l o).isSome with
 | false => rw [dcL_none hc]; exact ⟨(fun x hx => by cases hx), by simp⟩
 | true =>
  have hd := dcP_some hc
  have := h.nd
  have := h.few
  have he := (may_facts h.may).2.2.2.2.1.1
  have hdg := dg_bound h.may
  unfold need at *
  rw [pOf_eq h.fld] at hd
  exact ⟨hd.1.1, by have := hd.2.1; omega⟩
theorem plL_facts {p : Pn} {n : Int} {l : List Rp} {q : Int} {wd : Bool} (h : Rvf p n l q wd) (m : Nat) : ∀ P ∈ plL p l m, Els q P ∧ Wd P := fun P hP => by
 obtain ⟨o, _, rfl⟩ := List.mem_map.1 hP
 obtain ⟨h1, h2⟩ := dec_els h o
 exact ⟨h1, wd_els h1 h.fld.top (by omega)⟩
theorem plL_len (p : Pn) (l : List Rp) (m : Nat) : (plL p l m).length = m := by unfold plL; rw [List.length_map, List.length_range]
theorem gRecover (p : Pn) (n : Int) (v : Value) (us : List Rq) (w : World) (hp : Ok8p p) (h : Rpl w v us) :
 GivesRc 8 #[plv p, .int .i64 n, v] w (rcR p n (rps us)) (rcP p n (rps us)) (rcW p n (rps us)) (rcE p n (rps us)) := by
 unfold GivesRc
 have HK := hide (fun W (hb : Below w.heap.size w W) => gCheck8 p n v us W hp (h.below hb))
 obtain ⟨pb, hA⟩ := pb_box (w := w) p
 have a1 := alloc_below (w.alloc (.cells #[.int .u8 p.f, .int .i64 p.n, .int .i64 p.k, .int .i64 p.t, .int .i64 p.s, .int .i64 p.e, .int .i64 p.d, .int .i64 p.w] 24)) (.cells #[.slice none 0 0, .slice none 0 0, .slice none 0 0] 29)
 have n1 := heap_alloc_new (w.alloc (.cells #[.int .u8 p.f, .int .i64 p.n, .int .i64 p.k, .int .i64 p.t, .int .i64 p.s, .int .i64 p.e, .int .i64 p.d, .int .i64 p.w] 24)) (.cells #[.slice none 0 0, .slice none 0 0, .slice none 0 0] 29)
 have hsz : (w.alloc (.cells #[.int .u8 p.f, .int .i64 p.n, .int .i64 p.k, .int .i64 p.t, .int .i64 p.s, .int .i64 p.e, .int .i64 p.d, .int .i64 p.w] 24)).heap.size = w.heap.size + 1 := by simp
 rw [hsz] at n1
 clear hsz
 have HPb := hide (pb.below a1)
 have hA1 := Below.next hA a1
 obtain ⟨c0, c1, c2, c3, c4, c5, c6, c7⟩ := HPb.out.cells
 have HN1 := hide n1
 by_cases hz : rvE p n (rps us) = 0
 · obtain ⟨q, wd, hR⟩ := rv_facts h.wd hz
   have hlo := hR.lo
   have hhi := hR.hi
   obtain ⟨N, rfl⟩ := Int.eq_ofNat_of_zero_le hlo
   have HD := hide (fun W (hb : Below w.heap.size w W) => gDecoded p N v us q wd W hp (h.below hb) hR)
   have HDa := hide (fun W => gData p W hp)
   unfold Gives at HDa
   rw [erP_yes hR.may] at HDa
   have hdl : datL p = pts 0 p.k.toNat := if_pos hR.may
   have hkb := (may_facts hR.may).2.1
   have HDw : Hid (Els q (datL p) ∧ (datL p).length <= 64 ∧ Wd (datL p)) := by
    have h1 : Els q (datL p) := by rw [hdl]; exact pts_els hR.fld (by omega) (by omega)
    have h2 : (datL p).length <= 64 := by rw [hdl, pts_len]; omega
    exact ⟨h1, h2, wd_els h1 hR.fld.top (by omega)⟩
   have HRw : Hid (∀ W vq us2 vx lo, Mtx W lo vq us2 (plL p (rps us) N) -> W.ownsRow lo 64 1 vx (datL p).length (vals (datL p)) -> ∀ W', Below W.heap.size W W' -> Calls Tryz.prog 29 #[.int .u8 p.f, vq, vx] W' fun e w' => ∃ v' us1, e = .returned v' ∧ Mtx w' W'.heap.size v' us1 ((datL p).map (rwR (pOf p.f) (plL p (rps us) N))) ∧ Below W'.heap.size W' w') := fun W vq us2 vx lo hM hO W' hb => by
    rw [pOf_eq hR.fld]
    exact gRowsR p.f q wd vq vx _ _ W' hR.fld ((hM.rws (fun i => by
     by_cases hi : i < (plL p (rps us) N).length
     · exact (plL_facts hR N _ (getD_in8 [] hi)).2
     · rw [List.getD_eq_getElem?_getD, List.getElem?_eq_none (by omega)]; exact wd_nil) (by rw [plL_len]; omega)).below hb) ((HDw.out.2.2.row hO).below hb) (fun P hP => (plL_facts hR N P hP).1) HDw.out.1 (by have := HDw.out.2.1; omega) (by rw [plL_len]; omega)
   rw [hz] at HK
   have HY := hide (fun hf => rc_yes (n := (N : Int)) hz hf)
   have HNo : Hid (∀ hf : ¬ Fine p (rps us) N, rcE p (N : Int) (rps us) = 180 ∧ rcP p (N : Int) (rps us) = [] ∧ rcR p (N : Int) (rps us) = [] ∧ rcW p (N : Int) (rps us) = []) := fun hf => by
    have e := rc_many (n := (N : Int)) hz hf
    exact ⟨e, rc_err (by rw [e]; decide)⟩
   rw [Int.toNat_natCast] at HY
   obtain ⟨ao, cap, rfl, _⟩ := h.spell
   generalize rcE p (N : Int) (rps us) = ce at *
   generalize rcP p (N : Int) (rps us) = cP at *
   generalize rcR p (N : Int) (rps us) = cR at *
   generalize rcW p (N : Int) (rps us) = cW at *
   clear h hR hp pb hA a1 n1 hz hdl
   rw [plan_eq8] at *
   go_enter Tryz.func8, Tryz.ntmps8
   go_upto_region 1 with fail
   generalize (w.alloc (.cells #[.int .u8 p.f, .int .i64 p.n, .int .i64 p.k, .int .i64 p.t, .int .i64 p.s, .int .i64 p.e, .int .i64 p.d, .int .i64 p.w] 24)).alloc (.cells #[.slice none 0 0, .slice none 0 0, .slice none 0 0] 29) = W1 at *
   go_upto_region 4 with (go_at_call 26; refine (HK.out _ hA1).mono ?_; rintro e w2 ⟨rfl, hb2⟩)
   have hA2 := Below.next hA1 hb2
   clear c0 c1 c2 c3 c4 c5 c6 c7 HK
   obtain ⟨c0, c1, c2, c3, c4, c5, c6, c7⟩ := (HPb.out.below hb2).cells
   refine wp_region_lit ?_
   refine rowVal (v := .agg #[.int .u8 p.f, .int .i64 p.n, .int .i64 p.k, .int .i64 p.t, .int .i64 p.s, .int .i64 p.e, .int .i64 p.d, .int .i64 p.w]) rfl (by simp [go_sem, execOp, c0, c1, c2, c3, c4, c5, c6, c7]) ?_
   refine rowVal (v := .int .i64 (N : Int)) rfl (by simp [go_sem, execOp]) ?_
   refine rowVal (v := .slice ao us.length cap) rfl (by simp [go_sem, execOp]) ?_
   refine rowCall rfl 27 #[.agg #[.int .u8 p.f, .int .i64 p.n, .int .i64 p.k, .int .i64 p.t, .int .i64 p.s, .int .i64 p.e, .int .i64 p.d, .int .i64 p.w], .int .i64 (N : Int), .slice ao us.length cap] (by simp [go_sem, execOp]) (HD.out _ hA2) ?_
   rintro e w3 ⟨G, b, r, rfl, hr, hb3⟩
   refine ⟨_, rfl, ?_⟩
   refine rowVal (v := .tuple #[.slice (some ⟨G, 0, none⟩) N N, .agg (mkv b), .int .i64 r]) rfl (by simp [go_sem, execOp]) ?_
   refine rowVal (v := .slice (some ⟨G, 0, none⟩) N N) rfl (by simp [go_sem, execOp]) ?_
   refine rowVal (v := .agg (mkv b)) rfl (by simp [go_sem, execOp]) ?_
   refine rowVal (v := .int .i64 r) rfl (by simp [go_sem, execOp]) ?_
   refine wpList_alloc_row rfl _ rfl _ marks_zero8 ?_
   have a4 := alloc_below w3 (.cells (mkv (fun _ => false)) 67)
   have n4 := mks_new w3
   generalize w3.alloc (.cells (mkv (fun _ => false)) 67) = W4 at *
   have hsb : (Tryz.prog.info? 67).map (·.size) = some (mkv b).size := by
    rw [show (mkv b).size = 64 by simp [mkv, mkl8]]; kernel_rfl
   have hone : (mkv b).all (·.oneCell') = true := by unfold mkv; simp [Value.oneCell']
   refine rowVal (v := .slice (some ⟨G, 0, none⟩) N N) rfl (by simp [go_sem, execOp]) ?_
   (try simp only [ly0, ly1, ly2, ly3, ly4, ly5, ly6, ly7])
   refine rowStore rfl _ _ _ rfl w3.heap.size _ (mkv (fun _ => false)) (mkv b) rfl rfl n4 hsb (by simp [mkv, mkl8]) hone ?_
   have n5 : Mks (W4.setRow w3.heap.size (mkv b)) w3.heap.size b := setRow_heap W4 _ _ _ _ _ n4
   have b5 : Below w3.heap.size w3 (W4.setRow w3.heap.size (mkv b)) := below_setRow a4 (Nat.le_refl _) _
   have HN5 := hide n5
   have hsz5 : w3.heap.size < (W4.setRow w3.heap.size (mkv b)).heap.size := n5.lt
   clear n5 n4 a4 c0 c1 c2 c3 c4 c5 c6 c7 HD
   generalize W4.setRow w3.heap.size (mkv b) = W5 at *
   have hB25 := Below.next hb3 b5
   have hb15 := Below.next hb2 hB25
   obtain ⟨c0, c1, c2, c3, c4, c5, c6, c7⟩ := (HPb.out.below hb15).cells
   have n1 := blk8 HN1.out hb15
   obtain ⟨r0, r1, r2⟩ := cell3 n1
   have f1 : W5.frozen? ⟨w.heap.size + 1, 0, none⟩ = false ∧ W5.frozen? ⟨w.heap.size + 1, 1, none⟩ = false ∧ W5.frozen? ⟨w.heap.size + 1, 2, none⟩ = false := by simp [World.frozen?, n1]
   obtain ⟨f10, f11, f12⟩ := f1
   rcases hr with ⟨rfl, hfine, rfl, vs, hMt⟩ | ⟨rfl, hno⟩
   · obtain ⟨e1, e2, e3, e4⟩ := HY.out hfine
     have hMt5 := hMt.below b5
     have HFb : Hid ((∀ g, (Value.slice (some ⟨G, 0, none⟩) N N).ownBlock = some g -> g < w3.heap.size) ∧ ∀ i g, i < (plL p (rps us) N).length -> (vs.getD i nov).ownBlock = some g -> g < w3.heap.size) := ⟨fun g hg => own_top hMt.row g hg, fun i g hi hg => hMt.tops hi hg⟩
     have HMt := hide (hMt5.low (by have := hA2.size; omega : w.heap.size <= _))
     have hB5 := Below.next hA1 hb15
     have hlt13 : w.heap.size + 1 < w3.heap.size := by
      have h1 := (Array.getElem?_eq_some_iff.1 HN1.out).1
      have := hb2.size
      have := hb3.size
      omega
     clear HY HNo hMt hMt5 hone
     go_upto_region 8 with (go_at_call 28; refine (HDa.out _).mono ?_; rintro e w6 ⟨vx, rfl, hOx, hb6⟩; obtain ⟨ax, cx, rfl⟩ := own_form hOx; have HOx := hide hOx; clear hOx)
     have hb16 := Below.next hb15 hb6
     have hB6 := Below.next hB5 hb6
     have hdr : Below w6.heap.size w6 w6.drew := (Below.refl _ w6).drew
     have HRw2 := hide (HRw.out w6 _ vs _ w.heap.size (HMt.out.below hb6) (own_mono HOx.out hB5.size))
     have HMk := hide (fun W' => gMarkedW (wrB p (rps us) N) W')
     have HN6 := hide (HN5.out.below hb6)
     have HX6 : Hid (∀ V : World, V.cell? ⟨w.heap.size, 0, none⟩ = some (.int .u8 p.f) ∧ V.heap[w3.heap.size]? = some (.cells (mkv (wrB p (rps us) N)) 67 (0, 0)) -> (loadVar 67 ⟨w3.heap.size, 0, none⟩).run Tryz.prog V = .ok (.agg (mkv (wrB p (rps us) N))) V) := fun V hV => run_loadVar_row V _ _ _ _ (0, 0) _ hV.2 Tryz.underlying67 rfl hsb
     have HSs : Hid (∀ V, Below w6.heap.size w6 V -> V.cell? ⟨w.heap.size, 0, none⟩ = some (.int .u8 p.f) ∧ V.heap[w3.heap.size]? = some (.cells (mkv (wrB p (rps us) N)) 67 (0, 0))) := fun V hb => ⟨(HPb.out.below (Below.next hb16 hb)).cells.1, HN6.out.below hb⟩
     have hS0 := HSs.out _ hdr
     have HB1 : Hid (∀ V, Below w6.heap.size w6 V -> V.heap[w.heap.size + 1]? = some (.cells #[.slice none 0 0, .slice none 0 0, .slice none 0 0] 29 (0, 0))) := fun V hb => blk8 HN1.out (Below.next hb16 hb)
     clear HRw HDa HPb HN5 HOx c0 c1 c2 c3 c4 c5 c6 c7 r0 r1 r2 f10 f11 f12 n1
     generalize mkv (wrB p (rps us) N) = mv at *
     have HWl : Hid (wrL p (rps us) N = mkd (wrB p (rps us) N)) := rfl
     refine wp_region_held_drew (S := (fun V => V.cell? ⟨w.heap.size, 0, none⟩ = some (.int .u8 p.f) ∧ V.heap[w3.heap.size]? = some (.cells mv 67 (0, 0)))) (by kernel_rfl) (by ((try dsimp only) <;> (first | with_reducible exact hS3 | with_reducible exact hS2 | with_reducible exact hS1 | with_reducible exact hS0))) (fun hHeld => ?_)
     refine tkY 0 ?_
     refine tkY 1 ?_
     refine tkY 2 ?_
     refine tkY 3 ?_
     refine tkY 5 ?_
     refine tkY 6 ?_ (hy := by (intro w hSw; (try dsimp only at hSw); simp [execOp, Instr.loadAt, Instr.sureAddr, Act.eval, HX6.out _ hSw]; with_reducible rfl))
     refine rd1 4 (fun K hK => ?_)
     (try simp only [ly0, ly1, ly2, ly3, ly4, ly5, ly6, ly7])
     go_simp
     (go_at_call 29; refine (HRw2.out _ hdr).mono ?_; rintro e w7 ⟨v7, us7, rfl, hM7, hb7⟩; have hC7 := Below.next hdr hb7; have hS1 := HSs.out _ hC7; have hM7r := hM7.row; rw [List.length_map] at hM7r; obtain ⟨a7, k7, rfl⟩ := own_form hM7r; clear hM7r)
     first | refine hK.out _ _ ?k5 (fun hHeld => ?_) | (go_wp2_with fail; refine hK.out _ _ ?k5 (fun hHeld => ?_))
     case k5 => ((try dsimp only) <;> (first | with_reducible exact hS3 | with_reducible exact hS2 | with_reducible exact hS1 | with_reducible exact hS0))
     clear hK K
     (try simp only [ly0, ly1, ly2, ly3, ly4, ly5, ly6, ly7])
     refine rd1 7 (fun K hK => ?_)
     (try simp only [ly0, ly1, ly2, ly3, ly4, ly5, ly6, ly7])
     go_simp
     (go_at_call 30; refine (HMk.out _).mono ?_; rintro e w8 ⟨v8, rfl, hO8, hb8⟩; have hC8 := Below.next hC7 hb8; have hS2 := HSs.out _ hC8; obtain ⟨a8, k8, rfl⟩ := own_form hO8; have n8 := HB1.out _ hC8; obtain ⟨r0, r1, r2⟩ := cell3 n8; have f8 : w8.frozen? ⟨w.heap.size + 1, 0, none⟩ = false ∧ w8.frozen? ⟨w.heap.size + 1, 1, none⟩ = false ∧ w8.frozen? ⟨w.heap.size + 1, 2, none⟩ = false := (by simp [World.frozen?, n8]); obtain ⟨f80, f81, f82⟩ := f8; have hS3 : (st3 w8 (w.heap.size + 1) (.slice a7 (datL p).length k7) (.slice (some ⟨G, 0, none⟩) N N) (.slice a8 (mkd (wrB p (rps us) N)).length k8)).cell? ⟨w.heap.size, 0, none⟩ = some (.int .u8 p.f) ∧ (st3 w8 (w.heap.size + 1) (.slice a7 (datL p).length k7) (.slice (some ⟨G, 0, none⟩) N N) (.slice a8 (mkd (wrB p (rps us) N)).length k8)).heap[w3.heap.size]? = some (.cells mv 67 (0, 0)) := ⟨(World.cell?_of_block (st3_far (show w.heap.size ≠ w.heap.size + 1 by omega) _ _ _)).trans hS2.1, (st3_far (by omega) _ _ _).trans hS2.2⟩; unfold st3 at hS3)
     first | refine hK.out _ _ ?k6 (fun hHeld => ?_) | (go_wp2_with fail; refine hK.out _ _ ?k6 (fun hHeld => ?_))
     case k6 => ((try dsimp only) <;> (first | with_reducible exact hS3 | with_reducible exact hS2 | with_reducible exact hS1 | with_reducible exact hS0))
     clear hK K
     (try simp only [ly0, ly1, ly2, ly3, ly4, ly5, ly6, ly7])
     refine tkY 8 ?_
     refine rd1 9 (fun K hK => ?_)
     (try simp only [ly0, ly1, ly2, ly3, ly4, ly5, ly6, ly7])
     go_simp
     refine hK.out _ _ (by ((try dsimp only) <;> (first | with_reducible exact hS3 | with_reducible exact hS2 | with_reducible exact hS1 | with_reducible exact hS0))) (fun hHeld => ?_)
     clear hK K
     (try simp only [ly0, ly1, ly2, ly3, ly4, ly5, ly6, ly7])
     refine tkY 10 ?_
     refine wpAnyH_done (by kernel_rfl) ?_ _
     have hw8 : w.heap.size + 1 < w8.heap.size := (Array.getElem?_eq_some_iff.1 n8).1
     have hld := res_load (st3_blk n8 (.slice a7 (datL p).length k7) (.slice (some ⟨G, 0, none⟩) N N) (.slice a8 (mkd (wrB p (rps us) N)).length k8))
     have hB9 := st3_below (Below.next hB6 hC8) (show w.heap.size <= w.heap.size + 1 by omega) (.slice a7 (datL p).length k7) (.slice (some ⟨G, 0, none⟩) N N) (.slice a8 (mkd (wrB p (rps us) N)).length k8)
     have hkq := st3_kq (W := w8) (B := w.heap.size + 1) (.slice a7 (datL p).length k7) (.slice (some ⟨G, 0, none⟩) N N) (.slice a8 (mkd (wrB p (rps us) N)).length k8)
     have HRc : Hid (Rcv w.heap.size (st3 w8 (w.heap.size + 1) (.slice a7 (datL p).length k7) (.slice (some ⟨G, 0, none⟩) N N) (.slice a8 (mkd (wrB p (rps us) N)).length k8)) (.slice a7 (datL p).length k7) (.slice (some ⟨G, 0, none⟩) N N) (.slice a8 (mkd (wrB p (rps us) N)).length k8) ((datL p).map (rwR (pOf p.f) (plL p (rps us) N))) (plL p (rps us) N) (mkd (wrB p (rps us) N))) := by
      have l1 := b5.size
      have l2 := hb6.size
      have l3 : w6.heap.size <= w6.drew.heap.size := hdr.size
      have l4 := hC7.size
      have l5 := hB6.size
      refine ⟨⟨w6.drew.heap.size, us7, vs, by omega, ?_, ?_, fun g hg => by have := HFb.out.1 g hg; omega, fun i g hi hg => by have := HFb.out.2 i g hi hg; omega⟩, ?_⟩
      · exact (hM7.below hb8).kqg hkq (fun j hj _ => hj) n8 (by decide) (by decide)
      · exact ((HMt.out.below hb6).below hC8).kqg hkq (fun j hj _ => hj) n8 (by decide) (by decide)
      · exact hkq.own (own_mono hO8 (by omega)) (fun g hg e => own_apart hO8 n8 (by decide) (by rw [hg, e]))
     unfold st3 at hld hB9 HRc
     clear hM7 hO8 HMt HFb HRw2 HMk HSs HX6 HB1 hS0 hS1 hS2 hS3 hsb HN1 HN6 HDw
     go_wp2
     refine bodyPost_ret (res_ct (a := 6) (b := 7) (v := .agg #[.slice a7 (datL p).length k7, .slice (some ⟨G, 0, none⟩) N N, .slice a8 (mkd (wrB p (rps us) N)).length k8]) (u := .int .i64 0) rfl rfl rfl hld) rfl ?_
     refine ⟨.slice a7 (datL p).length k7, .slice (some ⟨G, 0, none⟩) N N, .slice a8 (mkd (wrB p (rps us) N)).length k8, ?_, ?_, hB9⟩
     · rw [e1]
     · rw [e2, e3, e4, HWl.out]; exact HRc.out
   · obtain ⟨e1, e2, e3, e4⟩ := HNo.out hno
     have hB5 := Below.next hA1 hb15
     have HB5 := hide hB5
     clear HY HNo hno HRw HDw HDa HN5 HPb hsb hone
     have hld := res_load (st3_blk n1 (.slice none 0 0) (.slice none 0 0) (.slice none 0 0))
     have hB6 := st3_below hB5 (show w.heap.size <= w.heap.size + 1 by omega) (.slice none 0 0) (.slice none 0 0) (.slice none 0 0)
     unfold st3 at hld hB6
     go_wp2
     refine bodyPost_ret (res_ct (a := 6) (b := 7) (v := .agg #[.slice none 0 0, .slice none 0 0, .slice none 0 0]) (u := .int .i64 180) rfl rfl rfl hld) rfl ?_
     refine ⟨.slice none 0 0, .slice none 0 0, .slice none 0 0, ?_, ?_, hB6⟩
     · rw [e1]
     · rw [e2, e3, e4]; exact Rcv.none_ _ _
 · have e0 := rc_bad hz
   obtain ⟨e2, e3, e4⟩ := rc_err (p := p) (n := n) (l := rps us) (by rw [e0]; exact hz)
   rw [e0, e2, e3, e4]
   generalize rvE p n (rps us) = ce at *
   obtain ⟨ao, cap, rfl, _⟩ := h.spell
   clear h hp pb hA a1 n1 e0 e2 e3 e4
   rw [plan_eq8] at *
   go_enter Tryz.func8, Tryz.ntmps8
   go_upto_region 1 with fail
   generalize (w.alloc (.cells #[.int .u8 p.f, .int .i64 p.n, .int .i64 p.k, .int .i64 p.t, .int .i64 p.s, .int .i64 p.e, .int .i64 p.d, .int .i64 p.w] 24)).alloc (.cells #[.slice none 0 0, .slice none 0 0, .slice none 0 0] 29) = W1 at *
   go_upto_region 2 with (go_at_call 26; refine (HK.out _ hA1).mono ?_; rintro e w2 ⟨rfl, hb2⟩)
   have hA2 := Below.next hA1 hb2
   have n1 := blk8 HN1.out hb2
   obtain ⟨r0, r1, r2⟩ := cell3 n1
   have f1 : w2.frozen? ⟨w.heap.size + 1, 0, none⟩ = false ∧ w2.frozen? ⟨w.heap.size + 1, 1, none⟩ = false ∧ w2.frozen? ⟨w.heap.size + 1, 2, none⟩ = false := by simp [World.frozen?, n1]
   obtain ⟨f10, f11, f12⟩ := f1
   have hld := res_load (st3_blk n1 (.slice none 0 0) (.slice none 0 0) (.slice none 0 0))
   have hB6 := st3_below hA2 (show w.heap.size <= w.heap.size + 1 by omega) (.slice none 0 0) (.slice none 0 0) (.slice none 0 0)
   unfold st3 at hld hB6
   clear HK HPb HN1 c0 c1 c2 c3 c4 c5 c6 c7
   go_wp2
   refine bodyPost_ret (res_ct (a := 6) (b := 7) (v := .agg #[.slice none 0 0, .slice none 0 0, .slice none 0 0]) rfl rfl rfl hld) rfl ?_
   exact ⟨_, _, _, rfl, Rcv.none_ _ _, hB6⟩
end Go.Proofs.YtjhididlcdepdaaGreat
namespace Go.Proofs.YtjhididlcdepdaaGreat
open Go.RowKit Fld Pln
theorem rp_info : (Tryz.prog.info? 38).map (fun i => (i.zero, i.size, i.bytes)) = some (some (.agg #[.int .i64 0, .slice none 0 0]), 2, 32) := by kernel_rfl
theorem appR1 (W : World) (base : Nat) (u : Value) (us : List Rq) (a : Addr) (x : Rq) (hO : W.ownsRow base 38 2 u us.length (us.flatMap rpw)) (h0 : W.cell? a = some (.int .i64 x.1)) (h1 : W.cell? (a.add 1) = some x.2.1) (hx : ∃ p q r, x.2.1 = .slice p q r) (hl : us.length < 4398046511104) (hb : base <= W.heap.size) :
 ∃ (au' : Option Addr) (cu' : Nat) (W' : World), (Builtin.append_ #[25, 25] 25 #[u, .slice (some a) 1 1]).run Tryz.prog W = .ok (.slice au' (us.length + 1) cu') W' ∧ W'.ownsRow base 38 2 (.slice au' (us.length + 1) cu') (us ++ [x]).length ((us ++ [x]).flatMap rpw) ∧ Below base W W' ∧ W.grownBy W' u.ownBlock ∧ ((Value.slice au' (us.length + 1) cu').ownBlock = u.ownBlock ∨ (Value.slice au' (us.length + 1) cu').ownBlock = some W.heap.size) := by
 obtain ⟨i0, hi0, hz0, hz1, hz2⟩ := info_parts rp_info
 obtain ⟨v', W', hr, ho, hg, _, hbk⟩ := run_append_own_at (P := Tryz.prog) (w := W) base 25 25 38 i0 (.agg #[.int .i64 0, .slice none 0 0]) 2 32 Tryz.underlying25 hi0 hz0 hz1 hz2 rfl (by decide) u us.length (us.flatMap rpw) hO a 1 1 [.int .i64 x.1, x.2.1] rfl (fun j v hj => by
  rcases j with _ | _ | j
  · simp at hj; rw [<- hj]; exact h0
  · simp at hj; rw [<- hj]; exact h1
  · simp at hj) (by obtain ⟨p, q, r, e⟩ := hx; rw [e]; simp [Value.oneCell']) (by unfold maxLen; omega) (by omega) hb
 obtain ⟨au', cu', rfl⟩ := own_slice ho
 refine ⟨au', cu', W', hr, ?_, (Below.refl base W).grown hg hb (fun k hk => own_base hO k hk), hg, hbk⟩
 rw [List.flatMap_append, List.length_append]; exact ho
def p5 : Pn := { f := 1, n := 5, k := 2, t := 1, s := 0, e := 1, d := 1, w := 1 }
def r5 : List Rp := [⟨0, [11]⟩, ⟨1, [13]⟩, ⟨2, [99]⟩, ⟨3, [17]⟩, ⟨4, [19]⟩]
theorem p5_ok : Ok8p p5 := by unfold Ok8p I64 p5; decide
theorem r5_rv : rvE p5 1 r5 = 0 := by decide +kernel
theorem r5_dec : Dec (pOf p5.f) (dg p5 + 1).toNat p5.e.toNat (xsR p5 r5) (ysR 0 r5) [5, 2] := by
 refine ⟨⟨fun x hx => ?_, by decide +kernel⟩, by decide +kernel, by decide +kernel⟩
 have : x = 5 ∨ x = 2 := by simpa using hx
 rcases this with rfl | rfl <;> exact ⟨by decide +kernel, by decide +kernel⟩
theorem r5_dcL : (dcP p5 r5 0).isSome = true ∧ dcL p5 r5 0 = [5, 2] := by
 obtain ⟨q, wd, hR⟩ := rv_facts (l := r5) (fun r hr => by
  simp [r5] at hr
  rcases hr with rfl | rfl | rfl | rfl | rfl <;> exact ⟨by decide, by decide⟩) r5_rv
 exact hR.only r5_dec
theorem r5_wr : wrL p5 r5 1 = [2] := by
 have hw : ∀ j, wrB p5 r5 1 j = decide (j = 2) := fun j => by
  rw [Bool.eq_iff_iff, wrB_iff, decide_eq_true_iff]
  constructor
  · rintro ⟨o, ho, r, hr, hj, hv⟩
    obtain rfl : o = 0 := by omega
    rw [r5_dcL.2] at hv
    simp [r5] at hr
    rcases hr with rfl | rfl | rfl | rfl | rfl
    · exact absurd (by decide +kernel) hv
    · exact absurd (by decide +kernel) hv
    · have : (2 : Int) = (j : Int) := hj
      omega
    · exact absurd (by decide +kernel) hv
    · exact absurd (by decide +kernel) hv
  · rintro rfl
    refine ⟨0, by omega, ⟨2, [99]⟩, by simp [r5], rfl, ?_⟩
    rw [r5_dcL.2]
    decide +kernel
 have e : wrB p5 r5 1 = fun j => decide (j = 2) := funext hw
 unfold wrL
 rw [e]
 decide +kernel
theorem r5_rc : rcE p5 1 r5 = 0 ∧ rcP p5 1 r5 = [[5, 2]] ∧ rcR p5 1 r5 = [[5], [7]] ∧ rcW p5 1 r5 = [2] := by
 have hf : Fine p5 r5 (1 : Int).toNat := ⟨fun o ho => by
  obtain rfl : o = 0 := by
   have : (1 : Int).toNat = 1 := rfl
   omega
  exact r5_dcL.1, by
   have : (1 : Int).toNat = 1 := rfl
   rw [this, r5_wr]; decide⟩
 obtain ⟨h1, h2, h3, h4⟩ := rc_yes r5_rv hf
 have e1 : (1 : Int).toNat = 1 := rfl
 have e2 : plL p5 r5 1 = [[5, 2]] := by unfold plL; rw [show List.range 1 = [0] from rfl, List.map_cons, List.map_nil, r5_dcL.2]
 rw [e1] at h2 h3 h4
 rw [e2] at h2 h3
 exact ⟨h1, h2, by rw [h3]; decide +kernel, by rw [h4]; exact r5_wr⟩
theorem two_box (w : World) (a b c x y z : Value) : ((w.alloc (.cells #[a, b, c] 29)).alloc (.cells #[x, y, z] 29)).heap[w.heap.size]? = some (.cells #[a, b, c] 29 (0, 0)) ∧ ((w.alloc (.cells #[a, b, c] 29)).alloc (.cells #[x, y, z] 29)).heap[w.heap.size + 1]? = some (.cells #[x, y, z] 29 (0, 0)) ∧ Below w.heap.size w ((w.alloc (.cells #[a, b, c] 29)).alloc (.cells #[x, y, z] 29)) := by
 have n1 := heap_alloc_new w (.cells #[a, b, c] 29)
 have n2 := heap_alloc_new (w.alloc (.cells #[a, b, c] 29)) (.cells #[x, y, z] 29)
 have b2 := alloc_below (w.alloc (.cells #[a, b, c] 29)) (.cells #[x, y, z] 29)
 have e : (w.alloc (.cells #[a, b, c] 29)).heap.size = w.heap.size + 1 := by simp
 rw [e] at n2
 exact ⟨blk8 n1 b2, n2, Below.next (alloc_below w _) b2⟩
theorem dSame18 (a b c x y z : Value) (Rs Ps : List (List Int)) (Ws : List Int) (w : World) (h1 : Rws w a Rs) (h2 : Rws w x Rs) (h3 : Rws w b Ps) (h4 : Rws w y Ps) (h5 : Lm iw 1 w c Ws) (h6 : Lm iw 1 w z Ws) :
 Calls Tryz.prog 12 #[.agg #[a, b, c], .agg #[x, y, z]] w fun e w' => e = .returned (.bool true) ∧ Below w.heap.size w w' := by
 have H1 : Hid (∀ W, Below w.heap.size w W -> Calls Tryz.prog 23 #[a, x] W fun e w' => e = .returned (.bool true) ∧ Below W.heap.size W w') := fun W hb => by
  have := Rows_dec a x Rs Rs W (h1.below hb) (h2.below hb)
  rw [decide_eq_true rfl] at this
  exact this
 have H2 : Hid (∀ W, Below w.heap.size w W -> Calls Tryz.prog 23 #[b, y] W fun e w' => e = .returned (.bool true) ∧ Below W.heap.size W w') := fun W hb => by
  have := Rows_dec b y Ps Ps W (h3.below hb) (h4.below hb)
  rw [decide_eq_true rfl] at this
  exact this
 have H3 : Hid (∀ W, Below w.heap.size w W -> Calls Tryz.prog 41 #[c, z] W fun e w' => e = .returned (.bool true) ∧ Below W.heap.size W w') := fun W hb =>
  (dInts c z Ws Ws W (h5.below hb) (h6.below hb)).mono fun e w' ⟨r, he, hr, hb'⟩ => ⟨by rw [he, hr.2 rfl], hb'⟩
 obtain ⟨a1, k1, rfl, _, _, _⟩ := h1
 obtain ⟨a2, k2, rfl, _, _, _⟩ := h2
 obtain ⟨a3, k3, rfl, _, _, _⟩ := h3
 obtain ⟨a4, k4, rfl, _, _, _⟩ := h4
 obtain ⟨a5, k5, rfl, _⟩ := h5.spell
 obtain ⟨a6, k6, rfl, _⟩ := h6.spell
 obtain ⟨n1, n2, hB⟩ := two_box w (.slice a1 Rs.length k1) (.slice a3 Ps.length k3) (.slice a5 Ws.length k5) (.slice a2 Rs.length k2) (.slice a4 Ps.length k4) (.slice a6 Ws.length k6)
 have HN : Hid (∀ V, Below ((w.alloc (.cells #[.slice a1 Rs.length k1, .slice a3 Ps.length k3, .slice a5 Ws.length k5] 29)).alloc (.cells #[.slice a2 Rs.length k2, .slice a4 Ps.length k4, .slice a6 Ws.length k6] 29)).heap.size ((w.alloc (.cells #[.slice a1 Rs.length k1, .slice a3 Ps.length k3, .slice a5 Ws.length k5] 29)).alloc (.cells #[.slice a2 Rs.length k2, .slice a4 Ps.length k4, .slice a6 Ws.length k6] 29)) V -> (V.cell? ⟨w.heap.size, 0, none⟩ = some (.slice a1 Rs.length k1) ∧ V.cell? ⟨w.heap.size, 1, none⟩ = some (.slice a3 Ps.length k3) ∧ V.cell? ⟨w.heap.size, 2, none⟩ = some (.slice a5 Ws.length k5)) ∧ (V.cell? ⟨w.heap.size + 1, 0, none⟩ = some (.slice a2 Rs.length k2) ∧ V.cell? ⟨w.heap.size + 1, 1, none⟩ = some (.slice a4 Ps.length k4) ∧ V.cell? ⟨w.heap.size + 1, 2, none⟩ = some (.slice a6 Ws.length k6))) := fun V hb => ⟨cell3 (blk8 n1 hb), cell3 (blk8 n2 hb)⟩
 obtain ⟨⟨x0, x1, x2⟩, y0, y1, y2⟩ := HN.out _ (Below.refl _ _)
 clear h5 h6 n1 n2
 go_enter Tryz.func12, Tryz.ntmps12
 go_upto_region 1 with fail
 generalize (w.alloc (.cells #[.slice a1 Rs.length k1, .slice a3 Ps.length k3, .slice a5 Ws.length k5] 29)).alloc (.cells #[.slice a2 Rs.length k2, .slice a4 Ps.length k4, .slice a6 Ws.length k6] 29) = W0 at *
 go_wp2_with (first
  | (go_at_call 23; with_reducible refine (H1.out _ hB).mono ?_; rintro e w1 ⟨rfl, hb1⟩; clear x0 x1 x2 y0 y1 y2; obtain ⟨⟨x0, x1, x2⟩, y0, y1, y2⟩ := HN.out _ hb1)
  | (go_at_call 23; with_reducible refine (H2.out _ (Below.next hB hb1)).mono ?_; rintro e w2 ⟨rfl, hb2⟩; clear x0 x1 x2 y0 y1 y2; have hb12 := Below.next hb1 hb2; obtain ⟨⟨x0, x1, x2⟩, y0, y1, y2⟩ := HN.out _ hb12)
  | (go_at_call 41; refine (H3.out _ (Below.next hB hb12)).mono ?_; rintro e w3 ⟨rfl, hb3⟩))
 go_ret
 exact ⟨rfl, Below.next hB (Below.next hb12 hb3)⟩
def fvq (gs : List Nat) : List Rq := (List.range gs.length).map (fun (j : Nat) => ((j : Int), .slice (some ⟨gs.getD j 0, 0, none⟩) 1 1, [11 + 2 * (j : Int)]))
theorem fvq_len (gs : List Nat) : (fvq gs).length = gs.length := by unfold fvq; rw [List.length_map, List.length_range]
theorem fvq_snoc (gs : List Nat) (g : Nat) : fvq (gs ++ [g]) = fvq gs ++ [((gs.length : Int), .slice (some ⟨g, 0, none⟩) 1 1, [11 + 2 * (gs.length : Int)])] := by
 unfold fvq
 rw [List.length_append, List.length_singleton, List.range_succ, List.map_append, List.map_singleton]
 congr 1
 · refine List.map_congr_left (fun j hj => ?_)
   have hj := List.mem_range.1 hj
   rw [List.getD_eq_getElem?_getD, List.getElem?_append_left hj, <- List.getD_eq_getElem?_getD]
 · rw [List.getD_eq_getElem?_getD, List.getElem?_append_right (Nat.le_refl _), Nat.sub_self]; rfl
structure Fiv (base : Nat) (w : World) (v : Value) (gs : List Nat) : Prop where
 row : w.ownsRow base 38 2 v gs.length ((fvq gs).flatMap rpw)
 blk : ∀ j, j < gs.length -> w.heap[gs.getD j 0]? = some (.cells #[.int .u64 (11 + 2 * (j : Int))] 64 (0, 0)) ∧ base <= gs.getD j 0
 dif : ∀ i j, i < j -> j < gs.length -> gs.getD i 0 < gs.getD j 0
theorem Fiv.push {base k : Nat} {wr V W' : World} {u v' : Value} {gs : List Nat} (h : Fiv base wr u gs) (hk : gs.length = k) (hbase : base <= wr.heap.size) (hV : Below wr.heap.size wr V) (hn : V.heap[wr.heap.size]? = some (.cells #[.int .u64 (11 + 2 * (k : Int))] 64 (0, 0))) (hg : V.grownBy W' u.ownBlock) (ho : W'.ownsRow base 38 2 v' (k + 1) ((fvq gs ++ [(((k : Int), Value.slice (some ⟨wr.heap.size, 0, none⟩) 1 1, [11 + 2 * (k : Int)]) : Rq)]).flatMap rpw)) : Fiv base W' v' (gs ++ [wr.heap.size]) := by
 subst hk
 have hr := own_below h.row hV
 have kp : ∀ {g : Nat} {cs : Array Value}, V.heap[g]? = some (.cells cs 64 (0, 0)) -> W'.heap[g]? = some (.cells cs 64 (0, 0)) := fun {g cs} hc => (hg.block g (Array.getElem?_eq_some_iff.1 hc).1 (fun e => own_apart hr hc (by decide) e.symm)).trans hc
 refine ⟨by rw [List.length_append, List.length_singleton, fvq_snoc]; exact ho, fun j hj => ?_, fun i j hij hj => ?_⟩
 · rw [List.length_append, List.length_singleton] at hj
   by_cases e : j < gs.length
   · rw [List.getD_eq_getElem?_getD, List.getElem?_append_left e, <- List.getD_eq_getElem?_getD]
     exact ⟨kp (blk8 (h.blk j e).1 hV), (h.blk j e).2⟩
   · obtain rfl : j = gs.length := by omega
     rw [List.getD_eq_getElem?_getD, List.getElem?_append_right (Nat.le_refl _), Nat.sub_self]
     exact ⟨kp hn, hbase⟩
 · rw [List.length_append, List.length_singleton] at hj
   have e1 : (gs ++ [wr.heap.size]).getD i 0 = gs.getD i 0 := by rw [List.getD_eq_getElem?_getD, List.getElem?_append_left (by omega), <- List.getD_eq_getElem?_getD]
   rw [e1]
   by_cases e : j < gs.length
   · rw [List.getD_eq_getElem?_getD (l := gs ++ [wr.heap.size]), List.getElem?_append_left e, <- List.getD_eq_getElem?_getD]
     exact h.dif i j hij e
   · obtain rfl : j = gs.length := by omega
     rw [List.getD_eq_getElem?_getD (l := gs ++ [wr.heap.size]), List.getElem?_append_right (Nat.le_refl _), Nat.sub_self]
     exact (Array.getElem?_eq_some_iff.1 (h.blk i (by omega)).1).1
theorem Fiv.kq {base : Nat} {S : Nat -> Prop} {w w' : World} {v : Value} {gs : List Nat} (h : Fiv base w v gs) (hk : Kq S w w') (hS : ∀ j, base <= j -> j < w.heap.size -> S j) : Fiv base w' v gs :=
 ⟨hk.own h.row (fun g hg => hS g (own_base h.row g hg) (own_top h.row g hg)), fun j hj => ⟨(hk.block _ (hS _ (h.blk j hj).2 (Array.getElem?_eq_some_iff.1 (h.blk j hj).1).1)).trans (h.blk j hj).1, (h.blk j hj).2⟩, h.dif⟩
theorem Fiv.low {base base' : Nat} {w : World} {v : Value} {gs : List Nat} (h : Fiv base w v gs) (hb : base' <= base) : Fiv base' w v gs :=
 ⟨own_mono h.row hb, fun j hj => ⟨(h.blk j hj).1, Nat.le_trans hb (h.blk j hj).2⟩, h.dif⟩
theorem kq8 (W : World) (g : Nat) (q : Pn) : Kq (fun j => j ≠ g) W (set8 W g q) :=
 Kq.trans (Kq.trans (Kq.trans (Kq.trans (Kq.trans (Kq.trans (Kq.trans (kq_set8 (fun h => h rfl)) (kq_set8 (fun h => h rfl))) (kq_set8 (fun h => h rfl))) (kq_set8 (fun h => h rfl))) (kq_set8 (fun h => h rfl))) (kq_set8 (fun h => h rfl))) (kq_set8 (fun h => h rfl))) (kq_set8 (fun h => h rfl))
theorem fiv_nil (base : Nat) (w : World) : Fiv base w (.slice none 0 0) [] := ⟨World.ownsRow_nil _ _ _ _, fun j hj => by simp at hj, fun i j _ hj => by simp at hj⟩
theorem lFive (w : World) : Calls Tryz.prog 42 #[] w fun e w' => ∃ la lc gs, e = .returned (.tuple #[plv p5, .slice la 5 lc]) ∧ gs.length = 5 ∧ Fiv w.heap.size w' (.slice la 5 lc) gs ∧ Below w.heap.size w w' := by
 have hb0 := alloc_below w (.cells #[.int .u8 0, .int .i64 0, .int .i64 0, .int .i64 0, .int .i64 0, .int .i64 0, .int .i64 0, .int .i64 0] 24)
 have p0 : Pb (w.alloc (.cells #[.int .u8 0, .int .i64 0, .int .i64 0, .int .i64 0, .int .i64 0, .int .i64 0, .int .i64 0, .int .i64 0] 24)) w.heap.size zP := pb_new w zP
 have e0 : (w.alloc (.cells #[.int .u8 0, .int .i64 0, .int .i64 0, .int .i64 0, .int .i64 0, .int .i64 0, .int .i64 0, .int .i64 0] 24)).heap.size = w.heap.size + 1 := by simp
 go_enter Tryz.func42, Tryz.ntmps42
 go_upto_region 2 with fail
 generalize w.alloc (.cells #[.int .u8 0, .int .i64 0, .int .i64 0, .int .i64 0, .int .i64 0, .int .i64 0, .int .i64 0, .int .i64 0] 24) = W1 at *
 have hb1 := alloc_below W1 (.cells #[.int .u8 1, .int .i64 5, .int .i64 2, .int .i64 1, .int .i64 0, .int .i64 1, .int .i64 1, .int .i64 1] 24)
 have p1 : Pb (W1.alloc (.cells #[.int .u8 1, .int .i64 5, .int .i64 2, .int .i64 1, .int .i64 0, .int .i64 1, .int .i64 1, .int .i64 1] 24)) (w.heap.size + 1) p5 := by rw [<- e0]; exact pb_new W1 p5
 generalize W1.alloc (.cells #[.int .u8 1, .int .i64 5, .int .i64 2, .int .i64 1, .int .i64 0, .int .i64 1, .int .i64 1, .int .i64 1] 24) = W2 at *
 have HP0 := hide (p0.below hb1)
 have HP1 := hide p1
 have hB2 := Below.next hb0 hb1
 clear p0 p1 hb0 hb1 e0
 go_wp2_with fail
 go_loopw [3, 4] (fun vl vi wr => ∃ (k : Nat) (la : Option Addr) (lc : Nat) (gs : List Nat), k <= 5 ∧ gs.length = k ∧ vi = .int .i64 k ∧ vl = .slice la k lc ∧ Hid (Fiv W2.heap.size wr (.slice la k lc) gs) ∧ Below W2.heap.size W2 wr) (fun _ vi _ => 5 - (intOf vi).toNat)
 case atStart => exact ⟨0, none, 0, [], by omega, rfl, rfl, rfl, fiv_nil _ _, Below.refl _ _⟩
 case round =>
  obtain ⟨k, la, lc, gs, hk, hgl, rfl, rfl, HF, hB⟩ := hrel
  by_cases hlt : k < 5
  · have k0 : (0 : Int) <= (k : Int) := by omega
    have k5 : (k : Int) < 5 := by omega
    have hc := heap_alloc_new wr (.cells #[.int .u64 (11 + 2 * (k : Int))] 64)
    have ha := alloc_below wr (.cells #[.int .u64 (11 + 2 * (k : Int))] 64)
    have hs1 : (wr.alloc (.cells #[.int .u64 (11 + 2 * (k : Int))] 64)).heap.size = wr.heap.size + 1 := by simp
    have hc2 := heap_alloc_new (wr.alloc (.cells #[.int .u64 (11 + 2 * (k : Int))] 64)) (.cells #[.int .i64 (k : Int), .slice (some ⟨wr.heap.size, 0, none⟩) 1 1] 38)
    have ha2 := alloc_below (wr.alloc (.cells #[.int .u64 (11 + 2 * (k : Int))] 64)) (.cells #[.int .i64 (k : Int), .slice (some ⟨wr.heap.size, 0, none⟩) 1 1] 38)
    rw [hs1] at hc2
    have hV := Below.next ha ha2
    have hcV := blk8 hc ha2
    generalize hVe : (wr.alloc (.cells #[.int .u64 (11 + 2 * (k : Int))] 64)).alloc (.cells #[.int .i64 (k : Int), .slice (some ⟨wr.heap.size, 0, none⟩) 1 1] 38) = V at *
    obtain ⟨x0, x1, _⟩ := cell_two hc2
    have hfl : (fvq gs).length = k := by rw [fvq_len]; exact hgl
    obtain ⟨a4, c4, w4, hr, ho4, hb4, hg4, _⟩ := appR1 V W2.heap.size (.slice la k lc) (fvq gs) ⟨wr.heap.size + 1, 0, none⟩ ((k : Int), .slice (some ⟨wr.heap.size, 0, none⟩) 1 1, [11 + 2 * (k : Int)]) (by rw [hfl]; have := own_below HF.out.row hV; rw [hgl] at this; exact this) x0 x1 ⟨_, _, _, rfl⟩ (by omega) (Nat.le_trans hB.size hV.size)
    rw [List.length_append, List.length_singleton, hfl] at ho4
    rw [hfl] at hr
    have HF4 := hide (HF.out.push hgl hB.size hV hcV hg4 ho4)
    have hB4 : Below W2.heap.size W2 w4 := (Below.next hB hV).trans hb4
    clear HF ho4 hb4 hg4 hc hc2 ha ha2 hV hcV x0 x1 hs1
    subst hVe
    go_wp2_with (at_builtin; refine Lib.wpList_append_run _ rfl _ _ _ _ rfl _ _ rfl rfl _ _ hr ?_)
    go_roundw
    case rel => exact ⟨k + 1, a4, c4, _, by omega, by rw [List.length_append, hgl]; rfl, by go_num, rfl, HF4, hB4⟩
    case measure => simp [intOf]; omega
  · obtain rfl : k = 5 := by omega
    have hq := HP1.out.below hB
    have hz := HP0.out.below hB
    obtain ⟨c0, c1, c2, c3, c4, c5, c6, c7⟩ := hq.cells
    obtain ⟨d0, d1, d2, d3, d4, d5, d6, d7⟩ := hz.cells
    have fz := hz.free
    have hs8 := hz.set8 (q := p5)
    have hB8 : Below w.heap.size w (set8 wr w.heap.size p5) := by
     have := Below.next hB2 hB
     unfold set8
     exact (((((((this.setCell (p := ⟨w.heap.size, 0, none⟩) (Nat.le_refl _) _).setCell (p := ⟨w.heap.size, 1, none⟩) (Nat.le_refl _) _).setCell (p := ⟨w.heap.size, 2, none⟩) (Nat.le_refl _) _).setCell (p := ⟨w.heap.size, 3, none⟩) (Nat.le_refl _) _).setCell (p := ⟨w.heap.size, 4, none⟩) (Nat.le_refl _) _).setCell (p := ⟨w.heap.size, 5, none⟩) (Nat.le_refl _) _).setCell (p := ⟨w.heap.size, 6, none⟩) (Nat.le_refl _) _).setCell (p := ⟨w.heap.size, 7, none⟩) (Nat.le_refl _) _
    have HF8 := hide ((HF.out.kq (kq8 wr w.heap.size p5) (fun j hj _ => by have h1 := hB2.size; have h2 := HP0.out.lt; omega)).low hB2.size)
    have hld := load_plan hs8
    clear HP0 HP1 HF
    unfold set8 at hld HF8 hB8
    go_wp2_with fail
    refine bodyPost_ret (res_ct (a := 0) (b := 1) (v := plv p5) (u := .slice la 5 lc) rfl rfl rfl hld) rfl ?_
    exact ⟨la, lc, gs, rfl, hgl, HF8.out, hB8⟩
theorem rw_blk {W : World} {g : Nat} {x : Int} (h : W.heap[g]? = some (.cells #[.int .u64 x] 64 (0, 0))) (h0 : 0 <= x) (h1 : x <= 300) : Rw W (.slice (some ⟨g, 0, none⟩) 1 1) [x] :=
 rw_of_own (xs := [x]) (own_lit (W := W) (vals [x]) h rfl (by decide)) (by simp) (fun y hy => by rw [List.mem_singleton.1 hy]; omega)
def uf5 (a b c d e : Nat) : List Rq := [(0, .slice (some ⟨a, 0, none⟩) 1 1, [11]), (1, .slice (some ⟨b, 0, none⟩) 1 1, [13]), (2, .slice (some ⟨c, 0, none⟩) 1 1, [99]), (3, .slice (some ⟨d, 0, none⟩) 1 1, [17]), (4, .slice (some ⟨e, 0, none⟩) 1 1, [19])]
theorem rps_uf5 (a b c d e : Nat) : rps (uf5 a b c d e) = r5 := rfl
theorem fiv_set {base : Nat} {w : World} {v : Value} {a b c d e : Nat} (h : Fiv base w v [a, b, c, d, e]) : Rpl (w.setCell ⟨c, 0, none⟩ (.int .u64 99)) v (uf5 a b c d e) := by
 have b0 : w.heap[a]? = some (.cells #[.int .u64 11] 64 (0, 0)) := (h.blk 0 (by simp)).1
 have b1 : w.heap[b]? = some (.cells #[.int .u64 13] 64 (0, 0)) := (h.blk 1 (by simp)).1
 have b2 : w.heap[c]? = some (.cells #[.int .u64 15] 64 (0, 0)) := (h.blk 2 (by simp)).1
 have b3 : w.heap[d]? = some (.cells #[.int .u64 17] 64 (0, 0)) := (h.blk 3 (by simp)).1
 have b4 : w.heap[e]? = some (.cells #[.int .u64 19] 64 (0, 0)) := (h.blk 4 (by simp)).1
 have d0 : a < c := h.dif 0 2 (by omega) (by simp)
 have d1 : b < c := h.dif 1 2 (by omega) (by simp)
 have d3 : c < d := h.dif 2 3 (by omega) (by simp)
 have d4 : c < e := h.dif 2 4 (by omega) (by simp)
 have far : ∀ {g : Nat} {o : Obj}, g ≠ c -> w.heap[g]? = some o -> (w.setCell ⟨c, 0, none⟩ (.int .u64 99)).heap[g]? = some o := fun hne hh => (Below.heap_setCell _ _ _ _ hne).trans hh
 have hc : (w.setCell ⟨c, 0, none⟩ (.int .u64 99)).heap[c]? = some (.cells #[.int .u64 99] 64 (0, 0)) := set_blk b2 0 _
 have hrow : (w.setCell ⟨c, 0, none⟩ (.int .u64 99)).ownsRow base 38 2 v 5 ((uf5 a b c d e).flatMap rpw) := (kq_set8 (S := fun j => j ≠ c) (fun h => h rfl)).own h.row (fun g hg e' => own_apart h.row b2 (by decide) (by rw [hg, e']))
 refine ⟨lm_of_own rpw_len (by decide) hrow (by simp [uf5]), fun x hx => ?_, fun x hx => ?_, by simp [uf5]⟩
 · simp [uf5] at hx
   rcases hx with rfl | rfl | rfl | rfl | rfl
   · exact rw_blk (far (by omega) b0) (by decide) (by decide)
   · exact rw_blk (far (by omega) b1) (by decide) (by decide)
   · exact rw_blk hc (by decide) (by decide)
   · exact rw_blk (far (by omega) b3) (by decide) (by decide)
   · exact rw_blk (far (by omega) b4) (by decide) (by decide)
 · simp [uf5] at hx
   rcases hx with rfl | rfl | rfl | rfl | rfl <;> refine ⟨?_, ?_⟩ <;> dsimp only <;> decide
theorem Rcv.form {base : Nat} {w : World} {vr vq va : Value} {Rs Ps : List (List Int)} {Ws : List Int} (h : Rcv base w vr vq va Rs Ps Ws) : ∃ x1 y1 x2 y2 x3 y3, vr = .slice x1 Rs.length y1 ∧ vq = .slice x2 Ps.length y2 ∧ va = .slice x3 Ws.length y3 := by
 obtain ⟨mid, us1, us2, _, h2, h3, _⟩ := h.all
 obtain ⟨x1, y1, e1⟩ := own_form h2.row
 obtain ⟨x2, y2, e2⟩ := own_form h3.row
 obtain ⟨x3, y3, e3⟩ := own_form h.wr
 exact ⟨x1, y1, x2, y2, x3, y3, e1, e2, e3⟩
theorem Rcv.reads {base : Nat} {w : World} {vr vq va : Value} {Rs Ps : List (List Int)} {Ws : List Int} (h : Rcv base w vr vq va Rs Ps Ws) (hr : ∀ i, Wd (Rs.getD i [])) (hp : ∀ i, Wd (Ps.getD i [])) (l1 : Rs.length <= 1000) (l2 : Ps.length <= 1000) (l3 : Ws.length <= 1000) : Rws w vr Rs ∧ Rws w vq Ps ∧ Lm iw 1 w va Ws := by
 obtain ⟨mid, us1, us2, _, h2, h3, _⟩ := h.all
 exact ⟨h2.rws hr (by omega), h3.rws hp (by omega), lm_of_own iw_len (by decide) h.wr (by omega)⟩
theorem rws_blk1 {W : World} {g : Nat} {u : Value} {xs : List Int} {T : TypeId} (h : W.heap[g]? = some (.cells #[u] T (0, 0))) (h1 : Rw W u xs) : Rws W (.slice (some ⟨g, 0, none⟩) 1 1) [xs] :=
 ⟨_, 1, rfl, by simp, by simp, fun _ => ⟨g, 0, rfl, (Array.getElem?_eq_some_iff.1 h).1, fun i hi => by
  obtain rfl : i = 0 := by simp at hi; omega
  exact ⟨u, (box_cell h).1, h1⟩⟩⟩
theorem rws_blk2 {W : World} {g : Nat} {u v : Value} {xs ys : List Int} {T : TypeId} (h : W.heap[g]? = some (.cells #[u, v] T (0, 0))) (h1 : Rw W u xs) (h2 : Rw W v ys) : Rws W (.slice (some ⟨g, 0, none⟩) 2 2) [xs, ys] :=
 ⟨_, 2, rfl, by simp, by simp, fun _ => ⟨g, 0, rfl, (Array.getElem?_eq_some_iff.1 h).1, fun i hi => by
  have hi : i < 2 := by simpa using hi
  rcases i with _ | _ | i
  · exact ⟨u, (cell_two h).1, h1⟩
  · exact ⟨v, (cell_two h).2.1, h2⟩
  · omega⟩⟩
def lit6 (w : World) : World := (((((w.alloc (.cells #[.int .u64 5] 64)).alloc (.cells #[.int .u64 7] 64)).alloc (.cells #[.slice (some ⟨w.heap.size, 0, none⟩) 1 1, .slice (some ⟨w.heap.size + 1, 0, none⟩) 1 1] 36)).alloc (.cells #[.int .u64 5, .int .u64 2] 64)).alloc (.cells #[.slice (some ⟨w.heap.size + 1 + 1 + 1, 0, none⟩) 2 2] 36)).alloc (.cells #[.int .i64 2] 3)
theorem lit6_facts (w : World) : Rws (lit6 w) (.slice (some ⟨w.heap.size + 1 + 1, 0, none⟩) 2 2) [[5], [7]] ∧ Rws (lit6 w) (.slice (some ⟨w.heap.size + 1 + 1 + 1 + 1, 0, none⟩) 1 1) [[5, 2]] ∧ Lm iw 1 (lit6 w) (.slice (some ⟨w.heap.size + 1 + 1 + 1 + 1 + 1, 0, none⟩) 1 1) [2] ∧ Below w.heap.size w (lit6 w) := by
 unfold lit6
 have n1 := heap_alloc_new w (.cells #[.int .u64 5] 64)
 have b1 := alloc_below w (.cells #[.int .u64 5] 64)
 have s1 : (w.alloc (.cells #[.int .u64 5] 64)).heap.size = w.heap.size + 1 := by simp
 generalize w.alloc (.cells #[.int .u64 5] 64) = W1 at *
 have n2 := heap_alloc_new W1 (.cells #[.int .u64 7] 64)
 have b2 := alloc_below W1 (.cells #[.int .u64 7] 64)
 have s2 : (W1.alloc (.cells #[.int .u64 7] 64)).heap.size = w.heap.size + 1 + 1 := by rw [World.size_alloc, s1]
 rw [s1] at n2
 generalize W1.alloc (.cells #[.int .u64 7] 64) = W2 at *
 have n3 := heap_alloc_new W2 (.cells #[.slice (some ⟨w.heap.size, 0, none⟩) 1 1, .slice (some ⟨w.heap.size + 1, 0, none⟩) 1 1] 36)
 have b3 := alloc_below W2 (.cells #[.slice (some ⟨w.heap.size, 0, none⟩) 1 1, .slice (some ⟨w.heap.size + 1, 0, none⟩) 1 1] 36)
 have s3 : (W2.alloc (.cells #[.slice (some ⟨w.heap.size, 0, none⟩) 1 1, .slice (some ⟨w.heap.size + 1, 0, none⟩) 1 1] 36)).heap.size = w.heap.size + 1 + 1 + 1 := by rw [World.size_alloc, s2]
 rw [s2] at n3
 generalize W2.alloc (.cells #[.slice (some ⟨w.heap.size, 0, none⟩) 1 1, .slice (some ⟨w.heap.size + 1, 0, none⟩) 1 1] 36) = W3 at *
 have n4 := heap_alloc_new W3 (.cells #[.int .u64 5, .int .u64 2] 64)
 have b4 := alloc_below W3 (.cells #[.int .u64 5, .int .u64 2] 64)
 have s4 : (W3.alloc (.cells #[.int .u64 5, .int .u64 2] 64)).heap.size = w.heap.size + 1 + 1 + 1 + 1 := by rw [World.size_alloc, s3]
 rw [s3] at n4
 generalize W3.alloc (.cells #[.int .u64 5, .int .u64 2] 64) = W4 at *
 have n5 := heap_alloc_new W4 (.cells #[.slice (some ⟨w.heap.size + 1 + 1 + 1, 0, none⟩) 2 2] 36)
 have b5 := alloc_below W4 (.cells #[.slice (some ⟨w.heap.size + 1 + 1 + 1, 0, none⟩) 2 2] 36)
 have s5 : (W4.alloc (.cells #[.slice (some ⟨w.heap.size + 1 + 1 + 1, 0, none⟩) 2 2] 36)).heap.size = w.heap.size + 1 + 1 + 1 + 1 + 1 := by rw [World.size_alloc, s4]
 rw [s4] at n5
 generalize W4.alloc (.cells #[.slice (some ⟨w.heap.size + 1 + 1 + 1, 0, none⟩) 2 2] 36) = W5 at *
 have n6 := heap_alloc_new W5 (.cells #[.int .i64 2] 3)
 have b6 := alloc_below W5 (.cells #[.int .i64 2] 3)
 rw [s5] at n6
 generalize W5.alloc (.cells #[.int .i64 2] 3) = W6 at *
 have m1 := blk8 (blk8 (blk8 (blk8 (blk8 n1 b2) b3) b4) b5) b6
 have m2 := blk8 (blk8 (blk8 (blk8 n2 b3) b4) b5) b6
 have m3 := blk8 (blk8 (blk8 n3 b4) b5) b6
 have m4 := blk8 (blk8 n4 b5) b6
 have m5 := blk8 n5 b6
 refine ⟨rws_blk2 m3 (rw_blk m1 (by decide) (by decide)) (rw_blk m2 (by decide) (by decide)), rws_blk1 m5 ?_, ?_, Below.next (Below.next (Below.next (Below.next (Below.next b1 b2) b3) b4) b5) b6⟩
 · exact rw_of_own (xs := [5, 2]) (own_lit (vals [5, 2]) m4 rfl (by decide)) (by decide) (by decide)
 · exact lm_of_own (xs := [2]) iw_len (by decide) (own_lit ([2].flatMap iw) n6 rfl (by decide)) (by decide)
theorem anch18 : Ans 13 #[] (.bool true) := by
 intro w
 have HF := hide (lFive w)
 have HR : Hid (∀ W v a b c d e, Rpl W v (uf5 a b c d e) -> GivesRc 8 #[plv p5, .int .i64 1, v] W [[5], [7]] [[5, 2]] [2] 0) := fun W v a b c d e h => by
  have := gRecover p5 1 v (uf5 a b c d e) W p5_ok h
  rw [rps_uf5, r5_rc.1, r5_rc.2.1, r5_rc.2.2.1, r5_rc.2.2.2] at this
  exact this
 unfold GivesRc at HR
 rw [plan_eq8] at *
 go_enter Tryz.func13, Tryz.ntmps13
 go_upto_region 2 with (go_at_call 42; refine HF.out.mono ?_; rintro e w1 ⟨la, lc, gs, rfl, hgl, hFv, hb1⟩)
 have pb := pb_new w1 p5
 have ha := alloc_below w1 (.cells (plw p5) 24)
 have hFv2 := hFv.kq (Below.kq (S := fun j => j < w1.heap.size) ha (fun j hj => hj)) (fun j _ hj => hj)
 have hB2 := Below.next hb1 ha
 obtain ⟨g0, g1, g2, g3, g4, rfl⟩ : ∃ g0 g1 g2 g3 g4, gs = [g0, g1, g2, g3, g4] := by
  match gs, hgl with
  | [a, b, c, d, e], _ => exact ⟨a, b, c, d, e, rfl⟩
 have HRp := hide (fiv_set hFv2)
 have hb2 : (w1.alloc (.cells (plw p5) 24)).heap[g2]? = some (.cells #[.int .u64 15] 64 (0, 0)) := (hFv2.blk 2 (by simp)).1
 have hg2 : w.heap.size <= g2 := (hFv2.blk 2 (by simp)).2
 have hrow := hFv2.row
 obtain ⟨gl, cl, hla, _, _⟩ := hrow.form (by simp)
 injection hla with hla _ hlc
 subst hla hlc
 have cL : (w1.alloc (.cells (plw p5) 24)).cell? ⟨gl, 5, none⟩ = some (.slice (some ⟨g2, 0, none⟩) 1 1) := by
  rw [hrow.cellAt 5 (by simp)]; rfl
 have c9 := (box_cell hb2).1
 have f9 := (box_cell hb2).2
 have hne : g2 ≠ w1.heap.size := fun e => by rw [e] at hb2; rw [pb] at hb2; simp [plw] at hb2
 have pb2 : Pb ((w1.alloc (.cells (plw p5) 24)).setCell ⟨g2, 0, none⟩ (.int .u64 99)) w1.heap.size p5 := pb.other (Ne.symm hne) 0 _
 have hB3 : Below w.heap.size w ((w1.alloc (.cells (plw p5) 24)).setCell ⟨g2, 0, none⟩ (.int .u64 99)) := hB2.setCell (p := ⟨g2, 0, none⟩) hg2 _
 clear hFv hFv2 hrow hb2 pb ha hB2 hb1 hgl HF
 unfold plw at *
 go_upto_region 3 with fail
 generalize (w1.alloc (.cells #[.int .u8 p5.f, .int .i64 p5.n, .int .i64 p5.k, .int .i64 p5.t, .int .i64 p5.s, .int .i64 p5.e, .int .i64 p5.d, .int .i64 p5.w] 24)).setCell ⟨g2, 0, none⟩ (.int .u64 99) = W3 at *
 obtain ⟨c0, c1, c2, c3, c4, c5, c6, c7⟩ := pb2.cells
 have HR2 := hide (HR.out _ _ _ _ _ _ _ HRp.out)
 clear cL c9 f9 HR HRp
 go_upto_region 4 with (go_at_call 8; refine HR2.out.mono ?_; rintro e w4 ⟨vr, vq, va, rfl, hRc, hb4⟩; obtain ⟨x1, y1, x2, y2, x3, y3, rfl, rfl, rfl⟩ := hRc.form)
 obtain ⟨q1, q2, q3⟩ := hRc.reads (fun i => by rcases i with _ | _ | i <;> simp <;> exact ⟨by simp, by simp⟩) (fun i => by rcases i with _ | i <;> simp <;> exact ⟨by simp, by simp⟩) (by decide) (by decide) (by decide)
 have Q1 := hide q1
 have Q2 := hide q2
 have Q3 := hide q3
 have ha4 := alloc_below w4 (.cells #[.slice x1 [[5], [7]].length y1, .slice x2 [[5, 2]].length y2, .slice x3 [2].length y3] 29)
 have n4 := heap_alloc_new w4 (.cells #[.slice x1 [[5], [7]].length y1, .slice x2 [[5, 2]].length y2, .slice x3 [2].length y3] 29)
 obtain ⟨z0, z1, z2⟩ := cell3 n4
 generalize hW5 : w4.alloc (.cells #[.slice x1 [[5], [7]].length y1, .slice x2 [[5, 2]].length y2, .slice x3 [2].length y3] 29) = W5 at *
 simp only [List.length_cons, List.length_nil, Nat.zero_add, Nat.reduceAdd] at hW5 Q1 Q2 Q3 z0 z1 z2 ⊢
 try rw [hW5]
 clear q1 q2
 obtain ⟨l1, l2, l3, l4⟩ := lit6_facts W5
 have HSm := hide (dSame18 _ _ _ _ _ _ _ _ _ _ ((Q1.out.below ha4).below l4) l1 ((Q2.out.below ha4).below l4) l2 ((Q3.out.below ha4).below l4) l3)
 have hB5 := Below.next (Below.next (Below.next hB3 hb4) ha4) l4
 clear Q1 Q2 Q3 q3 hRc l1 l2 l3 l4 n4 ha4 hW5 HR2 c0 c1 c2 c3 c4 c5 c6 c7
 unfold lit6 at HSm hB5
 go_wp2_with (go_at_call 12; refine HSm.out.mono ?_; rintro e w6 ⟨rfl, hb6⟩)
 go_ret
 exact ⟨rfl, Below.next hB5 hb6⟩
theorem wd_getD8 {l : List (List Int)} (h : ∀ b ∈ l, Wd b) (i : Nat) : Wd (l.getD i []) := by
 by_cases hi : i < l.length
 · exact h _ (getD_in8 [] hi)
 · rw [List.getD_eq_getElem?_getD, List.getElem?_eq_none (by omega)]; exact wd_nil
structure Rcw (Rs Ps : List (List Int)) (Ws : List Int) : Prop where
 r : ∀ i, Wd (Rs.getD i [])
 p : ∀ i, Wd (Ps.getD i [])
 lr : Rs.length <= 1000
 lp : Ps.length <= 1000
 lw : Ws.length <= 1000
theorem rc_wd (p : Pn) (n : Int) {l : List Rp} (hw : ∀ r ∈ l, Wd r.vs) : Rcw (rcR p n l) (rcP p n l) (rcW p n l) := by
 by_cases h : rcE p n l = 0
 · obtain ⟨h1, h2⟩ := rcE_zero h
   obtain ⟨q, wd, hR⟩ := rv_facts hw h1
   obtain ⟨_, e1, e2, e3⟩ := rc_yes h1 h2
   have hhi := hR.hi
   have hlo := hR.lo
   have hk := (may_facts hR.may).2.1
   rw [e1, e2, e3]
   refine ⟨wd_getD8 (fun b hb => ?_), wd_getD8 (fun b hb => (plL_facts hR _ b hb).2), ?_, by rw [plL_len]; omega, ?_⟩
   · obtain ⟨x, _, rfl⟩ := List.mem_map.1 hb
     refine wd_els (p := q) (fun y hy => ?_) hR.fld.top (by unfold rwR; rw [List.length_map, plL_len]; omega)
     obtain ⟨P, _, rfl⟩ := List.mem_map.1 hy
     rw [pOf_eq hR.fld]
     exact vl_el hR.fld.pos x P
   · rw [List.length_map]
     unfold datL
     rw [if_pos hR.may, pts_len]
     omega
   · have := mkd_len (wrB p l n.toNat)
     unfold wrL
     omega
 · obtain ⟨e1, e2, e3⟩ := rc_err h
   rw [e1, e2, e3]
   exact ⟨fun i => by simp; exact wd_nil, fun i => by simp; exact wd_nil, by simp, by simp, by simp⟩
theorem Rcv.reads8 {base : Nat} {w : World} {vr vq va : Value} {Rs Ps : List (List Int)} {Ws : List Int} (h : Rcv base w vr vq va Rs Ps Ws) (hw : Rcw Rs Ps Ws) : Rws w vr Rs ∧ Rws w vq Ps ∧ Lm iw 1 w va Ws := h.reads hw.r hw.p hw.lr hw.lp hw.lw
theorem rpl_of_own {W : World} {base : Nat} {v : Value} {us : List Rq} (h : W.ownsRow base 38 2 v us.length (us.flatMap rpw)) (h1 : ∀ x ∈ us, Rw W x.2.1 x.2.2) (h2 : ∀ x ∈ us, -9223372036854775808 <= x.1 ∧ x.1 <= 9223372036854775807) (h3 : us.length * 32 <= 140737488351232) : Rpl W v us :=
 ⟨lm_of_own rpw_len (by decide) h (by omega), h1, h2, h3⟩
end Go.Proofs.YtjhididlcdepdaaGreat
