import Derived.Test.YtnakbpaiidolbaaGreatBEvpE
import Derived.Test.YtnakbpaiidolbaaGreatBunC
import Derived.Test.YtnakbpaiidolbaaGreatBTkA
namespace Go.Proofs.YtnakbpaiidolbaaGreat
open Go.RowKit Fld Slp
set_option linter.unusedVariables false
set_option linter.unusedSimpArgs false
structure Lt (W : World) (lo : Nat) (v : Value) (n : Nat) (us : List Value) (yss : List (List Int)) (k : Nat) : Prop where
 row : W.ownsRow lo 30 1 v n us
 len : yss.length = n
 new : ∀ i, i < k → W.ownsRow lo 58 1 (us.getD i nov) (tr (yss.getD i [])).length (vals (tr (yss.getD i [])))
 up : ∀ i j b c, i < j → j < k → (us.getD i nov).ownBlock = some b → (us.getD j nov).ownBlock = some c → b < c
 old : ∀ i, k ≤ i → i < n → Rw W (us.getD i nov) (yss.getD i []) ∧ (yss.getD i [] ≠ [] → ∀ b, (us.getD i nov).ownBlock = some b → v.ownBlock ≠ some b)
theorem Lt.start {W : World} {lo n : Nat} {v : Value} {us : List Value} {yss : List (List Int)} (h : Ls W lo v us yss) (hn : yss.length = n) : Lt W lo v n us yss 0 :=
 ⟨by have := h.row; rw [hn] at this; exact this, hn, fun i hi => by omega, fun i j b c _ hj => by omega, fun i _ hi => ⟨h.each i (by omega), h.far i (by omega)⟩⟩
theorem Lt.below {W W' : World} {lo n k : Nat} {v : Value} {us : List Value} {yss : List (List Int)} (h : Lt W lo v n us yss k) (hb : Below W.heap.size W W') : Lt W' lo v n us yss k :=
 ⟨own_below h.row hb, h.len, fun i hi => own_below (h.new i hi) hb, h.up, fun i h1 h2 => ⟨(h.old i h1 h2).1.below hb, (h.old i h1 h2).2⟩⟩
theorem getD_setV (us : List Value) (k i : Nat) (x : Value) (hk : k < us.length) : (us.set k x).getD i nov = if i = k then x else us.getD i nov := by
 rw [List.getD_eq_getElem?_getD, List.getElem?_set]
 by_cases e : k = i
 · subst e; rw [if_pos rfl, if_pos hk, if_pos rfl]; rfl
 · rw [if_neg e, if_neg (fun h => e h.symm), ← List.getD_eq_getElem?_getD]
theorem Lt.put {W w1 : World} {lo g n c k : Nat} {us : List Value} {v : Value} {yss : List (List Int)} (h : Lt W lo (.slice (some ⟨g, 0, none⟩) n c) n us yss k) (hk : k < n) (hlo : lo ≤ W.heap.size) (hb : Below W.heap.size W w1) (hv : w1.ownsRow W.heap.size 58 1 v (tr (yss.getD k [])).length (vals (tr (yss.getD k [])))) : Lt (w1.setCell ⟨g, k, none⟩ v) lo (.slice (some ⟨g, 0, none⟩) n c) n (us.set k v) yss (k + 1) := by
 have h1 := h.below hb
 have hul : us.length = n := by have := h.row.1; omega
 have hgt := own_top h.row g rfl
 have hset : w1.grownBy (w1.setCell ⟨g, k, none⟩ v) (some g) := (h1.row.stored k v).2
 have keep : ∀ {b m : Nat} {t : Value} {xs : List Value}, w1.ownsRow b 58 1 t m xs → (w1.setCell ⟨g, k, none⟩ v).ownsRow b 58 1 t m xs := fun hO => own_kept hO hset (fun c hc e => own_kind hO h1.row (fun e => ne_kind e.symm) c hc (by rw [← e]; rfl))
 refine ⟨(h1.row.stored k v).1, h.len, fun i hi => ?_, fun i j b c hij hj hb' hc => ?_, fun i h2 h3 => ?_⟩
 · rw [getD_setV us k i v (by omega)]
   by_cases e : i = k
   · rw [if_pos e, e]; exact keep (own_mono hv (by omega))
   · rw [if_neg e]; exact keep (h1.new i (by omega))
 · rw [getD_setV us k _ v (by omega)] at hb' hc
   rw [if_neg (by omega)] at hb'
   by_cases e : j = k
   · rw [if_pos e] at hc
     have := own_top (h.new i (by omega)) b hb'
     have := own_base hv c hc
     omega
   · rw [if_neg e] at hc
     exact h.up i j b c hij (by omega) hb' hc
 · rw [getD_setV us k i v (by omega), if_neg (by omega)]
   obtain ⟨o1, o2⟩ := h1.old i (by omega) h3
   exact ⟨rw_far o1 hset (fun hne b hb' => o2 hne b hb'), o2⟩
theorem Lt.done {W : World} {lo n : Nat} {v : Value} {us : List Value} {yss : List (List Int)} (h : Lt W lo v n us yss n) : Lss W lo W.heap.size v us (yss.map tr) := by
 have hl := h.len
 have hul : us.length = n := by have := h.row.1; omega
 have out : ∀ i, n ≤ i → us.getD i nov = nov := fun i hi => by rw [List.getD_eq_getElem?_getD, List.getElem?_eq_none (by omega)]; rfl
 have hm : ∀ i, i < n → (yss.map tr).getD i [] = tr (yss.getD i []) := fun i hi => by
  rw [List.getD_eq_getElem?_getD, List.getElem?_map, List.getElem?_eq_getElem (by omega), List.getD_eq_getElem?_getD, List.getElem?_eq_getElem (by omega)]; rfl
 have none_ : ∀ i b, n ≤ i → (us.getD i nov).ownBlock = some b → False := fun i b hi hb => by rw [out i hi] at hb; simp [nov, Value.ownBlock] at hb
 refine ⟨by rw [List.length_map, hl]; exact h.row, fun i hi => ?_, fun i b hb => ?_, fun i b hb => ?_, fun i j b c hij hb hc => ?_⟩
 · rw [List.length_map, hl] at hi
   rw [hm i hi]; exact h.new i hi
 · rcases Nat.lt_or_ge i n with hi | hi
   · exact own_base (h.new i hi) b hb
   · exact (none_ i b hi hb).elim
 · rcases Nat.lt_or_ge i n with hi | hi
   · exact own_top (h.new i hi) b hb
   · exact (none_ i b hi hb).elim
 · rcases Nat.lt_or_ge j n with hj | hj
   · exact h.up i j b c hij hj hb hc
   · exact (none_ j c hj hc).elim
theorem Rws.wordsL' {w : World} {v : Value} {xss : List (List Int)} (h : Rws w v xss) : ∀ xs ∈ xss, ∀ x ∈ xs, 0 ≤ x ∧ x ≤ 18446744073709551615 := fun xs hx => by
 obtain ⟨ao, cap, rfl, hl, hc, hcell⟩ := h
 obtain ⟨i, hi, rfl⟩ := List.mem_iff_getElem.1 hx
 obtain ⟨b, off, rfl, hbl, hcc⟩ := hcell (by intro e; rw [e] at hi; simp at hi)
 obtain ⟨u, _, hr⟩ := hcc i hi
 rw [List.getD_eq_getElem?_getD, List.getElem?_eq_getElem hi] at hr
 exact hr.words
theorem set3_blk {W : World} {g : Nat} {x y z a b c : Value} {T : TypeId} (h : W.heap[g]? = some (.cells #[x, y, z] T (0, 0))) : (((W.setCell ⟨g, 0, none⟩ a).setCell ⟨g, 1, none⟩ b).setCell ⟨g, 2, none⟩ c).heap[g]? = some (.cells #[a, b, c] T (0, 0)) := by
 rw [set_blk (set_blk (set_blk h 0 a) 1 b) 2 c]; rfl
set_option maxRecDepth 100000 in
set_option maxHeartbeats 400000 in
theorem qCompose (f : Int) (q : Pr) (vp vi : Value) (xss : List (List Int)) (w : World) (hp : Pm w vp q) (hr : Rws w vi xss) : GivesL11 35 #[.int .u8 f, vp, vi] w (coL f q xss) (coE f q xss) := by
 have HG := hide (fun W (hb : Below w.heap.size w W) => eGround f q vp W (hp.below hb))
 have HC := hide (fun hm W (hb : Below w.heap.size w W) => qCheck f q vp vi xss W (hp.below hb) hm (hr.below hb))
 have HT := hide (fun W (hb : Below w.heap.size w W) => gTrim vp q W (hp.below hb))
 have HR := hide hr
 have HP := hide hp
 have HWd := hide hr.wordsL'
 obtain ⟨vo, vu, rfl, ho, hu⟩ := hp.form
 obtain ⟨ao, co', rfl, _⟩ := ho.spell
 obtain ⟨au, cu, rfl, _⟩ := hu.spell
 obtain ⟨ai, ci, rfl, hlen, hcap, hcell⟩ := hr
 have hA := alloc_below w (.cells #[.int .i64 q.inp, .slice ao q.ops.length co', .slice au q.outs.length cu] 28)
 have hN := heap_alloc_new w (.cells #[.int .i64 q.inp, .slice ao q.ops.length co', .slice au q.outs.length cu] 28)
 clear ho hu hp hcell
 cases hg : (mayB q && inF f []) with
 | false =>
  have e1 : coE f q xss = 2 := by unfold coE; rw [hg]; rfl
  have e2 : coL f q xss = [] := by unfold coL; rw [e1]; rfl
  rw [e1, e2]
  rw [hg] at HG
  clear hg e1 e2 HP HR
  apply GivesL11.none
  go_enter Tryz.func35, Tryz.ntmps35
  go_wp2_with (go_at_call 60; refine (HG.out _ hA).mono ?_; rintro e w1 ⟨rfl, hb1⟩)
  go_ret2
  exact ⟨rfl, Below.next hA hb1⟩
 | true =>
  rw [hg] at HG
  have hm : mayB q = true := (Bool.and_eq_true _ _ ▸ hg).1
  have e1 : coE f q xss = cpE f q xss := by unfold coE; rw [if_pos hg]
  have HC2 := hide (HC.out hm)
  by_cases he : cpE f q xss = 0
  · have e2 : coL f q xss = rnO (Rt f) (trP q) (xss.map tr) := by unfold coL; rw [e1, if_pos he]
    obtain ⟨hin, hlq, hlm, hof, hdg⟩ := cpE_zero hm he
    have hinN : inF f [] = true := (Bool.and_eq_true _ _ ▸ hg).2
    obtain ⟨p, wd, hf, _⟩ := inF_fi hinN
    have hx : ∀ xs ∈ xss, Lim p xs := fun xs hx => by
     have h1 := List.all_eq_true.1 hin xs hx
     rw [inF_yes hf] at h1
     exact ⟨els_of h1 (HWd.out xs hx), hlm xs hx⟩
    have hmt := tr_may hm
    obtain ⟨⟨t0, t1, t2, t3⟩, _, _⟩ := mayB_iff.1 hmt
    have hti : (trP q).inp = q.inp := rfl
    have eR : trR q = trP q := by unfold trR; rw [if_pos hm]
    have eE : trE q = 0 := by unfold trE; rw [if_pos hm]
    rw [e1, he, e2, ← out_tr hf (trP q) xss hx]
    have HV := hide (fun vp' W (hp : Pm W vp' (trP q)) (hb : Below w.heap.size w W) => qValues f p wd (trP q) vp' (.slice ai xss.length ci) xss W hf hp hmt (HR.out.below hb) hx (by omega))
    have hrl : (rns (Rq f) (trP q) xss).length = (trP q).inp.toNat + (trP q).ops.length := by unfold rns; rw [rnL_len]; omega
    have HCo := hide (fun vp' va W us (hp : Pm W vp' (trP q)) B (hL : Ls W B va us (rns (Rq f) (trP q) xss)) => qComing (trP q) vp' va _ W hp hmt (hL.rws (by omega)) hrl)
    have HTp := hide (fun W B vo vu ho hu => tr_pm (w' := W) (vo := vo) (vu := vu) (B := B) HP.out ho hu)
    unfold IsTrim at HT
    rw [eR] at HT HTp
    rw [eE] at HT
    rw [he] at HC2
    have HOut : Hid (rnO (Rq f) (trP q) xss = (trP q).outs.map (fun v => (rns (Rq f) (trP q) xss).getD v.toNat [])) := rfl
    rw [HOut.out]
    have HWy : Hid (∀ xs ∈ rns (Rq f) (trP q) xss, Wd xs) := fun xs hxs => by
     have h2 := lim_all hf (trP q).ops xss hx xs hxs
     exact ⟨by have := h2.2; omega, els_words h2.1 hf.top⟩
    clear e1 e2 he hin hlq hlm hof hdg hinN hx hmt hti eR eE HC hf hm hg HP HOut
    generalize trP q = qt at *
    generalize rns (Rq f) qt xss = yss at *
    unfold poI elv at HV
    show Calls _ _ _ _ _
    go_enter Tryz.func35, Tryz.ntmps35
    go_upto_region 7 with (first
     | (go_at_call 60; refine (HG.out _ hA).mono ?_; rintro e w1 ⟨rfl, hb1⟩; have hB1 := Below.next hA hb1; have n1 := (hb1.block _ (Array.getElem?_eq_some_iff.1 hN).1).trans hN; obtain ⟨p0, p1, p2⟩ := cell3 n1)
     | (go_at_call 61; refine (HC2.out _ hB1).mono ?_; rintro e w2 ⟨rfl, hb2⟩; have hB2 := Below.next hB1 hb2; have n2 := (hb2.block _ (Array.getElem?_eq_some_iff.1 n1).1).trans n1; clear p0 p1 p2; obtain ⟨p0, p1, p2⟩ := cell3 n2)
     | (go_at_call 62; refine (HT.out _ hB2).mono ?_; rintro e w3 ⟨v3, u3, rfl, ho3, hu3, hb3⟩; obtain ⟨eo, fo, rfl⟩ := own_slice ho3; obtain ⟨eu, fu, rfl⟩ := own_slice hu3; have hB3 := Below.next hB2 hb3; have n3 := (hb3.block _ (Array.getElem?_eq_some_iff.1 n2).1).trans n2; clear p0 p1 p2; obtain ⟨p0, p1, p2⟩ := cell3 n3; have pf := fun k => Lib.frozen_of_heap n3 k))
    have hsw : w.heap.size < w2.heap.size := (Array.getElem?_eq_some_iff.1 n2).1
    have n4 := set3_blk (a := .int .i64 qt.inp) (b := .slice eo qt.ops.length fo) (c := .slice eu qt.outs.length fu) n3
    have G4 := set3_grown w3 w.heap.size (.int .i64 qt.inp) (.slice eo qt.ops.length fo) (.slice eu qt.outs.length fu)
    have ho4 := own_kept ho3 G4 (fun g hg e => by have := own_base ho3 g hg; cases e; omega)
    have hu4 := own_kept hu3 G4 (fun g hg e => by have := own_base hu3 g hg; cases e; omega)
    have B4 := ((hB3.setCell (p := ⟨w.heap.size, 0, none⟩) (Nat.le_refl _) (.int .i64 qt.inp)).setCell (p := ⟨w.heap.size, 1, none⟩) (Nat.le_refl _) (.slice eo qt.ops.length fo)).setCell (p := ⟨w.heap.size, 2, none⟩) (Nat.le_refl _) (.slice eu qt.outs.length fu)
    have HP4 := hide (HTp.out _ _ _ _ ho4 hu4)
    clear ho3 hu3 ho4 hu4 G4 p0 p1 p2 pf n3 HT HTp HG HC2 hb1 hb2 hb3 n1 n2
    generalize ((w3.setCell ⟨w.heap.size, 0, none⟩ (.int .i64 qt.inp)).setCell ⟨w.heap.size, 1, none⟩ (.slice eo qt.ops.length fo)).setCell ⟨w.heap.size, 2, none⟩ (.slice eu qt.outs.length fu) = w4 at *
    have HS : Hid (∀ V, Below w4.heap.size w4 V → V.cell? ⟨w.heap.size, 0, none⟩ = some (.int .i64 qt.inp) ∧ V.cell? ⟨w.heap.size, 1, none⟩ = some (.slice eo qt.ops.length fo) ∧ V.cell? ⟨w.heap.size, 2, none⟩ = some (.slice eu qt.outs.length fu)) := fun V hb => cell3 ((hb.block _ (Array.getElem?_eq_some_iff.1 n4).1).trans n4)
    have hdr : Below w4.heap.size w4 w4.drew := (Below.refl _ w4).drew
    have hS0 := HS.out _ hdr
    have HV2 := hide (HV.out _ _ (HP4.out.below hdr) (Below.next B4 hdr))
    refine wp_region_held_drew (S := (fun V => V.cell? ⟨w.heap.size, 0, none⟩ = some (.int .i64 qt.inp) ∧ V.cell? ⟨w.heap.size, 1, none⟩ = some (.slice eo qt.ops.length fo) ∧ V.cell? ⟨w.heap.size, 2, none⟩ = some (.slice eu qt.outs.length fu))) (by kernel_rfl) (by ((try dsimp only) <;> (first | with_reducible exact hS6 | with_reducible exact hS5 | with_reducible exact hS0))) (fun hHeld => ?_)
    (refine tkY 0 ?_; (try simp only [ly0, ly1, ly2, ly3, ly4, ly5, ly6, ly7]))
    (refine tkY 1 ?_; (try simp only [ly0, ly1, ly2, ly3, ly4, ly5, ly6, ly7]))
    (refine tkY 2 ?_; (try simp only [ly0, ly1, ly2, ly3, ly4, ly5, ly6, ly7]))
    (refine tkY 3 ?_; (try simp only [ly0, ly1, ly2, ly3, ly4, ly5, ly6, ly7]))
    (refine tkY 4 ?_; (try simp only [ly0, ly1, ly2, ly3, ly4, ly5, ly6, ly7]))
    (refine tkY 5 ?_; (try simp only [ly0, ly1, ly2, ly3, ly4, ly5, ly6, ly7]))
    refine rd1 6 (fun K hK => ?_)
    (try simp only [ly0, ly1, ly2, ly3, ly4, ly5, ly6, ly7])
    go_simp
    (go_at_call 64; refine HV2.out.mono ?_; rintro e w5 ⟨v5, us5, rfl, L5, hb5⟩; have hb5' := Below.next hdr hb5; have hS5 := HS.out _ hb5')
    first | (refine hK.out _ _ (by ((try dsimp only) <;> (first | with_reducible exact hS6 | with_reducible exact hS5 | with_reducible exact hS0))) (fun hHeld => ?_)) | (go_wp2_with fail; refine hK.out _ _ (by ((try dsimp only) <;> (first | with_reducible exact hS6 | with_reducible exact hS5 | with_reducible exact hS0))) (fun hHeld => ?_))
    clear hK K
    (try simp only [ly0, ly1, ly2, ly3, ly4, ly5, ly6, ly7])
    refine rd1 7 (fun K hK => ?_)
    (try simp only [ly0, ly1, ly2, ly3, ly4, ly5, ly6, ly7])
    go_simp
    (go_at_call 63; refine (HCo.out _ _ _ _ (HP4.out.below hb5') _ L5).mono ?_; rintro e w6 ⟨g6, us6, rfl, L6, hb6⟩; have hb6' := Below.next hb5' hb6; have hS6 := HS.out _ hb6')
    first | (refine hK.out _ _ (by ((try dsimp only) <;> (first | with_reducible exact hS6 | with_reducible exact hS5 | with_reducible exact hS0))) (fun hHeld => ?_)) | (go_wp2_with fail; refine hK.out _ _ (by ((try dsimp only) <;> (first | with_reducible exact hS6 | with_reducible exact hS5 | with_reducible exact hS0))) (fun hHeld => ?_))
    clear hK K
    (try simp only [ly0, ly1, ly2, ly3, ly4, ly5, ly6, ly7])
    (refine tkY 8 ?_; (try simp only [ly0, ly1, ly2, ly3, ly4, ly5, ly6, ly7]))
    refine wpAnyH_done (by kernel_rfl) ?_ _
    have B6 := Below.next B4 hb6'
    have B5 := Below.next B4 hb5'
    have HW5 := hide hb6.size
    have hn6 : (qt.outs.map (fun v => yss.getD v.toNat [])).length = qt.outs.length := by simp
    have HT6 := hide (Lt.start L6 hn6)
    clear L5 L6 hS0 hS5 hS6 HV HV2 HCo HS
    obtain ⟨zss, HZ⟩ : ∃ zss, Hid (qt.outs.map (fun v => yss.getD v.toNat []) = zss) := ⟨_, rfl⟩
    rw [HZ.out] at HT6 hn6
    go_wp2
    go_loopw [38] (fun vi wr => ∃ (k : Nat) (us : List Value), k ≤ qt.outs.length ∧ vi = .int .i64 k ∧ Hid (Lt wr w5.heap.size (.slice (some ⟨g6, 0, none⟩) qt.outs.length qt.outs.length) qt.outs.length us zss k) ∧ Below w5.heap.size w5 wr) (fun vi _ => qt.outs.length - (intOf vi).toNat)
    case atStart => exact ⟨0, us6, Nat.zero_le _, rfl, HT6, hb6⟩
    case round =>
     obtain ⟨k, us, hk, rfl, HL, hB⟩ := hrel
     by_cases hlt : k < qt.outs.length
     · obtain ⟨hRk, _⟩ := HL.out.old k (Nat.le_refl _) hlt
       have hul : us.length = qt.outs.length := by have := HL.out.row.1; omega
       have huk : us[k]? = some (us.getD k nov) := by rw [List.getD_eq_getElem?_getD, List.getElem?_eq_getElem (by omega)]; rfl
       have hck := (HL.out.row.cellAt k (by omega)).trans huk
       have HX := hide (Trim_any _ _ wr hRk)
       obtain ⟨ak, ck, hsp, _⟩ := hRk.spell
       rw [hsp] at hck HX
       have k0 : (0 : Int) ≤ (k : Int) := by omega
       have k1 : (k : Int) < (qt.outs.length : Int) := by omega
       have HF : Hid (∀ V, Below wr.heap.size wr V → V.cell? ⟨g6, k, none⟩ = some (.slice ak (zss.getD k []).length ck) ∧ V.frozen? ⟨g6, k, none⟩ = false) := fun V hb => ⟨(hb.cell (World.block_lt_of_cell? _ _ hck)).trans hck, (own_below HL.out.row hb).frozenAt k⟩
       have HPut := hide (fun w1 v (hb : Below wr.heap.size wr w1) hv => HL.out.put (v := v) hlt hB.size hb hv)
       have hgl := own_base HL.out.row g6 rfl
       obtain ⟨lt, HLt⟩ : ∃ lt, Hid ((tr (zss.getD k [])).length = lt) := ⟨_, rfl⟩
       clear hRk huk hsp hul
       generalize (zss.getD k []).length = ln at *
       go_wp2_with (go_at_call 65; refine HX.out.mono ?_; rintro e w7 ⟨v7, rfl, ho7, hb7⟩; have HP7 := hide (HPut.out _ _ hb7 ho7); rw [HLt.out] at ho7; obtain ⟨a7, c7, rfl⟩ := own_form ho7; obtain ⟨q1, q2⟩ := HF.out _ hb7)
       have hB7 := (Below.next hB hb7).setCell (p := ⟨g6, k, none⟩) hgl (.slice a7 lt c7)
       clear q1 q2 ho7 hck
       go_roundw
       case rel => exact ⟨k + 1, _, by omega, by go_num, HP7, hB7⟩
       case measure => simp [intOf]; omega
     · obtain rfl : k = qt.outs.length := by omega
       have HD := hide (lss_lo HL.out.done B5.size)
       clear HL
       go_wp2
       go_ret2
       rw [HZ.out]
       exact ⟨_, us, rfl, HD.out, Below.next B5 hB⟩
  · have e2 : coL f q xss = [] := by unfold coL; rw [e1, if_neg he]
    rw [e1, e2]
    have ht : (cpE f q xss != 0) = true := bne_iff_ne.2 he
    clear e2 e1 hm hg HC he HR HP HT
    generalize cpE f q xss = r at *
    apply GivesL11.none
    go_enter Tryz.func35, Tryz.ntmps35
    go_wp2_with (first
     | (go_at_call 60; refine (HG.out _ hA).mono ?_; rintro e w1 ⟨rfl, hb1⟩; have hB1 := Below.next hA hb1; have n1 := (hb1.block _ (Array.getElem?_eq_some_iff.1 hN).1).trans hN; obtain ⟨p0, p1, p2⟩ := cell3 n1)
     | (go_at_call 61; refine (HC2.out _ hB1).mono ?_; rintro e w2 ⟨rfl, hb2⟩; have hB2 := Below.next hB1 hb2))
    go_ret2
    exact ⟨rfl, hB2⟩
end Go.Proofs.YtnakbpaiidolbaaGreat
