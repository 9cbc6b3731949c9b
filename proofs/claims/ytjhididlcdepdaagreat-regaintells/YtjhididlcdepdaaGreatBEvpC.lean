import Derived.Test.YtjhididlcdepdaaGreatBEvpA
import Derived.Test.YtjhididlcdepdaaGreatBunYQ
import Derived.Test.YtjhididlcdepdaaGreatBunK
import Derived.Test.YtjhididlcdepdaaGreatBQMute
set_option linter.unusedVariables false
set_option linter.unusedSimpArgs false
set_option maxRecDepth 100000
set_option maxHeartbeats 4000000
namespace Go.Proofs.YtjhididlcdepdaaGreat
open Go.RowKit Fld Slp
theorem ru_wd (f : Int) (q : Pr) (xs : List Int) (hw : ∀ x ∈ xs, 0 <= x ∧ x <= 18446744073709551615) : ((ruL f q xs).length <= 64 ∧ ∀ x ∈ ruL f q xs, 0 <= x ∧ x <= 18446744073709551615) ∧ ((stL f q xs).length <= 320 ∧ ∀ x ∈ stL f q xs, 0 <= x ∧ x <= 18446744073709551615) := by
 by_cases he : evE f q xs = 0
 · obtain ⟨hm, h1, h2⟩ := evE_zero he
   obtain ⟨p, wd, hf, hi⟩ := inF_fi h1
   have hx := els_of hi hw
   obtain ⟨⟨j0, j1, l1, l2⟩, _, _⟩ := mayB_iff.1 hm
   have e1 : ruL f q xs = rnO (Rf f) q xs := by unfold ruL; rw [if_pos he]
   have e2 : stL f q xs = rns (Rf f) q xs := by unfold stL; rw [if_pos he]
   have hall : Els p (rns (Rf f) q xs) := el_all hf q.ops xs hx
   rw [e1, e2]
   refine ⟨⟨by rw [rnO_len]; omega, fun x hx' => ?_⟩, by unfold rns; rw [rnL_len]; omega, els_words hall hf.top⟩
   obtain ⟨v, _, rfl⟩ := List.mem_map.1 hx'
   exact elWord (hall.co hf.pos v.toNat) hf.top
 · have e1 : ruL f q xs = [] := by unfold ruL; rw [if_neg he]
   have e2 : stL f q xs = [] := by unfold stL; rw [if_neg he]
   rw [e1, e2]
   simp
theorem sl_infoE : (Tryz.prog.info? 36).map (fun i => (i.zero, i.size, i.bytes)) = some (some (.slice none 0 0), 1, 24) := by kernel_rfl
theorem lss_here {w : World} {lo hi : Nat} {v : Value} {us : List Value} {xss : List (List Int)} (h : Lss w lo hi v us xss) : Lss w lo w.heap.size v us xss :=
 ⟨h.row, h.each, h.from_, fun i g hg => by
  by_cases hi' : i < xss.length
  · exact own_top (h.each i hi') g hg
  · have : us.getD i nov = nov := by
     rw [List.getD_eq_getElem?_getD, List.getElem?_eq_none (by have := h.len; omega)]; rfl
    rw [this] at hg; simp [nov, Value.ownBlock] at hg, h.up⟩
def GivesL11 (k : FuncId) (args : Array Value) (W : World) (xss : List (List Int)) (e0 : Int) : Prop :=
 Calls Tryz.prog k args W fun e w' => ∃ v' us, e = .returned (.tuple #[v', .int .i64 e0]) ∧ Lss w' W.heap.size w'.heap.size v' us xss ∧ Below W.heap.size W w'
theorem take_snocL (g : List Int -> List Int) (xss : List (List Int)) {k : Nat} (hk : k < xss.length) : (xss.take k).map g ++ [g (xss.getD k [])] = (xss.take (k + 1)).map g := by
 rw [List.take_succ_eq_append_getElem hk, List.map_append, List.getD_eq_getElem?_getD, List.getElem?_eq_getElem hk]; rfl
theorem lss_lo {w : World} {lo lo' hi : Nat} {v : Value} {us : List Value} {xss : List (List Int)} (h : Lss w lo hi v us xss) (hl : lo' <= lo) : Lss w lo' hi v us xss :=
 ⟨own_mono h.row hl, fun i hi => own_mono (h.each i hi) hl, fun i g hg => Nat.le_trans hl (h.from_ i g hg), h.top, h.up⟩
theorem ahd_in {d e : Int} (hd : d = 0 ∨ d = 2 ∨ d = 3) (he : e = 2) : ahd d e = 2 := by unfold ahd; split <;> omega
theorem ahd_no {d e : Int} (hd : d = 2 ∨ d = 3) (he : e = 0 ∨ e = 3) : ahd d e = d := by unfold ahd; split <;> omega
theorem ahd_z (e : Int) : ahd 0 e = e := by unfold ahd; simp
theorem erK_one (f : Int) (q : Pr) (e0 : Int) (he : e0 = 0 ∨ e0 = 2) (xss : List (List Int)) (k : Nat) : erK f q e0 xss k = 0 ∨ erK f q e0 xss k = 2 ∨ erK f q e0 xss k = 3 := by
 unfold erK
 rw [ahd_fold _ _ (fun e he => by obtain ⟨xs, _, rfl⟩ := List.mem_map.1 he; exact rwE_one f q xs) (by omega)]
 split
 · simp
 · split
   · simp
   · omega
theorem dMany (f : Int) (q : Pr) (vp vi : Value) (xss : List (List Int)) (w : World) (hp : Pm w vp q) (hr : Rws w vi xss) : GivesL11 53 #[.int .u8 f, vp, vi] w (maL f q xss) (maE f q xss) := by
 obtain ⟨i0, hi0, hz0, hz1, hz2⟩ := info_parts sl_infoE
 have HM := hide (fun W (hb : Below w.heap.size w W) => dMay vp q W (hp.below hb))
 have HI0 := hide (fun W => rIn_any f (.slice none 0 0) [] W (row0 W))
 have HI := hide (fun v xs W (hr : Rw W v xs) => rIn_any f v xs W hr.1)
 have HRun := hide (fun v xs W (hb : Below w.heap.size w W) (hr : Rw W v xs) => dRun f q vp v xs W (hp.below hb) hr)
 unfold Gives at HRun
 obtain ⟨vo, vu, rfl, ho, hu⟩ := hp.form
 obtain ⟨ao, co', rfl, _⟩ := ho.spell
 obtain ⟨au, cu, rfl, _⟩ := hu.spell
 obtain ⟨ai, ci, rfl, hlen, hcap, hcell⟩ := hr
 have hA := alloc_below w (.cells #[.int .i64 q.inp, .slice ao q.ops.length co', .slice au q.outs.length cu] 49)
 have hN := heap_alloc_new w (.cells #[.int .i64 q.inp, .slice ao q.ops.length co', .slice au q.outs.length cu] 49)
 have hinb := hp.inb
 clear ho hu hp
 show Calls _ _ _ _ _
 cases hg : (mayB q && inF f []) with
 | false =>
  have HEr := hide (erK_one f q 2 (by simp) xss)
  have HEnd := hide (erK_two f q xss xss.length)
  cases hm : mayB q with
  | false =>
   rw [hm] at HM
   go_enter Tryz.func53, Tryz.ntmps53
   go_upto_region 4 with (first
    | (go_at_call 81; refine (HM.out _ hA).mono ?_; rintro e w1 ⟨rfl, hb1⟩; have hB1 := Below.next hA hb1; have n1 := (hb1.block _ (Array.getElem?_eq_some_iff.1 hN).1).trans hN)
    | (go_at_call 40; refine (HI0.out _).mono ?_; rintro e w2 ⟨rfl, hw⟩; rw [hw]; clear hw))
   go_wp2
   go_loopw [8, 9] (fun ve vi wr => ∃ k : Nat, k <= xss.length ∧ vi = .int .i64 k ∧ ve = .int .i64 (erK f q 2 xss k) ∧ Below w1.heap.size w1 wr) (fun _ vi _ => xss.length - (intOf vi).toNat)
   case atStart => exact ⟨0, Nat.zero_le _, rfl, rfl, Below.refl _ _⟩
   case round =>
    obtain ⟨k, hk, rfl, rfl, hB⟩ := hrel
    have hBw := Below.next hB1 hB
    have n2 := (hB.block _ (Array.getElem?_eq_some_iff.1 n1).1).trans n1
    by_cases hlt : k < xss.length
    · obtain ⟨b, off, rfl, hbl, hc⟩ := hcell (by intro e; rw [e] at hlt; simp at hlt)
      obtain ⟨u, hcu, hru⟩ := hc k hlt
      have hck := (hBw.cell (p := ⟨b, off + k, none⟩) hbl).trans hcu
      have HX := hide (HI.out u (xss.getD k []) wr (hru.below hBw))
      have HNx := hide (erK_next f q 2 hlt)
      have her := HEr.out k
      have hrw : Hid (rwE f q (xss.getD k []) = if inF f (xss.getD k []) = true then (if ((xss.getD k []).length : Int) = q.inp then 0 else 3) else 2) := rfl
      obtain ⟨au', cu', rfl, _⟩ := hru.spell
      have k0 : (0 : Int) <= (k : Int) := by omega
      have k1 : (k : Int) < (xss.length : Int) := by omega
      obtain ⟨p0, p1, p2⟩ := cell3 n2
      clear hc hcell hcu hru
      have hxl : (xss.getD k []).length <= 17592186043904 ∨ True := .inr trivial
      generalize xss.getD k [] = xs at *
      obtain ⟨r1, HR1⟩ : ∃ r1, Hid (erK f q 2 xss (k + 1) = r1) := ⟨_, rfl⟩
      rw [HR1.out] at HNx
      obtain ⟨r0, HR0⟩ : ∃ r0, Hid (erK f q 2 xss k = r0) := ⟨_, rfl⟩
      rw [HR0.out] at her HNx ⊢
      have hS0 : wr.drew.cell? ⟨b, off + k, none⟩ = some (.slice au' xs.length cu') ∧ wr.drew.cell? ⟨w.heap.size, 0, none⟩ = some (.int .i64 q.inp) := ⟨hck, p0⟩
      have hBd := hB.drew
      cases hi : inF f xs with
      | false =>
       rw [hi] at HX hrw
       have h2 : r1 = 2 := by rw [HNx.out, ahd_in her (hrw.out)]
       subst h2
       clear her HNx hrw hi
       go_upto_region 9 with (go_at_call 40; refine HX.out.mono ?_; rintro e w3 ⟨rfl, hw⟩; rw [hw]; clear hw)
       refine wp_region_held_drew (S := (fun W' => W'.cell? ⟨b, off + k, none⟩ = some (.slice au' xs.length cu') ∧ W'.cell? ⟨w.heap.size, 0, none⟩ = some (.int .i64 q.inp))) (by kernel_rfl) (by ((try dsimp only) <;> (with_reducible exact hS0))) (fun hHeld => ?_)
       refine tkY 0 ?_
       refine tkY 1 ?_
       refine tkY 2 ?_
       refine tkU 3 ?_
       refine tkU 4 ?_
       refine tkU 5 ?_
       refine tkU 6 ?_
       refine tkU 7 ?_
       refine tkU 8 ?_
       refine tkU 9 ?_
       refine tkU 10 ?_
       refine tkY 11 ?_
       refine wpAnyH_done (by kernel_rfl) ?_ _
       go_wp2
       go_roundw
       case rel => exact ⟨k + 1, by omega, by go_num, by rw [HR1.out], hBd⟩
       case measure => simp [intOf]; omega
      | true =>
       rw [hi, if_pos rfl] at hrw
       rw [hi] at HX
       clear hi
       by_cases h0 : r0 = 0
       · subst h0
         rw [ahd_z] at HNx
         by_cases he : (xs.length : Int) = q.inp
         · have h2 : r1 = 0 := by rw [HNx.out, hrw.out, if_pos he]
           subst h2
           have ht : ((xs.length : Int) != q.inp) = false := by simp [he]
           clear her HNx hrw he
           go_upto_region 9 with (go_at_call 40; refine HX.out.mono ?_; rintro e w3 ⟨rfl, hw⟩; rw [hw]; clear hw)
           refine wp_region_held_drew (S := (fun W' => W'.cell? ⟨b, off + k, none⟩ = some (.slice au' xs.length cu') ∧ W'.cell? ⟨w.heap.size, 0, none⟩ = some (.int .i64 q.inp))) (by kernel_rfl) (by ((try dsimp only) <;> (with_reducible exact hS0))) (fun hHeld => ?_)
           refine tkY 0 ?_
           refine tkY 1 ?_
           refine tkY 2 ?_
           refine tkY 3 ?_
           refine tkY 4 ?_
           refine tkY 5 ?_
           refine tkY 6 ?_
           refine tkY 7 ?_
           refine tkY 8 ?_
           refine tkY 9 ?_
           refine tkY 10 ?_
           refine tkY 11 ?_
           refine wpAnyH_done (by kernel_rfl) ?_ _
           go_wp2
           go_roundw
           case rel => exact ⟨k + 1, by omega, by go_num, by rw [HR1.out], hBd⟩
           case measure => simp [intOf]; omega
         · have h2 : r1 = 3 := by rw [HNx.out, hrw.out, if_neg he]
           subst h2
           have ht : ((xs.length : Int) != q.inp) = true := by simp [he]
           clear her HNx hrw he
           go_upto_region 9 with (go_at_call 40; refine HX.out.mono ?_; rintro e w3 ⟨rfl, hw⟩; rw [hw]; clear hw)
           refine wp_region_held_drew (S := (fun W' => W'.cell? ⟨b, off + k, none⟩ = some (.slice au' xs.length cu') ∧ W'.cell? ⟨w.heap.size, 0, none⟩ = some (.int .i64 q.inp))) (by kernel_rfl) (by ((try dsimp only) <;> (with_reducible exact hS0))) (fun hHeld => ?_)
           refine tkY 0 ?_
           refine tkY 1 ?_
           refine tkY 2 ?_
           refine tkY 3 ?_
           refine tkY 4 ?_
           refine tkY 5 ?_
           refine tkY 6 ?_
           refine tkY 7 ?_
           refine tkY 8 ?_
           refine tkY 9 ?_
           refine tkY 10 ?_
           refine tkY 11 ?_
           refine wpAnyH_done (by kernel_rfl) ?_ _
           go_wp2
           go_roundw
           case rel => exact ⟨k + 1, by omega, by go_num, by rw [HR1.out], hBd⟩
           case measure => simp [intOf]; omega
       · have h2 : r1 = r0 := by
          rw [HNx.out]
          exact ahd_no (by omega) (by rw [hrw.out]; split <;> simp)
         subst h2
         have ht : (r1 == 0) = false := by simpa using h0
         clear her HNx hrw h0
         go_upto_region 9 with (go_at_call 40; refine HX.out.mono ?_; rintro e w3 ⟨rfl, hw⟩; rw [hw]; clear hw)
         refine wp_region_held_drew (S := (fun W' => W'.cell? ⟨b, off + k, none⟩ = some (.slice au' xs.length cu') ∧ W'.cell? ⟨w.heap.size, 0, none⟩ = some (.int .i64 q.inp))) (by kernel_rfl) (by ((try dsimp only) <;> (with_reducible exact hS0))) (fun hHeld => ?_)
         refine tkY 0 ?_
         refine tkY 1 ?_
         refine tkY 2 ?_
         refine tkU 3 ?_
         refine tkU 4 ?_
         refine tkU 5 ?_
         refine tkU 6 ?_
         refine tkU 7 ?_
         refine tkU 8 ?_
         refine tkU 9 ?_
         refine tkU 10 ?_
         refine tkY 11 ?_
         refine wpAnyH_done (by kernel_rfl) ?_ _
         go_wp2
         go_roundw
         case rel => exact ⟨k + 1, by omega, by go_num, by rw [HR1.out], hBd⟩
         case measure => simp [intOf]; omega
    · obtain rfl : k = xss.length := by omega
      rw [HEnd.out]
      clear HEr
      have HME : Hid (maE f q xss = 2) := by show _ = _; unfold maE; rw [hg]; rfl
      have HML : Hid (maL f q xss = []) := by show _ = _; unfold maL; rw [HME.out]; rfl
      go_wp2
      go_loopw [10, 11] (fun vo vi wr' => vo = .slice none 0 0 ∧ vi = .int .i64 0 ∧ wr' = wr) (fun _ _ _ => 0)
      case atStart => exact ⟨rfl, rfl, rfl⟩
      case round =>
       obtain ⟨rfl, rfl, rfl⟩ := hrel
       by_cases hlt0 : (0 : Int) < xss.length
       · go_wp2
         go_ret2
         rw [HME.out, HML.out]
         first | exact ⟨_, [], rfl, Lss.nil _ _ _, hBw⟩ | exact ⟨_, rfl, ⟨[], Lss.nil _ _ _⟩, hBw⟩
       · go_wp2
         go_ret2
         rw [HME.out, HML.out]
         first | exact ⟨_, [], rfl, Lss.nil _ _ _, hBw⟩ | exact ⟨_, rfl, ⟨[], Lss.nil _ _ _⟩, hBw⟩
  | true =>
   have hn : inF f [] = false := by rw [hm] at hg; simpa using hg
   rw [hm] at HM
   rw [hn] at HI0
   go_enter Tryz.func53, Tryz.ntmps53
   go_upto_region 4 with (first
    | (go_at_call 81; refine (HM.out _ hA).mono ?_; rintro e w1 ⟨rfl, hb1⟩; have hB1 := Below.next hA hb1; have n1 := (hb1.block _ (Array.getElem?_eq_some_iff.1 hN).1).trans hN)
    | (go_at_call 40; refine (HI0.out _).mono ?_; rintro e w2 ⟨rfl, hw⟩; rw [hw]; clear hw))
   go_wp2
   go_loopw [8, 9] (fun ve vi wr => ∃ k : Nat, k <= xss.length ∧ vi = .int .i64 k ∧ ve = .int .i64 (erK f q 2 xss k) ∧ Below w1.heap.size w1 wr) (fun _ vi _ => xss.length - (intOf vi).toNat)
   case atStart => exact ⟨0, Nat.zero_le _, rfl, rfl, Below.refl _ _⟩
   case round =>
    obtain ⟨k, hk, rfl, rfl, hB⟩ := hrel
    have hBw := Below.next hB1 hB
    have n2 := (hB.block _ (Array.getElem?_eq_some_iff.1 n1).1).trans n1
    by_cases hlt : k < xss.length
    · obtain ⟨b, off, rfl, hbl, hc⟩ := hcell (by intro e; rw [e] at hlt; simp at hlt)
      obtain ⟨u, hcu, hru⟩ := hc k hlt
      have hck := (hBw.cell (p := ⟨b, off + k, none⟩) hbl).trans hcu
      have HX := hide (HI.out u (xss.getD k []) wr (hru.below hBw))
      have HNx := hide (erK_next f q 2 hlt)
      have her := HEr.out k
      have hrw : Hid (rwE f q (xss.getD k []) = if inF f (xss.getD k []) = true then (if ((xss.getD k []).length : Int) = q.inp then 0 else 3) else 2) := rfl
      obtain ⟨au', cu', rfl, _⟩ := hru.spell
      have k0 : (0 : Int) <= (k : Int) := by omega
      have k1 : (k : Int) < (xss.length : Int) := by omega
      obtain ⟨p0, p1, p2⟩ := cell3 n2
      clear hc hcell hcu hru
      have hxl : (xss.getD k []).length <= 17592186043904 ∨ True := .inr trivial
      generalize xss.getD k [] = xs at *
      obtain ⟨r1, HR1⟩ : ∃ r1, Hid (erK f q 2 xss (k + 1) = r1) := ⟨_, rfl⟩
      rw [HR1.out] at HNx
      obtain ⟨r0, HR0⟩ : ∃ r0, Hid (erK f q 2 xss k = r0) := ⟨_, rfl⟩
      rw [HR0.out] at her HNx ⊢
      have hS0 : wr.drew.cell? ⟨b, off + k, none⟩ = some (.slice au' xs.length cu') ∧ wr.drew.cell? ⟨w.heap.size, 0, none⟩ = some (.int .i64 q.inp) := ⟨hck, p0⟩
      have hBd := hB.drew
      cases hi : inF f xs with
      | false =>
       rw [hi] at HX hrw
       have h2 : r1 = 2 := by rw [HNx.out, ahd_in her (hrw.out)]
       subst h2
       clear her HNx hrw hi
       go_upto_region 9 with (go_at_call 40; refine HX.out.mono ?_; rintro e w3 ⟨rfl, hw⟩; rw [hw]; clear hw)
       refine wp_region_held_drew (S := (fun W' => W'.cell? ⟨b, off + k, none⟩ = some (.slice au' xs.length cu') ∧ W'.cell? ⟨w.heap.size, 0, none⟩ = some (.int .i64 q.inp))) (by kernel_rfl) (by ((try dsimp only) <;> (with_reducible exact hS0))) (fun hHeld => ?_)
       refine tkY 0 ?_
       refine tkY 1 ?_
       refine tkY 2 ?_
       refine tkU 3 ?_
       refine tkU 4 ?_
       refine tkU 5 ?_
       refine tkU 6 ?_
       refine tkU 7 ?_
       refine tkU 8 ?_
       refine tkU 9 ?_
       refine tkU 10 ?_
       refine tkY 11 ?_
       refine wpAnyH_done (by kernel_rfl) ?_ _
       go_wp2
       go_roundw
       case rel => exact ⟨k + 1, by omega, by go_num, by rw [HR1.out], hBd⟩
       case measure => simp [intOf]; omega
      | true =>
       rw [hi, if_pos rfl] at hrw
       rw [hi] at HX
       clear hi
       by_cases h0 : r0 = 0
       · subst h0
         rw [ahd_z] at HNx
         by_cases he : (xs.length : Int) = q.inp
         · have h2 : r1 = 0 := by rw [HNx.out, hrw.out, if_pos he]
           subst h2
           have ht : ((xs.length : Int) != q.inp) = false := by simp [he]
           clear her HNx hrw he
           go_upto_region 9 with (go_at_call 40; refine HX.out.mono ?_; rintro e w3 ⟨rfl, hw⟩; rw [hw]; clear hw)
           refine wp_region_held_drew (S := (fun W' => W'.cell? ⟨b, off + k, none⟩ = some (.slice au' xs.length cu') ∧ W'.cell? ⟨w.heap.size, 0, none⟩ = some (.int .i64 q.inp))) (by kernel_rfl) (by ((try dsimp only) <;> (with_reducible exact hS0))) (fun hHeld => ?_)
           refine tkY 0 ?_
           refine tkY 1 ?_
           refine tkY 2 ?_
           refine tkY 3 ?_
           refine tkY 4 ?_
           refine tkY 5 ?_
           refine tkY 6 ?_
           refine tkY 7 ?_
           refine tkY 8 ?_
           refine tkY 9 ?_
           refine tkY 10 ?_
           refine tkY 11 ?_
           refine wpAnyH_done (by kernel_rfl) ?_ _
           go_wp2
           go_roundw
           case rel => exact ⟨k + 1, by omega, by go_num, by rw [HR1.out], hBd⟩
           case measure => simp [intOf]; omega
         · have h2 : r1 = 3 := by rw [HNx.out, hrw.out, if_neg he]
           subst h2
           have ht : ((xs.length : Int) != q.inp) = true := by simp [he]
           clear her HNx hrw he
           go_upto_region 9 with (go_at_call 40; refine HX.out.mono ?_; rintro e w3 ⟨rfl, hw⟩; rw [hw]; clear hw)
           refine wp_region_held_drew (S := (fun W' => W'.cell? ⟨b, off + k, none⟩ = some (.slice au' xs.length cu') ∧ W'.cell? ⟨w.heap.size, 0, none⟩ = some (.int .i64 q.inp))) (by kernel_rfl) (by ((try dsimp only) <;> (with_reducible exact hS0))) (fun hHeld => ?_)
           refine tkY 0 ?_
           refine tkY 1 ?_
           refine tkY 2 ?_
           refine tkY 3 ?_
           refine tkY 4 ?_
           refine tkY 5 ?_
           refine tkY 6 ?_
           refine tkY 7 ?_
           refine tkY 8 ?_
           refine tkY 9 ?_
           refine tkY 10 ?_
           refine tkY 11 ?_
           refine wpAnyH_done (by kernel_rfl) ?_ _
           go_wp2
           go_roundw
           case rel => exact ⟨k + 1, by omega, by go_num, by rw [HR1.out], hBd⟩
           case measure => simp [intOf]; omega
       · have h2 : r1 = r0 := by
          rw [HNx.out]
          exact ahd_no (by omega) (by rw [hrw.out]; split <;> simp)
         subst h2
         have ht : (r1 == 0) = false := by simpa using h0
         clear her HNx hrw h0
         go_upto_region 9 with (go_at_call 40; refine HX.out.mono ?_; rintro e w3 ⟨rfl, hw⟩; rw [hw]; clear hw)
         refine wp_region_held_drew (S := (fun W' => W'.cell? ⟨b, off + k, none⟩ = some (.slice au' xs.length cu') ∧ W'.cell? ⟨w.heap.size, 0, none⟩ = some (.int .i64 q.inp))) (by kernel_rfl) (by ((try dsimp only) <;> (with_reducible exact hS0))) (fun hHeld => ?_)
         refine tkY 0 ?_
         refine tkY 1 ?_
         refine tkY 2 ?_
         refine tkU 3 ?_
         refine tkU 4 ?_
         refine tkU 5 ?_
         refine tkU 6 ?_
         refine tkU 7 ?_
         refine tkU 8 ?_
         refine tkU 9 ?_
         refine tkU 10 ?_
         refine tkY 11 ?_
         refine wpAnyH_done (by kernel_rfl) ?_ _
         go_wp2
         go_roundw
         case rel => exact ⟨k + 1, by omega, by go_num, by rw [HR1.out], hBd⟩
         case measure => simp [intOf]; omega
    · obtain rfl : k = xss.length := by omega
      rw [HEnd.out]
      clear HEr
      have HME : Hid (maE f q xss = 2) := by show _ = _; unfold maE; rw [hg]; rfl
      have HML : Hid (maL f q xss = []) := by show _ = _; unfold maL; rw [HME.out]; rfl
      go_wp2
      go_loopw [10, 11] (fun vo vi wr' => vo = .slice none 0 0 ∧ vi = .int .i64 0 ∧ wr' = wr) (fun _ _ _ => 0)
      case atStart => exact ⟨rfl, rfl, rfl⟩
      case round =>
       obtain ⟨rfl, rfl, rfl⟩ := hrel
       by_cases hlt0 : (0 : Int) < xss.length
       · go_wp2
         go_ret2
         rw [HME.out, HML.out]
         first | exact ⟨_, [], rfl, Lss.nil _ _ _, hBw⟩ | exact ⟨_, rfl, ⟨[], Lss.nil _ _ _⟩, hBw⟩
       · go_wp2
         go_ret2
         rw [HME.out, HML.out]
         first | exact ⟨_, [], rfl, Lss.nil _ _ _, hBw⟩ | exact ⟨_, rfl, ⟨[], Lss.nil _ _ _⟩, hBw⟩
 | true =>
  have HEr := hide (erK_one f q 0 (by simp) xss)
  have hm : mayB q = true := (Bool.and_eq_true _ _ ▸ hg).1
  have hn : inF f [] = true := (Bool.and_eq_true _ _ ▸ hg).2
  rw [hm] at HM
  rw [hn] at HI0
  have HEnd := hide (erK_doc f q xss hg)
  go_enter Tryz.func53, Tryz.ntmps53
  go_upto_region 4 with (first
   | (go_at_call 81; refine (HM.out _ hA).mono ?_; rintro e w1 ⟨rfl, hb1⟩; have hB1 := Below.next hA hb1; have n1 := (hb1.block _ (Array.getElem?_eq_some_iff.1 hN).1).trans hN)
   | (go_at_call 40; refine (HI0.out _).mono ?_; rintro e w2 ⟨rfl, hw⟩; rw [hw]; clear hw))
  go_wp2
  go_loopw [8, 9] (fun ve vi wr => ∃ k : Nat, k <= xss.length ∧ vi = .int .i64 k ∧ ve = .int .i64 (erK f q 0 xss k) ∧ Below w1.heap.size w1 wr) (fun _ vi _ => xss.length - (intOf vi).toNat)
  case atStart => exact ⟨0, Nat.zero_le _, rfl, rfl, Below.refl _ _⟩
  case round =>
   obtain ⟨k, hk, rfl, rfl, hB⟩ := hrel
   have hBw := Below.next hB1 hB
   have n2 := (hB.block _ (Array.getElem?_eq_some_iff.1 n1).1).trans n1
   by_cases hlt : k < xss.length
   · obtain ⟨b, off, rfl, hbl, hc⟩ := hcell (by intro e; rw [e] at hlt; simp at hlt)
     obtain ⟨u, hcu, hru⟩ := hc k hlt
     have hck := (hBw.cell (p := ⟨b, off + k, none⟩) hbl).trans hcu
     have HX := hide (HI.out u (xss.getD k []) wr (hru.below hBw))
     have HNx := hide (erK_next f q 0 hlt)
     have her := HEr.out k
     have hrw : Hid (rwE f q (xss.getD k []) = if inF f (xss.getD k []) = true then (if ((xss.getD k []).length : Int) = q.inp then 0 else 3) else 2) := rfl
     obtain ⟨au', cu', rfl, _⟩ := hru.spell
     have k0 : (0 : Int) <= (k : Int) := by omega
     have k1 : (k : Int) < (xss.length : Int) := by omega
     obtain ⟨p0, p1, p2⟩ := cell3 n2
     clear hc hcell hcu hru
     have hxl : (xss.getD k []).length <= 17592186043904 ∨ True := .inr trivial
     generalize xss.getD k [] = xs at *
     obtain ⟨r1, HR1⟩ : ∃ r1, Hid (erK f q 0 xss (k + 1) = r1) := ⟨_, rfl⟩
     rw [HR1.out] at HNx
     obtain ⟨r0, HR0⟩ : ∃ r0, Hid (erK f q 0 xss k = r0) := ⟨_, rfl⟩
     rw [HR0.out] at her HNx ⊢
     have hS0 : wr.drew.cell? ⟨b, off + k, none⟩ = some (.slice au' xs.length cu') ∧ wr.drew.cell? ⟨w.heap.size, 0, none⟩ = some (.int .i64 q.inp) := ⟨hck, p0⟩
     have hBd := hB.drew
     cases hi : inF f xs with
     | false =>
      rw [hi] at HX hrw
      have h2 : r1 = 2 := by rw [HNx.out, ahd_in her (hrw.out)]
      subst h2
      clear her HNx hrw hi
      go_upto_region 9 with (go_at_call 40; refine HX.out.mono ?_; rintro e w3 ⟨rfl, hw⟩; rw [hw]; clear hw)
      refine wp_region_held_drew (S := (fun W' => W'.cell? ⟨b, off + k, none⟩ = some (.slice au' xs.length cu') ∧ W'.cell? ⟨w.heap.size, 0, none⟩ = some (.int .i64 q.inp))) (by kernel_rfl) (by ((try dsimp only) <;> (with_reducible exact hS0))) (fun hHeld => ?_)
      refine tkY 0 ?_
      refine tkY 1 ?_
      refine tkY 2 ?_
      refine tkU 3 ?_
      refine tkU 4 ?_
      refine tkU 5 ?_
      refine tkU 6 ?_
      refine tkU 7 ?_
      refine tkU 8 ?_
      refine tkU 9 ?_
      refine tkU 10 ?_
      refine tkY 11 ?_
      refine wpAnyH_done (by kernel_rfl) ?_ _
      go_wp2
      go_roundw
      case rel => exact ⟨k + 1, by omega, by go_num, by rw [HR1.out], hBd⟩
      case measure => simp [intOf]; omega
     | true =>
      rw [hi, if_pos rfl] at hrw
      rw [hi] at HX
      clear hi
      by_cases h0 : r0 = 0
      · subst h0
        rw [ahd_z] at HNx
        by_cases he : (xs.length : Int) = q.inp
        · have h2 : r1 = 0 := by rw [HNx.out, hrw.out, if_pos he]
          subst h2
          have ht : ((xs.length : Int) != q.inp) = false := by simp [he]
          clear her HNx hrw he
          go_upto_region 9 with (go_at_call 40; refine HX.out.mono ?_; rintro e w3 ⟨rfl, hw⟩; rw [hw]; clear hw)
          refine wp_region_held_drew (S := (fun W' => W'.cell? ⟨b, off + k, none⟩ = some (.slice au' xs.length cu') ∧ W'.cell? ⟨w.heap.size, 0, none⟩ = some (.int .i64 q.inp))) (by kernel_rfl) (by ((try dsimp only) <;> (with_reducible exact hS0))) (fun hHeld => ?_)
          refine tkY 0 ?_
          refine tkY 1 ?_
          refine tkY 2 ?_
          refine tkY 3 ?_
          refine tkY 4 ?_
          refine tkY 5 ?_
          refine tkY 6 ?_
          refine tkY 7 ?_
          refine tkY 8 ?_
          refine tkY 9 ?_
          refine tkY 10 ?_
          refine tkY 11 ?_
          refine wpAnyH_done (by kernel_rfl) ?_ _
          go_wp2
          go_roundw
          case rel => exact ⟨k + 1, by omega, by go_num, by rw [HR1.out], hBd⟩
          case measure => simp [intOf]; omega
        · have h2 : r1 = 3 := by rw [HNx.out, hrw.out, if_neg he]
          subst h2
          have ht : ((xs.length : Int) != q.inp) = true := by simp [he]
          clear her HNx hrw he
          go_upto_region 9 with (go_at_call 40; refine HX.out.mono ?_; rintro e w3 ⟨rfl, hw⟩; rw [hw]; clear hw)
          refine wp_region_held_drew (S := (fun W' => W'.cell? ⟨b, off + k, none⟩ = some (.slice au' xs.length cu') ∧ W'.cell? ⟨w.heap.size, 0, none⟩ = some (.int .i64 q.inp))) (by kernel_rfl) (by ((try dsimp only) <;> (with_reducible exact hS0))) (fun hHeld => ?_)
          refine tkY 0 ?_
          refine tkY 1 ?_
          refine tkY 2 ?_
          refine tkY 3 ?_
          refine tkY 4 ?_
          refine tkY 5 ?_
          refine tkY 6 ?_
          refine tkY 7 ?_
          refine tkY 8 ?_
          refine tkY 9 ?_
          refine tkY 10 ?_
          refine tkY 11 ?_
          refine wpAnyH_done (by kernel_rfl) ?_ _
          go_wp2
          go_roundw
          case rel => exact ⟨k + 1, by omega, by go_num, by rw [HR1.out], hBd⟩
          case measure => simp [intOf]; omega
      · have h2 : r1 = r0 := by
         rw [HNx.out]
         exact ahd_no (by omega) (by rw [hrw.out]; split <;> simp)
        subst h2
        have ht : (r1 == 0) = false := by simpa using h0
        clear her HNx hrw h0
        go_upto_region 9 with (go_at_call 40; refine HX.out.mono ?_; rintro e w3 ⟨rfl, hw⟩; rw [hw]; clear hw)
        refine wp_region_held_drew (S := (fun W' => W'.cell? ⟨b, off + k, none⟩ = some (.slice au' xs.length cu') ∧ W'.cell? ⟨w.heap.size, 0, none⟩ = some (.int .i64 q.inp))) (by kernel_rfl) (by ((try dsimp only) <;> (with_reducible exact hS0))) (fun hHeld => ?_)
        refine tkY 0 ?_
        refine tkY 1 ?_
        refine tkY 2 ?_
        refine tkU 3 ?_
        refine tkU 4 ?_
        refine tkU 5 ?_
        refine tkU 6 ?_
        refine tkU 7 ?_
        refine tkU 8 ?_
        refine tkU 9 ?_
        refine tkU 10 ?_
        refine tkY 11 ?_
        refine wpAnyH_done (by kernel_rfl) ?_ _
        go_wp2
        go_roundw
        case rel => exact ⟨k + 1, by omega, by go_num, by rw [HR1.out], hBd⟩
        case measure => simp [intOf]; omega
   · obtain rfl : k = xss.length := by omega
     rw [HEnd.out]
     clear HEr
     have HMaE : Hid (maE f q xss = if maR f q xss = 0 then (if 4096 < xss.length then 4 else 0) else maR f q xss) := by show _ = _; unfold maE; rw [if_pos hg]
     by_cases h0 : maR f q xss = 0
     · rw [if_pos h0] at HMaE
       rw [h0]
       clear h0
       by_cases hl4 : 4096 < xss.length
       · have HME : Hid (maE f q xss = 4) := by show _ = _; rw [HMaE.out, if_pos hl4]
         have HML : Hid (maL f q xss = []) := by show _ = _; unfold maL; rw [HME.out]; rfl
         have hl4' : (4096 : Int) < (xss.length : Int) := by omega
         clear hl4 HMaE
         have hdl : decide ((4096 : Int) < (xss.length : Int)) = true := by simpa using hl4'
         go_wp2
         go_loopw [10, 11] (fun vo vi wr' => vo = .slice none 0 0 ∧ vi = .int .i64 0 ∧ wr' = wr) (fun _ _ _ => 0)
         case atStart => exact ⟨rfl, rfl, rfl⟩
         case round =>
          obtain ⟨rfl, rfl, rfl⟩ := hrel
          by_cases hlt0 : (0 : Int) < xss.length
          · go_wp2
            go_ret2
            rw [HME.out, HML.out]
            first | exact ⟨_, [], rfl, Lss.nil _ _ _, hBw⟩ | exact ⟨_, rfl, ⟨[], Lss.nil _ _ _⟩, hBw⟩
          · exact absurd hl4' (by omega)
       · have HME : Hid (maE f q xss = 0) := by show _ = _; rw [HMaE.out, if_neg hl4]
         have HML : Hid (maL f q xss = xss.map (rnO (Rf f) q)) := by show _ = _; unfold maL; rw [if_pos HME.out]
         have hl4' : (xss.length : Int) <= 4096 := by omega
         have hdl : decide ((4096 : Int) < (xss.length : Int)) = false := decide_eq_false (by omega)
         have HAll : Hid (∀ k, k < xss.length -> evE f q (xss.getD k []) = 0 ∧ ruL f q (xss.getD k []) = rnO (Rf f) q (xss.getD k [])) := fun k hk => by
          have h1 := (maE_zero HME.out).2.2 _ (getD_mem hk)
          have h2 : evE f q (xss.getD k []) = 0 := by unfold evE; rw [if_pos hm]; exact h1
          exact ⟨h2, by unfold ruL; rw [if_pos h2]⟩
         clear hl4 HMaE
         obtain ⟨w9, rfl⟩ : ∃ w9, w9 = wr := ⟨wr, rfl⟩
         go_wp2
         go_loopw [10, 11] (fun vo vi wr => ∃ (k : Nat) (us : List Value), k <= xss.length ∧ vi = .int .i64 k ∧ Hid (Lss wr w9.heap.size wr.heap.size vo us ((xss.take k).map (rnO (Rf f) q))) ∧ Below w9.heap.size w9 wr) (fun _ vi _ => xss.length - (intOf vi).toNat)
         case atStart => exact ⟨0, [], Nat.zero_le _, rfl, Lss.nil _ _ _, Below.refl _ _⟩
         case round =>
          obtain ⟨k, us, hk, rfl, HL, hB'⟩ := hrel
          have hBw' := Below.next hBw hB'
          have n3 := (hB'.block _ (Array.getElem?_eq_some_iff.1 n2).1).trans n2
          by_cases hlt : k < xss.length
          · obtain ⟨b, off, rfl, hbl, hc⟩ := hcell (by intro e; rw [e] at hlt; simp at hlt)
            obtain ⟨u, hcu, hru⟩ := hc k hlt
            have hck := (hBw'.cell (p := ⟨b, off + k, none⟩) hbl).trans hcu
            have hbd : Below wr.heap.size wr wr.drew := (Below.refl _ wr).drew
            have HX := hide (HRun.out u (xss.getD k []) wr.drew (Below.next hBw' hbd) (hru.below (Below.next hBw' hbd)))
            rw [(HAll.out k hlt).1, (HAll.out k hlt).2] at HX
            have HS := hide (take_snocL (rnO (Rf f) q) xss hlt)
            have hml : ((xss.take k).map (rnO (Rf f) q)).length = k := by simp; omega
            obtain ⟨au', cu', rfl, _⟩ := hru.spell
            have k0 : (0 : Int) <= (k : Int) := by omega
            have k1 : (k : Int) < (xss.length : Int) := by omega
            obtain ⟨p0, p1, p2⟩ := cell3 n3
            have hS0 : wr.drew.cell? ⟨b, off + k, none⟩ = some (.slice au' (xss.getD k []).length cu') ∧ wr.drew.cell? ⟨w.heap.size, 0, none⟩ = some (.int .i64 q.inp) ∧ wr.drew.cell? ⟨w.heap.size, 1, none⟩ = some (.slice ao q.ops.length co') ∧ wr.drew.cell? ⟨w.heap.size, 2, none⟩ = some (.slice au q.outs.length cu) := ⟨hck, p0, p1, p2⟩
            clear hc hcell hcu hru
            generalize rnO (Rf f) q (xss.getD k []) = fx at *
            generalize (xss.getD k []).length = ln at *
            generalize (xss.take k).map (rnO (Rf f) q) = lss at *
            go_upto_region 17 with fail
            refine wp_region_held_drew (S := (fun W' => W'.cell? ⟨b, off + k, none⟩ = some (.slice au' ln cu') ∧ W'.cell? ⟨w.heap.size, 0, none⟩ = some (.int .i64 q.inp) ∧ W'.cell? ⟨w.heap.size, 1, none⟩ = some (.slice ao q.ops.length co') ∧ W'.cell? ⟨w.heap.size, 2, none⟩ = some (.slice au q.outs.length cu))) (by kernel_rfl) (by ((try dsimp only) <;> (first | with_reducible exact hS0 | with_reducible exact hS1))) (fun hHeld => ?_)
            refine tkY 0 ?_
            refine tkY 1 ?_
            refine tkY 2 ?_
            refine tkY 3 ?_
            refine tkY 4 ?_
            refine tkY 5 ?_
            refine rd1 6 (fun K hK => ?_)
            (try simp only [ly0, ly1, ly2, ly3, ly4, ly5, ly6, ly7])
            go_simp
            (first
             | (go_at_call 85; refine HX.out.mono ?_; rintro e w3 ⟨v3, rfl, hor, hb3⟩; have hS1 := kept4 hb3 hS0))
            first | refine hK.out _ _ ?k4 (fun hHeld => ?_) | (go_wp2_with fail; refine hK.out _ _ ?k4 (fun hHeld => ?_))
            case k4 => ((try dsimp only) <;> (first | with_reducible exact hS0 | with_reducible exact hS1))
            clear hK K
            (try simp only [ly0, ly1, ly2, ly3, ly4, ly5, ly6, ly7])
            refine tkY 7 ?_
            refine tkY 8 ?_
            refine tkY 9 ?_
            refine tkY 10 ?_
            refine tkY 11 ?_
            refine wpAnyH_done (by kernel_rfl) ?_ _
            obtain ⟨ar, cr, rfl⟩ := own_form hor
            have hb3' := Below.next hbd hb3
            have HL3 := hide (HL.out.below hb3')
            have hsz3 := hb3'.size
            have hbs := hB'.size
            have hB3 := Below.next hB' hb3'
            clear hS0 hS1
            go_wp2_with (at_builtin; refine wpList_append_lies _ rfl _ _ _ rfl w9.heap.size 36 i0 _ 1 24 Tryz.underlying26 hi0 hz0 hz1 hz2 rfl (by omega) u10 lss.length us rfl (HL3.out.row.alloc _) ⟨w3.heap.size, 0, none⟩ 1 1 [.slice ar fx.length cr] rfl rfl (World.news_of_block (cs := #[.slice ar fx.length cr]) (t := 36) (fr := (0, 0)) (heap_alloc_new w3 _)) (by simp [Value.oneCell']) (by omega) (by unfold maxLen; omega) (by omega) (by simp; omega) (w3.heap.size + 1) (by simp) ?_; intro gg cap2 w4 hown4 hgrow hat hltg)
            have R := hide (HL3.out.push (w := w9) (H := wr.heap.size) (Nat.le_refl _) hbs (Nat.le_refl _) hB3 hor hown4 hgrow)
            clear hown4 hgrow hat hltg HL HL3 hor
            rw [HS.out, hml] at R
            go_roundw
            case rel => exact ⟨k + 1, _, by omega, by go_num, lss_here R.out.1, R.out.2⟩
            case measure => simp [intOf]; omega
          · obtain rfl : k = xss.length := by omega
            rw [List.take_length] at HL
            have HLw := hide (lss_lo HL.out hBw.size)
            rw [<- HML.out] at HLw
            clear hcell HL
            go_wp2
            go_ret2
            rw [HME.out]
            exact ⟨_, us, rfl, HLw.out, hBw'⟩
     · rw [if_neg h0] at HMaE
       have HME := HMaE
       have HML : Hid (maL f q xss = []) := by show _ = _; unfold maL; rw [HME.out, if_neg h0]
       have ht : (maR f q xss == 0) = false := by simpa using h0
       clear h0
       generalize maR f q xss = r at *
       go_wp2
       go_loopw [10, 11] (fun vo vi wr' => vo = .slice none 0 0 ∧ vi = .int .i64 0 ∧ wr' = wr) (fun _ _ _ => 0)
       case atStart => exact ⟨rfl, rfl, rfl⟩
       case round =>
        obtain ⟨rfl, rfl, rfl⟩ := hrel
        by_cases hlt0 : (0 : Int) < xss.length
        · go_wp2
          go_ret2
          rw [HME.out, HML.out]
          first | exact ⟨_, [], rfl, Lss.nil _ _ _, hBw⟩ | exact ⟨_, rfl, ⟨[], Lss.nil _ _ _⟩, hBw⟩
        · go_wp2
          go_ret2
          rw [HME.out, HML.out]
          first | exact ⟨_, [], rfl, Lss.nil _ _ _, hBw⟩ | exact ⟨_, rfl, ⟨[], Lss.nil _ _ _⟩, hBw⟩
theorem ma_wd {f : Int} {q : Pr} {xss : List (List Int)} (hw : ∀ xs ∈ xss, ∀ x ∈ xs, 0 <= x ∧ x <= 18446744073709551615) : (maL f q xss).length <= 4096 ∧ ∀ i, Wd ((maL f q xss).getD i []) := by
 by_cases he : maE f q xss = 0
 · have e1 : maL f q xss = xss.map (rnO (Rf f) q) := by unfold maL; rw [if_pos he]
   obtain ⟨hm, hl, hall⟩ := maE_zero he
   rw [e1]
   refine ⟨by simpa using hl, fun i => ?_⟩
   rw [List.getD_eq_getElem?_getD, List.getElem?_map]
   cases hx : xss[i]? with
   | none => exact wd_nil
   | some xs =>
    have hmem := List.mem_of_getElem? hx
    have h2 : evE f q xs = 0 := by unfold evE; rw [if_pos hm]; exact hall xs hmem
    have h3 := (ru_wd f q xs (hw xs hmem)).1
    have e2 : ruL f q xs = rnO (Rf f) q xs := by unfold ruL; rw [if_pos h2]
    rw [e2] at h3
    exact ⟨by simp only [Option.map_some, Option.getD_some]; omega, h3.2⟩
 · have e1 : maL f q xss = [] := by unfold maL; rw [if_neg he]
   rw [e1]
   exact ⟨by simp, fun i => by simp; exact wd_nil⟩
theorem Rws.wordsL {w : World} {v : Value} {xss : List (List Int)} (h : Rws w v xss) : ∀ xs ∈ xss, ∀ x ∈ xs, 0 <= x ∧ x <= 18446744073709551615 := fun xs hx => by
 obtain ⟨ao, cap, rfl, hl, hc, hcell⟩ := h
 obtain ⟨i, hi, rfl⟩ := List.mem_iff_getElem.1 hx
 obtain ⟨b, off, rfl, hbl, hcc⟩ := hcell (by intro e; rw [e] at hi; simp at hi)
 obtain ⟨u, _, hr⟩ := hcc i hi
 rw [List.getD_eq_getElem?_getD, List.getElem?_eq_getElem hi] at hr
 exact hr.words
section
variable {w W W' : World} {p : Pr} {vo vu : Value} {b0 b1 B b7 : Nat} {yo yu : Value} {os : List O4} {us : List Int}
end
end Go.Proofs.YtjhididlcdepdaaGreat
