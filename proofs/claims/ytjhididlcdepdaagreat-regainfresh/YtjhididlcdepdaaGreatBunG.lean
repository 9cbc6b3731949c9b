import Derived.Test.YtjhididlcdepdaaGreatBRowA
import Derived.Test.YtjhididlcdepdaaGreatBRgnE
set_option linter.unusedVariables false
set_option linter.unusedSimpArgs false
set_option maxRecDepth 100000
set_option maxHeartbeats 4000000
namespace Go.Proofs.YtjhididlcdepdaaGreat
open Go.RowKit Fld Slp
section
variable {α : Type} {f : α -> Value} {T : TypeId} {n : Nat}
end
section
variable {α : Type} {f : α -> Value} {T : TypeId} {w W W' : World} {p : Pr} {vo vu : Value} {b0 b1 b2 : Nat} {z : α} {xs : List α}
end
end Go.Proofs.YtjhididlcdepdaaGreat
namespace Go.Proofs.YtjhididlcdepdaaGreat
open Go.RowKit Fld Pln
def mkl8 (b : Nat -> Bool) : List Bool := (List.range 64).map b
def mkv (b : Nat -> Bool) : Array Value := ((mkl8 b).map Value.bool).toArray
theorem mkl8_at (b : Nat -> Bool) {j : Nat} (h : j < 64) : (mkl8 b)[j]? = some (b j) := by
 unfold mkl8; rw [List.getElem?_map, List.getElem?_range h]; rfl
theorem mkv_at (b : Nat -> Bool) {j : Nat} (h : j < 64) : (mkv b)[j]? = some (.bool (b j)) := by
 unfold mkv; rw [List.getElem?_toArray, List.getElem?_map, mkl8_at b h]; rfl
theorem mkv_congr {b c : Nat -> Bool} (h : ∀ j, j < 64 -> b j = c j) : mkv b = mkv c := by
 unfold mkv mkl8
 rw [List.map_congr_left (fun j hj => h j (List.mem_range.1 hj))]
theorem mkv_set (b : Nat -> Bool) {j : Nat} (h : j < 64) : (mkv b).setIfInBounds j (.bool true) = mkv (fun i => b i || decide (i = j)) := by
 apply Array.ext
 · simp [mkv, mkl8]
 · intro i h1 h2
   have hi : i < 64 := by simpa [mkv, mkl8] using h1
   have e1 : ((mkv b).setIfInBounds j (.bool true))[i]? = (mkv (fun i => b i || decide (i = j)))[i]? := by
    rw [Array.getElem?_setIfInBounds]
    by_cases e : j = i
    · subst e
      rw [if_pos rfl, if_pos (by simp [mkv, mkl8]; exact h), mkv_at _ h, decide_eq_true rfl, Bool.or_true]
    · rw [if_neg e, mkv_at _ hi, mkv_at _ hi]
      have : ¬ i = j := fun c => e c.symm
      simp [this]
   rw [Array.getElem?_eq_getElem h1, Array.getElem?_eq_getElem h2] at e1
   exact Option.some.inj e1
theorem marks_zero8 : ((Tryz.prog.info? 67).bind (·.zero)) = some (.agg (mkv (fun _ => false))) := by kernel_rfl
def Mks (w : World) (g : Nat) (b : Nat -> Bool) : Prop := w.heap[g]? = some (.cells (mkv b) 67 (0, 0))
theorem Mks.lt {w : World} {g : Nat} {b : Nat -> Bool} (h : Mks w g b) : g < w.heap.size := (Array.getElem?_eq_some_iff.1 h).1
theorem Mks.below {w w' : World} {g : Nat} {b : Nat -> Bool} (h : Mks w g b) (hb : Below w.heap.size w w') : Mks w' g b := (hb.block g h.lt).trans h
theorem Mks.cell {w : World} {g : Nat} {b : Nat -> Bool} (h : Mks w g b) {j : Nat} (hj : j < 64) : w.cell? ⟨g, j, none⟩ = some (.bool (b j)) := by
 rw [cell_of_row w g j _ _ _ h, mkv_at b hj]
theorem Mks.free {w : World} {g : Nat} {b : Nat -> Bool} (h : Mks w g b) (k : Nat) : w.frozen? ⟨g, k, none⟩ = false := by
 unfold Mks at h; simp [World.frozen?, h]
theorem Mks.put {w : World} {g : Nat} {b : Nat -> Bool} (h : Mks w g b) {j : Nat} (hj : j < 64) : Mks (w.setCell ⟨g, j, none⟩ (.bool true)) g (fun i => b i || decide (i = j)) := by
 unfold Mks
 rw [set_blk h, mkv_set b hj]
theorem Mks.congr {w : World} {g : Nat} {b c : Nat -> Bool} (h : Mks w g b) (he : ∀ j, j < 64 -> b j = c j) : Mks w g c := by
 unfold Mks at *; rw [<- mkv_congr he]; exact h
theorem mks_new (w : World) : Mks (w.alloc (.cells (mkv (fun _ => false)) 67)) w.heap.size (fun _ => false) := heap_alloc_last w _
theorem wks_at (us : List Rq) {k : Nat} (h : k < us.length) : (wks (rps us)).getD k 0 = (us.getD k zRq).1 := by
 unfold wks rps
 rw [List.map_map, List.getD_eq_getElem?_getD, List.getElem?_map, List.getElem?_eq_getElem h, List.getD_eq_getElem?_getD, List.getElem?_eq_getElem h]; rfl
theorem wks_len (us : List Rq) : (wks (rps us)).length = us.length := by unfold wks rps; simp
theorem getD_in8 {α : Type} {l : List α} {k : Nat} (d : α) (hk : k < l.length) : l.getD k d ∈ l := by
 rw [List.getD_eq_getElem?_getD, List.getElem?_eq_getElem hk]; exact List.getElem_mem hk
theorem take_snoc8 {l : List Int} {k : Nat} (hk : k < l.length) : l.take (k + 1) = l.take k ++ [l.getD k 0] := by
 rw [List.take_succ_eq_append_getElem hk, List.getD_eq_getElem?_getD, List.getElem?_eq_getElem hk]; rfl
theorem gTwice8 (v : Value) (us : List Rq) (w : World) (h : Rpl w v us) (hw : ∀ x ∈ wks (rps us), 0 <= x ∧ x < 64) : Calls Tryz.prog 54 #[v] w fun e w' => e = .returned (.bool (!decide (wks (rps us)).Nodup)) ∧ Below w.heap.size w w' := by
 have hwl := wks_len us
 have HX : Hid (∀ k, k < us.length -> ∃ J : Nat, (us.getD k zRq).1 = (J : Int) ∧ (wks (rps us)).getD k 0 = (J : Int) ∧ J < 64) := fun k hk => by
  have := hw _ (getD_in8 (l := wks (rps us)) 0 (by rw [hwl]; exact hk))
  have e := wks_at us hk
  exact ⟨((wks (rps us)).getD k 0).toNat, by omega, by omega, by omega⟩
 have HFm := hide (fun k (hk : k < us.length) => h.one hk)
 obtain ⟨l, Hl⟩ : ∃ l, Hid (wks (rps us) = l) := ⟨_, rfl⟩
 rw [Hl.out] at HX hwl hw ⊢
 have HY : Hid (∀ k, k < us.length -> l.getD k 0 ∈ l.take k -> (!decide l.Nodup) = true) := fun k hk hm => by
  rw [decide_eq_false]; · rfl
  intro hn
  obtain ⟨i, hi, he⟩ := List.mem_iff_getElem.1 hm
  rw [List.length_take] at hi
  rw [List.getElem_take] at he
  have h2 : l.getD k 0 = l[k] := by rw [List.getD_eq_getElem?_getD, List.getElem?_eq_getElem (by omega)]; rfl
  rw [h2] at he
  have := nodup_inj hn (by omega) (by omega) he
  omega
 have HZ : Hid (l.Nodup -> (!decide l.Nodup) = false) := fun hn => by rw [decide_eq_true hn]; rfl
 have HS : Hid (∀ k (J : Nat), k < us.length -> l.getD k 0 = (J : Int) -> ¬ (J : Int) ∈ l.take k -> (l.take k).Nodup -> (l.take (k + 1)).Nodup ∧ ∀ j : Nat, j < 64 -> (decide ((j : Int) ∈ l.take k) || decide (j = J)) = decide ((j : Int) ∈ l.take (k + 1))) := fun k J hk hJ hno hn => by
  rw [take_snoc8 (by omega), hJ]
  refine ⟨List.nodup_append.2 ⟨hn, by simp, fun a ha b hb hab => ?_⟩, fun j hj => ?_⟩
  · rw [List.mem_singleton.1 hb] at hab; subst hab; exact hno ha
  · rw [Bool.eq_iff_iff]
    simp only [Bool.or_eq_true, decide_eq_true_iff, List.mem_append, List.mem_singleton]
    constructor
    · rintro (h | h)
      · exact .inl h
      · exact .inr (by omega)
    · rintro (h | h)
      · exact .inl h
      · exact .inr (by omega)
 have HL := hide h
 have hlen := h.big
 obtain ⟨ao, cap, rfl, hcap⟩ := h.spell
 have HT : Hid (l.take us.length = l) := by rw [<- hwl]; exact List.take_length
 clear h hw hwl Hl
 have hA := alloc_below w (.cells (mkv (fun _ => false)) 67)
 have HM := hide (mks_new w)
 generalize (!decide l.Nodup) = res at *
 go_enter Tryz.func54, Tryz.ntmps54
 go_upto_region 1 with fail
 refine wp_region_lit ?_
 refine wpList_alloc_row rfl _ rfl _ marks_zero8 ?_
 generalize w.alloc (.cells (mkv (fun _ => false)) 67) = W0 at *
 go_wp2_with fail
 go_loopw [8] (fun vi wr => ∃ (k : Nat), k <= us.length ∧ vi = .int .i64 k ∧ Hid (Mks wr w.heap.size (fun j => decide ((j : Int) ∈ l.take k))) ∧ Hid ((l.take k).Nodup) ∧ Below w.heap.size w wr) (fun vi _ => us.length - (intOf vi).toNat)
 case atStart => exact ⟨0, Nat.zero_le _, rfl, HM.out.congr (fun j _ => by simp), by show List.Nodup _; simp, hA⟩
 case round =>
  clear HM hA
  obtain ⟨k, hk, rfl, HM, HN, hB⟩ := hrel
  by_cases hlt : k < us.length
  · obtain ⟨b, off, cp, heq, _, _⟩ := HL.out.lm.form (by omega)
    cases heq
    obtain ⟨d0, d1, _⟩ := HL.out.cell hB hlt
    obtain ⟨a9, c9, h9⟩ := HFm.out k hlt
    obtain ⟨J, hJ, hJ2, hJ64⟩ := HX.out k hlt
    rw [hJ] at d0
    rw [h9] at d1
    have k0 : (0 : Int) <= (k : Int) := by omega
    have k1 : (k : Int) < (us.length : Int) := by omega
    have hY := hide (HY.out k hlt)
    have hS := hide (HS.out k J hlt hJ2)
    rw [hJ2] at hY
    generalize (us.getD k zRq).2.2.length = m9 at *
    clear HFm HX HY HZ HS HL h9 hJ hJ2
    go_upto_region 5 with fail
    have hAl := alloc_below wr (.cells #[.int .i64 (J : Int), .slice a9 m9 c9] 38)
    obtain ⟨e0, e1, _⟩ := rp_box wr (J : Int) (.slice a9 m9 c9)
    have HM1 := hide (HM.out.below hAl)
    have hB1 := Below.next hB hAl
    generalize wr.alloc (.cells #[.int .i64 (J : Int), .slice a9 m9 c9] 38) = V at *
    generalize wr.heap.size = gv at *
    clear d0 d1 hAl HM
    have hcm := HM1.out.cell hJ64
    have hfr := HM1.out.free J
    by_cases hin : (J : Int) ∈ l.take k
    · have HR := hide (hY.out hin)
      rw [decide_eq_true hin] at hcm
      clear hY hS HM1 HN
      go_wp2
      go_ret
      exact ⟨by have hr := HR.out; subst hr; rfl, hB1⟩
    · obtain ⟨g1, g2⟩ := hS.out hin HN.out
      have HM2 := hide ((HM1.out.put hJ64).congr g2)
      have HN2 := hide g1
      rw [decide_eq_false hin] at hcm
      have hB2 : Below w.heap.size w (V.setCell ⟨w.heap.size, J, none⟩ (.bool true)) := hB1.setCell (p := ⟨w.heap.size, J, none⟩) (Nat.le_refl _) _
      clear hY hS HM1 HN hin g1 g2
      go_wp2
      go_roundw
      case rel => exact ⟨k + 1, by omega, by go_num, HM2, HN2, hB2⟩
      case measure => simp [intOf]; omega
  · obtain rfl : k = us.length := by omega
    have HR := hide (HZ.out (by have := HN.out; rw [HT.out] at this; exact this))
    clear HX HY HZ HS HL HM HN HFm
    go_wp2
    go_ret
    exact ⟨by have hr := HR.out; subst hr; rfl, hB⟩
theorem all_take8 {α : Type} (f : α -> Bool) (l : List α) (d : α) {k : Nat} (hk : k < l.length) : (l.take (k + 1)).all f = ((l.take k).all f && f (l.getD k d)) := by
 rw [List.take_succ_eq_append_getElem hk, List.all_append, List.getD_eq_getElem?_getD, List.getElem?_eq_getElem hk]
 simp
theorem rvE_ask {p : Pn} {n : Int} {l : List Rp} (h : asB p n = false) : rvE p n l = 2 := by unfold rvE; rw [h]; rfl
theorem rvE_one {p : Pn} {n : Int} {l : List Rp} {k : Nat} (hk : k < l.length) (h : mrB p n (l.getD k nrp) = false) : rvE p n l = 2 := by
 have e : l.all (mrB p n) = false := by
  cases hc : l.all (mrB p n) with
  | false => rfl
  | true => rw [List.all_eq_true.1 hc _ (getD_inR hk)] at h; cases h
 unfold rvE
 rw [e, Bool.and_false]; rfl
theorem rvE_all {p : Pn} {n : Int} {l : List Rp} (h : asB p n = true) (h2 : l.all (mrB p n) = true) : rvE p n l = if (!decide (wks l).Nodup) = true then 6 else if (l.length : Int) < need p then 7 else 0 := by
 unfold rvE
 rw [h, h2, if_pos (show (true && true) = true from rfl)]
 by_cases hn : (wks l).Nodup
 · rw [if_pos hn, decide_eq_true hn]; rfl
 · rw [if_neg hn, decide_eq_false hn]; rfl
theorem gCheck8 (p : Pn) (n : Int) (v : Value) (us : List Rq) (w : World) (hp : Ok8p p) (h : Rpl w v us) : Calls Tryz.prog 26 #[plv p, .int .i64 n, v] w fun e w' => e = .returned (.int .i64 (rvE p n (rps us))) ∧ Below w.heap.size w w' := by
 have HA := hide (fun W => gMayAsk p n hp W)
 have HR : Hid (∀ k, k < us.length -> ∀ W, Below w.heap.size w W -> Calls Tryz.prog 10 #[plv p, .int .i64 n, .agg #[.int .i64 (us.getD k zRq).1, (us.getD k zRq).2.1]] W fun e w' => e = .returned (.bool (mrB p n ((rps us).getD k nrp))) ∧ Below W.heap.size W w') := fun k hk W hb => by
  rw [rps_at]
  exact gMayReply p n _ _ _ W hp ((h.row _ (getD_inQ hk)).below hb)
 have HT : Hid (asB p n = true -> (rps us).all (mrB p n) = true -> ∀ W, Below w.heap.size w W -> Calls Tryz.prog 54 #[v] W fun e w' => e = .returned (.bool (!decide (wks (rps us)).Nodup)) ∧ Below W.heap.size W w') := fun ha hall W hb => gTwice8 v us W (h.below hb) (fun x hx => by
  obtain ⟨r, hr, rfl⟩ := List.mem_map.1 hx
  have h1 := (mrB_iff.1 (List.all_eq_true.1 hall r hr)).2.1
  have h2 := (may_facts (asB_iff.1 ha).1).1
  omega)
 have HN : Hid (asB p n = true -> ∀ W, Calls Tryz.prog 55 #[plv p] W fun e w' => e = .returned (.tuple #[.int .i64 (need p), .int .i64 0]) ∧ Below W.heap.size W w') := fun ha W => by
  have := gNeeded p hp W
  rw [ndV_yes (asB_iff.1 ha).1, erP_yes (asB_iff.1 ha).1] at this
  exact this
 have HE0 : Hid (asB p n = false -> rvE p n (rps us) = 2) := fun ha => rvE_ask ha
 have HE1 : Hid (∀ k, k < us.length -> mrB p n ((rps us).getD k nrp) = false -> rvE p n (rps us) = 2) := fun k hk hm => rvE_one (by rw [rps_len]; exact hk) hm
 have HE2 : Hid (∀ k, k < us.length -> ((rps us).take k).all (mrB p n) = true -> mrB p n ((rps us).getD k nrp) = true -> ((rps us).take (k + 1)).all (mrB p n) = true) := fun k hk h1 h2 => by rw [all_take8 _ _ nrp (by rw [rps_len]; exact hk), h1, h2]; rfl
 have HE3 : Hid (asB p n = true -> (rps us).all (mrB p n) = true -> rvE p n (rps us) = if (!decide (wks (rps us)).Nodup) = true then 6 else if (us.length : Int) < need p then 7 else 0) := fun h1 h2 => by
  have := rvE_all h1 h2
  rw [rps_len] at this
  exact this
 have HTk : Hid ((rps us).take us.length = rps us) := by rw [<- rps_len us]; exact List.take_length
 have HFm := hide (fun k (hk : k < us.length) => h.one hk)
 have HL := hide h
 have hlen := h.big
 obtain ⟨ao, cap, rfl, hcap⟩ := h.spell
 obtain ⟨pb, hA⟩ := pb_box (w := w) p
 have HPb := hide pb
 obtain ⟨c0, c1, c2, c3, c4, c5, c6, c7⟩ := pb.cells
 clear pb h hp
 generalize rvE p n (rps us) = res at *
 rw [plan_eq8] at *
 cases hz : asB p n with
 | false =>
  rw [hz] at HA
  have HR2 := hide (HE0.out hz)
  clear HE0 HE1 HE2 HE3 HTk HFm HL HR HT HN hz
  generalize us.length = m at *
  go_enter Tryz.func26, Tryz.ntmps26
  go_wp2_with (go_at_call 36; refine (HA.out _).mono ?_; rintro e w1 ⟨rfl, hb1⟩)
  go_ret
  exact ⟨by have hr := HR2.out; subst hr; rfl, Below.next hA hb1⟩
 | true =>
  rw [hz] at HA
  have HT := hide (HT.out hz)
  have HN := hide (HN.out hz)
  have HE3 := hide (HE3.out hz)
  clear HE0 hz
  generalize hnd : need p = nd at *
  clear hnd
  generalize wks (rps us) = wk at *
  go_enter Tryz.func26, Tryz.ntmps26
  go_upto_region 3 with (go_at_call 36; refine (HA.out _).mono ?_; rintro e w1 ⟨rfl, hb1⟩)
  generalize w.alloc (.cells #[.int .u8 p.f, .int .i64 p.n, .int .i64 p.k, .int .i64 p.t, .int .i64 p.s, .int .i64 p.e, .int .i64 p.d, .int .i64 p.w] 24) = W0 at *
  clear c0 c1 c2 c3 c4 c5 c6 c7 HA
  go_wp2_with fail
  go_loopw [17] (fun vi wr => ∃ k : Nat, k <= us.length ∧ vi = .int .i64 k ∧ Hid (((rps us).take k).all (mrB p n) = true) ∧ Below W0.heap.size W0 wr) (fun vi _ => us.length - (intOf vi).toNat)
  case atStart => exact ⟨0, Nat.zero_le _, rfl, rfl, hb1⟩
  case round =>
   clear hb1
   obtain ⟨k, hk, rfl, HK, hB⟩ := hrel
   obtain ⟨c0, c1, c2, c3, c4, c5, c6, c7⟩ := (HPb.out.below hB).cells
   by_cases hlt : k < us.length
   · obtain ⟨b, off, cp', heq, _, _⟩ := HL.out.lm.form (by omega)
     cases heq
     obtain ⟨d0, d1, _⟩ := HL.out.cell (Below.next hA hB) hlt
     obtain ⟨a9, c9, h9⟩ := HFm.out k hlt
     have HI := hide (HR.out k hlt)
     have HX1 := hide (HE1.out k hlt)
     have HX2 := hide (HE2.out k hlt HK.out)
     rw [h9] at d1 HI
     have k0 : (0 : Int) <= (k : Int) := by omega
     have k1 : (k : Int) < (us.length : Int) := by omega
     generalize (us.getD k zRq).2.2.length = m9 at *
     generalize (us.getD k zRq).1 = i9 at *
     clear HFm HR HE1 HE2 HE3 HL HT HN HTk h9 HK
     go_upto_region 6 with fail
     have hAl := alloc_below wr (.cells #[.int .i64 i9, .slice a9 m9 c9] 38)
     obtain ⟨e0, e1, _⟩ := rp_box wr i9 (.slice a9 m9 c9)
     have hC := Below.next hB hAl
     generalize wr.alloc (.cells #[.int .i64 i9, .slice a9 m9 c9] 38) = V at *
     generalize wr.heap.size = gv at *
     clear c0 c1 c2 c3 c4 c5 c6 c7 d0 d1 hAl
     obtain ⟨c0, c1, c2, c3, c4, c5, c6, c7⟩ := (HPb.out.below hC).cells
     cases hm : mrB p n ((rps us).getD k nrp) with
     | false =>
      rw [hm] at HI
      have HR2 := hide (HX1.out hm)
      clear HX1 HX2 hm
      go_wp2_with (go_at_call 10; refine (HI.out _ (Below.next hA hC)).mono ?_; rintro e w2 ⟨rfl, hb2⟩)
      go_ret
      exact ⟨by have hr := HR2.out; subst hr; rfl, Below.next (Below.next hA hC) hb2⟩
     | true =>
      rw [hm] at HI
      have HK2 := hide (HX2.out hm)
      clear HX1 HX2 hm
      go_wp2_with (go_at_call 10; refine (HI.out _ (Below.next hA hC)).mono ?_; rintro e w2 ⟨rfl, hb2⟩)
      have hD := Below.next hC hb2
      go_roundw
      case rel => exact ⟨k + 1, by omega, by go_num, HK2, hD⟩
      case measure => simp [intOf]; omega
   · obtain rfl : k = us.length := by omega
     rw [HTk.out] at HK
     have HR2 := hide (HE3.out HK.out)
     have HC := hide (HT.out HK.out _ (Below.next hA hB))
     clear HFm HR HE1 HE2 HE3 HL HT HTk HK
     cases hd : (!decide wk.Nodup) with
     | true =>
      rw [hd] at HC HR2
      rw [if_pos rfl] at HR2
      clear hd
      go_wp2_with (go_at_call 54; refine HC.out.mono ?_; rintro e w2 ⟨rfl, hb2⟩)
      go_ret
      exact ⟨by have hr := HR2.out; subst hr; rfl, Below.next (Below.next hA hB) hb2⟩
     | false =>
      rw [hd] at HC HR2
      rw [if_neg (by decide)] at HR2
      clear hd
      by_cases hs : (us.length : Int) < nd
      · rw [if_pos hs] at HR2
        go_wp2_with (first
         | (go_at_call 54; refine HC.out.mono ?_; rintro e w2 ⟨rfl, hb2⟩; clear c0 c1 c2 c3 c4 c5 c6 c7; obtain ⟨c0, c1, c2, c3, c4, c5, c6, c7⟩ := (HPb.out.below (Below.next hB hb2)).cells)
         | (go_at_call 55; refine (HN.out _).mono ?_; rintro e w3 ⟨rfl, hb3⟩))
        go_ret
        exact ⟨by have hr := HR2.out; subst hr; rfl, Below.next (Below.next (Below.next hA hB) hb2) hb3⟩
      · rw [if_neg hs] at HR2
        go_wp2_with (first
         | (go_at_call 54; refine HC.out.mono ?_; rintro e w2 ⟨rfl, hb2⟩; clear c0 c1 c2 c3 c4 c5 c6 c7; obtain ⟨c0, c1, c2, c3, c4, c5, c6, c7⟩ := (HPb.out.below (Below.next hB hb2)).cells)
         | (go_at_call 55; refine (HN.out _).mono ?_; rintro e w3 ⟨rfl, hb3⟩))
        go_ret
        exact ⟨by have hr := HR2.out; subst hr; rfl, Below.next (Below.next (Below.next hA hB) hb2) hb3⟩
theorem eq_marks (d : Nat) (b c : Nat -> Bool) (w : World) : ∀ is : List Nat, (∀ i ∈ is, i < 64) -> (Op.eqItems (d + 1) 4 1 (mkv b) (mkv c) is).run Tryz.prog w = .ok (is.all fun i => b i == c i) w
 | [], _ => by simp [Op.eqItems]
 | i :: is, h => by
  have hi := h i List.mem_cons_self
  have ih := eq_marks d b c w is (fun j hj => h j (List.mem_cons_of_mem _ hj))
  have e1 : (part 4 (mkv b) (i * 1)).run Tryz.prog w = .ok (.bool (b i)) w := run_part_plain w (by kernel_rfl) (by rw [Nat.mul_one]; exact mkv_at b hi)
  have e2 : (part 4 (mkv c) (i * 1)).run Tryz.prog w = .ok (.bool (c i)) w := run_part_plain w (by kernel_rfl) (by rw [Nat.mul_one]; exact mkv_at c hi)
  simp only [Op.eqItems, Sem.run_bind, e1, e2, Result.andThen_ok, run_equalIn_bool w d 4 (b i) (c i) Tryz.underlying4]
  by_cases e : b i = c i
  · simp [e, ih]
  · simp [e]
theorem eql_marks (b : Nat -> Bool) (w : World) : (Op.equalIn 10000 67 (.agg (mkv b)) (.agg (mkv (fun _ => false)))).run Tryz.prog w = .ok ((List.range 64).all fun i => b i == false) w := by
 obtain ⟨i, hi, _⟩ := info_parts (show (Tryz.prog.info? 4).map (fun i => (i.zero, i.size, i.bytes)) = some (some (.bool false), 1, 1) by kernel_rfl)
 have hc : Tryz.prog.cellsOf 4 = 1 := by kernel_rfl
 rw [run_equalIn_array w 9999 _ _ Tryz.underlying67 hi, hc]
 exact eq_marks 9998 b (fun _ => false) w _ (fun i hi => List.mem_range.1 hi)
def mkj (b : Nat -> Bool) (n : Nat) : List Int := ((List.range n).filter b).map (fun (i : Nat) => (i : Int))
theorem mkj_yes {b : Nat -> Bool} {i : Nat} (h : b i = true) : mkj b (i + 1) = mkj b i ++ [(i : Int)] := by
 unfold mkj; rw [List.range_succ, List.filter_append, List.map_append]; simp [h]
theorem mkj_no {b : Nat -> Bool} {i : Nat} (h : b i = false) : mkj b (i + 1) = mkj b i := by
 unfold mkj; rw [List.range_succ, List.filter_append]; simp [h]
theorem mkj_len (b : Nat -> Bool) (n : Nat) : (mkj b n).length <= n := by
 unfold mkj; rw [List.length_map]; exact Nat.le_trans (List.length_filter_le _ _) (by simp)
theorem mkd_none {b : Nat -> Bool} (h : ((List.range 64).all fun i => b i == false) = true) : mkd b = [] := by
 unfold mkd
 rw [List.filter_eq_nil_iff.2 (fun i hi => by
  have := List.all_eq_true.1 h i hi
  simp at this
  rw [this]; decide)]; rfl
theorem gMarkedW (b : Nat -> Bool) (w : World) : Calls Tryz.prog 30 #[.agg (mkv b)] w fun e w' => ∃ v', e = .returned v' ∧ w'.ownsRow w.heap.size 3 1 v' (mkd b).length ((mkd b).flatMap iw) ∧ Below w.heap.size w w' := by
 have hA := alloc_below w (.cells (mkv b) 67)
 have HM : Hid (Mks (w.alloc (.cells (mkv b) 67)) w.heap.size b) := heap_alloc_last w _
 have hsz : (Tryz.prog.info? 67).map (·.size) = some (mkv b).size := by
  rw [show (mkv b).size = 64 by simp [mkv, mkl8]]; kernel_rfl
 have HN := hide (mkd_none (b := b))
 have heq := eql_marks b (w.alloc (.cells (mkv b) 67))
 have hgd : Tryz.prog.eqGuardType Tryz.prog.depth 67 = false := by kernel_rfl
 go_enter Tryz.func30, Tryz.ntmps30
 go_upto_region 1 with fail
 refine wp_region_lit ?_
 generalize w.alloc (.cells (mkv b) 67) = W0 at *
 refine rowLoad rfl _ _ rfl w.heap.size 64 4 _ _ rfl HM.out Tryz.underlying67 hsz ?_
 refine rowVal (v := .agg (mkv (fun _ => false))) rfl (by simp [go_sem, execOp]; rfl) ?_
 refine rowVal (v := .bool ((List.range 64).all fun i => b i == false)) rfl (by simp [go_sem, execOp, heq]) ?_
 cases hz : (List.range 64).all fun i => b i == false with
 | true =>
  have HN2 := hide (HN.out hz)
  clear hz HN heq HM hsz hgd
  go_wp2
  go_ret
  exact ⟨_, rfl, by rw [HN2.out]; exact World.ownsRow_nil _ _ _ _, hA⟩
 | false =>
  clear hz HN heq hsz hgd
  go_wp2_with fail
  go_loopw [3, 8] (fun vl vi wr => ∃ (i : Nat) (la : Option Addr) (lc : Nat), i <= 64 ∧ vi = .int .i64 i ∧ vl = .slice la (mkj b i).length lc ∧ Hid (wr.ownsRow W0.heap.size 3 1 (.slice la (mkj b i).length lc) (mkj b i).length ((mkj b i).flatMap iw)) ∧ Below W0.heap.size W0 wr) (fun _ vi _ => 64 - (intOf vi).toNat)
  case atStart => exact ⟨0, none, 0, by omega, rfl, rfl, World.ownsRow_nil _ _ _ _, Below.refl _ _⟩
  case round =>
   obtain ⟨i, la, lc, hi, rfl, rfl, HO, hBr⟩ := hrel
   have HMr := hide (HM.out.below hBr)
   by_cases hlt : i < 64
   · have i0' : (0 : Int) <= (i : Int) := by omega
     have i1' : (i : Int) < 64 := by omega
     have cA := HMr.out.cell hlt
     cases hmk : b i with
     | false =>
      have HNx := hide (mkj_no hmk)
      rw [hmk] at cA
      clear hmk
      go_wp2_with fail
      go_roundw
      case rel => exact ⟨i + 1, la, lc, by omega, by go_num, by rw [HNx.out], by rw [HNx.out]; exact HO, hBr⟩
      case measure => simp [intOf]; omega
     | true =>
      have HNx := hide (mkj_yes hmk)
      have HLe := hide (mkj_len b i)
      rw [hmk] at cA
      clear hmk
      have hA4 := alloc_below wr (.cells #[.int .i64 (i : Int)] 3)
      obtain ⟨a4, c4, w4, hr, ho4, hb4, hg4, _⟩ := appI1 (wr.alloc (.cells #[.int .i64 (i : Int)] 3)) W0.heap.size (.slice la (mkj b i).length lc) (mkj b i) ⟨wr.heap.size, 0, none⟩ (i : Int) (own_below HO.out hA4) (by simp [go_sem]) (by have := HLe.out; omega) (Nat.le_trans hBr.size hA4.size)
      rw [List.length_append] at ho4
      have HO4 := hide ho4
      have hB4 : Below W0.heap.size W0 w4 := (Below.next hBr hA4).trans hb4
      clear ho4 hb4 hg4 HO
      go_wp2_with (at_builtin; refine Lib.wpList_append_run _ rfl _ _ _ _ rfl _ _ rfl rfl _ _ hr ?_)
      go_roundw
      case rel => exact ⟨i + 1, a4, c4, by omega, by go_num, by rw [HNx.out]; simp, by rw [HNx.out, List.length_append]; exact HO4, hB4⟩
      case measure => simp [intOf]; omega
   · obtain rfl : i = 64 := by omega
     go_wp2_with fail
     go_ret
     exact ⟨_, rfl, own_mono HO.out hA.size, Below.next hA hBr⟩
end Go.Proofs.YtjhididlcdepdaaGreat
namespace Go.Proofs.YtjhididlcdepdaaGreat
open Go.RowKit Fld Slp
section
variable {α : Type} {f : α -> Value} {T : TypeId} {m : Nat} {w W W' : World} {p : Pr} {vo vu : Value} {b0 b2 : Nat} {xs : List α}
end
theorem info_of {t : TypeId} {z : Value} {s b : Nat} (h : (Tryz.prog.info? t).map (fun i => (i.zero, i.size, i.bytes)) = some (some z, s, b)) : ∃ i, Tryz.prog.info? t = some i ∧ i.zero = some z ∧ i.size = s ∧ i.bytes = b := by
 cases hq : Tryz.prog.info? t with
 | none => rw [hq] at h; cases h
 | some i => rw [hq] at h; simp at h; exact ⟨i, rfl, h.1, h.2.1, h.2.2⟩
theorem made_list (z : Value) (n : Nat) : madeCells #[z] (n * 1) = (List.replicate n z).toArray := by
 apply Array.ext'
 rw [toList_madeCells_one, Nat.mul_one]
theorem bool_info : (Tryz.prog.info? 4).map (fun i => (i.zero, i.size, i.bytes)) = some (some (.bool false), 1, 1) := by kernel_rfl
theorem makeB (n : Nat) (hn : n <= 1000) (W : World) : (Instr.makeSlice 76 (.int .i64 (n : Int)) (.int .i64 (n : Int))).run Tryz.prog W = .ok (.slice (some ⟨W.heap.size, 0, none⟩) n n) (W.alloc (.cells ((List.replicate n false).map Value.bool).toArray 4)) := by
 obtain ⟨i, hi, hz, hs, hb⟩ := info_of bool_info
 have := run_make (P := Tryz.prog) W 76 4 i (.bool false) Tryz.underlying76 hi hz .i64 .i64 (n : Int) (n : Int) (by omega) (Int.le_refl _) (by rw [hb]; omega) (by omega)
 rw [Int.toNat_natCast, hs] at this
 rw [this]
 show Result.ok _ (W.alloc (.cells (madeCells #[.bool false] (n * 1)) 4)) = _
 rw [made_list, List.map_replicate]
end Go.Proofs.YtjhididlcdepdaaGreat
