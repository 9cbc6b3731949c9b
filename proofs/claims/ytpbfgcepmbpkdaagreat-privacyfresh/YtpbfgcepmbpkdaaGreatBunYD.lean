/- Texts laid together: PrvA, PrvB, PrvC. -/
import Derived.Test.YtpbfgcepmbpkdaaGreatBunHD
import Derived.Test.YtpbfgcepmbpkdaaGreatBunYB
namespace Go.Proofs.YtpbfgcepmbpkdaaGreat
open Go.RowKit Fld Pln Shr
set_option linter.unusedVariables false
set_option linter.unusedSimpArgs false

set_option maxRecDepth 100000 in
set_option maxHeartbeats 400000 in
theorem gFits (p : Pn) (n : Int) (v : Value) (l : List (List Int)) (w : World) (h : Rws w v l) : Calls Tryz.prog 39 #[.agg #[v, .int .i64 n], plv p] w fun e w' => e = .returned (.bool (blkB p.w n l)) ∧ Below w.heap.size w w' := by
  have HN := hide (fun k hk hf => blkB_no (w := p.w) (n := n) (l := l) (k := k) hk hf)
  have HY := hide (fun hy => blkB_yes (w := p.w) (n := n) (l := l) hy)
  have hA0 := fun T => alloc_below w (.cells #[v, .int .i64 n] T)
  obtain ⟨ao, cap, rfl, hlen, hcap, hc⟩ := h
  generalize blkB p.w n l = res at *
  unfold plv plw at *
  go_enter Tryz.func39, Tryz.ntmps39
  go_upto_region 1 with fail
  have hA0 := hA0 53
  have d : (w.alloc (.cells #[.slice ao l.length cap, .int .i64 n] 53)).cell? ⟨w.heap.size, 0, none⟩ = some (.slice ao l.length cap) ∧ (w.alloc (.cells #[.slice ao l.length cap, .int .i64 n] 53)).cell? ⟨w.heap.size, 1, none⟩ = some (.int .i64 n) := by constructor <;> simp [go_sem]
  have hs : w.heap.size < (w.alloc (.cells #[.slice ao l.length cap, .int .i64 n] 53)).heap.size := by simp
  have hs1 : (w.alloc (.cells #[.slice ao l.length cap, .int .i64 n] 53)).heap.size = w.heap.size + 1 := by simp
  generalize w.alloc (.cells #[.slice ao l.length cap, .int .i64 n] 53) = W1 at *
  obtain ⟨pb, hA1⟩ := pb_box (w := W1) p
  have pbc := pb.cells
  rw [hs1] at pbc
  obtain ⟨c0, c1, c2, c3, c4, c5, c6, c7⟩ := pbc
  have hA := Below.next hA0 hA1
  have d0 := (hA1.cell (p := ⟨w.heap.size, 0, none⟩) hs).trans d.1
  have d1 := (hA1.cell (p := ⟨w.heap.size, 1, none⟩) hs).trans d.2
  clear pb d hs hA0 hA1 hs1
  generalize W1.alloc _ = W0 at *
  go_wp2
  go_loop [10] (fun vi => ∃ k : Nat, k ≤ l.length ∧ vi = .int .i64 k ∧ Hid (∀ i, i < k → ((l.getD i []).length : Int) = p.w)) (fun vi => l.length - (intOf vi).toNat)
  case atStart => exact ⟨0, Nat.zero_le _, rfl, fun i hi => by omega⟩
  case round =>
    obtain ⟨k, hk, rfl, HQ⟩ := hrel
    by_cases hlt : k < l.length
    · obtain ⟨b, off, rfl, hbl, hcell⟩ := hc (by intro h; rw [h] at hlt; simp at hlt)
      obtain ⟨u, hu, hR⟩ := hcell k hlt
      have hck := (hA.cell (p := ⟨b, off + k, none⟩) hbl).trans hu
      obtain ⟨au, cu, rfl, _⟩ := hR.spell
      have k0 : (0 : Int) ≤ (k : Int) := by omega
      have k1 : (k : Int) < (l.length : Int) := by omega
      have hll := hR.len
      clear hcell hc hR hu
      by_cases hi : ((l.getD k []).length : Int) = p.w
      · have HA2 : Hid (∀ i, i < k + 1 → ((l.getD i []).length : Int) = p.w) := fun i h' => by
          rcases Nat.lt_or_eq_of_le (Nat.le_of_lt_succ h') with h1 | h1
          · exact HQ.out i h1
          · rw [h1]; exact hi
        clear HN HY HQ
        generalize (l.getD k []).length = m at *
        rw [← hi] at c7
        clear hi
        go_wp2
        go_round
        case rel => exact ⟨k + 1, by omega, by go_num, HA2⟩
        case measure => simp [intOf]; omega
      · have HR := hide (HN.out k hlt hi)
        clear HN HY HQ
        generalize (l.getD k []).length = m at *
        have ht : (((m : Int)) != p.w) = true := bne_iff_ne.2 hi
        clear hi
        go_wp2
        go_ret
        exact ⟨by have hr := HR.out; subst hr; rfl, hA⟩
    · obtain rfl : k = l.length := by omega
      have HR := hide (HY.out HQ.out)
      clear HN HY HQ hc
      generalize l.length = m at *
      by_cases hi : (m : Int) = n
      · rw [decide_eq_true hi] at HR
        subst hi
        go_wp2
        go_ret
        exact ⟨by have hr := HR.out; subst hr; rfl, hA⟩
      · rw [decide_eq_false hi] at HR
        have ht : ((m : Int) == n) = false := by simpa using hi
        clear hi
        go_wp2
        go_ret
        exact ⟨by have hr := HR.out; subst hr; rfl, hA⟩

/-- Whether a call of Open says ErrArg. -/
theorem op_arg {p : Pn} {who : List Int} {l : List (List Int)} : (opE p who l == 2) = !(mayP p && elsB p.f l && whoB p.n who) := by
  unfold opE
  cases mayP p && elsB p.f l && whoB p.n who with
  | false => rfl
  | true =>
    show ((if _ then (if _ then (0 : Int) else 6) else 3) == 2) = false
    split
    · split <;> rfl
    · rfl

set_option maxRecDepth 100000 in
set_option maxHeartbeats 400000 in
theorem gIsArg (p : Pn) (vw vs : Value) (who : List Int) (l : List (List Int)) (w : World) (hp : Ok8p p) (h1 : Rws w vs l) (h3 : Lm iw 1 w vw who) : Calls Tryz.prog 38 #[plv p, vw, vs] w fun e w' => e = .returned (.bool (!(mayP p && elsB p.f l && whoB p.n who))) ∧ Below w.heap.size w w' := by
  rw [← op_arg]
  have HO := hide (fun W (hb : Below w.heap.size w W) => gOpen p vw vs who l W hp (h1.below hb) (h3.below hb))
  obtain ⟨pb, hA⟩ := pb_box (w := w) p
  obtain ⟨c0, c1, c2, c3, c4, c5, c6, c7⟩ := pb.cells
  obtain ⟨asl, csl, rfl, _, _, _⟩ := h1
  obtain ⟨aw, cw, rfl, _⟩ := h3.spell
  clear pb hp h3
  generalize opE p who l = e0 at *
  generalize opdL p who l = l1 at *
  generalize oppL p who l = l2 at *
  generalize l.length = nl at *
  generalize who.length = nw at *
  rw [plan_eq] at *
  go_enter Tryz.func38, Tryz.ntmps38
  go_wp2_with (go_at_call 68; refine (HO.out _ hA).mono ?_; rintro e w1 ⟨v1, us1, v2, us2, rfl, hM1, hM2, hb1⟩; obtain ⟨a1, k1, rfl⟩ := own_form hM1.row; obtain ⟨a2, k2, rfl⟩ := own_form hM2.row; clear hM1 hM2)
  go_ret
  exact ⟨rfl, Below.next hA hb1⟩

end Go.Proofs.YtpbfgcepmbpkdaaGreat

namespace Go.Proofs.YtpbfgcepmbpkdaaGreat
open Go.RowKit Fld Pln Shr
set_option linter.unusedVariables false
set_option linter.unusedSimpArgs false

theorem mk_size {xs : List Bool} (h : xs.length = 64) : (Tryz.prog.info? 78).map (·.size) = some (xs.map Value.bool).toArray.size := by
  have e : (Tryz.prog.info? 78).map (·.size) = some 64 := by kernel_rfl
  rw [e]; simp [h]
theorem mk_one (xs : List Bool) : (xs.map Value.bool).toArray.all (·.oneCell') = true := by simp [Value.oneCell']

set_option maxRecDepth 100000 in
set_option maxHeartbeats 400000 in
theorem gMarked (v : Value) (l : List Int) (w : World) (h : Lm iw 1 w v l) (hw : ∀ x ∈ l, 0 ≤ x ∧ x < 64) : Calls Tryz.prog 40 #[v] w fun e w' => ∃ bs : List Bool, e = .returned (.tuple #[.agg (bs.map Value.bool).toArray, .bool (!decide l.Nodup)]) ∧ bs.length = 64 ∧ (l.Nodup → ∀ j : Nat, j < 64 → (bs.getD j false = true ↔ (j : Int) ∈ l)) ∧ Below w.heap.size w w' := by
  have HX : Hid (∀ k, k < l.length → ∃ J : Nat, l.getD k 0 = (J : Int) ∧ J < 64) := fun k hk => by
    have := hw _ (getD_memA 0 hk)
    exact ⟨(l.getD k 0).toNat, by omega, by omega⟩
  have HY : Hid (∀ k, k < l.length → l.getD k 0 ∈ l.take k → (!decide l.Nodup) = true) := fun k hk hm => by
    rw [decide_eq_false]; · rfl
    intro hn
    obtain ⟨i, hi, he⟩ := List.mem_iff_getElem.1 hm
    rw [List.length_take] at hi
    rw [List.getElem_take] at he
    have h2 : l.getD k 0 = l[k] := by rw [List.getD_eq_getElem?_getD, List.getElem?_eq_getElem hk]; rfl
    rw [h2] at he
    have := nodup_inj hn (by omega) hk he
    omega
  have HZ : Hid (l.Nodup → (!decide l.Nodup) = false) := fun hn => by rw [decide_eq_true hn]; rfl
  have HT : Hid ((!decide l.Nodup) = true → ¬ l.Nodup) := fun h1 hn => by rw [decide_eq_true hn] at h1; cases h1
  have HS := hide (fun k hk => take_snocI (l := l) (k := k) hk)
  have HL := hide h
  have hlen := h.len
  obtain ⟨ao, cap, rfl, hcap⟩ := h.spell
  clear h hw
  have hA := alloc_below w (.cells ((List.replicate 64 false).map Value.bool).toArray 78)
  have HM := hide (mrk_new w)
  generalize (!decide l.Nodup) = res at *
  go_enter Tryz.func40, Tryz.ntmps40
  go_upto_region 0 with fail
  refine wp_region_lit ?_
  refine wpList_alloc_row rfl _ rfl _ marks_zero ?_
  generalize w.alloc (.cells ((List.replicate 64 false).map Value.bool).toArray 78) = W0 at *
  go_wp2_with fail
  go_loopw [8] (fun vi wr => ∃ (k : Nat) (bs : List Bool), k ≤ l.length ∧ vi = .int .i64 k ∧ Hid (Mrk wr w.heap.size bs (l.take k)) ∧ Below w.heap.size w wr) (fun vi _ => l.length - (intOf vi).toNat)
  case atStart => exact ⟨0, _, Nat.zero_le _, rfl, HM, hA⟩
  case round =>
    clear HM hA
    obtain ⟨k, bs, hk, rfl, HM, hB⟩ := hrel
    by_cases hlt : k < l.length
    · obtain ⟨b, off, cp, heq, _, _⟩ := HL.out.form (by omega)
      cases heq
      have hck := (lmi_cell HL.out hB hlt).2
      have k0 : (0 : Int) ≤ (k : Int) := by omega
      have k1 : (k : Int) < (l.length : Int) := by omega
      obtain ⟨J, hJ, hJ64⟩ := HX.out k hlt
      have hS := HS.out k hlt
      have hY := HY.out k hlt
      rw [hJ] at hck hS hY
      have hcm := HM.out.cell hJ64
      have hfr := HM.out.free J
      cases hb : bs.getD J false with
      | true =>
        have HR := hide (hY ((HM.out.mem J hJ64).1 hb))
        rw [hb] at hcm
        have hbl := HM.out.blk
        have hbn := HM.out.len
        clear HX HY HZ HS HL HM hS hY hJ hb
        go_upto_region 5 with fail
        refine wp_region_lit ?_
        refine rowLoad rfl _ _ rfl w.heap.size 64 4 _ _ rfl hbl Tryz.underlying78 (mk_size hbn) ?_
        refine rowStore rfl _ _ _ rfl w.heap.size _ _ _ rfl rfl hbl (mk_size hbn) rfl (mk_one _) ?_
        go_wp2_with fail
        have hl := run_loadVar_row (P := Tryz.prog) _ w.heap.size _ 78 _ _ _ (setRow_heap wr _ _ (bs.map Value.bool).toArray _ _ hbl) Tryz.underlying78 rfl (mk_size hbn)
        refine bodyPost_ret (res_ct (a := 2) (b := 3) (v := .agg (bs.map Value.bool).toArray) rfl rfl rfl hl) rfl ?_
        exact ⟨bs, by have hr := HR.out; subst hr; rfl, hbn, fun hn => absurd hn (HT.out HR.out), below_setRow hB (Nat.le_refl _) _⟩
      | false =>
        have HM2 := hide (HM.out.put hJ64 hb)
        rw [hS] at HM2
        rw [hb] at hcm
        have hB2 : Below w.heap.size w (wr.setCell ⟨w.heap.size, J, none⟩ (.bool true)) := hB.setCell (p := ⟨w.heap.size, J, none⟩) (Nat.le_refl _) _
        clear HX HY HZ HS HL HM hS hY hJ hb
        go_wp2
        go_roundw
        case rel => exact ⟨k + 1, _, by omega, by go_num, HM2, hB2⟩
        case measure => simp [intOf]; omega
    · obtain rfl : k = l.length := by omega
      have hnd := HM.out.dif
      rw [List.take_length] at hnd
      have HR := hide (HZ.out hnd)
      have hbl := HM.out.blk
      have hbn := HM.out.len
      have HG := hide HM.out.mem
      rw [List.take_length] at HG
      clear HX HY HZ HS HL HM hnd
      go_upto_region 8 with fail
      refine wp_region_lit ?_
      refine rowLoad rfl _ _ rfl w.heap.size 64 4 _ _ rfl hbl Tryz.underlying78 (mk_size hbn) ?_
      refine rowStore rfl _ _ _ rfl w.heap.size _ _ _ rfl rfl hbl (mk_size hbn) rfl (mk_one _) ?_
      go_wp2_with fail
      have hl := run_loadVar_row (P := Tryz.prog) _ w.heap.size _ 78 _ _ _ (setRow_heap wr _ _ (bs.map Value.bool).toArray _ _ hbl) Tryz.underlying78 rfl (mk_size hbn)
      refine bodyPost_ret (res_ct (a := 2) (b := 3) (v := .agg (bs.map Value.bool).toArray) rfl rfl rfl hl) rfl ?_
      exact ⟨bs, by have hr := HR.out; subst hr; rfl, hbn, fun _ => HG.out, below_setRow hB (Nat.le_refl _) _⟩

end Go.Proofs.YtpbfgcepmbpkdaaGreat

namespace Go.Proofs.YtpbfgcepmbpkdaaGreat
open Go.RowKit Fld Pln Shr
set_option linter.unusedVariables false
set_option linter.unusedSimpArgs false

/-- A part: blocks where they lie, what they hold, how many there should be. -/
abbrev Prt := Value × List (List Int) × Int
def prw (x : Prt) : List Value := [x.1, .int .i64 x.2.2]
def zPrt : Prt := (.slice none 0 0, [], 0)
def ckA (p : Pn) (who : List Int) (ps : List Prt) : Bool := mayP p && whoB p.n who && ps.all (fun x => elsB p.f x.2.1)
def ckF (p : Pn) (who : List Int) (ps : List Prt) : Bool := decide ((who.length : Int) ≤ p.t) && ps.all (fun x => blkB p.w x.2.2 x.2.1)
def ckE (p : Pn) (who : List Int) (ps : List Prt) : Int := if ckA p who ps then (if ckF p who ps then (if who.Nodup then 0 else 6) else 3) else 2
theorem all_takeS {α : Type} (f : α → Bool) (l : List α) (d : α) {k : Nat} (hk : k < l.length) : (l.take (k + 1)).all f = ((l.take k).all f && f (l.getD k d)) := by
  rw [List.take_succ_eq_append_getElem hk, List.all_append, List.getD_eq_getElem?_getD, List.getElem?_eq_getElem hk]
  simp
theorem ckA_snoc {p : Pn} {who : List Int} {ps : List Prt} {k : Nat} (hk : k < ps.length) : ckA p who (ps.take (k + 1)) = (ckA p who (ps.take k) && elsB p.f (ps.getD k zPrt).2.1) := by
  unfold ckA
  rw [all_takeS _ _ zPrt hk]
  exact (Bool.and_assoc _ _ _).symm
theorem ckF_snoc {p : Pn} {who : List Int} {ps : List Prt} {k : Nat} (hk : k < ps.length) : ckF p who (ps.take (k + 1)) = (ckF p who (ps.take k) && blkB p.w (ps.getD k zPrt).2.2 (ps.getD k zPrt).2.1) := by
  unfold ckF
  rw [all_takeS _ _ zPrt hk]
  exact (Bool.and_assoc _ _ _).symm
theorem ckA_no {p : Pn} {who : List Int} {ps : List Prt} {k : Nat} (hk : k < ps.length) (h : elsB p.f (ps.getD k zPrt).2.1 = false) : ckA p who ps = false := by
  unfold ckA
  rw [all_false (f := fun x : Prt => elsB p.f x.2.1) (getD_memA zPrt hk) h, Bool.and_false]
theorem lm_two {w W : World} {b off n cap : Nat} {ps : List Prt} (h : Lm prw 2 w (.slice (some ⟨b, off, none⟩) n cap) ps) (hB : Below w.heap.size w W) {k : Nat} (hk : k < ps.length) : W.cell? ⟨b, off + k * 2, none⟩ = some (ps.getD k zPrt).1 ∧ W.cell? ⟨b, off + k * 2 + 1, none⟩ = some (.int .i64 (ps.getD k zPrt).2.2) := by
  have e : ps[k]? = some (ps.getD k zPrt) := by rw [List.getD_eq_getElem?_getD, List.getElem?_eq_getElem hk]; rfl
  have h0 := h.at_ (i := k) (j := 0) (u := (ps.getD k zPrt).1) e rfl
  have h1 := h.at_ (i := k) (j := 1) (u := .int .i64 (ps.getD k zPrt).2.2) e rfl
  exact ⟨(hB.cell (p := ⟨b, off + (k * 2 + 0), none⟩) h0.1).trans h0.2, (hB.cell (p := ⟨b, off + (k * 2 + 1), none⟩) h1.1).trans h1.2⟩

set_option maxRecDepth 100000 in
set_option maxHeartbeats 800000 in
theorem gCheck (p : Pn) (vw vps : Value) (who : List Int) (ps : List Prt) (w : World) (hp : Ok8p p) (h1 : Lm prw 2 w vps ps) (h2 : ∀ x ∈ ps, Rws w x.1 x.2.1) (h3 : Lm iw 1 w vw who) :
    Calls Tryz.prog 20 #[plv p, vw, vps] w fun e w' => e = .returned (.int .i64 (ckE p who ps)) ∧ Below w.heap.size w w' := by
  have H0 : Hid (∀ W, Below w.heap.size w W → Calls Tryz.prog 38 #[plv p, vw, .slice none 0 0] W fun e w' => e = .returned (.bool (!(mayP p && whoB p.n who))) ∧ Below W.heap.size W w') := fun W hb => by
    have := gIsArg p vw (.slice none 0 0) who [] W hp (rws_nil W) (h3.below hb)
    rw [show elsB p.f [] = true from rfl, Bool.and_true] at this
    exact this
  have H1 : Hid (∀ k, k < ps.length → mayP p = true → ∀ W, Below w.heap.size w W → Calls Tryz.prog 38 #[plv p, .slice none 0 0, (ps.getD k zPrt).1] W fun e w' => e = .returned (.bool (!(elsB p.f (ps.getD k zPrt).2.1))) ∧ Below W.heap.size W w') := fun k hk hm W hb => by
    have := gIsArg p (.slice none 0 0) (ps.getD k zPrt).1 [] (ps.getD k zPrt).2.1 W hp ((h2 _ (getD_memA zPrt hk)).below hb) (lm_nil iw 1 W)
    rw [show whoB p.n [] = true from rfl, Bool.and_true, hm, Bool.true_and] at this
    exact this
  have H2 : Hid (∀ k, k < ps.length → ∀ W, Below w.heap.size w W → Calls Tryz.prog 39 #[.agg #[(ps.getD k zPrt).1, .int .i64 (ps.getD k zPrt).2.2], plv p] W fun e w' => e = .returned (.bool (blkB p.w (ps.getD k zPrt).2.2 (ps.getD k zPrt).2.1)) ∧ Below W.heap.size W w') := fun k hk W hb =>
    gFits p (ps.getD k zPrt).2.2 (ps.getD k zPrt).1 (ps.getD k zPrt).2.1 W ((h2 _ (getD_memA zPrt hk)).below hb)
  have H3 : Hid (mayP p = true → whoB p.n who = true → ∀ W, Below w.heap.size w W → Calls Tryz.prog 40 #[vw] W fun e w' => ∃ bs : List Bool, e = .returned (.tuple #[.agg (bs.map Value.bool).toArray, .bool (!decide who.Nodup)]) ∧ bs.length = 64 ∧ (who.Nodup → ∀ j : Nat, j < 64 → (bs.getD j false = true ↔ (j : Int) ∈ who)) ∧ Below W.heap.size W w') := fun hm hwh W hb =>
    gMarked vw who W (h3.below hb) (fun x hx => by
      have := whoB_iff.1 hwh x hx
      have := (may_facts hm).1
      omega)
  have HF : Hid (∀ k, k < ps.length → ∃ a m c, (ps.getD k zPrt).1 = .slice a m c) := fun k hk => by
    obtain ⟨a, c, h, _⟩ := h2 _ (getD_memA zPrt hk)
    exact ⟨_, _, _, h⟩
  have HA0 : Hid ((mayP p && whoB p.n who) = false → ckE p who ps = 2) := fun h => by
    unfold ckE ckA; rw [h]; rfl
  have HA1 : Hid (∀ k, k < ps.length → elsB p.f (ps.getD k zPrt).2.1 = false → ckE p who ps = 2) := fun k hk h => by
    unfold ckE; rw [ckA_no hk h]; rfl
  have HA2 : Hid (∀ k, k < ps.length → elsB p.f (ps.getD k zPrt).2.1 = true → ckA p who (ps.take k) = true → ckA p who (ps.take (k + 1)) = true) := fun k hk h1 h2 => by
    rw [ckA_snoc hk, h1, h2]; rfl
  have HF2 : Hid (∀ k, k < ps.length → ckF p who (ps.take (k + 1)) = (ckF p who (ps.take k) && blkB p.w (ps.getD k zPrt).2.2 (ps.getD k zPrt).2.1)) := fun k hk => ckF_snoc hk
  have HE3 : Hid (ckA p who ps = true → ckF p who ps = false → ckE p who ps = 3) := fun h1 h2 => by
    unfold ckE; rw [h1, h2]; rfl
  have HE6 : Hid (ckA p who ps = true → ckF p who ps = true → ckE p who ps = if (!decide who.Nodup) = true then 6 else 0) := fun h1 h2 => by
    unfold ckE; rw [h1, h2]
    by_cases hn : who.Nodup
    · rw [if_pos hn, decide_eq_true hn]; rfl
    · rw [if_neg hn, decide_eq_false hn]; rfl
  have HI0 : Hid ((mayP p && whoB p.n who) = true → ckA p who (ps.take 0) = true) := fun h => by
    unfold ckA; rw [h]; rfl
  have HJ0 : Hid (ckF p who (ps.take 0) = decide ((who.length : Int) ≤ p.t)) := by
    show _ = _; unfold ckF; simp
  have HTk := hide (List.take_length (l := ps))
  have HL := hide h1
  have hln := h1.len
  have hwn := h3.len
  obtain ⟨aw, cw, rfl, _⟩ := h3.spell
  obtain ⟨ap, cp, rfl, hcp⟩ := h1.spell
  obtain ⟨pb, hA⟩ := pb_box (w := w) p
  have HPb := hide pb
  obtain ⟨c0, c1, c2, c3, c4, c5, c6, c7⟩ := pb.cells
  clear pb h1 h2 h3 hp
  generalize ckE p who ps = res at *
  rw [plan_eq] at *
  have hcs : (mayP p && whoB p.n who) = false ∨ (mayP p && whoB p.n who) = true := by cases mayP p && whoB p.n who <;> simp
  rcases hcs with hz | hz
  · rw [hz] at H0
    have HR := hide (HA0.out hz)
    clear HA0 HI0 HJ0 HE3 HE6 HF2 HA2 HA1 HF H3 H2 H1 hz HL HTk
    generalize who.length = nw at *
    generalize ps.length = np at *
    go_enter Tryz.func20, Tryz.ntmps20
    go_wp2_with (go_at_call 38; refine (H0.out _ hA).mono ?_; rintro e w1 ⟨rfl, hb1⟩)
    go_ret
    exact ⟨by have hr := HR.out; subst hr; rfl, Below.next hA hb1⟩
  · rw [hz] at H0
    have HI := hide (HI0.out hz)
    rw [Bool.and_eq_true] at hz
    have H1 := hide (fun k hk => H1.out k hk hz.1)
    have H3 := hide (H3.out hz.1 hz.2)
    have HJ := hide HJ0.out
    clear HA0 HI0 HJ0 hz
    generalize hnw : who.length = nw at *
    clear hnw
    go_enter Tryz.func20, Tryz.ntmps20
    go_upto_region 3 with (go_at_call 38; refine (H0.out _ hA).mono ?_; rintro e w1 ⟨rfl, hb1⟩)
    generalize w.alloc (.cells #[.int .u8 p.f, .int .i64 p.n, .int .i64 p.k, .int .i64 p.t, .int .i64 p.s, .int .i64 p.e, .int .i64 p.d, .int .i64 p.w] 24) = W0 at *
    clear c0 c1 c2 c3 c4 c5 c6 c7
    obtain ⟨c0, c1, c2, c3, c4, c5, c6, c7⟩ := (HPb.out.below hb1).cells
    obtain ⟨bt, Hbt⟩ : ∃ bt, Hid (decide ((nw : Int) ≤ p.t) = bt) := ⟨_, rfl⟩
    have hbt := Hbt.out
    rw [Hbt.out] at HJ
    go_wp2_with fail
    clear c0 c1 c2 c3 c4 c5 c6 c7 hbt H0
    go_loopw [7, 22] (fun vf vi wr => ∃ k : Nat, k ≤ ps.length ∧ vi = .int .i64 k ∧ vf = .bool (ckF p who (ps.take k)) ∧ Hid (ckA p who (ps.take k) = true) ∧ Below W0.heap.size W0 wr) (fun _ vi _ => ps.length - (intOf vi).toNat)
    case atStart => exact ⟨0, Nat.zero_le _, rfl, by rw [HJ.out], HI, hb1⟩
    case round =>
      clear HJ HI Hbt hb1
      obtain ⟨k, hk, rfl, rfl, HK, hB⟩ := hrel
      obtain ⟨c0, c1, c2, c3, c4, c5, c6, c7⟩ := (HPb.out.below hB).cells
      have hlp := (HPb.out.below hB).lt
      by_cases hlt : k < ps.length
      · obtain ⟨b, off, cp', heq, _, _⟩ := HL.out.form (by omega)
        cases heq
        obtain ⟨d0, d1⟩ := lm_two HL.out (Below.next hA hB) hlt
        obtain ⟨a9, m9, c9, h9⟩ := HF.out k hlt
        have HI1 := hide (H1.out k hlt)
        have HI2 := hide (H2.out k hlt)
        have HN := hide (HA1.out k hlt)
        have HY := hide (HA2.out k hlt)
        have HS := hide (HF2.out k hlt)
        rw [h9] at d0 HI1 HI2
        have k0 : (0 : Int) ≤ (k : Int) := by omega
        have k1 : (k : Int) < (ps.length : Int) := by omega
        generalize (ps.getD k zPrt).2.2 = n9 at *
        generalize (ps.getD k zPrt).2.1 = l9 at *
        clear HF H1 H2 HA1 HA2 HF2 HL h9 H3 HE3 HE6 HTk
        go_upto_region 7 with fail
        have hAl := alloc_below wr (.cells #[.slice a9 m9 c9, .int .i64 n9] 53)
        have hC := Below.next hB hAl
        have dv : (wr.alloc (.cells #[.slice a9 m9 c9, .int .i64 n9] 53)).cell? ⟨wr.heap.size, 0, none⟩ = some (.slice a9 m9 c9) ∧ (wr.alloc (.cells #[.slice a9 m9 c9, .int .i64 n9] 53)).cell? ⟨wr.heap.size, 1, none⟩ = some (.int .i64 n9) := by constructor <;> simp [go_sem]
        have hvs : wr.heap.size < (wr.alloc (.cells #[.slice a9 m9 c9, .int .i64 n9] 53)).heap.size := by simp
        generalize wr.alloc (.cells #[.slice a9 m9 c9, .int .i64 n9] 53) = V at *
        generalize wr.heap.size = gv at *
        obtain ⟨e0, e1⟩ := dv
        clear c0 c1 c2 c3 c4 c5 c6 c7 d0 d1 hAl hlp
        obtain ⟨c0, c1, c2, c3, c4, c5, c6, c7⟩ := (HPb.out.below hC).cells
        cases he : elsB p.f l9 with
        | false =>
          rw [he] at HI1
          have HR := hide (HN.out he)
          clear HN HY HS HI2 he HK
          go_wp2_with (go_at_call 38; refine (HI1.out _ (Below.next hA hC)).mono ?_; rintro e w2 ⟨rfl, hb2⟩)
          go_ret
          exact ⟨by have hr := HR.out; subst hr; rfl, Below.next (Below.next hA hC) hb2⟩
        | true =>
          rw [he] at HI1
          have HY2 := hide (HY.out he HK.out)
          clear HN HY he HK
          go_upto_region 9 with (go_at_call 38; refine (HI1.out _ (Below.next hA hC)).mono ?_; rintro e w2 ⟨rfl, hb2⟩)
          have hD := Below.next hC hb2
          have e0' := (hb2.cell (p := ⟨gv, 0, none⟩) hvs).trans e0
          have e1' := (hb2.cell (p := ⟨gv, 1, none⟩) hvs).trans e1
          clear c0 c1 c2 c3 c4 c5 c6 c7 e0 e1 HI1
          obtain ⟨c0, c1, c2, c3, c4, c5, c6, c7⟩ := (HPb.out.below hD).cells
          generalize ckF p who (ps.take k) = fk at *
          generalize hfk : ckF p who (ps.take (k + 1)) = fk' at *
          have Hfk := hide hfk
          clear hfk
          cases fk with
          | false =>
            rw [Bool.false_and] at HS
            go_wp2_with fail
            go_roundw
            case rel => exact ⟨k + 1, by omega, by go_num, by rw [Hfk.out, HS.out], HY2, hD⟩
            case measure => simp [intOf]; omega
          | true =>
            rw [Bool.true_and] at HS
            rw [← HS.out] at HI2
            go_wp2_with (go_at_call 39; refine (HI2.out _ (Below.next hA hD)).mono ?_; rintro e w3 ⟨rfl, hb3⟩)
            have hE := Below.next hD hb3
            go_roundw
            case rel => exact ⟨k + 1, by omega, by go_num, by rw [Hfk.out], HY2, hE⟩
            case measure => simp [intOf]; omega
      · obtain rfl : k = ps.length := by omega
        rw [HTk.out] at HK ⊢
        cases hf : ckF p who ps with
        | false =>
          have HR := hide (HE3.out HK.out hf)
          clear HE3 HE6 hf HF H1 H2 HA1 HA2 HF2 HL H3 HK
          go_wp2_with fail
          go_ret
          exact ⟨by have hr := HR.out; subst hr; rfl, Below.next hA hB⟩
        | true =>
          have HR := hide (HE6.out HK.out hf)
          have HC := hide (H3.out _ (Below.next hA hB))
          clear HE3 HE6 hf HF H1 H2 HA1 HA2 HF2 HL H3 HK
          generalize (!decide who.Nodup) = bn at *
          go_upto_region 13 with fail
          refine wp_region_lit ?_
          refine rowVal rfl (.slice aw nw cw) (by simp [go_sem, execOp]) ?_
          refine rowCall rfl 40 #[.slice aw nw cw] (by simp [go_sem, execOp]) HC.out ?_
          rintro e w2 ⟨bs, rfl, hbn, _, hb2⟩
          refine ⟨_, rfl, ?_⟩
          refine rowVal rfl (.tuple #[.agg (bs.map Value.bool).toArray, .bool bn]) (by simp [go_sem, execOp]) ?_
          refine rowVal rfl (.agg (bs.map Value.bool).toArray) (by simp [go_sem, execOp]) ?_
          refine rowVal rfl (.bool bn) (by simp [go_sem, execOp]) ?_
          refine wpList_alloc_row rfl _ rfl _ marks_zero ?_
          refine rowStore rfl _ _ _ rfl w2.heap.size _ _ _ (by kernel_rfl) (by kernel_rfl) (heap_alloc_last w2 _) (mk_size hbn) (by rw [List.size_toArray, List.size_toArray, List.length_map, List.length_map, List.length_replicate, hbn]) (mk_one _) ?_
          rw [World.setRow_alloc_new]
          have hA2 := Below.next (Below.next (Below.next hA hB) hb2) (alloc_below w2 (.cells (bs.map Value.bool).toArray 78))
          clear hb2
          generalize w2.alloc (.cells (bs.map Value.bool).toArray 78) = w3 at *
          generalize (bs.map Value.bool).toArray = arr at *
          generalize w2.heap.size = g2 at *
          cases bn with
          | false =>
            go_wp2_with fail
            go_ret
            exact ⟨by have hr := HR.out; subst hr; rfl, hA2⟩
          | true =>
            go_wp2_with fail
            go_ret
            exact ⟨by have hr := HR.out; subst hr; rfl, hA2⟩

end Go.Proofs.YtpbfgcepmbpkdaaGreat

