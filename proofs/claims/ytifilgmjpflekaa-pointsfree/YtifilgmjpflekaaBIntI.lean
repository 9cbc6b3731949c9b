/-
  Layer 7: the program's Through, Fits, Change.
-/
import Derived.Test.YtifilgmjpflekaaBIntH
namespace Go.Proofs.Ytifilgmjpflekaa
open Go.RowKit Fld
set_option linter.unusedVariables false

/-- What one round of Through reckons. -/
theorem thr_scale {f p c : Int} {wd : Bool} (h : Fi f p wd) (hc : El p c) {Q : List Int} (hQ : Els p Q) (hl : Q.length ≤ 4096) : er f [c] Q = 0 ∧ sclL f c Q = sc p c Q := by
  have he : er f [c] Q = 0 := er_yes h (allIn_of (fun x hx => by rw [List.mem_singleton.1 hx]; exact hc)) (allIn_of hQ) (by simp) hl
  exact ⟨he, by unfold sclL; rw [if_pos he, pOf_eq h]; rfl⟩
theorem thr_add {f p : Int} {wd : Bool} (h : Fi f p wd) {S P : List Int} (hS : Els p S) (hP : Els p P) (l1 : S.length ≤ 4096) (l2 : P.length ≤ 4096) : er f S P = 0 ∧ addL f S P = tr (sm p 1 S P) := by
  have he : er f S P = 0 := er_yes h (allIn_of hS) (allIn_of hP) l1 l2
  exact ⟨he, by unfold addL; rw [if_pos he, pOf_eq h]⟩
theorem erase_len {xs : List Int} {k : Nat} (hk : k < xs.length) : (xs.eraseIdx k).length + 1 = xs.length := by
  rw [List.length_eraseIdx, if_pos hk]; omega
/-- The calls of one round. -/
theorem thr_zero (W : World) (b off cap : Nat) {f p : Int} {wd : Bool} (h : Fi f p wd) {xs : List Int} (hx : Els p xs) {k : Nat} (hk : k < xs.length) (hr : Rw W (.slice (some ⟨b, off, none⟩) xs.length cap) xs) :
    Calls Try.prog 64 #[.int .u8 f, .slice (some ⟨b, off + k, none⟩) 1 (cap - k)] W fun e w' => ∃ v', e = .returned (.tuple #[v', .int .i64 0]) ∧ w'.ownsRow W.heap.size 25 1 v' (zl p [co xs k]).length (vals (zl p [co xs k])) ∧ Below W.heap.size W w' := by
  have hr1 := hr.one hk
  have hk1 : chk f [[co xs k]] = 0 := chk_els h (fun l hl => by
    rw [List.mem_singleton.1 hl]
    exact ⟨fun x hx2 => by rw [List.mem_singleton.1 hx2]; exact hx.co h.pos k, by simp⟩)
  have := tZero_any f _ [co xs k] W hr1
  unfold Gives zeroL at this
  rw [hk1, if_pos rfl, pOf_eq h] at this
  exact this
theorem thr_div (W : World) (v1 v2 : Value) {f p : Int} {wd : Bool} (h : Fi f p wd) {xs : List Int} (hl : xs.length ≤ 512) {k : Nat} (hk : k < xs.length) (h1 : Rw W v1 (zl p xs)) (h2 : Rw W v2 (zl p [co xs k])) :
    Calls Try.prog 79 #[.int .u8 f, v1, v2] W fun e w' => ∃ vq vr, e = .returned (.tuple #[vq, vr, .int .i64 0]) ∧ w'.ownsRow W.heap.size 25 1 vq (zl p (xs.eraseIdx k)).length (vals (zl p (xs.eraseIdx k))) ∧ Below W.heap.size W w' := by
  have f1 := zl_facts h.md xs
  have f2 := zl_facts h.md [co xs k]
  have hq := div_yes h f1.1.1 f2.1.1 (by rw [f1.2.2]; omega) (by rw [f2.2.2]; simp) (dv_out h.md hk)
  have := pDivMod_any f v1 v2 _ _ W h1 h2
  unfold Parts at this
  rw [hq.1] at this
  refine this.mono fun e w' ⟨vq, vr, A, B, b, he, hS, hA, hB, _, hbw, hbl⟩ => ?_
  obtain ⟨rfl, rfl⟩ := hq.2 A B hS
  exact ⟨vq, vr, he, own_mono hA hbw, hbl⟩
theorem thr_scl (W : World) (v : Value) {f p c : Int} {wd : Bool} (h : Fi f p wd) (hc : El p c) {Q : List Int} (hQ : Els p Q) (hl : Q.length ≤ 4096) (h1 : Rw W v Q) :
    Calls Try.prog 80 #[.int .u8 f, .int .u64 c, v] W fun e w' => ∃ v', e = .returned (.tuple #[v', .int .i64 0]) ∧ w'.ownsRow W.heap.size 25 1 v' (sc p c Q).length (vals (sc p c Q)) ∧ Below W.heap.size W w' := by
  have := pScale_any f c v Q W (elWord hc h.top) h1
  unfold Gives at this
  rw [(thr_scale h hc hQ hl).1, (thr_scale h hc hQ hl).2] at this
  exact this
theorem thr_sum (W : World) (v1 v2 : Value) {f p : Int} {wd : Bool} (h : Fi f p wd) {S P : List Int} (hS : Els p S) (hP : Els p P) (l1 : S.length ≤ 4096) (l2 : P.length ≤ 4096) (h1 : Rw W v1 S) (h2 : Rw W v2 P) :
    Calls Try.prog 92 #[.int .u8 f, v1, v2] W fun e w' => ∃ v', e = .returned (.tuple #[v', .int .i64 0]) ∧ w'.ownsRow W.heap.size 25 1 v' (tr (sm p 1 S P)).length (vals (tr (sm p 1 S P))) ∧ Below W.heap.size W w' := by
  have := pAdd_any f v1 v2 S P W h1 h2
  unfold Gives at this
  rw [(thr_add h hS hP l1 l2).1, (thr_add h hS hP l1 l2).2] at this
  exact this

theorem thrL_wd (f : Int) {xs ys : List Int} (hl : xs.length ≤ 17592186043904) : Wd (thrL f xs ys) := by
  unfold thrL
  by_cases hz : bad f xs ys ys.length = 0
  · obtain ⟨p, wd, h, _⟩ := bad_zero hz
    rw [if_pos hz, pOf_eq h]
    exact wd_els (tp_tm h.pos xs ys _).1 h.top (Nat.le_trans (tp_len h.md xs ys _ (Nat.le_refl _)) hl)
  · rw [if_neg hz]; exact wd_nil
theorem thrL_tr (f : Int) (xs ys : List Int) : tr (thrL f xs ys) = thrL f xs ys := by
  unfold thrL
  by_cases hz : bad f xs ys ys.length = 0
  · obtain ⟨p, wd, h, _⟩ := bad_zero hz
    rw [if_pos hz, pOf_eq h]; exact (tp_tm h.pos xs ys _).2
  · rw [if_neg hz]; rfl

theorem Lss.low {w : World} {lo lo' hi : Nat} {v : Value} {us : List Value} {xss : List (List Int)} (h : Lss w lo hi v us xss) (hl : lo' ≤ lo) : Lss w lo' hi v us xss :=
  ⟨own_mono h.row hl, fun i hi' => own_mono (h.each i hi') hl, fun i g hg => Nat.le_trans hl (h.from_ i g hg), h.top, h.up⟩
/-- A call that answers lists of its own, and an error. -/
def GivesL (k : FuncId) (args : Array Value) (W : World) (xss : List (List Int)) (e0 : Int) : Prop :=
  Calls Try.prog k args W fun e w' => ∃ v' us, e = .returned (.tuple #[v', .int .i64 e0]) ∧ Lss w' W.heap.size w'.heap.size v' us xss ∧ Below W.heap.size W w'
theorem take_map_snoc (g : Int → List Int) (zs : List Int) {k : Nat} (hk : k < zs.length) : (zs.take k).map g ++ [g (zs.getD k 0)] = (zs.take (k + 1)).map g := by
  rw [List.take_succ_eq_append_getElem hk, List.map_append, List.getD_eq_getElem?_getD, List.getElem?_eq_getElem hk]; rfl

set_option maxRecDepth 100000 in
set_option maxHeartbeats 400000 in
theorem iChange (f : Int) (v1 v2 : Value) (xs zs : List Int) (w : World) (h1 : Rw w v1 xs) (h2 : Rw w v2 zs) : GivesL 32 #[.int .u8 f, v1, v2] w (chgL f xs zs) (bac f xs zs) := by
  obtain ⟨i0, hi0, hz0, hz1, hz2⟩ := info_parts sl_info
  have al := hide (fun T => alloc_below w (.cells #[v2] T))
  have HP := hide (fun T => ipPlaces f v1 _ xs [zs] _ (h1.below (al.out T)) (bes_zs w v2 zs h2 T))
  rw [chl_zs] at HP
  by_cases hz : bac f xs zs = 0
  · have hb0 : bad f xs zs xs.length = 0 ∧ ¬ 512 < zs.length := by
      unfold bac at hz
      by_cases hc : bad f xs zs xs.length ≠ 2 ∧ bad f xs zs xs.length ≠ 3 ∧ 512 < zs.length
      · rw [if_pos hc] at hz; cases hz
      · rw [if_neg hc] at hz
        refine ⟨hz, fun h => hc ⟨?_, ?_, h⟩⟩ <;> rw [hz] <;> decide
    obtain ⟨p, wd, h, i1, i2, _, hl, hn⟩ := bad_zero hb0.1
    have hlz : zs.length ≤ 512 := by omega
    have hex := els_of i1 h1.words
    have hez := els_of i2 h2.words
    have hp0 := h.pos
    have HL : Hid (chgL f xs zs = zs.map (fun z => bsl p xs z)) := by show _ = _; unfold chgL; rw [if_pos hz, pOf_eq h]
    rw [HL.out, hz]
    rw [hz] at HP
    have HB := hide (fun W (hb : Below w.heap.size w W) => ipBasis f p wd v1 xs W h (h1.below hb) hex hn hl)
    have HR := hide (fun W z bf bx bw (hz' : El p z) (hB : Bas W f p xs bf bx bw) => ipRow f p z wd xs bf bx bw W h hz' hex hl hB)
    have HE := hide hez
    have HBl := hide (fun z => bsl_len p xs z)
    obtain ⟨a1, c1, rfl, _⟩ := h1.spell
    obtain ⟨⟨ao, cap, rfl, _, _, hc⟩, _⟩ := h2
    have HCz : Hid (∀ W, Below w.heap.size w W → ∀ j, j < zs.length → ∃ b off, ao = some ⟨b, off, none⟩ ∧ W.cell? ⟨b, off + j, none⟩ = some (.int .u64 (zs.getD j 0))) := fun W hb j hj => by
      obtain ⟨b, off, e, h3, h4⟩ := hc (by intro e; rw [e] at hj; simp at hj)
      exact ⟨b, off, e, (hb.cell (p := ⟨b, off + j, none⟩) h3).trans (h4 j hj)⟩
    clear h1 h i1 i2 hn hz hb0 hex hez HL hc
    show Calls _ _ _ _ _
    go_enter Try.func32, Try.ntmps32
    go_wp2_with (first
      | (go_at_call 44; refine (HP.out _).mono ?_; rintro e w1 ⟨rfl, hb1⟩; have hB1 := Below.next (al.out _) hb1)
      | (go_at_call 45; refine (HB.out _ hB1).mono ?_; rintro e w2 ⟨bf, bx, bw, rfl, hBa, hb2⟩; have hB2 := Below.next hB1 hb2))
    clear HP HB al
    have HBa := hide hBa
    clear hBa
    have hs2 := hB2.size
    go_loopw [10, 26] (fun vo vi wr => ∃ (k : Nat) (us : List Value), k ≤ zs.length ∧ vi = .int .i64 k ∧ Hid (Lss wr w2.heap.size wr.heap.size vo us ((zs.take k).map (fun z => bsl p xs z))) ∧ Below w2.heap.size w2 wr) (fun _ vi _ => zs.length - (intOf vi).toNat)
    case atStart => exact ⟨0, [], Nat.zero_le _, rfl, Lss.nil _ _ _, Below.refl _ _⟩
    case round =>
      obtain ⟨k, us, hk, rfl, HL, hB⟩ := hrel
      by_cases hlt : k < zs.length
      · obtain ⟨b, off, rfl, hck⟩ := HCz.out wr (Below.next hB2 hB) k hlt
        have hze : El p (zs.getD k 0) := HE.out.co hp0 k
        have hfc := hide (HR.out wr _ _ _ _ hze (HBa.out.below hB))
        have HS := hide (take_map_snoc (fun z => bsl p xs z) zs hlt)
        have hml : ((zs.take k).map (fun z => bsl p xs z)).length = k := by simp; omega
        have hbl := HBl.out (zs.getD k 0)
        rw [← hbl] at hfc
        clear hze HR HE HBl HCz hbl
        generalize zs.getD k 0 = z at *
        generalize bsl p xs z = fx at *
        generalize (zs.take k).map (fun z => bsl p xs z) = lss at *
        go_wp2_with (first
          | (go_at_call 56; refine hfc.out.mono ?_; rintro e w3 ⟨vr, rfl, hor, hb3⟩; obtain ⟨ar, cr, rfl⟩ := own_form hor; have HL3 := hide (HL.out.below hb3); have hsz3 := hb3.size; have hbs := hB.size)
          | (at_builtin; refine wpList_append_lies _ rfl _ _ _ rfl w2.heap.size 26 i0 _ 1 24 Try.underlying39 hi0 hz0 hz1 hz2 rfl (by omega) u10 lss.length us rfl (HL3.out.row.alloc _) ⟨w3.heap.size, 0, none⟩ 1 1 [.slice ar fx.length cr] rfl rfl (World.news_of_block (cs := #[.slice ar fx.length cr]) (t := 26) (fr := (0, 0)) (heap_alloc_new w3 _)) (by simp [Value.oneCell']) (by omega) (by unfold maxLen; omega) (by omega) (by simp; omega) (w3.heap.size + 1) (by simp) ?_; intro gg cap2 w4 hown4 hgrow hat hltg))
        have hB3 := Below.next hB hb3
        have R := hide (HL3.out.push (w := w2) (H := wr.heap.size) (Nat.le_refl _) hbs (Nat.le_refl _) hB3 hor hown4 hgrow)
        clear hown4 hgrow hat hltg HL HL3 hor
        rw [HS.out, hml] at R
        go_roundw
        case rel => exact ⟨k + 1, _, by omega, by go_num, R.out.1.here, R.out.2⟩
        case measure => simp [intOf]; omega
      · obtain rfl : k = zs.length := by omega
        rw [List.take_length] at HL
        clear HCz HR HE HBl
        go_wp2
        go_ret2
        exact ⟨_, us, rfl, HL.out.low hs2, Below.next hB2 hB⟩
  · have ht : (bac f xs zs != 0) = true := bne_iff_ne.2 hz
    have HL : Hid (chgL f xs zs = []) := by show _ = _; unfold chgL; rw [if_neg hz]
    rw [HL.out]
    obtain ⟨a1, c1, rfl, _⟩ := h1.spell
    obtain ⟨a2, c2, rfl, _⟩ := h2.spell
    clear h1 h2 hz HL
    generalize bac f xs zs = e0 at *
    generalize xs.length = n at *
    generalize zs.length = n2 at *
    show Calls _ _ _ _ _
    go_enter Try.func32, Try.ntmps32
    go_wp2_with (go_at_call 44; refine (HP.out _).mono ?_; rintro e w1 ⟨rfl, hb1⟩; have hB1 := Below.next (al.out _) hb1)
    go_ret2
    exact ⟨_, [], rfl, Lss.nil _ _ _, hB1⟩

end Go.Proofs.Ytifilgmjpflekaa
