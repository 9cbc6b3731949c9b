/-
  Layer 6: the remainders, the program's.
-/
import Derived.Test.YtilkjkmgokbmoaaBTreF
import Derived.Test.YtilkjkmgokbmoaaBPolN
namespace Go.Proofs.Ytilkjkmgokbmoaa
open Go.RowKit Fld
set_option linter.unusedVariables false

/-- Which error the remainders have, and what they are. -/
def rmE (f : Int) (P : List Int) (xss : List (List Int)) : Int :=
  if chk f (P :: xss) = 0 then (if 2048 < xss.length then 4 else if xss.any (fun ys => decide (tr ys = [])) then 5 else 0) else chk f (P :: xss)
def RmE (f : Int) (P : List Int) (xss rss : List (List Int)) : Prop :=
  (rmE f P xss ≠ 0 → rss = []) ∧ (rmE f P xss = 0 → rss.length = xss.length ∧ ∀ i, i < xss.length → ∃ q, Dv (pOf f) P (xss.getD i []) q (rss.getD i []))
theorem rmE_zero {f : Int} {P : List Int} {xss : List (List Int)} (h : rmE f P xss = 0) : chk f (P :: xss) = 0 ∧ xss.length ≤ 2048 ∧ ∀ i, i < xss.length → tr (xss.getD i []) ≠ [] := by
  unfold rmE at h
  by_cases h1 : chk f (P :: xss) = 0
  · rw [if_pos h1] at h
    by_cases h2 : 2048 < xss.length
    · rw [if_pos h2] at h; exact absurd h (by decide)
    · rw [if_neg h2] at h
      refine ⟨h1, by omega, fun i hi hc => ?_⟩
      rw [if_pos (List.any_eq_true.2 ⟨_, getD_mem hi, decide_eq_true hc⟩)] at h
      exact absurd h (by decide)
  · rw [if_neg h1] at h; exact absurd h h1
theorem rmE_nought {f : Int} {P : List Int} {xss : List (List Int)} {k : Nat} (h1 : chk f (P :: xss) = 0) (h2 : xss.length ≤ 2048) (hk : k < xss.length) (hc : tr (xss.getD k []) = []) : rmE f P xss = 5 := by
  unfold rmE
  rw [if_pos h1, if_neg (by omega), if_pos (List.any_eq_true.2 ⟨_, getD_mem hk, decide_eq_true hc⟩)]
theorem rmE_ok {f : Int} {P : List Int} {xss : List (List Int)} (h1 : chk f (P :: xss) = 0) (h2 : xss.length ≤ 2048) (h : ∀ i, i < xss.length → tr (xss.getD i []) ≠ []) : rmE f P xss = 0 := by
  unfold rmE
  rw [if_pos h1, if_neg (by omega), if_neg]
  intro hc
  obtain ⟨x, hx, h3⟩ := List.any_eq_true.1 hc
  obtain ⟨i, hi, rfl⟩ := mem_getD hx
  exact h i hi (of_decide_eq_true h3)
theorem ext_getDD {xss yss : List (List Int)} (hl : xss.length = yss.length) (h : ∀ i, i < xss.length → xss.getD i [] = yss.getD i []) : xss = yss := by
  apply List.ext_getElem hl
  intro i h1 h2
  have := h i h1
  rw [List.getD_eq_getElem?_getD, List.getD_eq_getElem?_getD, List.getElem?_eq_getElem h1, List.getElem?_eq_getElem h2] at this
  exact this
theorem RmE.only {f : Int} {P : List Int} {xss rss sss : List (List Int)} (hw : ∀ i, ∀ x ∈ xss.getD i [], 0 ≤ x ∧ x ≤ 18446744073709551615) (h : RmE f P xss rss) (k : RmE f P xss sss) : rss = sss := by
  by_cases he : rmE f P xss = 0
  · obtain ⟨h1, _, _⟩ := rmE_zero he
    obtain ⟨a1, a2⟩ := h.2 he
    obtain ⟨b1, b2⟩ := k.2 he
    refine ext_getDD (by rw [a1, b1]) (fun i hi => ?_)
    rw [a1] at hi
    obtain ⟨q, hq⟩ := a2 i hi
    obtain ⟨s, hs⟩ := b2 i hi
    obtain ⟨hin, _⟩ := chk_zero h1 (List.mem_cons_of_mem _ (getD_mem hi))
    obtain ⟨p, wd, hf, hal⟩ := inF_fi hin
    rw [pOf_eq hf] at hq hs
    exact (hq.only hf.md (els_of hal (hw i)) hs).2
  · rw [h.1 he, k.1 he]
/-- A call that answers lists, in memory of its own, and an error. -/
def GivesR (k : FuncId) (args : Array Value) (W : World) (S : List (List Int) → Prop) (e0 : Int) : Prop :=
  Calls Try.prog k args W fun e w' => ∃ v' us rss, e = .returned (.tuple #[v', .int .i64 e0]) ∧ S rss ∧ Lss w' W.heap.size w'.heap.size v' us rss ∧ Below W.heap.size W w'
theorem GivesR.none {k : FuncId} {args : Array Value} {W : World} {S : List (List Int) → Prop} {e0 : Int} (hS : S []) (h : Calls Try.prog k args W fun e w' => e = .returned (.tuple #[.slice none 0 0, .int .i64 e0]) ∧ Below W.heap.size W w') : GivesR k args W S e0 :=
  h.mono fun e w' ⟨he, hb⟩ => ⟨_, [], [], he, hS, Lss.nil _ _ _, hb⟩
theorem Lss.more {w : World} {lo hi hi' : Nat} {v : Value} {us : List Value} {xss : List (List Int)} (h : Lss w lo hi v us xss) (hh : hi ≤ hi') : Lss w lo hi' v us xss :=
  ⟨h.row, h.each, h.from_, fun i g hg => Nat.lt_of_lt_of_le (h.top i g hg) hh, h.up⟩
theorem Lss.here {w : World} {lo hi : Nat} {v : Value} {us : List Value} {xss : List (List Int)} (h : Lss w lo hi v us xss) : Lss w lo w.heap.size v us xss :=
  ⟨h.row, h.each, h.from_, fun i g hg => by
    by_cases hi : i < xss.length
    · exact own_top (h.each i hi) g hg
    · rw [List.getD_eq_getElem?_getD, List.getElem?_eq_none (by rw [h.len]; omega)] at hg
      simp [nov, Value.ownBlock] at hg, h.up⟩
theorem own_form {w : World} {b n : Nat} {T : TypeId} {v : Value} {xs : List Value} (h : w.ownsRow b T 1 v n xs) : ∃ a c, v = .slice a n c := by
  rcases h.2 with ⟨rfl, h0⟩ | ⟨g, cap, cur, rfl, _⟩
  · exact ⟨_, _, by rw [h0]⟩
  · exact ⟨_, _, rfl⟩

theorem concat_call (vp vm : Value) (P : List Int) (xss : List (List Int)) (w : World) (hp : Rw w vp P) (hm : Rws w vm xss) (hl : xss.length ≤ 5864062014634) (T T2 : TypeId) :
    Calls Try.prog 35 #[.slice (some ⟨w.heap.size + 1, 0, none⟩) 2 2] ((w.alloc (.cells #[vp] T)).alloc (.cells #[.slice (some ⟨w.heap.size, 0, none⟩) 1 1, vm] T2)) fun e w' => ∃ v', e = .returned v' ∧ Rws w' v' (P :: xss) ∧ Below w.heap.size w w' := by
  have b1 := alloc_below w (.cells #[vp] T)
  have b2 := alloc_below (w.alloc (.cells #[vp] T)) (.cells #[.slice (some ⟨w.heap.size, 0, none⟩) 1 1, vm] T2)
  have hb := Below.next b1 b2
  have e2 : (w.alloc (.cells #[vp] T)).heap.size = w.heap.size + 1 := by simp
  have hT := Two.first (w.alloc (.cells #[vp] T)) (.slice (some ⟨w.heap.size, 0, none⟩) 1 1) vm T2
  rw [e2] at hT
  refine (Concat_any vp vm P xss _ w.heap.size (w.heap.size + 1) (hp.below hb) (hm.below hb) hl ?_ (by simp; omega) hT).mono fun e w' ⟨v', he, hr, hb2⟩ => ⟨v', he, hr, Below.next hb hb2⟩
  rw [World.cell?_alloc_lt (h := by simp)]
  simp [go_sem]

/-- What a division by one of them answers. -/
theorem div_of {f : Int} {P ys : List Int} {p : Int} {wd : Bool} (h : Fi f p wd) (hP : Els p P) (hY : Els p ys) (l1 : P.length ≤ 2048) (l2 : ys.length ≤ 2048) : divE f P ys = if tr ys = [] then 5 else 0 := by
  unfold divE
  rw [if_pos (er_yes h (allIn_of hP) (allIn_of hY) (by omega) (by omega))]
theorem dv_words {f p : Int} {wd : Bool} {P ys A B : List Int} (h : Fi f p wd) (l2 : ys.length ≤ 2048) (hd : Dv p P ys A B) : Wd B := by
  have := tr_len ys
  exact wd_els hd.2.1 h.top (by have := hd.2.2.2.2.1; omega)

theorem rem_push {p : Int} {P : List Int} {xss rss : List (List Int)} {k : Nat} {q r : List Int} (hl : rss.length = k) (h : ∀ i, i < k → ∃ q, Dv p P (xss.getD i []) q (rss.getD i [])) (hd : Dv p P (xss.getD k []) q r) : ∀ i, i < k + 1 → ∃ q, Dv p P (xss.getD i []) q ((rss ++ [r]).getD i []) := fun i hi => by
  rw [getD_snoc, hl]
  by_cases h2 : i < k
  · rw [if_pos h2]; exact h i h2
  · have : i = k := by omega
    subst this
    rw [if_neg h2, if_pos rfl]; exact ⟨q, hd⟩

set_option maxRecDepth 100000 in
set_option maxHeartbeats 400000 in
theorem tRemainders_any (f : Int) (vp vm : Value) (P : List Int) (xss : List (List Int)) (w : World) (hp : Rw w vp P) (hm : Rws w vm xss) (hl : xss.length ≤ 5864062014634) : GivesR 18 #[.int .u8 f, vp, vm] w (RmE f P xss) (rmE f P xss) := by
  have HC := hide (fun T T2 => concat_call vp vm P xss w hp hm hl T T2)
  have HK := hide (fun W v (hr : Rws W v (P :: xss)) => tcheck_any f v (P :: xss) W hr)
  obtain ⟨a1, c1, rfl, _⟩ := hp.spell
  obtain ⟨a2, c2, rfl, hlen, hcap, hcell⟩ := hm
  by_cases he : chk f (P :: xss) = 0
  · rw [he] at HK
    by_cases hlong : 2048 < xss.length
    · have HE : Hid (rmE f P xss = 4) := by show _ = _; unfold rmE; rw [if_pos he, if_pos hlong]
      have HS : Hid (RmE f P xss []) := ⟨fun _ => rfl, fun h => by rw [HE.out] at h; exact absurd h (by decide)⟩
      rw [HE.out]
      refine GivesR.none HS.out ?_
      clear hp hcell he HS HE
      generalize xss.length = n at *
      go_enter Try.func18, Try.ntmps18
      go_wp2_with (first
        | (go_at_call 35; refine (HC.out _ _).mono ?_; rintro e w1 ⟨v1, rfl, hr1, hb1⟩)
        | (go_at_call 31; refine (HK.out _ _ hr1).mono ?_; rintro e w2 ⟨rfl, hb2⟩))
      go_ret2
      exact ⟨rfl, Below.next hb1 hb2⟩
    · obtain ⟨i0, hi0, hz0, hz1, hz2⟩ := info_parts sl_info
      obtain ⟨hin, hPl⟩ := chk_zero he List.mem_cons_self
      obtain ⟨p, wd, h, hal⟩ := inF_fi hin
      have hPe := els_of hal hp.words
      have hD : Hid (∀ k, k < xss.length → (xss.getD k []).length ≤ 2048 ∧ ∀ W u, Rw W u (xss.getD k []) → Rw W (.slice a1 P.length c1) P → Parts 36 #[.int .u8 f, .slice a1 P.length c1, u] W (DvE f P (xss.getD k [])) (if tr (xss.getD k []) = [] then 5 else 0)) := fun k hk => by
        obtain ⟨hin2, hl2⟩ := chk_zero he (List.mem_cons_of_mem _ (getD_mem hk))
        rw [inF_yes h] at hin2
        refine ⟨hl2, fun W u hu hv => ?_⟩
        have := pDivMod_any f _ u P (xss.getD k []) W hv hu
        rw [div_of h hPe (els_of hin2 hu.words) hPl hl2] at this
        exact this
      have HDv : Hid (∀ k, k < xss.length → (∀ x ∈ xss.getD k [], 0 ≤ x ∧ x ≤ 18446744073709551615) → tr (xss.getD k []) ≠ [] → ∀ A B, DvE f P (xss.getD k []) A B → Dv p P (xss.getD k []) A B) := fun k hk hw hne A B hd => by
        obtain ⟨hin2, hl2⟩ := chk_zero he (List.mem_cons_of_mem _ (getD_mem hk))
        rw [inF_yes h] at hin2
        have e := div_of h hPe (els_of hin2 hw) hPl hl2
        rw [if_neg hne] at e
        have := hd.2 e
        rw [pOf_eq h] at this; exact this
      have HP := hide (pOf_eq h)
      have HE := hide he
      have hpr := hide hp
      clear hp he h hin hal hPe
      show Calls _ _ _ _ _
      go_enter Try.func18, Try.ntmps18
      go_wp2_with (first
        | (go_at_call 35; refine (HC.out _ _).mono ?_; rintro e w1 ⟨v1, rfl, hr1, hb1⟩)
        | (go_at_call 31; refine (HK.out _ _ hr1).mono ?_; rintro e w2 ⟨rfl, hb2⟩))
      have hB2 := Below.next hb1 hb2
      go_loopw [9, 30] (fun vo vi wr => ∃ (k : Nat) (us : List Value) (rss : List (List Int)), k ≤ xss.length ∧ vi = .int .i64 k ∧ rss.length = k ∧ Hid (Lss wr w.heap.size wr.heap.size vo us rss) ∧ Hid (∀ i, i < k → ∃ q, Dv p P (xss.getD i []) q (rss.getD i [])) ∧ Hid (∀ i, i < k → tr (xss.getD i []) ≠ []) ∧ Below w.heap.size w wr) (fun _ vi _ => xss.length - (intOf vi).toNat)
      case atStart => exact ⟨0, [], [], Nat.zero_le _, rfl, rfl, Lss.nil _ _ _, fun i hi => by omega, fun i hi => by omega, hB2⟩
      case round =>
        clear hB2 hb1 hb2 hr1
        obtain ⟨k, us, rss, hk, rfl, hrl, HL, HV, HT, hB⟩ := hrel
        by_cases hlt : k < xss.length
        · obtain ⟨b, off, rfl, hbl, hc⟩ := hcell (by intro e; rw [e] at hlt; simp at hlt)
          obtain ⟨u, hcu, hru⟩ := hc k hlt
          have hck := (hB.cell (p := ⟨b, off + k, none⟩) hbl).trans hcu
          have hdc := hide ((hD.out k hlt).2 wr u (hru.below hB) (hpr.out.below hB))
          have hwd := hide hru.words
          obtain ⟨au, cu, rfl, _⟩ := hru.spell
          clear hc hcell hcu hru
          by_cases hz : tr (xss.getD k []) = []
          · rw [if_pos hz] at hdc
            have HE5 := hide (rmE_nought HE.out (by omega) hlt hz)
            unfold Parts at hdc
            clear hz
            generalize (xss.getD k []).length = ln at *
            go_wp2_with (go_at_call 36; refine hdc.out.mono ?_; rintro e w3 ⟨vq, vr, A, B, b3, rfl, hS, hoq, hor, _, _, hb3⟩)
            rw [HE5.out]
            go_ret2
            exact ⟨_, [], [], rfl, ⟨fun _ => rfl, fun h => by rw [HE5.out] at h; exact absurd h (by decide)⟩, Lss.nil _ _ _, Below.next hB hb3⟩
          · rw [if_neg hz] at hdc
            unfold Parts at hdc
            have HZ := hide hz
            have hD2 := hide (HDv.out k hlt hwd.out hz)
            clear hz
            obtain ⟨ln, HLN⟩ : ∃ ln, Hid ((xss.getD k []).length = ln) := ⟨_, rfl⟩
            rw [HLN.out] at hck hdc
            go_wp2_with (first
              | (go_at_call 36; refine hdc.out.mono ?_; rintro e w3 ⟨vq, vr, A, B, b3, rfl, hS, hoq, hor, _, _, hb3⟩; obtain ⟨ar, cr, rfl⟩ := own_form hor; have HL3 := hide (HL.out.below hb3); have hsz3 := hb3.size; have hbs := hB.size)
              | (at_builtin; refine wpList_append_lies _ rfl _ _ _ rfl w.heap.size 22 i0 _ 1 24 Try.underlying36 hi0 hz0 hz1 hz2 rfl (by omega) u9 rss.length us rfl (HL3.out.row.alloc _) ⟨w3.heap.size, 0, none⟩ 1 1 [.slice ar B.length cr] rfl rfl (World.news_of_block (cs := #[.slice ar B.length cr]) (t := 22) (fr := (0, 0)) (heap_alloc_new w3 _)) (by simp [Value.oneCell']) (by omega) (by unfold maxLen; omega) (by omega) (by simp; omega) (w3.heap.size + 1) (by simp) ?_; intro gg cap2 w4 hown4 hgrow hat hltg))
            have hB3 := Below.next hB hb3
            have R := hide (HL3.out.push (w := w) (H := wr.heap.size) (Nat.le_refl _) hbs (Nat.le_refl _) hB3 hor hown4 hgrow)
            have HV2 := hide (rem_push hrl HV.out (hD2.out A B hS))
            have HT2 : Hid (∀ i, i < k + 1 → tr (xss.getD i []) ≠ []) := fun i hi => by
              by_cases e : i = k
              · rw [e]; exact HZ.out
              · exact HT.out i (by omega)
            clear hown4 hgrow hat hltg HL HL3 HV HT hor hoq hS
            have hrl2 : (rss ++ [B]).length = k + 1 := by simp [hrl]
            rw [hrl] at R
            go_roundw
            case rel => exact ⟨k + 1, _, _, by omega, by go_num, hrl2, R.out.1.here, HV2, HT2, R.out.2⟩
            case measure => simp [intOf]; omega
        · obtain rfl : k = xss.length := by omega
          have HE0 := hide (rmE_ok HE.out (by omega) HT.out)
          clear hcell
          go_wp2
          rw [HE0.out]
          go_ret2
          exact ⟨_, us, rss, rfl, ⟨fun h => absurd HE0.out h, fun _ => ⟨hrl, by rw [HP.out]; exact HV.out⟩⟩, HL.out, hB⟩
  · have HE : Hid (rmE f P xss = chk f (P :: xss)) := by show _ = _; unfold rmE; rw [if_neg he]
    have HS : Hid (RmE f P xss []) := ⟨fun _ => rfl, fun h => by rw [HE.out] at h; exact absurd h he⟩
    have ht : (chk f (P :: xss) != 0) = true := bne_iff_ne.2 he
    rw [HE.out]
    refine GivesR.none HS.out ?_
    clear hp hcell he HS HE
    generalize chk f (P :: xss) = e0 at *
    go_enter Try.func18, Try.ntmps18
    go_wp2_with (first
      | (go_at_call 35; refine (HC.out _ _).mono ?_; rintro e w1 ⟨v1, rfl, hr1, hb1⟩)
      | (go_at_call 31; refine (HK.out _ _ hr1).mono ?_; rintro e w2 ⟨rfl, hb2⟩))
    go_ret2
    exact ⟨rfl, Below.next hb1 hb2⟩

end Go.Proofs.Ytilkjkmgokbmoaa
