/-
  Layer 7: which places may be: the program's elements, twice, checkPlaces, checkValues; the document's Bad.
-/
import Derived.Test.YtifilgmjpflekaaBTreE
import Derived.Test.YtifilgmjpflekaaBTreF
import Derived.Maps.OwnSet
namespace Go.Proofs.Ytifilgmjpflekaa
open Go.RowKit Fld
set_option linter.unusedVariables false

/-- Which error places have, with elements beside them, and so many values. -/
def bad (f : Int) (xs ys : List Int) (n : Nat) : Int := if (inF f xs && inF f ys) = true then (if xs.length = n then (if 512 < xs.length then 4 else if xs.Nodup then 0 else 6) else 3) else 2

/-- The set of the first k. -/
def kys (xs : List Int) (k : Nat) : List Lit := (xs.take k).map (Lit.int .u64)
def stk (xs : List Int) (k : Nat) : DataW Unit := Maps.setOf (.agg []) (kys xs k)
theorem stk_zero (xs : List Int) : stk xs 0 = .map [] := by simp [stk, kys, Maps.setOf]
theorem kys_succ (xs : List Int) (k : Nat) (hk : k < xs.length) : kys xs (k + 1) = kys xs k ++ [Lit.int .u64 (xs.getD k 0)] := by
  unfold kys
  rw [List.take_succ_eq_append_getElem hk, List.map_append, List.getD_eq_getElem?_getD, List.getElem?_eq_getElem hk]; rfl
theorem stk_succ (xs : List Int) (k : Nat) (hk : k < xs.length) : stk xs (k + 1) = (stk xs k).put (Lit.int .u64 (xs.getD k 0)) (.agg []) := by
  unfold stk; rw [kys_succ xs k hk, Maps.setOf_snoc]
theorem kys_key (xs : List Int) (k : Nat) : ∀ x ∈ kys xs k, WideAt.IsKeyLit x := fun x hx => by obtain ⟨_, _, rfl⟩ := List.mem_map.1 hx; trivial
theorem any_u64 (x : Int) : ∀ l : List Int, l.any ((fun y : Lit => y.sameKey (.int .u64 x)) ∘ Lit.int .u64) = l.contains x
  | [] => rfl
  | a :: r => by
    rw [List.any_cons, List.contains_cons, any_u64 x r]
    congr 1
    show decide (IntKind.u64 = IntKind.u64 ∧ a = x) = (x == a)
    by_cases e : a = x
    · subst e; simp
    · have e' : ¬ x = a := fun h => e h.symm
      simp [e, e']
theorem has_stk (xs : List Int) (k : Nat) (x : Int) : Maps.has (stk xs k) (.int .u64 x) = (xs.take k).contains x := by
  unfold stk
  rw [Maps.has_setOf _ _ _ (kys_key xs k)]
  unfold kys
  rw [List.any_map]; exact any_u64 x _
theorem nodup_snoc (l : List Int) (x : Int) : (l ++ [x]).Nodup ↔ l.Nodup ∧ x ∉ l := by
  rw [List.nodup_append]
  constructor
  · rintro ⟨h1, _, h3⟩; exact ⟨h1, fun hx => h3 x hx x (List.mem_singleton.2 rfl) rfl⟩
  · rintro ⟨h1, h2⟩; exact ⟨h1, by simp, fun a ha b hb e => h2 (by rw [← List.mem_singleton.1 hb, ← e]; exact ha)⟩
theorem size_stk (xs : List Int) : ∀ k, k ≤ xs.length → Maps.size (stk xs k) ≤ k ∧ (Maps.size (stk xs k) = k ↔ (xs.take k).Nodup) := by
  intro k
  induction k with
  | zero => intro _; rw [stk_zero]; simp [Maps.size]
  | succ k ih =>
    intro hk
    obtain ⟨h1, h2⟩ := ih (by omega)
    have hx : xs.getD k 0 = xs[k] := by rw [List.getD_eq_getElem?_getD, List.getElem?_eq_getElem hk]; rfl
    have ht : Maps.Tidy (stk xs k) := Maps.tidy_setOf _ _ (kys_key xs k)
    rw [stk_succ xs k hk, Maps.size_put ht, has_stk, List.take_succ_eq_append_getElem hk, nodup_snoc, ← h2, hx]
    by_cases hc : xs[k] ∈ xs.take k
    · rw [if_pos (by simpa using hc)]
      exact ⟨by omega, ⟨fun h => by omega, fun h => absurd hc h.2⟩⟩
    · rw [if_neg (by simpa using hc)]
      exact ⟨by omega, ⟨fun h => ⟨by omega, hc⟩, fun h => by omega⟩⟩
theorem size_all (xs : List Int) : decide (Maps.size (stk xs xs.length) < xs.length) = !decide xs.Nodup := by
  obtain ⟨h1, h2⟩ := size_stk xs xs.length (Nat.le_refl _)
  rw [List.take_length] at h2
  by_cases hn : xs.Nodup
  · have := h2.2 hn
    simp [hn]; omega
  · have : Maps.size (stk xs xs.length) ≠ xs.length := fun h => hn (h2.1 h)
    simp [hn]; omega

theorem u64_keyed : Maps.Keyed Try.prog 25 := Maps.int_keyed Try.underlying25
theorem run_makeMap_some {P : Program} (t k e : TypeId) (ht : P.underlying t = some (.map k e)) (w : World) (n : Int) : (Instr.makeMap t (some (.int .i64 n))).run P w = .ok (.map (some w.heap.size)) (w.alloc (.map #[] 0)) := by
  simp [Instr.makeMap, run_underlying ht]
  rfl

set_option maxRecDepth 100000 in
set_option maxHeartbeats 400000 in
theorem ipTwice (v : Value) (xs : List Int) (w : World) (h1 : Rw w v xs) :
    Calls Try.prog 54 #[v] w fun e w' => e = .returned (.bool (!decide xs.Nodup)) ∧ Below w.heap.size w w' := by
  have hmm := fun W n => run_makeMap_some (P := Try.prog) 87 25 88 Try.underlying87 W n
  have HE := hide (size_all xs)
  obtain ⟨⟨ao, cap, rfl, hlen, hw, hc⟩, _⟩ := h1
  have HW : Hid (∀ k, k < xs.length → (Lit.int .u64 (xs.getD k 0)).wf = true) := fun k hk => WalkArith.wf_u64 (hw _ (by rw [List.getD_eq_getElem?_getD, List.getElem?_eq_getElem hk]; exact List.getElem_mem hk))
  have HS := hide (fun k (hk : k < xs.length) => stk_succ xs k hk)
  have HZ := hide (stk_zero xs)
  clear hw
  go_enter Try.func54, Try.ntmps54
  go_wp2
  go_loopw [11] (fun vi wr => ∃ k : Nat, k ≤ xs.length ∧ vi = .int .i64 k ∧ Hid (wr.ownsMap Try.prog 25 (unitElem (H := Unit)) w.heap.size k (stk xs k)) ∧ Below w.heap.size w wr) (fun vi _ => xs.length - (intOf vi).toNat)
  case atStart => exact ⟨0, Nat.zero_le _, rfl, by rw [HZ.out]; exact World.ownsMap_made _ _ _ _, (Below.refl _ _).alloc (Nat.le_refl _) _⟩
  case round =>
    obtain ⟨k, hk, rfl, HO, hB⟩ := hrel
    by_cases hlt : k < xs.length
    · obtain ⟨b, off, rfl, hbl, hcell⟩ := hc (by intro h; rw [h] at hlt; simp at hlt)
      have hck := (hB.cell (p := ⟨b, off + k, none⟩) hbl).trans (hcell k hlt)
      have HKey := hide (Maps.keyOf_int_mk (P := Try.prog) Try.underlying25 (HW.out k hlt))
      have HS := hide (HS.out k hlt)
      clear hcell hc HW
      generalize xs.getD k 0 = x at *
      go_wp2_with (at_mapUpdate; refine wpList_mapUpdate_own _ rfl _ _ _ 87 rfl 25 88 u64_keyed Try.underlying87 (unitElem (H := Unit)) w.heap.size k _ rfl HO.out (by unfold maxLen; omega) _ _ _ rfl rfl HKey.out _ [] unitElem_mk ?_; intro w1 hown1 hgrow1)
      have hb1 := hB.grown hgrow1 hB.size (fun j hj => by cases hj; exact Nat.le_refl _)
      rw [← HS.out] at hown1
      have HO1 := hide hown1
      clear hown1 HO hgrow1
      go_roundw
      case rel => exact ⟨k + 1, by omega, by go_num, HO1.out, hb1⟩
      case measure => simp [intOf]; omega
    · obtain rfl : k = xs.length := by omega
      clear hc HW
      go_wp2_with (at_len; refine wpList_len_own _ rfl _ 87 rfl 25 88 Try.underlying87 _ w.heap.size xs.length _ rfl HO.out ?_)
      go_ret
      exact ⟨congrArg (fun b => Ending.returned (.bool b)) HE.out, hB⟩

set_option maxHeartbeats 200000 in
theorem ipElements (f : Int) (v : Value) (xss : List (List Int)) (w : World) (h : Rws w v xss) :
    Calls Try.prog 51 #[.int .u8 f, v] w fun e w' => e = .returned (.bool (xss.all (inF f))) ∧ Below w.heap.size w w' := by
  obtain ⟨ao, cap, rfl, hlen, hcap, hc⟩ := h
  obtain ⟨n, HN⟩ : ∃ n, Hid (xss.length = n) := ⟨_, rfl⟩
  rw [HN.out] at hlen hcap hc ⊢
  go_enter Try.func51, Try.ntmps51
  go_wp2
  go_loopw [11] (fun vk wr => ∃ k : Nat, k ≤ n ∧ vk = .int .i64 k ∧ Hid (∀ i, i < k → inF f (xss.getD i []) = true) ∧ Below w.heap.size w wr) (fun vk _ => n - (intOf vk).toNat)
  case atStart => exact ⟨0, by omega, rfl, fun i hi => by omega, Below.refl _ _⟩
  case round =>
    obtain ⟨k, hk, rfl, HK, hB⟩ := hrel
    by_cases hlt : k < n
    · obtain ⟨b, off, rfl, hb, hcell⟩ := hc (by intro e; have := HN.out; rw [e] at this; simp at this; omega)
      obtain ⟨u, hu, hr⟩ := hcell k hlt
      have hck := (hB.cell (p := ⟨b, off + k, none⟩) hb).trans hu
      have HA := hide (pEval_any f 0 u (xss.getD k []) wr (by decide) (hr.below hB))
      obtain ⟨au, cu, rfl, _⟩ := hr.spell
      clear hcell hu hc
      cases hin : inF f (xss.getD k []) with
      | false =>
        rw [er_no hin] at HA
        have HE : Hid (xss.all (inF f) = false) := by
          show _ = _
          rw [List.all_eq_false]
          exact ⟨_, getD_mem (by rw [HN.out]; exact hlt), by rw [hin]; decide⟩
        clear hin hr
        generalize (xss.getD k []).length = m at *
        generalize valE f 0 (xss.getD k []) = vv at *
        go_wp2_with (go_at_call 53; refine HA.out.mono ?_; rintro e w1 ⟨rfl, hb1⟩)
        go_ret
        exact ⟨congrArg (fun b => Ending.returned (.bool b)) HE.out.symm, Below.next hB hb1⟩
      | true =>
        have ht := er_yes2 hin (show inF f [0] = true by
          obtain ⟨p, wd, hf, _⟩ := inF_fi hin
          rw [inF_yes hf]; exact allIn_of (fun x hx => by rw [List.mem_singleton.1 hx]; exact ⟨by decide, hf.pos⟩))
        have HK2 : Hid (∀ i, i < k + 1 → inF f (xss.getD i []) = true) := fun i hi => by
          by_cases h : i = k
          · rw [h]; exact hin
          · exact HK.out i (by omega)
        clear hin hr HK
        generalize er f (xss.getD k []) [0] = e0 at *
        generalize valE f 0 (xss.getD k []) = vv at *
        generalize (xss.getD k []).length = m at *
        go_wp2_with (go_at_call 53; refine HA.out.mono ?_; rintro e w1 ⟨rfl, hb1⟩)
        go_roundw
        case rel => exact ⟨k + 1, by omega, by go_num, HK2, Below.next hB hb1⟩
        case measure => simp [intOf]; omega
    · obtain rfl : n = k := by omega
      have HA : Hid (xss.all (inF f) = true) := chk_all (fun i hi => HK.out i (by rw [← HN.out]; exact hi))
      clear HK hc
      go_wp2
      go_ret
      exact ⟨congrArg (fun b => Ending.returned (.bool b)) HA.out.symm, hB⟩

/-- The error that lists have of which the first are the places. -/
def chl (f : Int) (xss : List (List Int)) (xs : List Int) : Int := if xss.all (inF f) = true then (if xss.any (fun l => decide (512 < l.length)) = true then 4 else if xs.Nodup then 0 else 6) else 2
theorem chl_arg {f : Int} {xss : List (List Int)} {xs : List Int} (h : xss.all (inF f) = false) : chl f xss xs = 2 := by unfold chl; rw [h]; rfl
theorem chl_long {f : Int} {xss : List (List Int)} {xs : List Int} {k : Nat} (h : xss.all (inF f) = true) (hk : k < xss.length) (hl : 512 < (xss.getD k []).length) : chl f xss xs = 4 := by
  unfold chl
  rw [if_pos h, if_pos]
  rw [List.any_eq_true]
  exact ⟨_, getD_mem hk, by simpa using hl⟩
theorem chl_end {f : Int} {xss : List (List Int)} {xs : List Int} (h : xss.all (inF f) = true) (hl : ∀ i, i < xss.length → (xss.getD i []).length ≤ 512) : chl f xss xs = if xs.Nodup then 0 else 6 := by
  unfold chl
  rw [if_pos h, if_neg]
  intro hc
  rw [List.any_eq_true] at hc
  obtain ⟨x, hx, h2⟩ := hc
  obtain ⟨i, hi, rfl⟩ := mem_getD hx
  have := hl i hi
  have h2 := of_decide_eq_true h2
  omega
theorem rws_of_own {w : World} {base n : Nat} {v : Value} {us : List Value} {xss : List (List Int)} (hO : w.ownsRow base 26 1 v n us) (hn : n = xss.length) (hl : xss.length ≤ 5864062014700) (hr : ∀ i, i < xss.length → Rw w (us.getD i nov) (xss.getD i [])) : Rws w v xss := by
  subst hn
  have hul := hO.1
  rcases hO.2 with ⟨rfl, h0⟩ | ⟨g, cap, cur, rfl, h2, h3, h4, h5, h6, h7⟩
  · have : xss = [] := List.length_eq_zero_iff.1 h0
    subst this
    exact rws_nil w
  · refine ⟨_, cap, rfl, hl, h4, fun _ => ⟨g, 0, rfl, own_top hO g rfl, fun i hi => ⟨us.getD i nov, ?_, hr i hi⟩⟩⟩
    rw [Nat.zero_add, hO.cellAt i (by omega), List.getD_eq_getElem?_getD, List.getElem?_eq_getElem (by omega)]; rfl

/-- What stands beside the places: nothing, or one list. -/
def Bes (w : World) (vb : Value) (bss : List (List Int)) : Prop := (vb = .slice none 0 0 ∧ bss = []) ∨ ∃ b u ys, vb = .slice (some ⟨b, 0, none⟩) 1 1 ∧ bss = [ys] ∧ w.cell? ⟨b, 0, none⟩ = some u ∧ b < w.heap.size ∧ Rw w u ys
theorem Bes.below {w w' : World} {vb : Value} {bss : List (List Int)} (h : Bes w vb bss) (hb : Below w.heap.size w w') : Bes w' vb bss := by
  rcases h with h | ⟨b, u, ys, h1, h2, h3, h4, h5⟩
  · exact .inl h
  · exact .inr ⟨b, u, ys, h1, h2, (hb.cell (p := ⟨b, 0, none⟩) h4).trans h3, Nat.lt_of_lt_of_le h4 hb.size, h5.below hb⟩

set_option maxRecDepth 100000 in
set_option maxHeartbeats 400000 in
theorem ipPlaces (f : Int) (v vb : Value) (xs : List Int) (bss : List (List Int)) (w : World) (h1 : Rw w v xs) (h2 : Bes w vb bss) :
    Calls Try.prog 44 #[.int .u8 f, v, vb] w fun e w' => e = .returned (.int .i64 (chl f (xs :: bss) xs)) ∧ Below w.heap.size w w' := by
  obtain ⟨i0, hi0, hz0, hz1, hz2⟩ := info_parts sl_info
  have HTw := hide (fun W (hb : Below w.heap.size w W) => ipTwice v xs W (h1.below hb))
  obtain ⟨xss, HX⟩ : ∃ xss, Hid (xss = xs :: bss) := ⟨_, rfl⟩
  rw [← HX.out]
  have HEl := hide (fun W v' (h : Rws W v' xss) => ipElements f v' xss W h)
  obtain ⟨ax, cx, hvx, _⟩ := h1.spell
  have al := alloc_below w (.cells #[v] 26)
  have hO1 : (w.alloc (.cells #[v] 26)).ownsRow w.heap.size 26 1 (.slice (some ⟨w.heap.size, 0, none⟩) 1 1) 1 [v] := World.ownsRow_lit w #[v] 1 (Nat.le_refl _) (by unfold maxLen; omega) (by simp)
  have HC : Hid (∀ W g n cap, Rws W (.slice (some ⟨g, 0, none⟩) n cap) xss → ∀ W', Below W.heap.size W W' → ∀ k, k < n → ∃ a c, W'.cell? ⟨g, k, none⟩ = some (.slice a (xss.getD k []).length c) ∧ (xss.getD k []).length ≤ 17592186043904) := fun W g n cap h W' hb k hk => by
    obtain ⟨ao, cp, h3, h4, h5, h6⟩ := h
    injection h3 with h7 h8 h9
    subst h8
    obtain ⟨b, off, h10, h11, h12⟩ := h6 (by intro e; rw [e] at hk; simp at hk)
    rw [h10] at h7
    injection h7 with h7
    injection h7 with h13 h14 h15
    obtain ⟨u, hu, hr⟩ := h12 k hk
    obtain ⟨a, c, e, _⟩ := hr.spell
    rw [← h13] at h11 hu
    rw [← h14, Nat.zero_add] at hu
    exact ⟨a, c, by rw [hb.cell (p := ⟨g, k, none⟩) h11, hu, e], hr.len⟩
  rcases h2 with ⟨rfl, rfl⟩ | ⟨b, u, ys, rfl, rfl, hcu, hbu, hru⟩
  · have HR := hide (rws_one w v xs h1 26)
    rw [← HX.out] at HR
    have HB := hide al
    have HO := hide hO1
    obtain ⟨n, hn⟩ : ∃ n : Nat, n = 1 := ⟨_, rfl⟩
    have HL : Hid (xss.length = n) := by show _ = _; rw [HX.out, hn]; rfl
    subst hvx
    clear h1 al hO1
    go_enter Try.func44, Try.ntmps44
    go_wp2_with (at_builtin; refine wpList_append_own_none rfl _ _ _ rfl w.heap.size 26 i0 1 Try.underlying39 hi0 _ 1 _ rfl HO.out rfl ?_)
    have HC := hide (HC.out _ _ _ _ HR.out)
    refine (HEl.out _ _ HR.out).mono ?_; rintro e w2 ⟨rfl, hb2⟩
    have hB2 := Below.next HB.out hb2
    clear HO HR
    cases hin : xss.all (inF f) with
    | false =>
      have HE := hide (chl_arg (xs := xs) hin)
      clear hin
      go_wp2
      go_ret
      exact ⟨ret_i64 HE.out.symm, hB2⟩
    | true =>
      have HI := hide hin
      clear hin
      go_wp2
      go_loopw [20] (fun vk wr => ∃ k : Nat, k ≤ n ∧ vk = .int .i64 k ∧ Hid (∀ i, i < k → (xss.getD i []).length ≤ 512) ∧ Below w2.heap.size w2 wr) (fun vk _ => n - (intOf vk).toNat)
      case atStart => exact ⟨0, by omega, rfl, fun i hi => by omega, Below.refl _ _⟩
      case round =>
        obtain ⟨k, hk, rfl, HK, hbr⟩ := hrel
        by_cases hlt : k < n
        · obtain ⟨ak, ck, hck, hlk⟩ := HC.out wr (Below.next hb2 hbr) k (by omega)
          have HBr := hide (Below.next hB2 hbr)
          have HN := hide hn
          by_cases hm : 512 < (xss.getD k []).length
          · have HE := hide (chl_long (xs := xs) HI.out (show k < xss.length by rw [HL.out]; exact hlt) hm)
            clear HK
            generalize (xss.getD k []).length = m at *
            go_wp2
            go_ret
            exact ⟨ret_i64 HE.out.symm, HBr.out⟩
          · have HK2 : Hid (∀ i, i < k + 1 → (xss.getD i []).length ≤ 512) := fun i hi => by
              by_cases h : i = k
              · rw [h]; omega
              · exact HK.out i (by omega)
            clear HK
            generalize (xss.getD k []).length = m at *
            go_wp2
            go_roundw
            case rel => exact ⟨k + 1, by omega, by go_num, HK2, hbr⟩
            case measure => simp [intOf]; omega
        · have HBr := hide (Below.next hB2 hbr)
          have HE := hide (chl_end (xs := xs) HI.out (fun i hi => HK.out i (by rw [HL.out] at hi; omega)))
          clear HK
          by_cases hnd : xs.Nodup
          · rw [if_pos hnd] at HE
            have HT := hide (HTw.out wr HBr.out)
            rw [show (!decide xs.Nodup) = false by simp [hnd]] at HT
            clear hnd HTw
            go_wp2_with (go_at_call 54; refine HT.out.mono ?_; rintro e w3 ⟨rfl, hb3⟩)
            go_ret
            exact ⟨ret_i64 HE.out.symm, Below.next HBr.out hb3⟩
          · rw [if_neg hnd] at HE
            have HT := hide (HTw.out wr HBr.out)
            rw [show (!decide xs.Nodup) = true by simp [hnd]] at HT
            clear hnd HTw
            go_wp2_with (go_at_call 54; refine HT.out.mono ?_; rintro e w3 ⟨rfl, hb3⟩)
            go_ret
            exact ⟨ret_i64 HE.out.symm, Below.next HBr.out hb3⟩
  · have HR : Hid (∀ W v', W.ownsRow w.heap.size 26 1 v' 2 [v, u] → Below w.heap.size w W → Rws W v' xss) := fun W v' hO hB => by
      rw [HX.out]
      exact rws_of_own hO rfl (by simp) (fun i hi => by
        obtain rfl | rfl : i = 0 ∨ i = 1 := by simp at hi; omega
        · exact h1.below hB
        · exact hru.below hB)
    have HB0 := hide al
    have HO := hide hO1
    have HN1 : Hid (∀ j x, [u][j]? = some x → (w.alloc (.cells #[v] 26)).cell? ((⟨b, 0, none⟩ : Addr).add j) = some x) := fun j x hj => by
      have : j = 0 := by
        apply Classical.byContradiction; intro h; rw [List.getElem?_eq_none (by simp; omega)] at hj; cases hj
      subst this
      rw [add_at, (al.cell (p := ⟨b, 0 + 0, none⟩) hbu), hcu]; exact hj
    have HU : Hid (u.oneCell' = true) := by obtain ⟨a, c, rfl, _⟩ := hru.spell; rfl
    obtain ⟨n, hn⟩ : ∃ n : Nat, n = 2 := ⟨_, rfl⟩
    have HL : Hid (xss.length = n) := by show _ = _; rw [HX.out, hn]; rfl
    subst hvx
    clear h1 al hO1 hcu hru
    go_enter Try.func44, Try.ntmps44
    go_wp2_with (at_builtin; refine wpList_append_lies _ rfl _ _ _ rfl w.heap.size 26 i0 _ 1 24 Try.underlying39 hi0 hz0 hz1 hz2 rfl (by omega) _ 1 _ rfl HO.out ⟨b, 0, none⟩ 1 1 [u] rfl rfl HN1.out (by intro x hx; rw [List.mem_singleton.1 hx]; exact HU.out) (by omega) (by unfold maxLen; omega) (by omega) (by simp) (w.heap.size + 1) (by simp) ?_; intro gg cap2 w4 hown4 hgrow hat hltg)
    have hB4 : Below w.heap.size w w4 := HB0.out.grown hgrow (by simp) (fun k hk => own_base HO.out k hk)
    have HR := hide (HR.out _ _ hown4 hB4)
    have HB := hide hB4
    clear hown4 hgrow hat hltg hB4 HN1
    have HC := hide (HC.out _ _ _ _ HR.out)
    refine (HEl.out _ _ HR.out).mono ?_; rintro e w2 ⟨rfl, hb2⟩
    have hB2 := Below.next HB.out hb2
    clear HO HR
    cases hin : xss.all (inF f) with
    | false =>
      have HE := hide (chl_arg (xs := xs) hin)
      clear hin
      go_wp2
      go_ret
      exact ⟨ret_i64 HE.out.symm, hB2⟩
    | true =>
      have HI := hide hin
      clear hin
      go_wp2
      go_loopw [20] (fun vk wr => ∃ k : Nat, k ≤ n ∧ vk = .int .i64 k ∧ Hid (∀ i, i < k → (xss.getD i []).length ≤ 512) ∧ Below w2.heap.size w2 wr) (fun vk _ => n - (intOf vk).toNat)
      case atStart => exact ⟨0, by omega, rfl, fun i hi => by omega, Below.refl _ _⟩
      case round =>
        obtain ⟨k, hk, rfl, HK, hbr⟩ := hrel
        by_cases hlt : k < n
        · obtain ⟨ak, ck, hck, hlk⟩ := HC.out wr (Below.next hb2 hbr) k (by omega)
          have HBr := hide (Below.next hB2 hbr)
          have HN := hide hn
          by_cases hm : 512 < (xss.getD k []).length
          · have HE := hide (chl_long (xs := xs) HI.out (show k < xss.length by rw [HL.out]; exact hlt) hm)
            clear HK
            generalize (xss.getD k []).length = m at *
            go_wp2
            go_ret
            exact ⟨ret_i64 HE.out.symm, HBr.out⟩
          · have HK2 : Hid (∀ i, i < k + 1 → (xss.getD i []).length ≤ 512) := fun i hi => by
              by_cases h : i = k
              · rw [h]; omega
              · exact HK.out i (by omega)
            clear HK
            generalize (xss.getD k []).length = m at *
            go_wp2
            go_roundw
            case rel => exact ⟨k + 1, by omega, by go_num, HK2, hbr⟩
            case measure => simp [intOf]; omega
        · have HBr := hide (Below.next hB2 hbr)
          have HE := hide (chl_end (xs := xs) HI.out (fun i hi => HK.out i (by rw [HL.out] at hi; omega)))
          clear HK
          by_cases hnd : xs.Nodup
          · rw [if_pos hnd] at HE
            have HT := hide (HTw.out wr HBr.out)
            rw [show (!decide xs.Nodup) = false by simp [hnd]] at HT
            clear hnd HTw
            go_wp2_with (go_at_call 54; refine HT.out.mono ?_; rintro e w3 ⟨rfl, hb3⟩)
            go_ret
            exact ⟨ret_i64 HE.out.symm, Below.next HBr.out hb3⟩
          · rw [if_neg hnd] at HE
            have HT := hide (HTw.out wr HBr.out)
            rw [show (!decide xs.Nodup) = true by simp [hnd]] at HT
            clear hnd HTw
            go_wp2_with (go_at_call 54; refine HT.out.mono ?_; rintro e w3 ⟨rfl, hb3⟩)
            go_ret
            exact ⟨ret_i64 HE.out.symm, Below.next HBr.out hb3⟩

end Go.Proofs.Ytifilgmjpflekaa
