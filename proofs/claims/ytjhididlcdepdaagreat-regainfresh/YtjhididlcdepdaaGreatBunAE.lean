import Derived.Test.YtjhididlcdepdaaGreatBunYQ
import Derived.Test.YtjhididlcdepdaaGreatBIntA
import Derived.Test.YtjhididlcdepdaaGreatBAppZ
set_option linter.unusedVariables false
set_option linter.unusedSimpArgs false
set_option maxRecDepth 100000
set_option maxHeartbeats 4000000
namespace Go.Proofs.YtjhididlcdepdaaGreat
open Go.RowKit Fld
def bad (f : Int) (xs ys : List Int) (n : Nat) : Int := if (inF f xs && inF f ys) = true then (if xs.length = n then (if 512 < xs.length then 4 else if xs.Nodup then 0 else 6) else 3) else 2
def kys (xs : List Int) (k : Nat) : List Lit := (xs.take k).map (Lit.int .u64)
def stk (xs : List Int) (k : Nat) : DataW Unit := Maps.setOf (.agg []) (kys xs k)
theorem stk_zero (xs : List Int) : stk xs 0 = .map [] := by simp [stk, kys, Maps.setOf]
theorem kys_succ (xs : List Int) (k : Nat) (hk : k < xs.length) : kys xs (k + 1) = kys xs k ++ [Lit.int .u64 (xs.getD k 0)] := by
 unfold kys
 rw [List.take_succ_eq_append_getElem hk, List.map_append, List.getD_eq_getElem?_getD, List.getElem?_eq_getElem hk]; rfl
theorem stk_succ (xs : List Int) (k : Nat) (hk : k < xs.length) : stk xs (k + 1) = (stk xs k).put (Lit.int .u64 (xs.getD k 0)) (.agg []) := by
 unfold stk; rw [kys_succ xs k hk, Maps.setOf_snoc]
theorem kys_key (xs : List Int) (k : Nat) : ∀ x ∈ kys xs k, WideAt.IsKeyLit x := fun x hx => by obtain ⟨_, _, rfl⟩ := List.mem_map.1 hx; trivial
theorem any_u64 (x : Int) : ∀ l : List Int, l.any ((fun y : Lit => y.sameKey (.int .u64 x)) ∘ Lit.int .u64) = l.contains x
 | [] => rfl
 | a :: r => by
  rw [List.any_cons, List.contains_cons, any_u64 x r]
  congr 1
  show decide (IntKind.u64 = IntKind.u64 ∧ a = x) = (x == a)
  by_cases e : a = x
  · subst e; simp
  · have e' : ¬ x = a := fun h => e h.symm
    simp [e, e']
theorem has_stk (xs : List Int) (k : Nat) (x : Int) : Maps.has (stk xs k) (.int .u64 x) = (xs.take k).contains x := by
 unfold stk
 rw [Maps.has_setOf _ _ _ (kys_key xs k)]
 unfold kys
 rw [List.any_map]; exact any_u64 x _
theorem nodup_snoc (l : List Int) (x : Int) : (l ++ [x]).Nodup ↔ l.Nodup ∧ x ∉ l := by
 rw [List.nodup_append]
 constructor
 · rintro ⟨h1, _, h3⟩; exact ⟨h1, fun hx => h3 x hx x (List.mem_singleton.2 rfl) rfl⟩
 · rintro ⟨h1, h2⟩; exact ⟨h1, by simp, fun a ha b hb e => h2 (by rw [<- List.mem_singleton.1 hb, <- e]; exact ha)⟩
theorem size_stk (xs : List Int) : ∀ k, k <= xs.length -> Maps.size (stk xs k) <= k ∧ (Maps.size (stk xs k) = k ↔ (xs.take k).Nodup) := by
 intro k
 induction k with
 | zero => intro _; rw [stk_zero]; simp [Maps.size]
 | succ k ih =>
  intro hk
  obtain ⟨h1, h2⟩ := ih (by omega)
  have hx : xs.getD k 0 = xs[k] := by rw [List.getD_eq_getElem?_getD, List.getElem?_eq_getElem hk]; rfl
  have ht : Maps.Tidy (stk xs k) := Maps.tidy_setOf _ _ (kys_key xs k)
  rw [stk_succ xs k hk, Maps.size_put ht, has_stk, List.take_succ_eq_append_getElem hk, nodup_snoc, <- h2, hx]
  by_cases hc : xs[k] ∈ xs.take k
  · rw [if_pos (by simpa using hc)]
    exact ⟨by omega, ⟨fun h => by omega, fun h => absurd hc h.2⟩⟩
  · rw [if_neg (by simpa using hc)]
    exact ⟨by omega, ⟨fun h => ⟨by omega, hc⟩, fun h => by omega⟩⟩
theorem size_all (xs : List Int) : decide (Maps.size (stk xs xs.length) < xs.length) = !decide xs.Nodup := by
 obtain ⟨h1, h2⟩ := size_stk xs xs.length (Nat.le_refl _)
 rw [List.take_length] at h2
 by_cases hn : xs.Nodup
 · have := h2.2 hn
   simp [hn]; omega
 · have : Maps.size (stk xs xs.length) ≠ xs.length := fun h => hn (h2.1 h)
   simp [hn]; omega
theorem u64_keyed : Maps.Keyed Tryz.prog 64 := Maps.int_keyed Tryz.underlying64
theorem run_makeMap_some {P : Program} (t k e : TypeId) (ht : P.underlying t = some (.map k e)) (w : World) (n : Int) : (Instr.makeMap t (some (.int .i64 n))).run P w = .ok (.map (some w.heap.size)) (w.alloc (.map #[] 0)) := by
 simp [Instr.makeMap, run_underlying ht]
 rfl
theorem ipTwice (v : Value) (xs : List Int) (w : World) (h1 : Rw w v xs) :
 Calls Tryz.prog 162 #[v] w fun e w' => e = .returned (.bool (!decide xs.Nodup)) ∧ Below w.heap.size w w' := by
 have hmm := fun W n => run_makeMap_some (P := Tryz.prog) 217 64 218 Tryz.underlying217 W n
 have HE := hide (size_all xs)
 obtain ⟨⟨ao, cap, rfl, hlen, hw, hc⟩, _⟩ := h1
 have HW : Hid (∀ k, k < xs.length -> (Lit.int .u64 (xs.getD k 0)).wf = true) := fun k hk => WalkArith.wf_u64 (hw _ (by rw [List.getD_eq_getElem?_getD, List.getElem?_eq_getElem hk]; exact List.getElem_mem hk))
 have HS := hide (fun k (hk : k < xs.length) => stk_succ xs k hk)
 have HZ := hide (stk_zero xs)
 clear hw
 go_enter Tryz.func162, Tryz.ntmps162
 go_wp2
 go_loopw [11] (fun vi wr => ∃ k : Nat, k <= xs.length ∧ vi = .int .i64 k ∧ Hid (wr.ownsMap Tryz.prog 64 (unitElem (H := Unit)) w.heap.size k (stk xs k)) ∧ Below w.heap.size w wr) (fun vi _ => xs.length - (intOf vi).toNat)
 case atStart => exact ⟨0, Nat.zero_le _, rfl, by rw [HZ.out]; exact World.ownsMap_made _ _ _ _, (Below.refl _ _).alloc (Nat.le_refl _) _⟩
 case round =>
  obtain ⟨k, hk, rfl, HO, hB⟩ := hrel
  by_cases hlt : k < xs.length
  · obtain ⟨b, off, rfl, hbl, hcell⟩ := hc (by intro h; rw [h] at hlt; simp at hlt)
    have hck := (hB.cell (p := ⟨b, off + k, none⟩) hbl).trans (hcell k hlt)
    have HKey := hide (Maps.keyOf_int_mk (P := Tryz.prog) Tryz.underlying64 (HW.out k hlt))
    have HS := hide (HS.out k hlt)
    clear hcell hc HW
    generalize xs.getD k 0 = x at *
    go_wp2_with (at_mapUpdate; refine wpList_mapUpdate_own _ rfl _ _ _ 217 rfl 64 218 u64_keyed Tryz.underlying217 (unitElem (H := Unit)) w.heap.size k _ rfl HO.out (by unfold maxLen; omega) _ _ _ rfl rfl HKey.out _ [] unitElem_mk ?_; intro w1 hown1 hgrow1)
    have hb1 := hB.grown hgrow1 hB.size (fun j hj => by cases hj; exact Nat.le_refl _)
    rw [<- HS.out] at hown1
    have HO1 := hide hown1
    clear hown1 HO hgrow1
    go_roundw
    case rel => exact ⟨k + 1, by omega, by go_num, HO1.out, hb1⟩
    case measure => simp [intOf]; omega
  · obtain rfl : k = xs.length := by omega
    clear hc HW
    go_wp2_with (at_len; refine wpList_len_own _ rfl _ 217 rfl 64 218 Tryz.underlying217 _ w.heap.size xs.length _ rfl HO.out ?_)
    go_ret
    exact ⟨congrArg (fun b => Ending.returned (.bool b)) HE.out, hB⟩
theorem ipElements (f : Int) (v : Value) (xss : List (List Int)) (w : World) (h : Rws w v xss) :
 Calls Tryz.prog 104 #[.int .u8 f, v] w fun e w' => e = .returned (.bool (xss.all (inF f))) ∧ Below w.heap.size w w' := by
 obtain ⟨ao, cap, rfl, hlen, hcap, hc⟩ := h
 obtain ⟨n, HN⟩ : ∃ n, Hid (xss.length = n) := ⟨_, rfl⟩
 rw [HN.out] at hlen hcap hc ⊢
 go_enter Tryz.func104, Tryz.ntmps104
 go_wp2
 go_loopw [11] (fun vk wr => ∃ k : Nat, k <= n ∧ vk = .int .i64 k ∧ Hid (∀ i, i < k -> inF f (xss.getD i []) = true) ∧ Below w.heap.size w wr) (fun vk _ => n - (intOf vk).toNat)
 case atStart => exact ⟨0, by omega, rfl, fun i hi => by omega, Below.refl _ _⟩
 case round =>
  obtain ⟨k, hk, rfl, HK, hB⟩ := hrel
  by_cases hlt : k < n
  · obtain ⟨b, off, rfl, hb, hcell⟩ := hc (by intro e; have := HN.out; rw [e] at this; simp at this; omega)
    obtain ⟨u, hu, hr⟩ := hcell k hlt
    have hck := (hB.cell (p := ⟨b, off + k, none⟩) hb).trans hu
    have HA := hide (pEval_any f 0 u (xss.getD k []) wr (by decide) (hr.below hB))
    obtain ⟨au, cu, rfl, _⟩ := hr.spell
    clear hcell hu hc
    cases hin : inF f (xss.getD k []) with
    | false =>
     rw [er_no hin] at HA
     have HE : Hid (xss.all (inF f) = false) := by
      show _ = _
      rw [List.all_eq_false]
      exact ⟨_, getD_mem (by rw [HN.out]; exact hlt), by rw [hin]; decide⟩
     clear hin hr
     generalize (xss.getD k []).length = m at *
     generalize valE f 0 (xss.getD k []) = vv at *
     go_wp2_with (go_at_call 76; refine HA.out.mono ?_; rintro e w1 ⟨rfl, hb1⟩)
     go_ret
     exact ⟨congrArg (fun b => Ending.returned (.bool b)) HE.out.symm, Below.next hB hb1⟩
    | true =>
     have ht := er_yes2 hin (show inF f [0] = true by
      obtain ⟨p, wd, hf, _⟩ := inF_fi hin
      rw [inF_yes hf]; exact allIn_of (fun x hx => by rw [List.mem_singleton.1 hx]; exact ⟨by decide, hf.pos⟩))
     have HK2 : Hid (∀ i, i < k + 1 -> inF f (xss.getD i []) = true) := fun i hi => by
      by_cases h : i = k
      · rw [h]; exact hin
      · exact HK.out i (by omega)
     clear hin hr HK
     generalize er f (xss.getD k []) [0] = e0 at *
     generalize valE f 0 (xss.getD k []) = vv at *
     generalize (xss.getD k []).length = m at *
     go_wp2_with (go_at_call 76; refine HA.out.mono ?_; rintro e w1 ⟨rfl, hb1⟩)
     go_roundw
     case rel => exact ⟨k + 1, by omega, by go_num, HK2, Below.next hB hb1⟩
     case measure => simp [intOf]; omega
  · obtain rfl : n = k := by omega
    have HA : Hid (xss.all (inF f) = true) := chk_all (fun i hi => HK.out i (by rw [<- HN.out]; exact hi))
    clear HK hc
    go_wp2
    go_ret
    exact ⟨congrArg (fun b => Ending.returned (.bool b)) HA.out.symm, hB⟩
def chl (f : Int) (xss : List (List Int)) (xs : List Int) : Int := if xss.all (inF f) = true then (if xss.any (fun l => decide (512 < l.length)) = true then 4 else if xs.Nodup then 0 else 6) else 2
theorem chl_arg {f : Int} {xss : List (List Int)} {xs : List Int} (h : xss.all (inF f) = false) : chl f xss xs = 2 := by unfold chl; rw [h]; rfl
theorem chl_long {f : Int} {xss : List (List Int)} {xs : List Int} {k : Nat} (h : xss.all (inF f) = true) (hk : k < xss.length) (hl : 512 < (xss.getD k []).length) : chl f xss xs = 4 := by
 unfold chl
 rw [if_pos h, if_pos]
 rw [List.any_eq_true]
 exact ⟨_, getD_mem hk, by simpa using hl⟩
theorem chl_end {f : Int} {xss : List (List Int)} {xs : List Int} (h : xss.all (inF f) = true) (hl : ∀ i, i < xss.length -> (xss.getD i []).length <= 512) : chl f xss xs = if xs.Nodup then 0 else 6 := by
 unfold chl
 rw [if_pos h, if_neg]
 intro hc
 rw [List.any_eq_true] at hc
 obtain ⟨x, hx, h2⟩ := hc
 obtain ⟨i, hi, rfl⟩ := mem_getD hx
 have := hl i hi
 have h2 := of_decide_eq_true h2
 omega
theorem rws_of_own {w : World} {base n : Nat} {v : Value} {us : List Value} {xss : List (List Int)} (hO : w.ownsRow base 36 1 v n us) (hn : n = xss.length) (hl : xss.length <= 5864062014700) (hr : ∀ i, i < xss.length -> Rw w (us.getD i nov) (xss.getD i [])) : Rws w v xss := by
 subst hn
 have hul := hO.1
 rcases hO.2 with ⟨rfl, h0⟩ | ⟨g, cap, cur, rfl, h2, h3, h4, h5, h6, h7⟩
 · have : xss = [] := List.length_eq_zero_iff.1 h0
   subst this
   exact rws_nil w
 · refine ⟨_, cap, rfl, hl, h4, fun _ => ⟨g, 0, rfl, own_top hO g rfl, fun i hi => ⟨us.getD i nov, ?_, hr i hi⟩⟩⟩
   rw [Nat.zero_add, hO.cellAt i (by omega), List.getD_eq_getElem?_getD, List.getElem?_eq_getElem (by omega)]; rfl
def Bes (w : World) (vb : Value) (bss : List (List Int)) : Prop := (vb = .slice none 0 0 ∧ bss = []) ∨ ∃ b u ys, vb = .slice (some ⟨b, 0, none⟩) 1 1 ∧ bss = [ys] ∧ w.cell? ⟨b, 0, none⟩ = some u ∧ b < w.heap.size ∧ Rw w u ys
theorem ipPlaces (f : Int) (v vb : Value) (xs : List Int) (bss : List (List Int)) (w : World) (h1 : Rw w v xs) (h2 : Bes w vb bss) :
 Calls Tryz.prog 132 #[.int .u8 f, v, vb] w fun e w' => e = .returned (.int .i64 (chl f (xs :: bss) xs)) ∧ Below w.heap.size w w' := by
 obtain ⟨i0, hi0, hz0, hz1, hz2⟩ := info_parts sl_info
 have HTw := hide (fun W (hb : Below w.heap.size w W) => ipTwice v xs W (h1.below hb))
 obtain ⟨xss, HX⟩ : ∃ xss, Hid (xss = xs :: bss) := ⟨_, rfl⟩
 rw [<- HX.out]
 have HEl := hide (fun W v' (h : Rws W v' xss) => ipElements f v' xss W h)
 obtain ⟨ax, cx, hvx, _⟩ := h1.spell
 have al := alloc_below w (.cells #[v] 36)
 have hO1 : (w.alloc (.cells #[v] 36)).ownsRow w.heap.size 36 1 (.slice (some ⟨w.heap.size, 0, none⟩) 1 1) 1 [v] := World.ownsRow_lit w #[v] 1 (Nat.le_refl _) (by unfold maxLen; omega) (by simp)
 have HC : Hid (∀ W g n cap, Rws W (.slice (some ⟨g, 0, none⟩) n cap) xss -> ∀ W', Below W.heap.size W W' -> ∀ k, k < n -> ∃ a c, W'.cell? ⟨g, k, none⟩ = some (.slice a (xss.getD k []).length c) ∧ (xss.getD k []).length <= 17592186043904) := fun W g n cap h W' hb k hk => by
  obtain ⟨ao, cp, h3, h4, h5, h6⟩ := h
  injection h3 with h7 h8 h9
  subst h8
  obtain ⟨b, off, h10, h11, h12⟩ := h6 (by intro e; rw [e] at hk; simp at hk)
  rw [h10] at h7
  injection h7 with h7
  injection h7 with h13 h14 h15
  obtain ⟨u, hu, hr⟩ := h12 k hk
  obtain ⟨a, c, e, _⟩ := hr.spell
  rw [<- h13] at h11 hu
  rw [<- h14, Nat.zero_add] at hu
  exact ⟨a, c, by rw [hb.cell (p := ⟨g, k, none⟩) h11, hu, e], hr.len⟩
 rcases h2 with ⟨rfl, rfl⟩ | ⟨b, u, ys, rfl, rfl, hcu, hbu, hru⟩
 · have HR := hide (rws_one w v xs h1 36)
   rw [<- HX.out] at HR
   have HB := hide al
   have HO := hide hO1
   obtain ⟨n, hn⟩ : ∃ n : Nat, n = 1 := ⟨_, rfl⟩
   have HL : Hid (xss.length = n) := by show _ = _; rw [HX.out, hn]; rfl
   subst hvx
   clear h1 al hO1
   go_enter Tryz.func132, Tryz.ntmps132
   go_wp2_with (at_builtin; refine wpList_append_own_none rfl _ _ _ rfl w.heap.size 36 i0 1 Tryz.underlying26 hi0 _ 1 _ rfl HO.out rfl ?_)
   have HC := hide (HC.out _ _ _ _ HR.out)
   refine (HEl.out _ _ HR.out).mono ?_; rintro e w2 ⟨rfl, hb2⟩
   have hB2 := Below.next HB.out hb2
   clear HO HR
   cases hin : xss.all (inF f) with
   | false =>
    have HE := hide (chl_arg (xs := xs) hin)
    clear hin
    go_wp2
    go_ret
    exact ⟨ret_i64 HE.out.symm, hB2⟩
   | true =>
    have HI := hide hin
    clear hin
    go_wp2
    go_loopw [20] (fun vk wr => ∃ k : Nat, k <= n ∧ vk = .int .i64 k ∧ Hid (∀ i, i < k -> (xss.getD i []).length <= 512) ∧ Below w2.heap.size w2 wr) (fun vk _ => n - (intOf vk).toNat)
    case atStart => exact ⟨0, by omega, rfl, fun i hi => by omega, Below.refl _ _⟩
    case round =>
     obtain ⟨k, hk, rfl, HK, hbr⟩ := hrel
     by_cases hlt : k < n
     · obtain ⟨ak, ck, hck, hlk⟩ := HC.out wr (Below.next hb2 hbr) k (by omega)
       have HBr := hide (Below.next hB2 hbr)
       have HN := hide hn
       by_cases hm : 512 < (xss.getD k []).length
       · have HE := hide (chl_long (xs := xs) HI.out (show k < xss.length by rw [HL.out]; exact hlt) hm)
         clear HK
         generalize (xss.getD k []).length = m at *
         go_wp2
         go_ret
         exact ⟨ret_i64 HE.out.symm, HBr.out⟩
       · have HK2 : Hid (∀ i, i < k + 1 -> (xss.getD i []).length <= 512) := fun i hi => by
          by_cases h : i = k
          · rw [h]; omega
          · exact HK.out i (by omega)
         clear HK
         generalize (xss.getD k []).length = m at *
         go_wp2
         go_roundw
         case rel => exact ⟨k + 1, by omega, by go_num, HK2, hbr⟩
         case measure => simp [intOf]; omega
     · have HBr := hide (Below.next hB2 hbr)
       have HE := hide (chl_end (xs := xs) HI.out (fun i hi => HK.out i (by rw [HL.out] at hi; omega)))
       clear HK
       by_cases hnd : xs.Nodup
       · rw [if_pos hnd] at HE
         have HT := hide (HTw.out wr HBr.out)
         rw [show (!decide xs.Nodup) = false by simp [hnd]] at HT
         clear hnd HTw
         go_wp2_with (go_at_call 162; refine HT.out.mono ?_; rintro e w3 ⟨rfl, hb3⟩)
         go_ret
         exact ⟨ret_i64 HE.out.symm, Below.next HBr.out hb3⟩
       · rw [if_neg hnd] at HE
         have HT := hide (HTw.out wr HBr.out)
         rw [show (!decide xs.Nodup) = true by simp [hnd]] at HT
         clear hnd HTw
         go_wp2_with (go_at_call 162; refine HT.out.mono ?_; rintro e w3 ⟨rfl, hb3⟩)
         go_ret
         exact ⟨ret_i64 HE.out.symm, Below.next HBr.out hb3⟩
 · have HR : Hid (∀ W v', W.ownsRow w.heap.size 36 1 v' 2 [v, u] -> Below w.heap.size w W -> Rws W v' xss) := fun W v' hO hB => by
    rw [HX.out]
    exact rws_of_own hO rfl (by simp) (fun i hi => by
     obtain rfl | rfl : i = 0 ∨ i = 1 := by simp at hi; omega
     · exact h1.below hB
     · exact hru.below hB)
   have HB0 := hide al
   have HO := hide hO1
   have HN1 : Hid (∀ j x, [u][j]? = some x -> (w.alloc (.cells #[v] 36)).cell? ((⟨b, 0, none⟩ : Addr).add j) = some x) := fun j x hj => by
    have : j = 0 := by
     apply Classical.byContradiction; intro h; rw [List.getElem?_eq_none (by simp; omega)] at hj; cases hj
    subst this
    rw [add_at, (al.cell (p := ⟨b, 0 + 0, none⟩) hbu), hcu]; exact hj
   have HU : Hid (u.oneCell' = true) := by obtain ⟨a, c, rfl, _⟩ := hru.spell; rfl
   obtain ⟨n, hn⟩ : ∃ n : Nat, n = 2 := ⟨_, rfl⟩
   have HL : Hid (xss.length = n) := by show _ = _; rw [HX.out, hn]; rfl
   subst hvx
   clear h1 al hO1 hcu hru
   go_enter Tryz.func132, Tryz.ntmps132
   go_wp2_with (at_builtin; refine wpList_append_lies _ rfl _ _ _ rfl w.heap.size 36 i0 _ 1 24 Tryz.underlying26 hi0 hz0 hz1 hz2 rfl (by omega) _ 1 _ rfl HO.out ⟨b, 0, none⟩ 1 1 [u] rfl rfl HN1.out (by intro x hx; rw [List.mem_singleton.1 hx]; exact HU.out) (by omega) (by unfold maxLen; omega) (by omega) (by simp) (w.heap.size + 1) (by simp) ?_; intro gg cap2 w4 hown4 hgrow hat hltg)
   have hB4 : Below w.heap.size w w4 := HB0.out.grown hgrow (by simp) (fun k hk => own_base HO.out k hk)
   have HR := hide (HR.out _ _ hown4 hB4)
   have HB := hide hB4
   clear hown4 hgrow hat hltg hB4 HN1
   have HC := hide (HC.out _ _ _ _ HR.out)
   refine (HEl.out _ _ HR.out).mono ?_; rintro e w2 ⟨rfl, hb2⟩
   have hB2 := Below.next HB.out hb2
   clear HO HR
   cases hin : xss.all (inF f) with
   | false =>
    have HE := hide (chl_arg (xs := xs) hin)
    clear hin
    go_wp2
    go_ret
    exact ⟨ret_i64 HE.out.symm, hB2⟩
   | true =>
    have HI := hide hin
    clear hin
    go_wp2
    go_loopw [20] (fun vk wr => ∃ k : Nat, k <= n ∧ vk = .int .i64 k ∧ Hid (∀ i, i < k -> (xss.getD i []).length <= 512) ∧ Below w2.heap.size w2 wr) (fun vk _ => n - (intOf vk).toNat)
    case atStart => exact ⟨0, by omega, rfl, fun i hi => by omega, Below.refl _ _⟩
    case round =>
     obtain ⟨k, hk, rfl, HK, hbr⟩ := hrel
     by_cases hlt : k < n
     · obtain ⟨ak, ck, hck, hlk⟩ := HC.out wr (Below.next hb2 hbr) k (by omega)
       have HBr := hide (Below.next hB2 hbr)
       have HN := hide hn
       by_cases hm : 512 < (xss.getD k []).length
       · have HE := hide (chl_long (xs := xs) HI.out (show k < xss.length by rw [HL.out]; exact hlt) hm)
         clear HK
         generalize (xss.getD k []).length = m at *
         go_wp2
         go_ret
         exact ⟨ret_i64 HE.out.symm, HBr.out⟩
       · have HK2 : Hid (∀ i, i < k + 1 -> (xss.getD i []).length <= 512) := fun i hi => by
          by_cases h : i = k
          · rw [h]; omega
          · exact HK.out i (by omega)
         clear HK
         generalize (xss.getD k []).length = m at *
         go_wp2
         go_roundw
         case rel => exact ⟨k + 1, by omega, by go_num, HK2, hbr⟩
         case measure => simp [intOf]; omega
     · have HBr := hide (Below.next hB2 hbr)
       have HE := hide (chl_end (xs := xs) HI.out (fun i hi => HK.out i (by rw [HL.out] at hi; omega)))
       clear HK
       by_cases hnd : xs.Nodup
       · rw [if_pos hnd] at HE
         have HT := hide (HTw.out wr HBr.out)
         rw [show (!decide xs.Nodup) = false by simp [hnd]] at HT
         clear hnd HTw
         go_wp2_with (go_at_call 162; refine HT.out.mono ?_; rintro e w3 ⟨rfl, hb3⟩)
         go_ret
         exact ⟨ret_i64 HE.out.symm, Below.next HBr.out hb3⟩
       · rw [if_neg hnd] at HE
         have HT := hide (HTw.out wr HBr.out)
         rw [show (!decide xs.Nodup) = true by simp [hnd]] at HT
         clear hnd HTw
         go_wp2_with (go_at_call 162; refine HT.out.mono ?_; rintro e w3 ⟨rfl, hb3⟩)
         go_ret
         exact ⟨ret_i64 HE.out.symm, Below.next HBr.out hb3⟩
theorem bad_arg {f : Int} {xs ys : List Int} {n : Nat} (h : inF f xs = false ∨ inF f ys = false) : bad f xs ys n = 2 := by
 unfold bad
 rcases h with h | h <;> rw [h] <;> simp
theorem bad_shape {f : Int} {xs ys : List Int} {n : Nat} (h1 : inF f xs = true) (h2 : inF f ys = true) (h : xs.length ≠ n) : bad f xs ys n = 3 := by
 unfold bad; rw [h1, h2, if_pos (by rfl), if_neg h]
theorem bad_long {f : Int} {xs ys : List Int} {n : Nat} (h1 : inF f xs = true) (h2 : inF f ys = true) (h : xs.length = n) (hl : 512 < xs.length) : bad f xs ys n = 4 := by
 unfold bad; rw [h1, h2, if_pos (by rfl), if_pos h, if_pos hl]
theorem bad_end {f : Int} {xs ys : List Int} {n : Nat} (h1 : inF f xs = true) (h2 : inF f ys = true) (h : xs.length = n) (hl : ¬ 512 < xs.length) : bad f xs ys n = if xs.Nodup then 0 else 6 := by
 unfold bad; rw [h1, h2, if_pos (by rfl), if_pos h, if_neg hl]
theorem chl_one (f : Int) (xs : List Int) : chl f [xs] xs = bad f xs [] xs.length := by
 cases h : inF f xs with
 | false => rw [bad_arg (.inl h)]; exact chl_arg (by simp [h])
 | true =>
  by_cases hl : 512 < xs.length
  · rw [bad_long h (inF_nil h) rfl hl]; exact chl_long (k := 0) (by simp [h]) (by simp) hl
  · rw [bad_end h (inF_nil h) rfl hl]; exact chl_end (by simp [h]) (fun i hi => by
     obtain rfl : i = 0 := by simp at hi; omega
     show xs.length <= 512; omega)
theorem bad_zero {f : Int} {xs ys : List Int} {n : Nat} (h : bad f xs ys n = 0) : ∃ p wd, Fi f p wd ∧ allIn p xs = true ∧ allIn p ys = true ∧ xs.length = n ∧ xs.length <= 512 ∧ xs.Nodup := by
 cases h1 : inF f xs with
 | false => rw [bad_arg (.inl h1)] at h; cases h
 | true =>
  cases h2 : inF f ys with
  | false => rw [bad_arg (.inr h2)] at h; cases h
  | true =>
   obtain ⟨p, wd, hf, hi⟩ := inF_fi h1
   rw [inF_yes hf] at h2
   have h2' : inF f ys = true := by rw [inF_yes hf]; exact h2
   by_cases hn : xs.length = n
   · by_cases hl : 512 < xs.length
     · rw [bad_long h1 h2' hn hl] at h; cases h
     · rw [bad_end h1 h2' hn hl] at h
       by_cases hd : xs.Nodup
       · exact ⟨p, wd, hf, hi, h2, hn, by omega, hd⟩
       · rw [if_neg hd] at h; cases h
   · rw [bad_shape h1 h2' hn] at h; cases h
theorem bad_same {f : Int} {xs ys : List Int} (h1 : inF f xs = true) (h2 : inF f ys = true) (h : xs.length = ys.length) : chl f [xs] xs = bad f xs ys ys.length := by
 rw [chl_one]
 by_cases hl : 512 < xs.length
 · rw [bad_long h1 h2 h hl, bad_long h1 (inF_nil h1) rfl hl]
 · rw [bad_end h1 h2 h hl, bad_end h1 (inF_nil h1) rfl hl]
theorem ipValues (f : Int) (v1 v2 : Value) (xs ys : List Int) (w : World) (h1 : Rw w v1 xs) (h2 : Rw w v2 ys) :
 Calls Tryz.prog 105 #[.int .u8 f, v1, v2] w fun e w' => e = .returned (.int .i64 (bad f xs ys ys.length)) ∧ Below w.heap.size w w' := by
 have HE := hide (fun T => ipElements f _ [xs, ys] _ (rws_two w v1 v2 xs ys h1 h2 T))
 have HP := hide (fun W (hb : Below w.heap.size w W) => ipPlaces f v1 _ xs [] W (h1.below hb) (.inl ⟨rfl, rfl⟩))
 have HL := hide (fun T => alloc_below w (.cells #[v1, v2] T))
 have l1 := h1.len
 have l2 := h2.len
 obtain ⟨a1, c1, rfl, _⟩ := h1.spell
 obtain ⟨a2, c2, rfl, _⟩ := h2.spell
 clear h1 h2
 have ha : [xs, ys].all (inF f) = (inF f xs && inF f ys) := by simp
 rw [ha] at HE
 cases hi : (inF f xs && inF f ys) with
 | false =>
  have HB : Hid (bad f xs ys ys.length = 2) := bad_arg (by
   cases e : inF f xs with
   | false => exact .inl rfl
   | true => rw [e] at hi; exact .inr hi)
  rw [hi] at HE
  clear hi ha HP
  generalize xs.length = n1 at *
  generalize ys.length = n2 at *
  go_enter Tryz.func105, Tryz.ntmps105
  go_wp2_with (go_at_call 104; refine (HE.out _).mono ?_; rintro e w1 ⟨rfl, hb1⟩; have hB1 := Below.next (HL.out _) hb1)
  go_ret
  exact ⟨ret_i64 HB.out.symm, hB1⟩
 | true =>
  have hi2 := Bool.and_eq_true_iff.1 hi
  rw [hi] at HE
  by_cases hn : xs.length = ys.length
  · have HB := hide (bad_same hi2.1 hi2.2 hn)
    rw [HB.out] at HP
    clear hi hi2 ha HB
    rw [<- hn] at HE HP HL ⊢
    clear hn
    generalize xs.length = n1 at *
    go_enter Tryz.func105, Tryz.ntmps105
    go_wp2_with (first
     | (go_at_call 104; refine (HE.out _).mono ?_; rintro e w1 ⟨rfl, hb1⟩; have hB1 := Below.next (HL.out _) hb1)
     | (go_at_call 132; refine (HP.out _ hB1).mono ?_; rintro e w2 ⟨rfl, hb2⟩))
    go_ret
    exact ⟨rfl, Below.next hB1 hb2⟩
  · have HB := hide (bad_shape hi2.1 hi2.2 hn)
    have hne : ((xs.length : Int) == (ys.length : Int)) = false := beq_eq_false_iff_ne.2 (by omega)
    have hne2 : ((xs.length : Int) != (ys.length : Int)) = true := bne_iff_ne.2 (by omega)
    clear hi hi2 ha HP
    generalize xs.length = n1 at *
    generalize ys.length = n2 at *
    go_enter Tryz.func105, Tryz.ntmps105
    go_wp2_with (go_at_call 104; refine (HE.out _).mono ?_; rintro e w1 ⟨rfl, hb1⟩; have hB1 := Below.next (HL.out _) hb1)
    go_ret
    exact ⟨ret_i64 HB.out.symm, hB1⟩
theorem ipTimes (f p a b : Int) (wd : Bool) (w : World) (h : Fi f p wd) (ha : El p a) (hb : El p b) :
 Calls Tryz.prog 117 #[.int .u8 f, .int .u64 a, .int .u64 b] w fun e w' => e = .returned (.int .u64 (mul p a b)) ∧ Below w.heap.size w w' := by
 have HE := hide (fun T => eval_two w T h ha hb)
 have HM : Hid (b * a % p = mul p a b) := by show _ = _; unfold mul; rw [Int.mul_comm]
 rw [HM.out] at HE
 clear h ha hb
 generalize mul p a b = m at *
 go_enter Tryz.func117, Tryz.ntmps117
 go_wp2_with (go_at_call 76; refine (HE.out _).mono ?_; rintro e w1 ⟨rfl, hb1⟩)
 go_ret
 exact ⟨rfl, hb1⟩
theorem nodup_cut {xs : List Int} {i : Nat} (hi : i < xs.length) (h : (xs.take i).Nodup) (hk : ∀ k, k < i -> xs.getD i 0 ≠ xs.getD k 0) : (xs.take (i + 1)).Nodup := by
 rw [List.take_succ_eq_append_getElem hi, nodup_snoc]
 refine ⟨h, fun hm => ?_⟩
 obtain ⟨k, hk2, e⟩ := List.mem_iff_getElem.1 hm
 have hk3 : k < i := by rw [List.length_take] at hk2; omega
 refine hk k hk3 ?_
 rw [List.getD_eq_getElem?_getD, List.getElem?_eq_getElem hi, List.getD_eq_getElem?_getD, List.getElem?_eq_getElem (by omega)]
 rw [List.getElem_take] at e
 exact e.symm
theorem not_nodup {xs : List Int} {i k : Nat} (hi : i < xs.length) (hk : k < i) (h : xs.getD i 0 = xs.getD k 0) : ¬ xs.Nodup := by
 intro hn
 rw [List.getD_eq_getElem?_getD, List.getElem?_eq_getElem hi, List.getD_eq_getElem?_getD, List.getElem?_eq_getElem (show k < xs.length by omega)] at h
 have := nodup_inj hn hi (show k < xs.length by omega) h
 omega
theorem dBad (f : Int) (v1 v2 : Value) (xs ys : List Int) (n : Nat) (w : World) (h1 : Rw w v1 xs) (h2 : Rw w v2 ys) (hn : n <= 17592186043904) :
 Calls Tryz.prog 66 #[.int .u8 f, v1, v2, .int .i64 n] w fun e w' => e = .returned (.int .i64 (bad f xs ys n)) ∧ Below w.heap.size w w' := by
 have i1 := hide (fun W (hb : Below w.heap.size w W) => rIn_any f v1 xs W (h1.1.below hb))
 have i2 := hide (fun W (hb : Below w.heap.size w W) => rIn_any f v2 ys W (h2.1.below hb))
 have l1 := h1.len
 obtain ⟨a2, c2, rfl, _⟩ := h2.spell
 obtain ⟨⟨ao, cap, rfl, _, _, hc⟩, _⟩ := h1
 clear h2
 generalize ys.length = n2 at *
 cases e1 : inF f xs with
 | false =>
  have HB := hide (bad_arg (ys := ys) (n := n) (.inl e1))
  rw [e1] at i1
  clear e1 i2 hc
  generalize xs.length = n1 at *
  go_enter Tryz.func66, Tryz.ntmps66
  go_wp2_with (go_at_call 40; refine (i1.out _ (Below.refl _ _)).mono ?_; rintro e w1 ⟨rfl, rfl⟩)
  go_ret
  exact ⟨ret_i64 HB.out.symm, Below.refl _ _⟩
 | true =>
  rw [e1] at i1
  cases e2 : inF f ys with
  | false =>
   have HB := hide (bad_arg (xs := xs) (n := n) (.inr e2))
   rw [e2] at i2
   clear e1 e2 hc
   generalize xs.length = n1 at *
   go_enter Tryz.func66, Tryz.ntmps66
   go_wp2_with fail
   refine (i1.out _ (Below.refl _ _)).mono ?_; rintro e w1 ⟨rfl, rfl⟩
   go_wp2_with fail
   refine (i2.out _ (Below.refl _ _)).mono ?_; rintro e w1 ⟨rfl, rfl⟩
   go_wp2
   go_ret
   exact ⟨ret_i64 HB.out.symm, Below.refl _ _⟩
  | true =>
   rw [e2] at i2
   by_cases hs : xs.length = n
   · by_cases hl : 512 < xs.length
     · have HB := hide (bad_long e1 e2 hs hl)
       subst hs
       clear e1 e2 hc
       generalize bad f xs ys xs.length = bb at *
       generalize xs.length = n1 at *
       go_enter Tryz.func66, Tryz.ntmps66
       go_wp2_with fail
       refine (i1.out _ (Below.refl _ _)).mono ?_; rintro e w1 ⟨rfl, rfl⟩
       go_wp2_with fail
       refine (i2.out _ (Below.refl _ _)).mono ?_; rintro e w1 ⟨rfl, rfl⟩
       go_wp2
       go_ret
       exact ⟨ret_i64 HB.out.symm, Below.refl _ _⟩
     · have HB := hide (bad_end e1 e2 hs hl)
       subst hs
       clear e1 e2
       generalize bad f xs ys xs.length = bb at *
       obtain ⟨N, HN⟩ : ∃ N, Hid (xs.length = N) := ⟨_, rfl⟩
       have HC : Hid (∀ W, Below w.heap.size w W -> ∀ i, i < N -> ∃ b off, ao = some ⟨b, off, none⟩ ∧ ∀ k, k <= i -> W.cell? ⟨b, off + k, none⟩ = some (.int .u64 (xs.getD k 0))) := fun W hb i hi => by
        have hi2 : i < xs.length := by rw [HN.out]; exact hi
        obtain ⟨b, off, e, h3, h4⟩ := hc (by intro e; rw [e] at hi2; simp at hi2)
        exact ⟨b, off, e, fun k hk => (hb.cell (p := ⟨b, off + k, none⟩) h3).trans (h4 k (by omega))⟩
       rw [HN.out] at i1 l1 hl ⊢
       clear hc
       go_enter Tryz.func66, Tryz.ntmps66
       go_wp2_with fail
       refine (i1.out _ (Below.refl _ _)).mono ?_; rintro e w1 ⟨rfl, rfl⟩
       go_wp2_with fail
       refine (i2.out _ (Below.refl _ _)).mono ?_; rintro e w1 ⟨rfl, rfl⟩
       clear i1 i2
       go_wp2
       go_loopw [9] (fun vi wr => ∃ i : Nat, i <= N ∧ vi = .int .i64 i ∧ Hid ((xs.take i).Nodup) ∧ Below w1.heap.size w1 wr) (fun vi _ => N - (intOf vi).toNat)
       case atStart => exact ⟨0, Nat.zero_le _, rfl, by show (List.take 0 xs).Nodup; simp, Below.refl _ _⟩
       case round =>
        obtain ⟨i, hi, rfl, HD, hB⟩ := hrel
        by_cases hlt : i < N
        · go_wp2
          go_loopw [10] (fun vk wr => ∃ k : Nat, k <= i ∧ vk = .int .i64 k ∧ Hid (∀ j, j < k -> xs.getD i 0 ≠ xs.getD j 0) ∧ Below w1.heap.size w1 wr) (fun vk _ => i - (intOf vk).toNat)
          case atStart => exact ⟨0, Nat.zero_le _, rfl, fun j hj => by omega, hB⟩
          case round =>
           clear hB
           obtain ⟨k, hk, rfl, HK, hB⟩ := hrel
           by_cases hki : k < i
           · obtain ⟨b, off, rfl, hcell⟩ := HC.out wr hB i hlt
             have c1 := hcell i (Nat.le_refl _)
             have c2 := hcell k (by omega)
             clear hcell
             by_cases heq : xs.getD i 0 = xs.getD k 0
             · have HE := hide (not_nodup (show i < xs.length by rw [HN.out]; exact hlt) hki heq)
               have HB2 : Hid (bb = 6) := by show _ = _; rw [HB.out, if_neg HE.out]
               rw [heq] at c1
               clear heq HB HE HK HD
               generalize xs.getD k 0 = x at *
               go_wp2_with fail
               go_quiet (fail)
               go_wp2
               go_ret
               exact ⟨ret_i64 HB2.out.symm, below_drewN hB nq⟩
             · have HK2 : Hid (∀ j, j < k + 1 -> xs.getD i 0 ≠ xs.getD j 0) := fun j hj => by
                by_cases h : j = k
                · rw [h]; exact heq
                · exact HK.out j (by omega)
               have hne : (xs.getD i 0 == xs.getD k 0) = false := beq_eq_false_iff_ne.2 heq
               clear heq HK HD
               generalize xs.getD k 0 = x at *
               generalize xs.getD i 0 = y at *
               go_wp2_with fail
               go_quiet (fail)
               go_wp2
               go_roundw
               case rel => exact ⟨k + 1, by omega, by go_num, HK2, below_drewN hB nq⟩
               case measure => simp [intOf]; omega
           · obtain rfl : k = i := by omega
             have HD2 : Hid ((xs.take (k + 1)).Nodup) := nodup_cut (by rw [HN.out]; exact hlt) HD.out HK.out
             clear HK HD
             go_wp2
             go_roundw
             case rel => exact ⟨k + 1, by omega, by go_num, HD2, hB⟩
             case measure => simp [intOf]; omega
        · obtain rfl : i = N := by omega
          have HB2 : Hid (bb = 0) := by
           show _ = _
           rw [HB.out, if_pos]
           have := HD.out
           rw [<- HN.out, List.take_length] at this
           exact this
          clear HD
          go_wp2
          go_ret
          exact ⟨ret_i64 HB2.out.symm, hB⟩
   · have HB := hide (bad_shape e1 e2 hs)
     have hne2 : ((xs.length : Int) != (n : Int)) = true := bne_iff_ne.2 (by omega)
     clear e1 e2 hc
     generalize xs.length = n1 at *
     go_enter Tryz.func66, Tryz.ntmps66
     go_wp2_with fail
     refine (i1.out _ (Below.refl _ _)).mono ?_; rintro e w1 ⟨rfl, rfl⟩
     go_wp2_with fail
     refine (i2.out _ (Below.refl _ _)).mono ?_; rintro e w1 ⟨rfl, rfl⟩
     go_wp2
     go_ret
     exact ⟨ret_i64 HB.out.symm, Below.refl _ _⟩
theorem bitsMul (n : Nat) (w : World) (hn : n <= 17592186043904) :
 Calls Tryz.prog 186 #[.int .u64 1, .int .u64 n] w fun e w' => e = .returned (.tuple #[.int .u64 0, .int .u64 n]) ∧ w' = w := by
 have HM := hide (mul64_any 1 (n : Int) w (by decide) (by decide) (by omega) (by omega))
 have e1 : high64 (1 * (n : Int)) = 0 := by unfold high64; omega
 have e2 : low64 (1 * (n : Int)) = n := by unfold low64; omega
 rw [e1, e2] at HM
 clear e1 e2
 go_enter Tryz.func186, Tryz.ntmps186
 go_wp2_with (go_at_call 94; refine HM.out.mono ?_; rintro e w1 ⟨rfl, rfl⟩)
 go_ret2
 exact ⟨rfl, rfl⟩
theorem splice_rep (n m c : Nat) (x : Int) (h : m + c <= n) : splice (vals (over n (List.replicate m x))) m (vals (List.replicate c x)) = vals (over n (List.replicate (m + c) x)) := by
 unfold splice over vals
 simp only [List.map_append, List.map_replicate, List.length_replicate]
 rw [List.take_append_of_le_length (by simp), List.take_of_length_le (by simp), List.drop_append, List.drop_eq_nil_of_le (by simp), List.nil_append, List.length_replicate, List.drop_replicate, <- List.append_assoc, List.replicate_append_replicate]
 congr 2
 omega
theorem min_parts {m n : Nat} (h1 : 1 <= m) (h : m < n) : 1 <= Nat.min m (n - m) ∧ m + Nat.min m (n - m) <= n := by
 rcases Nat.le_total m (n - m) with h2 | h2
 · rw [show Nat.min m (n - m) = m from Nat.min_eq_left h2]; omega
 · rw [show Nat.min m (n - m) = n - m from Nat.min_eq_right h2]; omega
theorem over_full (n : Nat) (x : Int) : over n (List.replicate n x) = List.replicate n x := by simp [over]
theorem over_zero (n : Nat) : over n ([] : List Int) = List.replicate n 0 := by simp [over]
theorem slRepeat (x : Int) (n b : Nat) (w : World) (hn : n <= 4096) (hc : w.cell? ⟨b, 0, none⟩ = some (.int .u64 x)) (hb : b < w.heap.size) :
 Calls Tryz.prog 164 #[.slice (some ⟨b, 0, none⟩) 1 1, .int .i64 n] w fun e w' => ∃ v', e = .returned v' ∧ w'.ownsRow w.heap.size 64 1 v' n (vals (List.replicate n x)) ∧ Below w.heap.size w w' := by
 obtain ⟨i0, hi0, hz0, hz1, hz2⟩ := info_parts u64_info
 have HM := hide (bitsMul n w (by omega))
 have HW : Hid (∀ W, Below w.heap.size w W -> ∃ ad, some (⟨b, 0, none⟩ : Addr) = some ad ∧ ∀ j v, (vals [x])[j]? = some v -> W.cell? (ad.add j) = some v) := fun W hb' => ⟨_, rfl, fun j v hj => by
  have : j = 0 := by
   apply Classical.byContradiction; intro h; rw [List.getElem?_eq_none (by simp [vals]; omega)] at hj; cases hj
  subst this
  rw [add_at, hb'.cell (p := ⟨b, 0 + 0, none⟩) hb, hc]; exact hj⟩
 have H1 := hide (vals_one [x])
 have hs : (w.heap.size : Nat) <= w.heap.size := Nat.le_refl _
 by_cases h0 : n = 0
 · subst h0
   go_enter Tryz.func164, Tryz.ntmps164
   go_wp2_with (first
    | (go_at_call 186; refine HM.out.mono ?_; rintro e w1 ⟨rfl, hw1⟩; subst hw1)
    | (at_make; refine wpList_make_full _ rfl _ _ 36 rfl w1.heap.size 64 i0 (.int .u64 0) 1 Tryz.underlying36 hi0 hz0 hz1 .i64 .i64 _ _ 0 rfl rfl (by omega) (by omega) (by rw [hz2]; omega) (by unfold maxLen; omega) (Nat.le_refl _) ?_; intro w2 hown hgrow; have hO := hide (own_made hown); have hB := below_grown_none hgrow; clear hown hgrow)
    | (refine wpList_copy_splice rfl _ _ _ _ rfl 64 Tryz.underlying36 u64_size _ _ _ _ _ _ rfl rfl w1.heap.size 0 (vals (List.replicate 0 0)) 64 (own_block hO.out) [] (by rfl) (fun hp => absurd hp (by decide)) (by simp) (by intro v hv; cases hv) w1.heap.size w1 hB (Nat.le_refl _) ?_; intro w3 HG hB3))
   refine wp_loop_rounds 1 ?_
   rw [rounds_succ]
   go_wp2
   go_ret
   exact ⟨_, rfl, own_of_block (ys := []) (Nat.le_refl _) (by have := HG.out; simpa [splice, vals] using this) rfl (by omega), hB3⟩
 · have HL : Hid ((vals [x]).length = Nat.min 1 n) := by show 1 = Nat.min 1 n; exact (Nat.min_eq_left (by omega)).symm
   have HS := hide (splice_rep n 0 1 x (by omega))
   rw [List.replicate_zero, over_zero, Nat.zero_add, List.replicate_one] at HS
   obtain ⟨cs, HCS⟩ : ∃ cs, Hid (vals [x] = cs) := ⟨_, rfl⟩
   rw [HCS.out] at HL HS HW H1
   have HL2 : Hid (cs.length = 1) := by show _ = _; rw [<- HCS.out]; rfl
   have HV : Hid (0 + cs.length <= (vals (List.replicate n 0)).length) := by
    show _ <= _
    rw [vals_length, List.length_replicate, HL2.out]; omega
   go_enter Tryz.func164, Tryz.ntmps164
   go_wp2_with (first
    | (go_at_call 186; refine HM.out.mono ?_; rintro e w1 ⟨rfl, hw1⟩; subst hw1)
    | (at_make; refine wpList_make_full _ rfl _ _ 36 rfl w1.heap.size 64 i0 (.int .u64 0) 1 Tryz.underlying36 hi0 hz0 hz1 .i64 .i64 _ _ n rfl rfl (by omega) (by omega) (by rw [hz2]; omega) (by unfold maxLen; omega) (Nat.le_refl _) ?_; intro w2 hown hgrow; have hO := hide (own_made hown); have hB := below_grown_none hgrow; clear hown hgrow)
    | (refine wpList_copy_splice rfl _ _ _ _ rfl 64 Tryz.underlying36 u64_size _ _ _ _ _ _ rfl rfl w1.heap.size 0 (vals (List.replicate n 0)) 64 (own_block hO.out) cs HL.out (fun hp => ⟨rfl, HW.out w2 hB⟩) HV.out H1.out w1.heap.size w1 hB (Nat.le_refl _) ?_; intro w3 HG hB3))
   rw [HS.out] at HG
   have hcl : (cs.length : Int) = 1 := by rw [HL2.out]; rfl
   rw [hcl]
   clear HW H1 hcl hO hB HM HV HL
   go_loopw [8] (fun vm wr => ∃ m : Nat, 1 <= m ∧ m <= n ∧ vm = .int .i64 m ∧ Hid (wr.heap[w1.heap.size]? = some (.cells (vals (over n (List.replicate m x))).toArray 64 (0, 0))) ∧ Below w1.heap.size w1 wr) (fun vm _ => n - (intOf vm).toNat)
   case atStart => exact ⟨1, by omega, by omega, rfl, by rw [List.replicate_one]; exact HG.out, hB3⟩
   case round =>
    clear HG hB3
    obtain ⟨m, hm1, hm, rfl, HG, hB⟩ := hrel
    by_cases hlt : m < n
    · obtain ⟨c, hc1, hc2, hcm⟩ : ∃ c : Nat, 1 <= c ∧ m + c <= n ∧ c = Nat.min m (n - m) := ⟨_, (min_parts hm1 hlt).1, (min_parts hm1 hlt).2, rfl⟩
      have HS2 := hide (splice_rep n m c x hc2)
      have HR : Hid (∃ ad, some (⟨w1.heap.size, 0, none⟩ : Addr) = some ad ∧ ∀ j v, (vals (List.replicate c x))[j]? = some v -> (wr.drew).cell? (ad.add j) = some v) := ⟨_, rfl, fun j v hj => by
       have hjl : j < c := by
        apply Nat.lt_of_not_le; intro h; rw [List.getElem?_eq_none (by simp [vals]; omega)] at hj; cases hj
       have hcm2 : c <= m := by rw [hcm]; exact Nat.min_le_left _ _
       rw [add_at]
       have : wr.heap[w1.heap.size]? = _ := HG.out
       simp only [World.cell?, World.drew, this, Nat.zero_add]
       rw [<- hj]
       simp [vals, over, List.getElem?_append, hjl, show j < m by omega]⟩
      have HL3 : Hid ((vals (List.replicate c x)).length = Nat.min m (n - m)) := by show _ = _; rw [vals_length, List.length_replicate]; exact hcm
      have HF : Hid (m + (vals (List.replicate c x)).length <= (vals (over n (List.replicate m x))).length) := by
       show _ <= _
       rw [vals_length, List.length_replicate, vals_length, over_len (by simp; omega)]; omega
      have H1 := hide (vals_one (List.replicate c x))
      have HN : Hid ((vals (List.replicate c x)).length = c) := by show _ = _; rw [vals_length, List.length_replicate]
      obtain ⟨cs, HCS⟩ : ∃ cs, Hid (vals (List.replicate c x) = cs) := ⟨_, rfl⟩
      rw [HCS.out] at HS2 HR HL3 HF H1 HN
      have f1 : (m : Int) <= (n : Int) := by omega
      have f2 : ¬ n = m := by omega
      have f3 : ¬ m = n := by omega
      clear hcm
      go_wp2_with fail
      have hBd : Below w1.heap.size w1 wr.drew := hB.drew
      go_region_law (refine step_copy_splice rfl (.tmp 41) (.tmp 44) 36 36 rfl 64 Tryz.underlying36 u64_size (some ⟨w1.heap.size, m, none⟩) (some ⟨w1.heap.size, 0, none⟩) (n - m) (n - m) m n (by simp [Act.eval, Act.put]) (by simp [Act.eval, Act.put]) w1.heap.size m _ 64 HG.out cs HL3.out (fun hp => ⟨rfl, HR.out⟩) HF.out H1.out w1.heap.size w1 hBd (Nat.le_refl _) ?_; intro w4 HG4 hb4)
      rw [HS2.out] at HG4
      have hcl : (cs.length : Int) = c := by rw [HN.out]
      have hwr : IntKind.i64.wrap ((m : Int) + (c : Int)) = ((m + c : Nat) : Int) := by rw [IntKind.wrap_i64]; omega
      rw [hcl]
      simp [Act.put, hwr, -Int.natCast_add]
      clear hcl hwr
      go_wp2
      go_roundw
      case rel => exact ⟨m + c, by omega, by omega, rfl, HG4.out, hb4⟩
      case measure => simp [intOf]; omega
    · obtain rfl : m = n := by omega
      rw [over_full] at HG
      go_wp2
      go_ret
      exact ⟨_, rfl, own_of_block (Nat.le_refl _) HG.out (by simp) (by omega), hB⟩
theorem vals_pad (n : Nat) (A : List Int) : vals A ++ List.replicate (n - A.length) (.int .u64 0) = vals (over n A) := by simp [vals, over]
theorem pad_nothing (w : World) (u : Value) (n base : Nat) (xs : List Value) (hO : w.ownsRow base 64 1 u n xs) :
 (Builtin.append_ #[36, 3] 36 #[u, .int .i64 0]).run Tryz.prog w = .ok u w := by
 obtain ⟨i0, hi0, hz0, hz1, hz2⟩ := info_parts u64_info
 have hw : IntKind.i64.wrap 0 = 0 := by decide
 rcases hO.2 with ⟨rfl, rfl⟩ | ⟨g, cap, cur, rfl, _, _, hnc, _⟩
 · simp [Builtin.append_, run_underlying Tryz.underlying36, run_underlying Tryz.underlying3, sizeOf, typeInfo, zeroValue, hi0, hz0, asInt, asIntOf, hw]
 · simp [Builtin.append_, run_underlying Tryz.underlying36, run_underlying Tryz.underlying3, sizeOf, typeInfo, zeroValue, hi0, hz0, asInt, asIntOf, hw, hnc, storeCells, Builtin.zeroCells]
theorem pad_zeros (w : World) (base : Nat) (u : Value) (A : List Int) (n : Nat) (hO : w.ownsRow base 64 1 u A.length (vals A)) (hl : A.length <= n) (hn : n <= 4096) (hb : base <= w.heap.size) :
 ∃ v' w', (Builtin.append_ #[36, 3] 36 #[u, .int .i64 ((n : Int) - (A.length : Int))]).run Tryz.prog w = .ok v' w' ∧ w'.ownsRow base 64 1 v' n (vals (over n A)) ∧ Below base w w' := by
 obtain ⟨i0, hi0, hz0, hz1, hz2⟩ := info_parts u64_info
 by_cases hk : A.length = n
 · rw [hk, Int.sub_self]
   refine ⟨u, w, pad_nothing w u _ base _ hO, ?_, Below.refl _ _⟩
   rw [<- hk, over_self]; exact hO
 · have e : (n : Int) - (A.length : Int) = ((n - A.length : Nat) : Int) := by omega
   have e2 : A.length + (n - A.length) = n := by omega
   rw [e]
   rcases hO.2 with ⟨rfl, h0⟩ | ⟨g, cap, cur, h, hbg, _⟩
   · have hA : A = [] := List.length_eq_zero_iff.1 h0
     subst hA
     have hr := Lib.run_append_nil_zeros (P := Tryz.prog) w 36 3 36 64 i0 (.int .u64 0) .i64 .i64 Tryz.underlying36 Tryz.underlying3 hi0 hz0 n (by simp at hk; omega) (by omega) (by omega) (by rw [hz2]; omega)
     have hge := grownCap_ge w n 0 64
     have hcm : grownCap w n 0 64 <= maxLen := grownCap_le_maxLen w n 0 64 (by unfold maxLen; omega)
     refine ⟨_, _, by simpa using hr, ⟨by rw [vals_length, over_len (by simp)]; omega, .inr ⟨w.heap.size, _, _, rfl, hb, heap_alloc_new w.drew _, hge, hcm, ?_, ?_⟩⟩, ?_⟩
     · simp only [Array.size_append, size_zeroCells]
       simp [Value.cells]; omega
     · rw [Array.toList_append, List.take_append_of_le_length (by simp [zeros_list, Value.cells]), List.take_of_length_le (by simp [zeros_list, Value.cells]), over_zero]
       simp [zeros_list, Value.cells, vals]
     · exact (Below.refl base w).drew.alloc (by simpa using hb) _
   · subst h
     obtain ⟨g', cap', w', hr, ho, hg⟩ := run_zeros_own (P := Tryz.prog) w base 36 3 36 64 i0 (.int .u64 0) 8 .i64 .i64 Tryz.underlying36 Tryz.underlying3 hi0 hz0 hz1 hz2 (.int .u64 0) rfl rfl g A.length cap (vals A) hO (n - A.length) (by omega) (by unfold maxLen; omega) (by omega) hb
     rw [e2] at hr ho
     rw [vals_pad] at ho
     exact ⟨_, w', hr, ho, (Below.refl base w).grown hg hb (fun k hk => by cases hk; exact hbg)⟩
theorem sm_rep {p x : Int} (hp : 0 < p) (xs : List Int) : sm p (sub p 0 1) (List.replicate xs.length x) xs = xs.map (fun z => sub p x z) := by
 apply ext_co
 · rw [sm_len]; simp
 · intro i hi
   rw [sm_len, List.length_replicate, Nat.max_self] at hi
   unfold sm
   rw [co_mk, if_pos (by simp; exact hi), co_at (show i < (xs.map (fun z => sub p x z)).length by simpa using hi), co_at (show i < (List.replicate xs.length x).length by simpa using hi), co_at hi]
   simp only [List.getElem_replicate, List.getElem_map]
   show (x + (0 - 1) % p * xs[i]) % p = (x - xs[i]) % p
   rw [Int.add_emod, Int.mul_emod, Int.emod_emod_of_dvd _ (Int.dvd_refl p), <- Int.mul_emod, <- Int.add_emod]
   congr 1; omega
theorem over_tr (L : List Int) : over L.length (tr L) = L := by
 apply ext_co
 · exact over_len (tr_len L)
 · intro i _; rw [co_over, co_tr]
theorem ipDiffs (f p x : Int) (wd : Bool) (v : Value) (xs : List Int) (w : World) (h : Fi f p wd) (hx : El p x) (h1 : Rw w v xs) (he : Els p xs) (hl : xs.length <= 512) :
 Calls Tryz.prog 135 #[.int .u8 f, .int .u64 x, v] w fun e w' => ∃ v', e = .returned v' ∧ w'.ownsRow w.heap.size 64 1 v' xs.length (vals (xs.map (fun z => sub p x z))) ∧ Below w.heap.size w w' := by
 have hp := h.pos
 have al := fun T => alloc_below w (.cells #[.int .u64 x] T)
 have HRp := hide (fun T => slRepeat x xs.length w.heap.size (w.alloc (.cells #[.int .u64 x] T)) (by omega) (by simp [go_sem]) (by simp))
 have her : er f (List.replicate xs.length x) xs = 0 := er_yes h (allIn_of (fun y hy => by rw [List.eq_of_mem_replicate hy]; exact hx)) (allIn_of he) (by simp; omega) (by omega)
 have HL : Hid (subL f (List.replicate xs.length x) xs = tr (xs.map (fun z => sub p x z))) := by show _ = _; unfold subL; rw [if_pos her, pOf_eq h, sm_rep hp]
 have HS := hide (fun W u (hb : Below w.heap.size w W) (hr : Rw W u (List.replicate xs.length x)) => pSub_any f u v (List.replicate xs.length x) xs W hr (h1.below hb))
 unfold Gives at HS
 rw [her, HL.out] at HS
 have HRw := hide (fun W u base (hO : World.ownsRow W base 64 1 u xs.length (vals (List.replicate xs.length x))) => rw_of_own hO (by simp; omega) (fun y hy => by rw [List.eq_of_mem_replicate hy]; exact elWord hx h.top))
 have HP := hide (fun W base u hO hb => pad_zeros W base u (tr (xs.map (fun z => sub p x z))) xs.length hO (by have := tr_len (xs.map (fun z => sub p x z)); simpa using this) (by omega) hb)
 have e1 : (xs.map (fun z => sub p x z)).length = xs.length := by simp
 have HE := hide (over_tr (xs.map (fun z => sub p x z)))
 rw [e1] at HE
 rw [HE.out] at HP
 have hk : (tr (xs.map (fun z => sub p x z))).length <= xs.length := by have := tr_len (xs.map (fun z => sub p x z)); simpa using this
 obtain ⟨a1, c1, rfl, _⟩ := h1.spell
 clear h1 her HL h hx he e1 HE
 have hAL := hide al
 clear al
 generalize xs.map (fun z => sub p x z) = D at *
 generalize tr D = A at *
 generalize List.replicate xs.length x = rp at *
 generalize xs.length = n at *
 go_enter Tryz.func135, Tryz.ntmps135
 go_wp2_with (first
  | (go_at_call 164; refine (HRp.out _).mono ?_; rintro e w1 ⟨v1, rfl, hO1, hb1⟩; have hB1 := Below.next (hAL.out _) hb1; have hr1 := HRw.out _ _ _ hO1; obtain ⟨b1, k1, rfl⟩ := own_form hO1; clear hO1)
  | (go_at_call 163; refine (HS.out _ _ hB1 hr1).mono ?_; rintro e w2 ⟨v2, rfl, hO2, hb2⟩; have hB2 := Below.next hB1 hb2; obtain ⟨v3, w3, hr3, hO3, hb3⟩ := HP.out _ w.heap.size _ (own_mono hO2 hB1.size) hB2.size; obtain ⟨b2, k2, rfl⟩ := own_form hO2; have HO3 := hide hO3; clear hO3 hO2 hr1)
  | (at_builtin; refine Lib.wpList_append_run _ rfl _ _ _ _ rfl _ _ rfl rfl _ _ hr3 ?_))
 go_ret
 exact ⟨_, rfl, HO3.out, hB2.trans hb3⟩
end Go.Proofs.YtjhididlcdepdaaGreat
