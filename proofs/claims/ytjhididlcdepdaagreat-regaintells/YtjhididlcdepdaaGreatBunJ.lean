import Derived.Test.YtjhididlcdepdaaGreatBunQ
set_option linter.unusedVariables false
set_option linter.unusedSimpArgs false
set_option maxRecDepth 100000
set_option maxHeartbeats 4000000
namespace Go.Proofs.YtjhididlcdepdaaGreat
open Go.RowKit Fld
theorem rat_any (v : Value) (xs : List Int) (k : Nat) (w : World) (hr : Row w v xs) (hk : k <= 17592186043904) :
 Calls Tryz.prog 168 #[v, .int .i64 k] w fun e w' => e = .returned (.int .u64 (co xs k)) ∧ w' = w := by
 obtain ⟨ao, cap, rfl, hlen, hw, hc⟩ := hr
 have k0 : (0 : Int) <= (k : Int) := Int.natCast_nonneg _
 by_cases hlt : k < xs.length
 · obtain ⟨b, off, rfl, hbl, hcell⟩ := hc (by intro h; rw [h] at hlt; simp at hlt)
   have hck := hcell k hlt
   have hco : xs.getD k 0 = co xs k := rfl
   rw [hco] at hck
   clear hco hcell hc
   generalize co xs k = x at *
   go_enter Tryz.func168, Tryz.ntmps168
   go_wp2
   go_ret
   exact ⟨rfl, rfl⟩
 · have HE := hide (co_out xs k (by omega))
   clear hc
   go_enter Tryz.func168, Tryz.ntmps168
   go_wp2
   go_ret
   exact ⟨ret_u64 HE.out.symm, rfl⟩
theorem app_step {w wr w1 : World} {v v1 : Value} {k : Nat} {F : Nat -> Int} {y : Int} {T : TypeId} (hB : Below w.heap.size w wr) (hown : wr.ownsRow w.heap.size T 1 v k (vals (mk k F)))
 (h1 : w1.ownsRow w.heap.size T 1 v1 (k + 1) (vals (mk k F) ++ [.int .u64 y])) (hg : (wr.alloc (.cells #[.int .u64 y] T)).grownBy w1 v.ownBlock) (hy : F k = y) :
 w1.ownsRow w.heap.size T 1 v1 (k + 1) (vals (mk (k + 1) F)) ∧ Below w.heap.size w w1 := push_step hB hown h1 hg (by rw [<- hy]; exact mk_snoc k F)
theorem dAdd_any (f : Int) (v1 v2 : Value) (xs ys : List Int) (w : World) (h1 : Rw w v1 xs) (h2 : Rw w v2 ys) : Gives 140 #[.int .u8 f, v1, v2] w (addL f xs ys) (er f xs ys) := by
 have hk := hide (fun W (hb : Below w.heap.size w W) => rBad_any f _ _ xs ys W (h1.below hb) (h2.below hb))
 obtain ⟨a1, c1, rfl, _⟩ := h1.spell
 obtain ⟨a2, c2, rfl, _⟩ := h2.spell
 unfold addL
 by_cases he : er f xs ys = 0
 · obtain ⟨p, wd, h, i1, i2, m1, m2⟩ := er_zero he
   obtain ⟨i0, hi0, hz0, hz1, hz2⟩ := info_parts u64_info
   rw [if_pos he, he, pOf_eq h]
   rw [he] at hk
   have hP := hide (fun W => rP_yes f p wd W h)
   have A1 := hide (fun W k (hb : Below w.heap.size w W) (hk : k <= 17592186043904) => rat_any _ xs k W (h1.1.below hb) hk)
   have A2 := hide (fun W k (hb : Below w.heap.size w W) (hk : k <= 17592186043904) => rat_any _ ys k W (h2.1.below hb) hk)
   have HS := hide (fun W k => rSum_any p (co xs k) (co ys k) W h.top ((els_of i1 h1.words).co h.pos k) ((els_of i2 h2.words).co h.pos k))
   have HE : Hid (tr (mk (max xs.length ys.length) (fun i => add p (co xs i) (co ys i))) = tr (sm p 1 xs ys)) := (is_mk h.pos (F := fun i => co xs i + co ys i) (fun i hi => by
    show (co xs i + co ys i) % p = 0
    rw [co_out xs i (by omega), co_out ys i (by omega)]; exact Int.zero_emod p)).only h.pos (is_add h.pos xs ys)
   have HR := hide (fun W v n base N (hN : N <= 17592186043904) (hO : World.ownsRow W base 64 1 v n (vals (mk N (fun i => add p (co xs i) (co ys i))))) => rw_of_own hO (by rw [mk_len]; exact hN) (els_words (els_mk_mod h.pos N (fun i => co xs i + co ys i)) h.top))
   rw [<- HE.out]
   have hcase : (xs.length < ys.length ∧ max xs.length ys.length = ys.length) ∨ (¬ xs.length < ys.length ∧ max xs.length ys.length = xs.length) := by omega
   clear h1 h2 h i1 i2 he HE
   obtain ⟨F, HF⟩ : ∃ F : Nat -> Int, Hid ((fun i => add p (co xs i) (co ys i)) = F) := ⟨_, rfl⟩
   have HFk : Hid (∀ k, add p (co xs k) (co ys k) = F k) := fun k => congrFun HF.out k
   rw [HF.out] at HR ⊢
   show Calls _ _ _ _ _
   rcases hcase with ⟨hlt, hN⟩ | ⟨hlt, hN⟩
   all_goals
    rw [hN]
    clear hN
    go_enter Tryz.func140, Tryz.ntmps140
    go_wp2_with (go_at_call 48; refine (hk.out _ (Below.refl _ _)).mono ?_; rintro e w1 ⟨rfl, hw⟩; rw [hw]; clear hw)
   · go_loopw [9, 10] (fun vo vi wr => ∃ k : Nat, k <= ys.length ∧ vi = .int .i64 k ∧ wr.ownsRow w.heap.size 64 1 vo k (vals (mk k F)) ∧ Below w.heap.size w wr) (fun _ vi _ => ys.length - (intOf vi).toNat)
     case atStart => exact ⟨0, Nat.zero_le _, rfl, World.ownsRow_nil _ _ _ _, Below.refl _ _⟩
     case round =>
      obtain ⟨k, hkl, rfl, hown, hB⟩ := hrel
      by_cases hlk : k < ys.length
      · have hbs := hB.size
        have a1' := hide (A1.out wr k hB (by omega))
        have a2' := hide (A2.out wr k hB (by omega))
        have s' := hide (fun W => HS.out W k)
        obtain ⟨y, HY⟩ : ∃ y, Hid (F k = y) := ⟨_, rfl⟩
        rw [HFk.out k, HY.out] at s'
        generalize co xs k = x1 at *
        generalize co ys k = x2 at *
        have hown2 := hown
        generalize hq : mk k F = q at hown2
        have HQ := hide hq
        clear hq
        go_wp2_with fail
        refine (hP.out _).mono ?_; rintro e w1 ⟨rfl, hw⟩; rw [hw]; clear hw
        go_wp2_with fail
        refine a1'.out.mono ?_; rintro e w1 ⟨rfl, hw⟩; rw [hw]; clear hw
        go_wp2_with fail
        refine a2'.out.mono ?_; rintro e w1 ⟨rfl, hw⟩; rw [hw]; clear hw
        go_wp2_with (first
         | (go_at_call 69; refine (s'.out _).mono ?_; rintro e w1 ⟨rfl, hw⟩; rw [hw]; clear hw)
         | (at_builtin; refine wpList_append_lies _ rfl _ _ _ rfl w.heap.size 64 i0 _ 1 8 Tryz.underlying36 hi0 hz0 hz1 hz2 rfl (by omega) u9 k _ rfl (hown2.alloc _) ⟨wr.heap.size, 0, none⟩ 1 1 [.int .u64 y] rfl rfl (World.news_of_block (cs := #[.int .u64 y]) (t := 64) (fr := (0, 0)) (heap_alloc_new wr _)) (by simp [Value.oneCell']) (by omega) (by unfold maxLen; omega) (by omega) (by simp; omega) (wr.heap.size + 1) (by simp) ?_; intro gg cap2 w3 hown3 hgrow hat hltg))
        rw [<- HQ.out] at hown3
        have R := hide (app_step hB hown hown3 hgrow HY.out)
        clear hown3 hgrow hat hltg hown hown2
        go_roundw
        case rel => exact ⟨k + 1, by omega, by go_num, R.out.1, R.out.2⟩
        case measure => simp [intOf]; omega
      · obtain rfl : k = ys.length := by omega
        have ht := hide (rTrim_any _ _ _ (HR.out wr u9 _ _ _ (by omega) hown))
        go_wp2_with (go_at_call 127; refine ht.out.mono ?_; rintro e w1 ⟨v', rfl, hO, hb⟩)
        go_ret2
        exact ⟨_, rfl, own_mono hO hB.size, Below.next hB hb⟩
   · go_loopw [9, 10] (fun vo vi wr => ∃ k : Nat, k <= xs.length ∧ vi = .int .i64 k ∧ wr.ownsRow w.heap.size 64 1 vo k (vals (mk k F)) ∧ Below w.heap.size w wr) (fun _ vi _ => xs.length - (intOf vi).toNat)
     case atStart => exact ⟨0, Nat.zero_le _, rfl, World.ownsRow_nil _ _ _ _, Below.refl _ _⟩
     case round =>
      obtain ⟨k, hkl, rfl, hown, hB⟩ := hrel
      by_cases hlk : k < xs.length
      · have hbs := hB.size
        have a1' := hide (A1.out wr k hB (by omega))
        have a2' := hide (A2.out wr k hB (by omega))
        have s' := hide (fun W => HS.out W k)
        obtain ⟨y, HY⟩ : ∃ y, Hid (F k = y) := ⟨_, rfl⟩
        rw [HFk.out k, HY.out] at s'
        generalize co xs k = x1 at *
        generalize co ys k = x2 at *
        have hown2 := hown
        generalize hq : mk k F = q at hown2
        have HQ := hide hq
        clear hq
        go_wp2_with fail
        refine (hP.out _).mono ?_; rintro e w1 ⟨rfl, hw⟩; rw [hw]; clear hw
        go_wp2_with fail
        refine a1'.out.mono ?_; rintro e w1 ⟨rfl, hw⟩; rw [hw]; clear hw
        go_wp2_with fail
        refine a2'.out.mono ?_; rintro e w1 ⟨rfl, hw⟩; rw [hw]; clear hw
        go_wp2_with (first
         | (go_at_call 69; refine (s'.out _).mono ?_; rintro e w1 ⟨rfl, hw⟩; rw [hw]; clear hw)
         | (at_builtin; refine wpList_append_lies _ rfl _ _ _ rfl w.heap.size 64 i0 _ 1 8 Tryz.underlying36 hi0 hz0 hz1 hz2 rfl (by omega) u9 k _ rfl (hown2.alloc _) ⟨wr.heap.size, 0, none⟩ 1 1 [.int .u64 y] rfl rfl (World.news_of_block (cs := #[.int .u64 y]) (t := 64) (fr := (0, 0)) (heap_alloc_new wr _)) (by simp [Value.oneCell']) (by omega) (by unfold maxLen; omega) (by omega) (by simp; omega) (wr.heap.size + 1) (by simp) ?_; intro gg cap2 w3 hown3 hgrow hat hltg))
        rw [<- HQ.out] at hown3
        have R := hide (app_step hB hown hown3 hgrow HY.out)
        clear hown3 hgrow hat hltg hown hown2
        go_roundw
        case rel => exact ⟨k + 1, by omega, by go_num, R.out.1, R.out.2⟩
        case measure => simp [intOf]; omega
      · obtain rfl : k = xs.length := by omega
        have ht := hide (rTrim_any _ _ _ (HR.out wr u9 _ _ _ (by omega) hown))
        go_wp2_with (go_at_call 127; refine ht.out.mono ?_; rintro e w1 ⟨v', rfl, hO, hb⟩)
        go_ret2
        exact ⟨_, rfl, own_mono hO hB.size, Below.next hB hb⟩
 · have ht : (er f xs ys != 0) = true := bne_iff_ne.2 he
   rw [if_neg he]
   clear h1 h2 he
   generalize er f xs ys = e0 at *
   apply Gives.none
   go_enter Tryz.func140, Tryz.ntmps140
   go_wp2_with (go_at_call 48; refine (hk.out _ (Below.refl _ _)).mono ?_; rintro e w1 ⟨rfl, hw⟩; rw [hw]; clear hw)
   go_ret2
   exact ⟨rfl, Below.refl _ _⟩
theorem dEval_any (f t : Int) (v : Value) (xs : List Int) (w : World) (hc : 0 <= t ∧ t <= 18446744073709551615) (h1 : Rw w v xs) :
 Calls Tryz.prog 35 #[.int .u8 f, v, .int .u64 t] w fun e w' => e = .returned (.tuple #[.int .u64 (valE f t xs), .int .i64 (er f xs [t])]) ∧ Below w.heap.size w w' := by
 obtain ⟨a1, c1, rfl, _⟩ := h1.spell
 have hk := hide (fun T => rBad_any f _ _ xs [t] _ (h1.below (alloc_below _ _)) (rw1 w t hc T))
 unfold valE
 by_cases he : er f xs [t] = 0
 · obtain ⟨p, wd, h, i1, i2, m1, m2⟩ := er_zero he
   rw [if_pos he, he, pOf_eq h]
   rw [he] at hk
   have hte : El p t := els_of i2 (by simp [hc]) t (List.mem_singleton.2 rfl)
   have hp0 := h.pos
   have hp1 := h.top
   have hp2 : 1 < p := by have := h.md.bounds; omega
   have hP := hide (fun W => rP_yes f p wd W h)
   have HX := hide (els_of i1 h1.words)
   have H0 := hide (px_zero hp2 t)
   have H1 := hide (lw_zero p t xs)
   have t0 := hte.1
   have t1 := hc.2
   have HL : Hid (lw p t xs xs.length = vl p t xs) := rfl
   rw [<- HL.out]
   obtain ⟨⟨a, c, hv, _, _, hcell⟩, _⟩ := h1
   cases hv
   clear h i1 i2 he HL
   go_enter Tryz.func35, Tryz.ntmps35
   go_wp2_with (go_at_call 48; refine (hk.out _).mono ?_; rintro e w1 ⟨rfl, hw⟩; rw [hw]; clear hw)
   go_loopw [9, 10, 11] (fun vs vp vi wr => ∃ k : Nat, k <= xs.length ∧ vi = .int .i64 k ∧ vs = .int .u64 (lw p t xs k) ∧ vp = .int .u64 (px p t k) ∧ Below w.heap.size w wr) (fun _ _ vi _ => xs.length - (intOf vi).toNat)
   case atStart => exact ⟨0, Nat.zero_le _, rfl, by rw [H1.out], by rw [H0.out], alloc_below _ _⟩
   case round =>
    obtain ⟨k, hkl, rfl, rfl, rfl, hB⟩ := hrel
    by_cases hlt : k < xs.length
    · obtain ⟨b, o, rfl, hbl, hcl⟩ := hcell (by intro h; rw [h] at hlt; simp at hlt)
      have d1 := (hB.cell (p := ⟨b, o + k, none⟩) hbl).trans (hcl k hlt)
      have HS := hide (lw_step p t xs k)
      have HQ := hide (px_step p t k)
      have e1 := lw_el hp0 t xs k
      have e2 := px_el hp0 t k
      have e3 := HX.out.co hp0 k
      have sm' := mul_el (a := co xs k) (b := px p t k) hp0
      have hco : xs.getD k 0 = co xs k := rfl
      rw [hco] at d1
      have k0 : (0 : Int) <= (k : Int) := Int.natCast_nonneg _
      have k1 : (k : Int) < (xs.length : Int) := by omega
      clear hco hcl hcell HX
      generalize co xs k = x at *
      generalize hs : lw p t xs k = s at *
      generalize hq : px p t k = q at *
      have sa := hide (fun W => rSum_any p s (mul p x q) W hp1 e1 sm')
      have sx := hide (fun W => rTimes_any p x q W hp1 e3 e2.1 (elWord e2 hp1).2)
      have st := hide (fun W => rTimes_any p q t W hp1 e2 t0 t1)
      rw [HS.out] at sa
      rw [HQ.out] at st
      clear e1 e2 e3 sm' hs hq HS HQ
      obtain ⟨s2, HS2⟩ : ∃ s2, Hid (lw p t xs (k + 1) = s2) := ⟨_, rfl⟩
      obtain ⟨q2, HQ2⟩ : ∃ q2, Hid (px p t (k + 1) = q2) := ⟨_, rfl⟩
      rw [HS2.out] at sa
      rw [HQ2.out] at st
      generalize mul p x q = z at *
      go_wp2_with fail
      go_quiet ((first
       | (go_at_call 70; exact Calls.quiet_of_same (hP.out _))
       | (go_at_call 71; exact Calls.quiet_of_same (sx.out _))
       | (go_at_call 69; exact Calls.quiet_of_same (sa.out _))))
      have hW2 := below_drewN hB nq
      clear hB d1
      go_wp2_with (first
       | (go_at_call 70; refine (hP.out _).mono ?_; rintro e w1 ⟨rfl, hw⟩; rw [hw]; clear hw)
       | (go_at_call 71; refine (st.out _).mono ?_; rintro e w1 ⟨rfl, hw⟩; rw [hw]; clear hw))
      go_roundw
      case rel => exact ⟨k + 1, by omega, by go_num, by rw [HS2.out], by rw [HQ2.out], hW2⟩
      case measure => simp [intOf]; omega
    · obtain rfl : k = xs.length := by omega
      clear hcell
      go_wp2
      go_ret2
      exact ⟨rfl, hB⟩
 · have ht : (er f xs [t] != 0) = true := bne_iff_ne.2 he
   rw [if_neg he]
   clear h1 he
   generalize er f xs [t] = e0 at *
   go_enter Tryz.func35, Tryz.ntmps35
   go_wp2_with (go_at_call 48; refine (hk.out _).mono ?_; rintro e w1 ⟨rfl, hw⟩; rw [hw]; clear hw)
   go_ret2
   exact ⟨rfl, alloc_below _ _⟩
end Go.Proofs.YtjhididlcdepdaaGreat
namespace Go.Proofs.YtjhididlcdepdaaGreat
def mute (s : Oper) : Oper := { s with op := .move (.const undef) }
def muteL : List Oper -> List Oper
 | [] => []
 | [s] => [mute s]
 | o :: o2 :: r => o :: muteL (o2 :: r)
def lastL : List Oper -> List Oper
 | [] => []
 | [s] => [s]
 | _ :: o2 :: r => lastL (o2 :: r)
theorem parted : ∀ (L : List Oper), L ≠ [] -> ∃ l s, L = l ++ [s] ∧ muteL L = l ++ [mute s] ∧ L.dropLast = l ∧ lastL L = [s]
 | [], h => absurd rfl h
 | [s], _ => ⟨[], s, rfl, rfl, rfl, rfl⟩
 | o :: o2 :: r, _ => by
  obtain ⟨l, s, h1, h2, h3, h4⟩ := parted (o2 :: r) (List.cons_ne_nil _ _)
  refine ⟨o :: l, s, by rw [h1]; rfl, ?_, ?_, ?_⟩
  · show o :: muteL (o2 :: r) = _; rw [h2]; rfl
  · show o :: (o2 :: r).dropLast = _; rw [h3]
  · show lastL (o2 :: r) = _; rw [h4]
def backB (L : List Oper) : Bool := (List.range L.length).all fun i => (L[i]?.map fun o => o.after.all fun e => decide (e.on < i)).getD true
def coverB (s : Oper) (n : Nat) : Bool := s.dst.isNone && s.guard.isNone && (List.range n).all fun i => s.after.any fun e => Region.binds .any e && e.on == i
def lastB (L : List Oper) : Bool := !L.isEmpty && backB L && ((lastL L).all fun s => coverB s (L.length - 1))
section
variable {P : Program} {C : World -> Prop}
theorem yielded_mute (l : List Oper) (s : Oper) (tmps : Array Value) : yielded (l ++ [mute s]).toArray tmps = yielded (l ++ [s]).toArray tmps := by
 funext j
 unfold yielded
 have : (((l ++ [mute s]).toArray)[j]?).bind (·.dst) = (((l ++ [s]).toArray)[j]?).bind (·.dst) := by
  simp only [List.getElem?_toArray]
  by_cases h : j < l.length
  · rw [List.getElem?_append_left h, List.getElem?_append_left h]
  · rw [List.getElem?_append_right (by omega), List.getElem?_append_right (by omega)]
    cases h2 : j - l.length with
    | zero => rfl
    | succ k => rfl
 rw [this]
theorem ready_mute (l : List Oper) (s : Oper) (listed : Array Bool) : Region.ready .any (l ++ [mute s]).toArray listed = Region.ready .any (l ++ [s]).toArray listed := by
 unfold Region.ready
 have hs : ((l ++ [mute s]).toArray).size = ((l ++ [s]).toArray).size := by simp
 rw [hs]
 apply List.filter_congr
 intro j _
 congr 1
 simp only [List.getElem?_toArray]
 by_cases h : j < l.length
 · rw [List.getElem?_append_left h, List.getElem?_append_left h]
 · rw [List.getElem?_append_right (by omega), List.getElem?_append_right (by omega)]
   cases h2 : j - l.length with
   | zero => rfl
   | succ k => rfl
theorem quiet_mute (ops : Array Oper) (Q : Act -> Prop) (s : Oper) (hd : s.dst = none) (hg : s.guard = none) (a : Act) (h : Q a) : wpQuiet P ops C Q [mute s] a := by
 have hw : Region.wanted (mute s) (yielded ops a.tmps) = true := by
  have : (mute s).guard = none := hg
  simp [Region.wanted, this]
 show (if Region.wanted (mute s) (yielded ops a.tmps) = true then _ else _)
 rw [if_pos hw]
 refine ⟨undef, fun w hw => ?_, ?_⟩
 · unfold Oper.quietAt
   show Oper.quietUpon P C w undef ((execOp a.eval (mute s)).run P w)
   simp [mute, execOp, Oper.quietUpon, go_sem]
 · have : (mute s).dst = none := hd
   rw [this]
   show Q (a.put none undef)
   exact h
theorem wpQuiet_app (ops ops' : Array Oper) (Q : Act -> Prop) (hy : ∀ t, yielded ops' t = yielded ops t) (m : List Oper) : ∀ (l : List Oper) (a : Act), wpQuiet P ops C (fun a' => wpQuiet P ops' C Q m a') l a -> wpQuiet P ops' C Q (l ++ m) a
 | [], a, h => h
 | o :: l, a, h => by
  show (if Region.wanted o (yielded ops' a.tmps) = true then _ else _)
  rw [hy]
  unfold wpQuiet at h
  split
  · rename_i hw
    rw [if_pos hw] at h
    exact Oper.quiet_mono (fun a' h' => wpQuiet_app ops ops' Q hy m l a' h') h
  · rename_i hw
    rw [if_neg hw] at h
    exact wpQuiet_app ops ops' Q hy m l _ h
theorem some_ready {ops : List Oper} (hb : backB ops = true) {listed : Array Bool} (hl : listed.size = ops.length) : ∀ (j : Nat), j < ops.length -> listed.getD j true = false -> Region.ready .any ops.toArray listed ≠ [] := by
 intro j
 induction j using Nat.strongRecOn with
 | _ j ih =>
  intro hj hu he
  obtain ⟨o, ho⟩ : ∃ o, ops[j]? = some o := ⟨_, List.getElem?_eq_getElem hj⟩
  by_cases hall : ∀ e ∈ o.after, Region.binds .any e = true -> listed.getD e.on false = true
  · have : j ∈ Region.ready .any ops.toArray listed := mem_ready.2 ⟨hu, o, by simpa using ho, hall⟩
    rw [he] at this; cases this
  · obtain ⟨e, h1⟩ := Classical.not_forall.1 hall
    obtain ⟨hm, h2⟩ := Classical.not_imp.1 h1
    obtain ⟨hbi, h3⟩ := Classical.not_imp.1 h2
    unfold backB at hb
    rw [List.all_eq_true] at hb
    have h4 := hb j (List.mem_range.2 hj)
    rw [ho] at h4
    simp only [Option.map_some, Option.getD_some] at h4
    have h5 := (Array.all_eq_true_iff_forall_mem.1 h4) e hm
    have hlt : e.on < j := by simpa using h5
    refine ih e.on hlt (by omega) ?_ he
    have hs : e.on < listed.size := by omega
    have : listed.getD e.on false = listed.getD e.on true := by simp [Array.getD, hs]
    rw [<- this]; simpa using h3
theorem all_listed {l : List Oper} {s : Oper} {n : Nat} (hc : coverB s n = true) (hn : l.length = n) {listed : Array Bool} (hr : n ∈ Region.ready .any (l ++ [s]).toArray listed) : Region.ready .any (l ++ [s]).toArray (listed.setIfInBounds n true) = [] := by
 obtain ⟨hu, o, ho, hall⟩ := mem_ready.1 hr
 have hos : o = s := by
  simp only [List.getElem?_toArray] at ho
  rw [List.getElem?_append_right (by omega), hn, Nat.sub_self] at ho
  simpa using ho.symm
 subst hos
 cases he : Region.ready .any (l ++ [o]).toArray (listed.setIfInBounds n true) with
 | nil => rfl
 | cons j r =>
  exfalso
  have hj : j ∈ Region.ready .any (l ++ [o]).toArray (listed.setIfInBounds n true) := by rw [he]; exact List.mem_cons_self
  obtain ⟨hju, oj, hoj, _⟩ := mem_ready.1 hj
  have hjl : j < l.length + 1 := by
   apply Nat.lt_of_not_le; intro hcn
   simp only [List.getElem?_toArray] at hoj
   rw [List.getElem?_eq_none (by simp; omega)] at hoj; cases hoj
  by_cases hjn : j = n
  · subst hjn
    by_cases hsz : j < listed.size
    · simp [hsz] at hju
    · simp [hsz] at hju
  · have h1 : listed.getD j true = false := by rw [getD_set_ne true (fun h => hjn h.symm)] at hju; exact hju
    unfold coverB at hc
    simp only [Bool.and_eq_true] at hc
    have h2 := List.all_eq_true.1 hc.2 j (List.mem_range.2 (by omega))
    rw [Array.any_eq_true'] at h2
    obtain ⟨e, hem, heb⟩ := h2
    simp only [Bool.and_eq_true, beq_iff_eq] at heb
    have h3 := hall e hem heb.1
    rw [heb.2] at h3
    by_cases hsz : j < listed.size
    · have : listed.getD j false = listed.getD j true := by simp [Array.getD, hsz]
      rw [this, h1] at h3; cases h3
    · simp [Array.getD, hsz] at h3
theorem any_last {l : List Oper} {s : Oper} {n : Nat} (hn : l.length = n) (hb : backB (l ++ [s]) = true) (hc : coverB s n = true) {Q : Exit -> Act -> World -> Prop} :
 ∀ (fuel : Nat) (listed : Array Bool) (a : Act) (w : World), C w -> listed.size = n + 1 -> listed.getD n true = false ->
 wpAnyQ P .any (l ++ [mute s]).toArray C (fun a' => ∀ w', C w' -> wpList P (l ++ [s]).toArray Q [s] a' w') fuel listed a -> wpAny P .any (l ++ [s]).toArray Q fuel listed a w := by
 have hlen : (l ++ [s]).length = n + 1 := by simp [hn]
 intro fuel
 induction fuel with
 | zero =>
  intro listed a w hw hsz hu h
  have := h.1
  rw [ready_mute] at this
  exact absurd this (some_ready hb (by omega) n (by omega) hu)
 | succ fuel ih =>
  intro listed a w hw hsz hu h
  refine ⟨fun h0 => absurd h0 (some_ready hb (by omega) n (by omega) hu), fun i hi => ?_⟩
  have h1 := h.2 i (by rw [ready_mute]; exact hi)
  by_cases hin : i = n
  · subst hin
    have hempty := all_listed hc hn hi
    have hcc := hc
    unfold coverB at hcc
    simp only [Bool.and_eq_true, Option.isNone_iff_eq_none] at hcc
    have hls : ((l ++ [s]).toArray)[i]? = some s := by simp [<- hn]
    have hlm : ((l ++ [mute s]).toArray)[i]? = some (mute s) := by simp [<- hn]
    obtain ⟨v, hy, hK⟩ := yieldsIn_of_qOp hlm h1
    have hd : (mute s).dst = none := hcc.1.1
    rw [hd] at hK
    have hQ : ∀ w', C w' -> wpList P (l ++ [s]).toArray Q [s] a w' := by
     have hK' : wpAnyQ P .any (l ++ [mute s]).toArray C (fun a' => ∀ w', C w' -> wpList P (l ++ [s]).toArray Q [s] a' w') fuel (listed.setIfInBounds i true) a := hK
     cases fuel with
     | zero => exact hK'.2
     | succ fuel => exact hK'.1 (by rw [ready_mute]; exact hempty)
    have h2 := hQ w hw
    have hnext : ∀ a' w', Q .normal a' w' -> wpAny P .any (l ++ [s]).toArray Q fuel (listed.setIfInBounds i true) a' w' := by
     intro a' w' hq
     cases fuel with
     | zero => exact ⟨hempty, hq⟩
     | succ fuel => exact ⟨fun _ => hq, fun j hj => by rw [hempty] at hj; cases hj⟩
    refine wpOp_mono hnext ?_
    unfold wpOp
    simp only [hls]
    exact h2
  · have hil : i < l.length := by
     obtain ⟨_, o, ho, _⟩ := mem_ready.1 hi
     apply Nat.lt_of_not_le; intro hcn
     simp only [List.getElem?_toArray] at ho
     rw [List.getElem?_eq_none (by simp; omega)] at ho; cases ho
    have h2 := wpOp_of_qOp (Q' := Q) (K' := wpAny P .any (l ++ [s]).toArray Q fuel (listed.setIfInBounds i true)) hw (fun a' w' hw' hk => ih _ a' w' hw' (by simpa using hsz) (by rw [getD_set_ne true hin]; exact hu) hk) h1
    have e1 : ((l ++ [mute s]).toArray)[i]? = ((l ++ [s]).toArray)[i]? := by
     simp only [List.getElem?_toArray]
     rw [List.getElem?_append_left hil, List.getElem?_append_left hil]
    unfold wpOp at h2 ⊢
    rw [e1] at h2
    simp only [yielded_mute] at h2
    exact h2
theorem wp_region_last {id : Nat} {Q : Exit -> Act -> World -> Prop} {a : Act} {w : World} {L : List Oper} (hm : P.follows .mixedOrders = true) (hB : Region.lexB .any (muteL L).toArray = true) (hL : lastB L = true)
 (h : wpQuiet P L.toArray (fun w' => ∃ n, w' = w.drewN n) (fun a' => ∀ w', (∃ n, w' = w.drewN n) -> wpList P L.toArray Q (lastL L) a' w') L.dropLast a) : (Code.region id L.toArray true).wp P Q a w := by
 unfold lastB at hL
 simp only [Bool.and_eq_true] at hL
 obtain ⟨⟨hne, hb⟩, hc⟩ := hL
 obtain ⟨l, s, rfl, h2, h3, h4⟩ := parted L (by intro h; rw [h] at hne; simp at hne)
 rw [h2] at hB
 rw [h3, h4] at h
 rw [h4] at hc
 have hc : coverB s l.length = true := by simpa using hc
 have hcc := hc
 unfold coverB at hcc
 simp only [Bool.and_eq_true, Option.isNone_iff_eq_none] at hcc
 have hq : wpQuiet P (l ++ [mute s]).toArray (fun w' => ∃ n, w' = w.drewN n) (fun a' => ∀ w', (∃ n, w' = w.drewN n) -> wpList P (l ++ [s]).toArray Q [s] a' w') (l ++ [mute s]) a := by
  refine wpQuiet_app (l ++ [s]).toArray _ _ (fun t => yielded_mute l s t) [mute s] l a ?_
  have mono : ∀ (Q1 Q2 : Act -> Prop), (∀ a, Q1 a -> Q2 a) -> ∀ (m : List Oper) (a : Act), wpQuiet P (l ++ [s]).toArray (fun w' => ∃ n, w' = w.drewN n) Q1 m a -> wpQuiet P (l ++ [s]).toArray (fun w' => ∃ n, w' = w.drewN n) Q2 m a := by
   intro Q1 Q2 h12 m
   induction m with
   | nil => intro a h; exact h12 a h
   | cons o m ihm =>
    intro a h
    unfold wpQuiet at h ⊢
    split
    · rename_i hw; rw [if_pos hw] at h; exact Oper.quiet_mono ihm h
    · rename_i hw; rw [if_neg hw] at h; exact ihm _ h
  exact mono _ _ (fun a' h' => quiet_mute _ _ s hcc.1.1 hcc.1.2 a' h') l a h
 simp only [Region.lexB, Bool.and_eq_true] at hB
 have hlex := wpAnyQ_lex (C := fun w' => ∃ n, w' = w.drewN n) (md := .any) hB.1 (l ++ [mute s]) 0 (Array.replicate (l ++ [mute s]).toArray.size false) a (by simp) (by simpa using hB.2) hq
 refine wp_region_any hm ?_
 have e : ((l ++ [s]).toArray).size = (l ++ [mute s]).length := by simp
 have e2 : (l ++ [mute s]).toArray.size = (l ++ [mute s]).length := by simp
 rw [e]
 rw [e2] at hlex
 exact any_last rfl hb hc _ _ _ _ ⟨1, rfl⟩ (by simp) (by simp [Array.getD]) hlex
end
end Go.Proofs.YtjhididlcdepdaaGreat
namespace Go.Proofs.YtjhididlcdepdaaGreat
open Go.RowKit Fld
def rk (p : Int) (xs ys : List Int) (n j : Nat) : List Int := mk (xs.length + ys.length - 1) (fun i => rw' xs ys n j i % p)
theorem rk_len (p : Int) (xs ys : List Int) (n j : Nat) : (rk p xs ys n j).length = xs.length + ys.length - 1 := mk_len _ _
theorem els_rk {p : Int} (hp : 0 < p) (xs ys : List Int) (n j : Nat) : Els p (rk p xs ys n j) := els_mk_mod hp _ _
theorem rk_start (p : Int) (xs ys : List Int) (n : Nat) : rk p xs ys n 0 = pk p xs ys n := by unfold rk pk; congr 1; funext i; rw [rw_start]
theorem rk_end (p : Int) (xs ys : List Int) (n : Nat) : rk p xs ys n ys.length = pk p xs ys (n + 1) := by unfold rk pk; congr 1; funext i; rw [rw_end]
theorem rk_step {p : Int} {xs ys : List Int} {n j : Nat} (h : n + j < xs.length + ys.length - 1) : (rk p xs ys n j).set (n + j) (add p (co (rk p xs ys n j) (n + j)) (mul p (co xs n) (co ys j))) = rk p xs ys n (j + 1) := by
 apply ext_co (by rw [List.length_set, rk_len, rk_len])
 intro i hi
 rw [List.length_set, rk_len] at hi
 rw [co_set _ _ _ _ (by rw [rk_len]; exact h)]
 unfold rk
 rw [co_mk, co_mk, co_mk, if_pos hi, if_pos hi, if_pos h, rw_step]
 by_cases he : i = n + j
 · subst he
   rw [if_pos rfl, if_pos rfl]
   unfold add mul
   rw [Int.add_emod, Int.emod_emod_of_dvd _ (Int.dvd_refl p), Int.emod_emod_of_dvd _ (Int.dvd_refl p), <- Int.add_emod]
 · rw [if_neg he, if_neg he]
theorem store_step {w2 wr : World} {base g n cap k : Nat} {ys : List Int} {z : Int} {T : TypeId} (hO : wr.ownsRow base T 1 (.slice (some ⟨g, 0, none⟩) n cap) n (vals ys)) (hB : Below w2.heap.size w2 wr) (hg : w2.heap.size <= g) (nq : Nat) :
 ((wr.drewN nq).setCell ⟨g, k, none⟩ (.int .u64 z)).ownsRow base T 1 (.slice (some ⟨g, 0, none⟩) n cap) n (vals (ys.set k z)) ∧ Below w2.heap.size w2 ((wr.drewN nq).setCell ⟨g, k, none⟩ (.int .u64 z)) :=
 ⟨(spoil_step (own_below hO (below_drewN (Below.refl _ wr) nq)) (grown_refl _ _) (.inl rfl)).1, (below_drewN hB nq).setCell (p := ⟨g, k, none⟩) hg _⟩
theorem dMul_any (f : Int) (v1 v2 : Value) (xs ys : List Int) (w : World) (h1 : Rw w v1 xs) (h2 : Rw w v2 ys) : Gives 166 #[.int .u8 f, v1, v2] w (mulL f xs ys) (mulE f xs ys) := by
 have hk := hide (fun W (hb : Below w.heap.size w W) => rBad_any f _ _ xs ys W (h1.below hb) (h2.below hb))
 by_cases he : er f xs ys = 0
 · obtain ⟨p, wd, h, i1, i2, m1, m2⟩ := er_zero he
   obtain ⟨i0, hi0, hz0, hz1, hz2⟩ := info_parts u64_info
   rw [he] at hk
   have t1 := hide (fun W (hb : Below w.heap.size w W) => rTrim_any _ xs W (h1.below hb))
   have t2 := hide (fun W (hb : Below w.heap.size w W) => rTrim_any _ ys W (h2.below hb))
   have n1 := tr_len xs
   have n2 := tr_len ys
   have X1 := (els_of i1 h1.words).tr h.pos
   have X2 := (els_of i2 h2.words).tr h.pos
   have Y1 := tr_tr xs
   have Y2 := tr_tr ys
   have R1 := hide (fun W u n base (hO : World.ownsRow W base 64 1 u n (vals (tr xs))) => rw_of_own hO (by omega) (els_words X1 h.top))
   have R2 := hide (fun W u n base (hO : World.ownsRow W base 64 1 u n (vals (tr ys))) => rw_of_own hO (by omega) (els_words X2 h.top))
   have HME : Hid (mulE f xs ys = if 4096 < (tr xs).length + (tr ys).length - 1 then 4 else 0) := by show _ = _; unfold mulE; rw [if_pos he]
   have HML : Hid (mulL f xs ys = if mulE f xs ys = 0 then prd p (tr xs) (tr ys) else []) := by show _ = _; unfold mulL; rw [pOf_eq h]
   rw [HML.out, HME.out]
   clear h1 h2 he HME HML
   generalize tr xs = zs at *
   generalize tr ys = us at *
   by_cases ez : zs = []
   · subst ez
     have HG : Hid (prd p [] us = []) := by show _ = _; unfold prd; rw [if_pos (.inl rfl)]
     have hn : ¬ 4096 < ([] : List Int).length + us.length - 1 := by simp; omega
     rw [if_neg hn, if_pos rfl, HG.out]
     apply Gives.none
     clear hn HG
     go_enter Tryz.func166, Tryz.ntmps166
     go_wp2_with fail
     refine (hk.out _ (Below.refl _ _)).mono ?_; rintro e w1 ⟨rfl, hw⟩; rw [hw]; clear hw
     go_wp2_with fail
     refine (t1.out _ (Below.refl _ _)).mono ?_; rintro e w1 ⟨u1, rfl, hO1, hb1⟩
     obtain ⟨a1, c1, rfl, _⟩ := (R1.out _ _ _ _ hO1).spell
     go_wp2_with fail
     refine (t2.out _ hb1).mono ?_; rintro e w2 ⟨u2, rfl, hO2, hb2⟩
     obtain ⟨a2, c2, rfl, _⟩ := (R2.out _ _ _ _ hO2).spell
     clear hO1 hO2
     go_wp2
     go_ret2
     exact ⟨rfl, Below.next hb1 hb2⟩
   by_cases eu : us = []
   · subst eu
     have pz := List.length_pos_iff.2 ez
     have bz : ((zs.length : Int) == 0) = false := beq_eq_false_iff_ne.2 (by omega)
     have HG : Hid (prd p zs [] = []) := by show _ = _; unfold prd; rw [if_pos (.inr rfl)]
     have hn : ¬ 4096 < zs.length + ([] : List Int).length - 1 := by simp; omega
     rw [if_neg hn, if_pos rfl, HG.out]
     apply Gives.none
     clear hn HG ez
     go_enter Tryz.func166, Tryz.ntmps166
     go_wp2_with fail
     refine (hk.out _ (Below.refl _ _)).mono ?_; rintro e w1 ⟨rfl, hw⟩; rw [hw]; clear hw
     go_wp2_with fail
     refine (t1.out _ (Below.refl _ _)).mono ?_; rintro e w1 ⟨u1, rfl, hO1, hb1⟩
     obtain ⟨a1, c1, rfl, _⟩ := (R1.out _ _ _ _ hO1).spell
     go_wp2_with fail
     refine (t2.out _ hb1).mono ?_; rintro e w2 ⟨u2, rfl, hO2, hb2⟩
     obtain ⟨a2, c2, rfl, _⟩ := (R2.out _ _ _ _ hO2).spell
     clear hO1 hO2
     go_wp2
     go_ret2
     exact ⟨rfl, Below.next hb1 hb2⟩
   have pz := List.length_pos_iff.2 ez
   have pu := List.length_pos_iff.2 eu
   have bz : ((zs.length : Int) == 0) = false := beq_eq_false_iff_ne.2 (by omega)
   have bu : ((us.length : Int) == 0) = false := beq_eq_false_iff_ne.2 (by omega)
   by_cases hm : 4096 < zs.length + us.length - 1
   · rw [if_pos hm, if_neg (by decide)]
     apply Gives.none
     clear ez eu
     go_enter Tryz.func166, Tryz.ntmps166
     go_wp2_with fail
     refine (hk.out _ (Below.refl _ _)).mono ?_; rintro e w1 ⟨rfl, hw⟩; rw [hw]; clear hw
     go_wp2_with fail
     refine (t1.out _ (Below.refl _ _)).mono ?_; rintro e w1 ⟨u1, rfl, hO1, hb1⟩
     obtain ⟨a1, c1, rfl, _⟩ := (R1.out _ _ _ _ hO1).spell
     go_wp2_with fail
     refine (t2.out _ hb1).mono ?_; rintro e w2 ⟨u2, rfl, hO2, hb2⟩
     obtain ⟨a2, c2, rfl, _⟩ := (R2.out _ _ _ _ hO2).spell
     clear hO1 hO2
     go_wp2
     go_ret2
     exact ⟨rfl, Below.next hb1 hb2⟩
   rw [if_neg hm, if_pos rfl]
   obtain ⟨N, HN⟩ : ∃ N, Hid (N = zs.length + us.length - 1) := ⟨_, rfl⟩
   have hN1 : N + 1 = zs.length + us.length := by have := HN.out; omega
   have hN2 : N <= 4096 := by have := HN.out; omega
   have HAL := hide (pk_all (p := p) ez eu)
   have HZ := hide (pk_zero p zs us)
   rw [<- HN.out] at HZ
   have HLen : Hid ((prd p zs us).length = N) := by show _ = _; rw [prd_len p zs us ez eu, HN.out]
   have HTR : Hid (tr (prd p zs us) = prd p zs us) := (is_prd h.md X1 X2 Y1 Y2).2.1
   have HST := hide (fun n => rk_start p zs us n)
   have HEN := hide (fun n => rk_end p zs us n)
   have HSP := hide (fun n j (h : n + j < N) => rk_step (p := p) (xs := zs) (ys := us) (n := n) (j := j) (by rw [<- HN.out]; exact h))
   have hp0 := h.pos
   have hp1 := h.top
   have hP := hide (fun W => rP_yes f p wd W h)
   have HSum := hide (fun W n j => rSum_any p (co (rk p zs us n j) (n + j)) (mul p (co zs n) (co us j)) W h.top ((els_rk h.pos zs us n j).co h.pos _) (mul_el h.pos))
   have HTim := hide (fun W n j => rTimes_any p (co zs n) (co us j) W h.top (X1.co h.pos n) (X2.co h.pos j).1 (elWord (X2.co h.pos j) h.top).2)
   have HPW := hide (els_words (els_prd h.pos zs us) h.top)
   have HKL : Hid (∀ n j, (rk p zs us n j).length = N) := fun n j => by rw [rk_len]; exact HN.out.symm
   clear ez eu h X1 X2 Y1 Y2 i1 i2 HN
   show Calls _ _ _ _ _
   go_enter Tryz.func166, Tryz.ntmps166
   go_wp2_with fail
   refine (hk.out _ (Below.refl _ _)).mono ?_; rintro e w1 ⟨rfl, hw⟩; rw [hw]; clear hw
   go_wp2_with fail
   refine (t1.out _ (Below.refl _ _)).mono ?_; rintro e w1 ⟨u1, rfl, hO1, hb1⟩
   have r1 := R1.out _ _ _ _ hO1
   go_wp2_with fail
   refine (t2.out _ hb1).mono ?_; rintro e w2 ⟨u2, rfl, hO2, hb2⟩
   have r1 := r1.below hb2
   have r2 := R2.out _ _ _ _ hO2
   have hB2 := Below.next hb1 hb2
   clear hO1 hO2 hb1 hb2 t1 t2 hk R1 R2
   obtain ⟨⟨a1, c1, rfl, _, _, hc1⟩, _⟩ := r1
   obtain ⟨⟨a2, c2, rfl, _, _, hc2⟩, _⟩ := r2
   have hs2 := hB2.size
   go_wp2_with (at_make; refine wpList_make_full _ rfl _ _ 36 rfl w.heap.size 64 i0 (.int .u64 0) 1 Tryz.underlying36 hi0 hz0 hz1 .i64 .i64 _ _ N rfl rfl (by omega) (by omega) (by rw [hz2]; omega) (by unfold maxLen; omega) hs2 ?_; intro w3 hown hgrow; have hO := own_made hown; have hB3 := below_grown_none hgrow; have hG3 := hgrow.size; clear hown)
   rw [<- HZ.out] at hO
   clear hgrow
   go_loopw [10] (fun vk wr => ∃ k : Nat, k <= zs.length ∧ vk = .int .i64 k ∧ wr.ownsRow w.heap.size 64 1 (.slice (some ⟨w2.heap.size, 0, none⟩) N N) N (vals (pk p zs us k)) ∧ Below w2.heap.size w2 wr) (fun vk _ => zs.length - (intOf vk).toNat)
   case atStart => exact ⟨0, Nat.zero_le _, rfl, hO, hB3⟩
   case round =>
    clear hO hB3
    obtain ⟨k, hk, rfl, hO, hB⟩ := hrel
    by_cases hlt : k < zs.length
    · obtain ⟨b1, o1, rfl, hbl1, hcl1⟩ := hc1 (by intro h; rw [h] at hlt; simp at hlt)
      obtain ⟨b2, o2, rfl, hbl2, hcl2⟩ := hc2 (by intro h; rw [h] at pu; simp at pu)
      rw [<- HST.out k] at hO
      go_wp2_with fail
      go_loopw [11] (fun vj wr => ∃ j : Nat, j <= us.length ∧ vj = .int .i64 j ∧ wr.ownsRow w.heap.size 64 1 (.slice (some ⟨w2.heap.size, 0, none⟩) N N) N (vals (rk p zs us k j)) ∧ Below w2.heap.size w2 wr) (fun vj _ => us.length - (intOf vj).toNat)
      case atStart => exact ⟨0, Nat.zero_le _, rfl, hO, hB⟩
      case round =>
       clear hO hB
       obtain ⟨j, hj, rfl, hO, hB⟩ := hrel
       by_cases hlj : j < us.length
       · have d1 := (hB.cell (p := ⟨b1, o1 + k, none⟩) hbl1).trans (hcl1 k hlt)
         have d2 := (hB.cell (p := ⟨b2, o2 + j, none⟩) hbl2).trans (hcl2 j hlj)
         have hkj : k + j < N := by omega
         have d3 := own_cell hO (HKL.out k j) hkj
         have d4 := hO.frozenAt (k + j)
         have hs := hide (fun W => HSum.out W k j)
         have ht := hide (fun W => HTim.out W k j)
         have hp := hide (HSP.out k j hkj)
         have e1 : zs.getD k 0 = co zs k := rfl
         have e2 : us.getD j 0 = co us j := rfl
         have e3 : (rk p zs us k j).getD (k + j) 0 = co (rk p zs us k j) (k + j) := rfl
         rw [e1] at d1
         rw [e2] at d2
         rw [e3] at d3
         clear e1 e2 e3 hcl1 hcl2 hc1 hc2
         generalize hz : co (rk p zs us k j) (k + j) = z at *
         generalize co zs k = x at *
         generalize co us j = y at *
         generalize hq : mul p x y = q at *
         generalize hr : add p z q = r at *
         have k0 : (0 : Int) <= (k : Int) := Int.natCast_nonneg _
         have j0 : (0 : Int) <= (j : Int) := Int.natCast_nonneg _
         have k1 : (k : Int) < (zs.length : Int) := by omega
         have j1 : (j : Int) < (us.length : Int) := by omega
         have kj0 : (0 : Int) <= (k : Int) + (j : Int) := by omega
         have kj1 : (k : Int) + (j : Int) < (N : Int) := by omega
         clear hq hr hz HSum HTim HSP
         have HO := hide hO
         clear hO
         go_wp2_with fail
         refine wp_region_last (by kernel_rfl) (by kernel_rfl) (by kernel_rfl) ?_
         simp only [List.dropLast]
         repeat (go_big_quiet_step (first
          | (go_at_call 70; exact Calls.quiet_of_same (hP.out _))
          | (go_at_call 71; exact Calls.quiet_of_same (ht.out _))
          | (go_at_call 69; exact Calls.quiet_of_same (hs.out _))))
         refine wpQuiet_nil ?_
         intro _ hw'
         obtain ⟨nq, hw''⟩ := hw'
         subst hw''
         simp only [lastL]
         go_wp2
         have R := hide (store_step (z := r) (k := k + j) HO.out hB (Nat.le_refl _) nq)
         rw [hp.out] at R
         go_roundw
         case rel => exact ⟨j + 1, by omega, by go_num, R.out.1, R.out.2⟩
         case measure => simp [intOf]; omega
       · obtain rfl : j = us.length := by omega
         rw [HEN.out k] at hO
         clear hc1 hc2 hcl1 hcl2
         go_wp2
         go_roundw
         case rel => exact ⟨k + 1, by omega, by go_num, hO, hB⟩
         case measure => simp [intOf]; omega
    · obtain rfl : k = zs.length := by omega
      rw [HAL.out] at hO
      have ht := hide (rTrim_any _ _ _ (rw_of_own hO (by rw [HLen.out]; omega) HPW.out))
      rw [HTR.out] at ht
      clear hc1 hc2
      go_wp2_with (go_at_call 127; refine ht.out.mono ?_; rintro e w5 ⟨v', rfl, hO5, hb5⟩)
      go_ret2
      have hB5 := hB2.trans (hB.mono hs2)
      exact ⟨_, rfl, own_mono hO5 hB5.size, Below.next hB5 hb5⟩
 · have ht : (er f xs ys != 0) = true := bne_iff_ne.2 he
   have HE : Hid (mulE f xs ys = er f xs ys) := by show _ = _; unfold mulE; rw [if_neg he]
   have HL : Hid (mulL f xs ys = []) := by show _ = _; unfold mulL; rw [HE.out, if_neg he]
   rw [HE.out, HL.out]
   clear h1 h2 he HE HL
   generalize er f xs ys = e0 at *
   apply Gives.none
   go_enter Tryz.func166, Tryz.ntmps166
   go_wp2_with (go_at_call 48; refine (hk.out _ (Below.refl _ _)).mono ?_; rintro e w1 ⟨rfl, hw⟩; rw [hw]; clear hw)
   go_ret2
   exact ⟨rfl, Below.refl _ _⟩
theorem scl_mul {f c p : Int} {wd : Bool} {xs : List Int} (h : Fi f p wd) (he : er f [c] xs = 0) (hc : El p c) (hx : Els p xs) (hl : xs.length <= 4096) : mulE f [c] xs = 0 ∧ mulL f [c] xs = sclL f c xs := by
 have n1 := tr_len [c]
 have n2 := tr_len xs
 have e1 : mulE f [c] xs = 0 := by
  unfold mulE; rw [if_pos he, if_neg (by simp at n1; omega)]
 refine ⟨e1, ?_⟩
 have hc' : Els p [c] := fun x hx => by rw [List.mem_singleton.1 hx]; exact hc
 unfold mulL sclL
 rw [if_pos e1, if_pos he, pOf_eq h]
 have i1 := is_prd h.md (hc'.tr h.pos) (hx.tr h.pos) (tr_tr _) (tr_tr _)
 rw [cv_tr] at i1
 exact i1.only h.pos (is_scale h.pos c xs)
theorem dScale_any (f c : Int) (v : Value) (xs : List Int) (w : World) (hc : 0 <= c ∧ c <= 18446744073709551615) (h1 : Rw w v xs) : Gives 139 #[.int .u8 f, .int .u64 c, v] w (sclL f c xs) (er f [c] xs) := by
 have hi := hide (fun T => rIn_any f _ [c] _ (row1 w c hc T))
 cases hin : inF f [c] with
 | false =>
  have he : er f [c] xs = 2 := by unfold er erb; rw [hin]; rfl
  have hl : sclL f c xs = [] := by unfold sclL; rw [he]; rfl
  rw [he, hl]
  rw [hin] at hi
  clear h1 he hl hin
  apply Gives.none
  go_enter Tryz.func139, Tryz.ntmps139
  go_wp2_with (go_at_call 40; refine (hi.out _).mono ?_; rintro e w1 ⟨rfl, hw⟩; rw [hw]; clear hw)
  go_ret2
  exact ⟨rfl, alloc_below _ _⟩
 | true =>
  rw [hin] at hi
  have hE : mulE f [c] xs = er f [c] xs ∧ mulL f [c] xs = sclL f c xs := by
   by_cases he : er f [c] xs = 0
   · obtain ⟨p, wd, h, i1, i2, m1, m2⟩ := er_zero he
     have := scl_mul h he (els_of i1 (by simp [hc]) c (List.mem_singleton.2 rfl)) (els_of i2 h1.words) m2
     rw [he]; exact this
   · have e1 : mulE f [c] xs = er f [c] xs := by unfold mulE; rw [if_neg he]
     refine ⟨e1, ?_⟩
     unfold mulL sclL
     rw [e1, if_neg he, if_neg he]
  have hm := hide (fun T T2 => dMul_any f _ v [c] xs _ (rw1 (w.alloc (.cells #[.int .u64 c] T)) c hc T2) (h1.below ((alloc_below w (.cells #[.int .u64 c] T)).trans ((alloc_below _ _).mono (by simp)))))
  rw [hE.1, hE.2] at hm
  have e2 : ∀ T, (w.alloc (.cells #[.int .u64 c] T)).heap.size = w.heap.size + 1 := fun T => by simp
  have HB := hide (fun T T2 W (hb : Below ((w.alloc (.cells #[.int .u64 c] T)).alloc (.cells #[.int .u64 c] T2)).heap.size ((w.alloc (.cells #[.int .u64 c] T)).alloc (.cells #[.int .u64 c] T2)) W) => below_one (below_one hb))
  unfold Gives at hm
  simp only [e2] at hm
  clear e2 hE hin h1
  show Calls _ _ _ _ _
  generalize sclL f c xs = zs at *
  generalize er f [c] xs = e0 at *
  go_enter Tryz.func139, Tryz.ntmps139
  go_wp2_with (first
   | (go_at_call 40; refine (hi.out _).mono ?_; rintro e w1 ⟨rfl, hw⟩; rw [hw]; clear hw)
   | (go_at_call 166; refine (hm.out _ _).mono ?_; rintro e w2 ⟨v', rfl, hO, hb⟩))
  go_ret2
  exact ⟨_, rfl, own_mono hO (by simp; omega), HB.out _ _ _ hb⟩
namespace Fld
def DI (p : Int) (xs qs A R : List Int) (m k : Nat) : Prop :=
 Els p A ∧ Els p R ∧ (∀ i, i < k -> co A i = 0) ∧ (∀ i, k + m <= i -> co R i = 0) ∧ Al p (fun i => cv (co A) (co qs) i + co R i) (co xs)
theorem co_rep (n i : Nat) : co (List.replicate n 0) i = 0 := by
 unfold co
 rw [List.getD_eq_getElem?_getD, List.getElem?_replicate]
 split <;> rfl
theorem els_rep {p : Int} (hp : 0 < p) (n : Nat) : Els p (List.replicate n 0) := fun x hx => by rw [List.eq_of_mem_replicate hx]; exact ⟨Int.le_refl 0, hp⟩
theorem DI.start {p : Int} {xs qs : List Int} {n m : Nat} (hp : 0 < p) (hx : Els p xs) (h : (tr xs).length <= n + m) : DI p xs qs (List.replicate n 0) (tr xs) m n :=
 ⟨els_rep hp n, hx.tr hp, fun i _ => co_rep n i, fun i hi => by rw [co_tr]; exact tr_out xs i (by omega), fun i => by
  show (cv (co (List.replicate n 0)) (co qs) i + co (tr xs) i) % p = co xs i % p
  rw [cv_zero_left _ i _ (fun j _ => co_rep n j), Int.zero_add, co_tr]⟩
theorem DI.skip {p : Int} {xs qs A R : List Int} {m k : Nat} (h : DI p xs qs A R m (k + 1)) (h0 : co R (k + m) = 0) : DI p xs qs A R m k :=
 ⟨h.1, h.2.1, fun i hi => h.2.2.1 i (by omega), fun i hi => by
  by_cases he : i = k + m
  · rw [he]; exact h0
  · exact h.2.2.2.1 i (by omega), h.2.2.2.2⟩
theorem neg_mod (p r c q : Int) : (r + sub p 0 c * q) % p = (r - c * q) % p := by
 unfold sub
 rw [Int.add_emod, Int.mul_emod, Int.emod_emod_of_dvd _ (Int.dvd_refl p), <- Int.mul_emod, <- Int.add_emod, Int.sub_mul, Int.zero_mul]
 congr 1; omega
theorem top_gone {p r q iv : Int} (hi : (q * iv) % p = 1 % p) : (r - (r * iv) % p * q) % p = 0 := by
 have e : ((r * iv) % p * q) % p = r % p := by
  rw [Int.mul_emod, Int.emod_emod_of_dvd _ (Int.dvd_refl p), <- Int.mul_emod, Int.mul_assoc, Int.mul_comm iv q, Int.mul_emod, hi, <- Int.mul_emod, Int.mul_one]
 rw [Int.sub_emod, e, Int.sub_self]; rfl
theorem DI.step {p c iv : Int} {xs qs A R : List Int} {m k : Nat} (hp : 0 < p) (hq : qs.length = m + 1) (hi : (co qs m * iv) % p = 1 % p) (hc : c = (co R (k + m) * iv) % p) (hA : k < A.length) (hR : k + m < R.length)
 (h : DI p xs qs A R m (k + 1)) : DI p xs qs (A.set k c) (gr p (sub p 0 c) k qs R qs.length) m k := by
 obtain ⟨h1, h2, h3, h4, h5⟩ := h
 refine ⟨Els.of_co fun i _ => ?_, els_gr hp h2 _, fun i hi' => ?_, fun i hi' => ?_, div_step h5 (d := k) (c := c) (fun i => ?_) (fun i => ?_)⟩
 · rw [co_set _ _ _ _ hA]; split
   · rw [hc]; exact emod_el hp _
   · exact h1.co hp i
 · rw [co_set _ _ _ _ hA, if_neg (by omega)]; exact h3 i (by omega)
 · rw [co_gr]
   by_cases he : i = k + m
   · subst he
     have e : k + m - k = m := by omega
     rw [if_pos (by omega), e, neg_mod, hc]
     exact top_gone hi
   · rw [if_neg (by omega)]; exact h4 i (by omega)
 · rw [co_set _ _ _ _ hA]
   unfold pt
   by_cases he : i = k
   · rw [if_pos he, if_pos he, he, h3 k (by omega), Int.zero_add]
   · rw [if_neg he, if_neg he, Int.add_zero]
 · rw [co_gr]
   by_cases hk : k <= i
   · rw [if_pos hk]
     by_cases hr : i < k + qs.length
     · rw [if_pos (by omega), Int.emod_emod_of_dvd _ (Int.dvd_refl p), neg_mod]
     · rw [if_neg (by omega), co_out qs (i - k) (by omega), Int.mul_zero, Int.sub_zero]
   · rw [if_neg (by omega), if_neg hk, Int.sub_zero]
theorem DI.fin {p : Int} {wd : Bool} {xs qs A R : List Int} {m n : Nat} (hm : Md p wd) (hx : Els p xs) (tq : tr qs = qs) (hq : qs.length = m + 1) (hA : A.length = n) (hn : n = 0 ∨ n + m = (tr xs).length)
 (h : DI p xs qs A R m 0) : Dv p xs qs A (tr R) := by
 have hp : 0 < p := by have := hm.bounds; omega
 obtain ⟨h1, h2, h3, h4, h5⟩ := h
 refine ⟨h1, h2.tr hp, ?_, tr_tr R, ?_, fun i => ?_⟩
 · by_cases hA0 : A = []
   · rw [hA0]; rfl
   apply tr_full
   right
   have hA1 := List.length_pos_iff.2 hA0
   intro h0
   have e := h5 ((n - 1) + m)
   have e1 : cv (co A) (co qs) ((n - 1) + m) = co A (n - 1) * co qs m := cv_top (n := m) (n - 1) (f := co A) (g := co qs) (fun i hi => co_out _ _ (by omega)) (fun i hi => co_out _ _ (by omega))
   rw [hA] at h0
   simp only [e1, h0, Int.zero_mul, Int.zero_add] at e
   rw [h4 _ (by omega), Int.zero_emod] at e
   have hne : tr xs ≠ [] := by intro h; rw [h] at hn; simp at hn; omega
   have e2 := tr_last xs hne
   have e3 : (tr xs).length - 1 = (n - 1) + m := by omega
   rw [e3] at e2
   rw [(hx.co hp _).mod] at e
   exact e2 e.symm
 · rw [tq, hq]
   by_cases hR : tr R = []
   · rw [hR]; simp
   · have := tr_last R hR
     have hR1 := List.length_pos_iff.2 hR
     apply Nat.lt_of_not_le
     intro hc
     exact this (h4 _ (by omega))
 · show (cv (co A) (co qs) i + co (tr R) i) % p = co xs i % p
   rw [co_tr]; exact h5 i
end Fld
theorem inv_one {p a : Int} {wd : Bool} (hm : Md p wd) (ha : El p a) (h0 : a ≠ 0) : (a * inv p a) % p = 1 % p := by
 have h := mul_inv hm a ha h0
 have h1 := one_el hm
 unfold mul at h
 rw [h, Int.emod_eq_of_lt h1.1 h1.2]
theorem Inv_yes3 (f p a : Int) (wd : Bool) (w : World) (h : Fi f p wd) (ha : El p a) (h0 : a ≠ 0) :
 Calls Tryz.prog 175 #[.int .u8 f, .int .u64 a] w fun x w' => x = .returned (.tuple #[.int .u64 (inv p a), .int .i64 0]) ∧ Below w.heap.size w w' := by
 have := Inv_of f a _ 0 w (Div_yes f p 1 a wd w h (one_el h.md) ha (by have := ha.1; omega))
 have e : mul p 1 (inv p a) = inv p a := by
  have h := inv_el (p := p) (a := a) h.pos
  unfold mul; rw [Int.one_mul]; exact Int.emod_eq_of_lt h.1 h.2
 rw [e] at this; exact this
theorem two_set {w wr w4 w5 : World} {bq br gq g nq nr i : Nat} {A R : List Int} {c : Int} {T : TypeId} (hq : wr.ownsRow bq T 1 (.slice (some ⟨gq, 0, none⟩) nq nq) nq (vals A)) (hr : wr.ownsRow br T 1 (.slice (some ⟨g, 0, none⟩) nr nr) nr (vals R)) (hne : gq ≠ g)
 (hB : Below w.heap.size w wr) (hbq : w.heap.size <= gq) (hb4 : Below wr.heap.size wr w4) (hb5 : Below (w4.setCell ⟨gq, i, none⟩ (.int .u64 c)).heap.size (w4.setCell ⟨gq, i, none⟩ (.int .u64 c)) w5) :
 w5.ownsRow bq T 1 (.slice (some ⟨gq, 0, none⟩) nq nq) nq (vals (A.set i c)) ∧ w5.ownsRow br T 1 (.slice (some ⟨g, 0, none⟩) nr nr) nr (vals R) ∧ Below w.heap.size w w5 := by
 have h1 := spoil_step (x := c) (k := i) (own_below hq hb4) (grown_refl w4 (some gq)) (.inl rfl)
 have h2 := (own_below hr hb4).kept h1.2 (.inr (by intro e; cases e; exact hne rfl))
 exact ⟨own_below h1.1 hb5, own_below h2 hb5, Below.next ((Below.next hB hb4).setCell (p := ⟨gq, i, none⟩) hbq _) hb5⟩
end Go.Proofs.YtjhididlcdepdaaGreat
namespace Go.Proofs.YtjhididlcdepdaaGreat
open Go.RowKit Fld
theorem divide_any (f p : Int) (wd : Bool) (v1 v2 : Value) (xs qs : List Int) (m : Nat) (w : World) (h : Fi f p wd) (h1 : Rw w v1 xs) (h2 : Rw w v2 qs) (hx : Els p xs) (hq : Els p qs) (tq : tr qs = qs) (hm : qs.length = m + 1) (hl : xs.length <= 4096) (hl2 : qs.length <= 4096) :
 Calls Tryz.prog 147 #[.int .u8 f, v1, v2] w fun e w' => ∃ vq vr A R b, e = .returned (.tuple #[vq, vr]) ∧ Dv p xs qs A (tr R) ∧ Els p R ∧ R.length <= 4096 ∧
  w'.ownsRow b 64 1 vq A.length (vals A) ∧ w'.ownsRow w.heap.size 64 1 vr R.length (vals R) ∧ (∀ k, vr.ownBlock = some k -> k < b) ∧ w.heap.size <= b ∧ Below w.heap.size w w' := by
 obtain ⟨i0, hi0, hz0, hz1, hz2⟩ := info_parts u64_info
 have hp0 := h.pos
 have ht := hide (Trim_at v1 xs w h1)
 have hnr := tr_len xs
 have hqe := hq.co hp0 m
 have hqn : co qs m ≠ 0 := by have := last_ne tq (by intro e; rw [e] at hm; simp at hm); rw [hm, Nat.add_sub_cancel] at this; exact this
 have hI := hide (fun W => Inv_yes3 f p (co qs m) wd W h hqe hqn)
 have hI1 := hide (inv_one h.md hqe hqn)
 have hie := inv_el (p := p) (a := co qs m) hp0
 have HM := hide (fun W x (hx : El p x) => Mul_yes f p x (inv p (co qs m)) wd W h hx hie)
 have HSb := hide (fun W x (hx : El p x) => Sub_yes f p 0 x wd W h ⟨Int.le_refl 0, hp0⟩ hx)
 obtain ⟨nq, HNQ⟩ : ∃ nq, Hid (nq = (tr xs).length - m) := ⟨_, rfl⟩
 have HFin := hide (fun A R (hA : A.length = nq) (hd : DI p xs qs A R m 0) => hd.fin h.md hx tq hm hA (by have := HNQ.out; omega))
 have HStart := hide (DI.start (qs := qs) (n := nq) (m := m) hp0 hx (by have := HNQ.out; omega))
 have HStep := hide (fun A R k c (hc : c = (co R (k + m) * inv p (co qs m)) % p) (hA : k < A.length) (hR : k + m < R.length) (hd : DI p xs qs A R m (k + 1)) => hd.step hp0 hm hI1.out hc hA hR)
 obtain ⟨a2, c2, rfl, hcap2⟩ := h2.spell
 have HG := hide (fun W g R k c (hce : El p c) (hb : Below w.heap.size w W) (hg : w.heap.size <= g) (nr : Nat) (hO : W.ownsRow w.heap.size 64 1 (.slice (some ⟨g, 0, none⟩) nr nr) nr (vals R)) (hR : Els p R) (hk : k + m < nr) =>
  grow_any f p c wd (.slice a2 qs.length c2) qs R W w.heap.size g k nr nr (nr - k) (nr - k) h hce (h2.1.below hb) hq hO hR (by omega) (by omega) (row_far h2.1 hg))
 have hco : qs.getD m 0 = co qs m := rfl
 obtain ⟨b2, o2, rfl, hbl2, hcl2⟩ : ∃ b o, a2 = some ⟨b, o, none⟩ ∧ b < w.heap.size ∧ w.cell? ⟨b, o + m, none⟩ = some (.int .u64 (co qs m)) := by
  obtain ⟨⟨a, c, he, _, _, hc⟩, _⟩ := h2
  cases he
  obtain ⟨b, o, h3, h4, h5⟩ := hc (by intro e; rw [e] at hm; simp at hm)
  exact ⟨b, o, h3, h4, h5 m (by omega)⟩
 have HSE := hide (fun c => sub_el (p := p) (a := 0) (b := c) hp0)
 have HME := hide (fun x => mul_el (p := p) (a := x) (b := inv p (co qs m)) hp0)
 generalize inv p (co qs m) = iv at *
 generalize co qs m = q0 at *
 obtain ⟨nr, HNR⟩ : ∃ nr, Hid ((tr xs).length = nr) := ⟨_, rfl⟩
 have hnq := HNQ.out
 rw [HNR.out] at ht hnr hnq
 have hm' : (qs.length : Int) = (m : Int) + 1 := by omega
 have HRL : Hid ((tr xs).length = nr) := HNR
 clear h h1 h2 hx hq tq hqe hqn hI1 hie hco HNQ
 have hcase : (nr < m ∧ nq = 0) ∨ (¬ nr < m ∧ nr = nq + m) := by omega
 clear hnq
 rw [hm]
 rw [hm] at hcap2 HG HStep
 rcases hcase with ⟨hlt, hnq⟩ | ⟨hlt, hnq⟩
 · subst hnq
   go_enter Tryz.func147, Tryz.ntmps147
   go_wp2
   go_step3
   go_wp2_with (first
    | (go_at_call 173; refine ht.out.mono ?_; rintro e w1 ⟨g, rfl, hOr, hb1⟩; have hs1 := hb1.size; have hgl := (hOr.lt g rfl).2)
    | (at_make; refine wpList_make_full _ rfl _ _ 36 rfl w1.heap.size 64 i0 (.int .u64 0) 1 Tryz.underlying36 hi0 hz0 hz1 .i64 .i64 _ _ 0 rfl rfl (by omega) (by omega) (by rw [hz2]; omega) (by unfold maxLen; omega) (Nat.le_refl _) ?_; intro w2 hown hgrow; have hOq := own_made hown; have hOr := own_below hOr (below_grown_none hgrow); have hb2 := Below.next hb1 (below_grown_none hgrow); clear hown hgrow; have d2 := (hb2.cell (p := ⟨b2, o2 + m, none⟩) hbl2).trans hcl2)
    | (go_at_call 175; refine (hI.out _).mono ?_; rintro e w3 ⟨rfl, hb⟩; have hOq := own_below hOq hb; have hOr := own_below hOr hb; have hb3 := Below.next hb2 hb; clear hb))
   go_step3
   go_wp2
   go_loopw [11] (fun vi wr => vi = .int .i64 (-1) ∧ wr = w3) (fun _ _ => 0)
   case atStart => exact ⟨rfl, rfl⟩
   case round =>
    obtain ⟨rfl, rfl⟩ := hrel
    go_wp2
    rw [Exit.noGoto_ret]
    go_ret2
    exact ⟨_, _, _, _, w1.heap.size, rfl, HFin.out [] _ rfl HStart.out, HStart.out.2.1, by rw [HRL.out]; omega, hOq, by rw [HRL.out]; exact hOr, fun k hk => by cases hk; exact hgl, hs1, hb3⟩
 · subst hnq
   go_enter Tryz.func147, Tryz.ntmps147
   go_wp2
   go_step3
   go_wp2_with (first
    | (go_at_call 173; refine ht.out.mono ?_; rintro e w1 ⟨g, rfl, hOr, hb1⟩; have hs1 := hb1.size; have hgl := (hOr.lt g rfl).2)
    | (at_make; refine wpList_make_full _ rfl _ _ 36 rfl w1.heap.size 64 i0 (.int .u64 0) 1 Tryz.underlying36 hi0 hz0 hz1 .i64 .i64 _ _ nq rfl rfl (by omega) (by omega) (by rw [hz2]; omega) (by unfold maxLen; omega) (Nat.le_refl _) ?_; intro w2 hown hgrow; have hOq := own_made hown; have hOr := own_below hOr (below_grown_none hgrow); have hb2 := Below.next hb1 (below_grown_none hgrow); clear hown hgrow; have d2 := (hb2.cell (p := ⟨b2, o2 + m, none⟩) hbl2).trans hcl2)
    | (go_at_call 175; refine (hI.out _).mono ?_; rintro e w3 ⟨rfl, hb⟩; have hOq := own_below hOq hb; have hOr := own_below hOr hb; have hb3 := Below.next hb2 hb; clear hb))
   go_step3
   go_wp2
   have hne : w1.heap.size ≠ g := by omega
   have hgw := own_base hOr g rfl
   clear d2 hb1 hb2 ht hI
   go_loopw [11] (fun vi wr => ∃ (k : Nat) (A R : List Int), k <= nq ∧ vi = .int .i64 ((k : Int) - 1) ∧ Hid (DI p xs qs A R m k) ∧ wr.ownsRow w1.heap.size 64 1 (.slice (some ⟨w1.heap.size, 0, none⟩) nq nq) nq (vals A) ∧ wr.ownsRow w.heap.size 64 1 (.slice (some ⟨g, 0, none⟩) (nq + m) (nq + m)) (nq + m) (vals R) ∧ Below w.heap.size w wr) (fun vi _ => (intOf vi + 1).toNat)
   case atStart => exact ⟨nq, _, _, Nat.le_refl _, rfl, HStart, hOq, hOr, hb3⟩
   case round =>
    clear hOq hOr hb3 HStart
    obtain ⟨k, A, R, hk, rfl, HD, hOq, hOr, hB⟩ := hrel
    have hAl := own_len hOq
    have hRl := own_len hOr
    by_cases hpos : 0 < k
    · obtain ⟨k, rfl⟩ : ∃ j, k = j + 1 := ⟨k - 1, by omega⟩
      have ek : (((k + 1 : Nat) : Int) - 1) = (k : Int) := by omega
      rw [ek]
      clear ek
      go_wp2
      go_loopw [11] (fun vi wx => ∃ i : Nat, i <= k ∧ vi = .int .i64 i ∧ Hid (DI p xs qs A R m (i + 1)) ∧ wx = wr) (fun vi _ => (intOf vi).toNat)
      case atStart => exact ⟨k, Nat.le_refl _, rfl, HD, rfl⟩
      case round =>
       clear HD
       obtain ⟨i, hi, rfl, HD, rfl⟩ := hrel
       have hin : i < nq := by omega
       have him : i + m < nq + m := by omega
       have d := own_cell hOr hRl him
       have hco : R.getD (i + m) 0 = co R (i + m) := rfl
       rw [hco] at d
       clear hco
       by_cases hz : co R (i + m) = 0
       · have HD2 := hide (HD.out.skip hz)
         rw [hz] at d
         clear hz HD
         by_cases hi0 : 0 < i
         · obtain ⟨i, rfl⟩ : ∃ j, i = j + 1 := ⟨i - 1, by omega⟩
           go_wp2
           go_roundw
           case rel => exact ⟨i, by omega, by go_num, HD2, by trivial⟩
           case measure => simp [intOf]
         · obtain rfl : i = 0 := by omega
           rw [Nat.zero_add] at d
           go_wp2
           rw [Exit.noGoto_ret]
           go_ret2
           exact ⟨_, _, A, R, w1.heap.size, rfl, HFin.out A R hAl HD2.out, HD2.out.2.1, by omega, by rw [hAl]; exact hOq, by rw [hRl]; exact hOr, fun k hk => by cases hk; exact hgl, hs1, hB⟩
       · have hre := HD.out.2.1.co hp0 (i + m)
         obtain ⟨c, HC⟩ : ∃ c, Hid (c = (co R (i + m) * iv) % p) := ⟨_, rfl⟩
         have hmu := hide (fun W => HM.out W _ hre)
         have hce : El p c := by rw [HC.out]; exact emod_el hp0 _
         have ecm : mul p (co R (i + m)) iv = c := by rw [HC.out]; rfl
         rw [ecm] at hmu
         have HS2 := hide (HStep.out A R i c HC.out (by omega) (by omega) HD.out)
         have hsu := hide (fun W => HSb.out W c hce)
         have hse := HSE.out c
         have hg := hide (fun W hb hO => HG.out W g R i (sub p 0 c) hse hb hgw (nq + m) hO HD.out.2.1 him)
         have hz' : (co R (i + m) == 0) = false := beq_eq_false_iff_ne.2 hz
         have HT2 := hide (fun w4 w5 hb4 hb5 => two_set (w4 := w4) (w5 := w5) (i := i) (c := c) hOq hOr hne hB hs1 hb4 hb5)
         have HQ4 := hide (fun W (hb : Below wr.heap.size wr W) => own_cell (k := i) (own_below hOq hb) hAl hin)
         have HF4 := hide (fun W (hb : Below wr.heap.size wr W) => (own_below hOq hb).frozenAt i)
         clear hz hre ecm HD
         generalize co R (i + m) = r at *
         generalize A.getD i 0 = y at *
         generalize sub p 0 c = s at *
         have HOq := hide hOq
         have HOr := hide hOr
         clear hOq hOr
         go_wp2_with (first
          | (go_at_call 102; refine (hmu.out _).mono ?_; rintro e w4 ⟨rfl, hb4⟩; have q4 := HQ4.out _ hb4; have f4 := HF4.out _ hb4)
          | (go_at_call 176; refine (hsu.out _).mono ?_; rintro e w5 ⟨rfl, hb5⟩; have hT := hide (HT2.out _ _ hb4 hb5))
          | (go_at_call 177; refine (hg.out _ hT.out.2.2 hT.out.2.1).mono ?_; rintro e w6 ⟨rfl, hO6, hG6⟩))
         have R1 := hT.out.1.kept hG6 (.inr (by intro e; cases e; exact hne rfl))
         have R2 := hT.out.2.2.grown hG6 hT.out.2.2.size (fun k hk => by cases hk; exact hgw)
         go_roundw
         case rel => exact ⟨i, _, _, by omega, rfl, HS2, R1, hO6, R2⟩
         case measure => simp [intOf]; omega
    · obtain rfl : k = 0 := by omega
      go_wp2
      rw [Exit.noGoto_ret]
      go_ret2
      exact ⟨_, _, A, R, w1.heap.size, rfl, HFin.out A R hAl HD.out, HD.out.2.1, by omega, by rw [hAl]; exact hOq, by rw [hRl]; exact hOr, fun k hk => by cases hk; exact hgl, hs1, hB⟩
def divE (f : Int) (xs ys : List Int) : Int := if er f xs ys = 0 then (if tr ys = [] then 5 else 0) else er f xs ys
def DvE (f : Int) (xs ys A B : List Int) : Prop := (divE f xs ys ≠ 0 -> A = [] ∧ B = []) ∧ (divE f xs ys = 0 -> Dv (pOf f) xs ys A B)
theorem dv_of_tr {p : Int} {xs ys A B : List Int} (h : Dv p xs (tr ys) A B) : Dv p xs ys A B := by
 obtain ⟨h1, h2, h3, h4, h5, h6⟩ := h
 rw [tr_tr] at h5
 refine ⟨h1, h2, h3, h4, h5, fun i => ?_⟩
 have e : cv (co A) (co ys) i = cv (co A) (co (tr ys)) i := cv_congr i (fun j _ => rfl) (fun j _ => (co_tr ys j).symm)
 show (cv (co A) (co ys) i + co B i) % p = _
 rw [e]; exact h6 i
def Parts (k : FuncId) (args : Array Value) (W : World) (S : List Int -> List Int -> Prop) (e0 : Int) : Prop :=
 Calls Tryz.prog k args W fun e w' => ∃ vq vr A B b, e = .returned (.tuple #[vq, vr, .int .i64 e0]) ∧ S A B ∧ w'.ownsRow b 64 1 vq A.length (vals A) ∧ w'.ownsRow W.heap.size 64 1 vr B.length (vals B) ∧
  (∀ k, vr.ownBlock = some k -> k < b) ∧ W.heap.size <= b ∧ Below W.heap.size W w'
theorem Parts.none {k : FuncId} {args : Array Value} {W : World} {S : List Int -> List Int -> Prop} {e0 : Int} (hS : S [] []) (h : Calls Tryz.prog k args W fun e w' => e = .returned (.tuple #[.slice none 0 0, .slice none 0 0, .int .i64 e0]) ∧ Below W.heap.size W w') : Parts k args W S e0 :=
 h.mono fun e w' ⟨he, hb⟩ => ⟨_, _, [], [], W.heap.size, he, hS, World.ownsRow_nil _ _ _ _, World.ownsRow_nil _ _ _ _, (fun k hk => by cases hk), Nat.le_refl _, hb⟩
theorem pDivMod_any (f : Int) (v1 v2 : Value) (xs ys : List Int) (w : World) (h1 : Rw w v1 xs) (h2 : Rw w v2 ys) : Parts 115 #[.int .u8 f, v1, v2] w (DvE f xs ys) (divE f xs ys) := by
 obtain ⟨a1, c1, rfl, _⟩ := h1.spell
 obtain ⟨a2, c2, rfl, _⟩ := h2.spell
 have hk := hide (fun T => pcheck_two f _ _ xs ys w h1 h2 T)
 by_cases he : er f xs ys = 0
 · obtain ⟨p, wd, h, i1, i2, m1, m2⟩ := er_zero he
   rw [he] at hk
   have ht := hide (fun W (hb : Below w.heap.size w W) => trimmed_any _ _ ys W (h2.below hb))
   have n2 := tr_len ys
   by_cases ez : tr ys = []
   · have hE : divE f xs ys = 5 := by unfold divE; rw [if_pos he, if_pos ez]
     refine Parts.none ⟨fun _ => ⟨rfl, rfl⟩, fun h0 => by rw [hE] at h0; cases h0⟩ ?_
     rw [hE]
     rw [ez] at ht
     clear h1 h2 h hE
     go_enter Tryz.func115, Tryz.ntmps115
     go_wp2_with (first
      | (go_at_call 101; refine (hk.out _).mono ?_; rintro e w1 ⟨rfl, hb⟩)
      | (go_at_call 146; refine (ht.out _ hb).mono ?_; rintro e w2 ⟨rfl, hb2⟩))
     go_ret3
     exact ⟨rfl, Below.next hb hb2⟩
   · have hE : divE f xs ys = 0 := by unfold divE; rw [if_pos he, if_neg ez]
     have hpos := List.length_pos_iff.2 ez
     obtain ⟨m, hm⟩ : ∃ m, (tr ys).length = m + 1 := ⟨(tr ys).length - 1, by omega⟩
     have r2 := hide (fun W (hb : Below w.heap.size w W) => (h2.below hb).take (tr_len ys))
     rw [take_tr_len] at r2
     have hd := hide (fun W (hb : Below w.heap.size w W) => divide_any f p wd _ _ xs (tr ys) m W h (h1.below hb) (r2.out W hb) (els_of i1 h1.words) ((els_of i2 h2.words).tr h.pos) (tr_tr ys) hm m1 (by omega))
     have HR := hide (fun W v R n base (hR : Els p R) (hl : R.length <= 4096) (hO : World.ownsRow W base 64 1 v n (vals R)) => rw_of_own hO (by omega) (els_words hR h.top))
     have HT := hide (fun W ao cap R hr => trimmed_any ao cap R W hr)
     have HS : Hid (∀ A B, Dv p xs (tr ys) A B -> DvE f xs ys A B) := fun A B hv => ⟨fun h0 => absurd hE h0, fun _ => by rw [pOf_eq h]; exact dv_of_tr hv⟩
     rw [hE]
     have bz : (((tr ys).length : Int) == 0) = false := beq_eq_false_iff_ne.2 (by omega)
     clear h1 h2 h r2 hE ez hpos hm
     obtain ⟨k2, HK2⟩ : ∃ k2, Hid ((tr ys).length = k2) := ⟨_, rfl⟩
     rw [HK2.out] at ht hd bz n2
     show Calls _ _ _ _ _
     go_enter Tryz.func115, Tryz.ntmps115
     go_wp2_with fail
     refine (hk.out _).mono ?_; rintro e w1 ⟨rfl, hb⟩
     go_wp2_with fail
     refine (ht.out _ hb).mono ?_; rintro e w2 ⟨rfl, hb2⟩
     have hb3 := Below.next hb hb2
     go_wp2_with fail
     refine (hd.out _ hb3).mono ?_; rintro e w3 ⟨vq, vr, A, R, b, rfl, hv, hR, hRl, hOq, hOr, hbb, hwb, hb4⟩
     have hr := HR.out _ _ _ _ _ hR hRl hOr
     obtain ⟨ao, cap, rfl, _⟩ := hr.spell
     have HO := hide hOr
     have HOq := hide hOq
     clear hOr hOq
     go_wp2_with fail
     refine (HT.out _ _ _ _ hr).mono ?_; rintro e w4 ⟨rfl, hb5⟩
     go_wp2
     go_ret3
     refine ⟨_, _, A, tr R, b, rfl, HS.out _ _ hv, own_below HOq.out hb5, own_mono (own_tr (own_below HO.out hb5)) hb3.size, (fun k hk => hbb k (by cases ao <;> exact hk)), Nat.le_trans hb3.size hwb, Below.next (Below.next hb3 hb4) hb5⟩
 · have ht : (er f xs ys != 0) = true := bne_iff_ne.2 he
   have hE : divE f xs ys = er f xs ys := by unfold divE; rw [if_neg he]
   refine Parts.none ⟨fun _ => ⟨rfl, rfl⟩, fun h0 => by rw [hE] at h0; exact absurd h0 he⟩ ?_
   rw [hE]
   clear h1 h2 he hE
   generalize er f xs ys = e0 at *
   go_enter Tryz.func115, Tryz.ntmps115
   go_wp2_with (go_at_call 101; refine (hk.out _).mono ?_; rintro e w1 ⟨rfl, hb⟩)
   go_ret3
   exact ⟨rfl, hb⟩
namespace Fld
def le (p c : Int) (d : Nat) (qs R : List Int) (j : Nat) : List Int := mk R.length (fun i => if d <= i ∧ i < d + j then sub p (co R i) (mul p c (co qs (i - d))) else co R i)
end Fld
theorem own_other {wr : World} {base g k n : Nat} {v u : Value} {xs : List Value} {T : TypeId} (h : wr.ownsRow base T 1 v n xs) (hne : v.ownBlock ≠ some g) : (wr.setCell ⟨g, k, none⟩ u).ownsRow base T 1 v n xs := by
 refine ⟨h.1, ?_⟩
 rcases h.2 with h1 | ⟨g', cap, cur, rfl, h2, h3, h4⟩
 · exact .inl h1
 · refine .inr ⟨g', cap, cur, rfl, h2, ?_, h4⟩
   rw [Below.heap_setCell wr _ _ _ (fun e => hne (by show some g' = some g; rw [e]))]; exact h3
theorem own_drewN {wr : World} {base n : Nat} {v : Value} {xs : List Value} {T : TypeId} (h : wr.ownsRow base T 1 v n xs) (nq : Nat) : (wr.drewN nq).ownsRow base T 1 v n xs := own_below h (below_drewN (Below.refl _ wr) nq)
theorem own_here {wr : World} {base g k n cap : Nat} {ys : List Int} {z : Int} {T : TypeId} (h : wr.ownsRow base T 1 (.slice (some ⟨g, 0, none⟩) n cap) n (vals ys)) : (wr.setCell ⟨g, k, none⟩ (.int .u64 z)).ownsRow base T 1 (.slice (some ⟨g, 0, none⟩) n cap) n (vals (ys.set k z)) :=
 (spoil_step h (grown_refl wr (some g)) (.inl rfl)).1
end Go.Proofs.YtjhididlcdepdaaGreat
