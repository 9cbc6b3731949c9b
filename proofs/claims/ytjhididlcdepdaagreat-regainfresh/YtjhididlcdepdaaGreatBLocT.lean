import Derived.Test.YtjhididlcdepdaaGreatBLocH
import Derived.Test.YtjhididlcdepdaaGreatBunM
set_option linter.unusedVariables false
set_option linter.unusedSimpArgs false
set_option maxRecDepth 100000
set_option maxHeartbeats 4000000
namespace Go.Proofs.YtjhididlcdepdaaGreat
open Go.RowKit Go.Shelf Fld
attribute [local go_sem] Oper.semAt_some
def ints (l : List Nat) : List Int := l.map (fun (i : Nat) => (i : Int))
def Nat17 (S : Nat -> Prop) (w : World) (a : Option Addr) (ats : List Nat) : Prop := 0 < ats.length -> ∃ b off, a = some ⟨b, off, none⟩ ∧ S b ∧ ∀ i, i < ats.length -> w.cell? ⟨b, off + i, none⟩ = some (.int .i64 ((ats.getD i 0 : Nat) : Int))
theorem vs1_in (n : Nat) (hn : 1 <= n) (l bx : Nat) (a : Option Addr) (c : Nat) (ats : List Nat) (N : Nat) (hN : ats.length = N) (hN2 : N <= 140737488500000) (S : Nat -> Prop) (w0 : World) (HL : Nat17 S w0 a ats) (J Jx : List Nat -> World -> Prop) (W : World)
 (hY : ∀ pre x W, J pre W -> pre.length < N -> YieldAt Fence.wide (n - 1) Tryz.prog l (nmv x) W fun e W' =>
  (e = .returned (.bool true) ∧ J (pre ++ [x]) W' ∧ Kq S W W') ∨ (e = .returned (.bool false) ∧ Jx (pre ++ [x]) W'))
 (hK : Kq S w0 W) (hbx : W.cell? ⟨bx, 0, none⟩ = some (.slice a N c)) (h0 : J [] W) :
 CallsIn Fence.wide n Tryz.prog 183 #[.func (.yield l) #[] #[], .pointer (some ⟨bx, 0, none⟩)] W fun e W' => (∃ v, e = .returned v) ∧
  ((∃ ys, ys = ats ∧ J ys W') ∨ (∃ pre, True ∧ Jx pre W')) := by
 refine callsIn_of_wp Tryz.func183 rfl trivial ?_ rfl
 simp only [Tryz.ntmps183, List.size_toArray, List.length_cons, List.length_nil, Nat.reduceAdd, Nat.reduceSub, Array.replicate_succ, Array.replicate_zero, List.push_toArray, List.append_toArray, List.nil_append, List.cons_append]
 have HY := hide hY
 have HC := hide HL
 have HK := hide hK
 have HN := hide hN
 clear hY HL hK
 gi_wp2
 gi_loopw [7] (fun vi wr => ∃ k : Nat, k <= N ∧ vi = .int .i64 (k : Int) ∧ J (ats.take k) wr ∧ Kq S W wr) (fun vi _ => N - (intOf vi).toNat)
 case atStart => exact ⟨0, Nat.zero_le _, by simp, h0, Kq.refl _ _⟩
 case round =>
  obtain ⟨k, hk, rfl, hJs, hnx⟩ := hrel
  have HJs := hide hJs
  have HNX := hide hnx
  clear hJs hnx
  by_cases hlt : k < N
  · have hge : (0 : Int) <= (k : Int) := by omega
    have hltI : (k : Int) < (N : Int) := by omega
    obtain ⟨b, off, rfl, hSb, hcl⟩ := HC.out (by rw [HN.out]; omega)
    have c1 := ((HK.out.trans HNX.out).cell (a := ⟨b, off + k, none⟩) hSb).trans (hcl k (by rw [HN.out]; exact hlt))
    have HE : Hid (ats.take (k + 1) = ats.take k ++ [ats.getD k 0]) := by
     show _ = _
     rw [List.take_add_one, List.getElem?_eq_getElem (by rw [HN.out]; exact hlt), List.getD_eq_getElem?_getD, List.getElem?_eq_getElem (by rw [HN.out]; exact hlt)]; rfl
    have hpl : (ats.take k).length < N := by rw [List.length_take, HN.out]; omega
    clear hcl
    generalize ats.getD k 0 = x at *
    obtain ⟨fn, tmps, assign, body, hy, hR⟩ := HY.out (ats.take k) x wr HJs.out hpl
    unfold nmv at hy
    gi_wp2
    refine hR.mono ?_
    rintro e W3 (⟨rfl, hJ3, hk3⟩ | ⟨rfl, hJx3⟩)
    · rw [<- HE.out] at hJ3
      have hnx3 := HNX.out.trans hk3
      gi_wp2
      go_roundw
      case rel => exact ⟨k + 1, by omega, by go_num, hJ3, hnx3⟩
      case measure => simp [intOf]; omega
    · gi_wp2
      refine bodyPost_ret (results_none rfl _ _ _) rfl ?_
      exact ⟨⟨_, rfl⟩, .inr ⟨_, trivial, hJx3⟩⟩
  · obtain rfl : k = N := by omega
    have hall : ats.take k = ats := by rw [<- HN.out, List.take_length]
    gi_wp2
    go_end0
    exact ⟨⟨_, rfl⟩, .inl ⟨_, rfl, by rw [<- hall]; exact HJs.out⟩⟩
theorem vs_stops (n : Nat) (hn : 1 <= n) (bx : Nat) (a : Option Addr) (c : Nat) (ats : List Nat) (N : Nat) (hN : ats.length = N) (hN2 : N <= 140737488500000) (S : Nat -> Prop) (w0 : World) (hSw : ∀ j, S j -> j < w0.heap.size) (HL : Nat17 S w0 a ats) (hbx : w0.cell? ⟨bx, 0, none⟩ = some (.slice a N c)) :
 SeqStopsK Fence.wide n Tryz.prog 183 #[.pointer (some ⟨bx, 0, none⟩)] nmv (Kq S) (fun ys => ys = ats) (fun _ => True) N w0 := fun l J Jx W hW hJ _ hY h0 =>
 vs1_in n hn l bx a c ats N hN hN2 S w0 HL J Jx W hY (Below.kq hW (fun j hj => hSw j hj)) ((hW.cell (cell_lt hbx)).trans hbx) h0
theorem gValues (a : Option Addr) (n c : Nat) (w : World) : Calls Tryz.prog 154 #[.slice a n c] w fun e w' => e = .returned (.func (.func 183) #[] #[.pointer (some ⟨w.heap.size, 0, none⟩)]) ∧ w' = w.alloc (.cells #[.slice a n c] 27) := by
 go_enter Tryz.func154, Tryz.ntmps154
 go_wp2
 go_ret
 exact ⟨rfl, rfl⟩
theorem gAppendSeq (bx : Nat) (a : Option Addr) (c : Nat) (ats : List Nat) (N : Nat) (w : World) (hN : ats.length = N) (hN2 : N * 8 <= 140737488351232) (HL : Nat17 (fun j => j < w.heap.size) w a ats) (hbx : w.cell? ⟨bx, 0, none⟩ = some (.slice a N c)) :
 Calls Tryz.prog 191 #[.slice none 0 0, .func (.func 183) #[] #[.pointer (some ⟨bx, 0, none⟩)]] w fun e w' => ∃ v', e = .returned v' ∧ w'.ownsRow w.heap.size 3 1 v' N (nms ats) ∧ Below w.heap.size w w' := by
 have al := alloc_below w (.cells #[Value.slice none 0 0] 27)
 have K3 := heap_alloc_new w (.cells #[Value.slice none 0 0] 27)
 have hsz : (w.alloc (.cells #[Value.slice none 0 0] 27)).heap.size = w.heap.size + 1 := by simp
 obtain ⟨w6, Hw6⟩ : ∃ w6, Hid (w.alloc (.cells #[Value.slice none 0 0] 27) = w6) := ⟨_, rfl⟩
 have hseq : SeqStopsK Fence.wide 4 Tryz.prog 183 #[.pointer (some ⟨bx, 0, none⟩)] nmv (Kq (Sx w6.heap.size w.heap.size)) (fun ys => ys = ats) (fun _ => True) N w6 := by
  rw [<- Hw6.out]
  refine vs_stops 4 (by omega) bx a c ats N hN (by omega) _ _ (fun j hj => hj.1) (fun h0 => ?_) ((al.cell (cell_lt hbx)).trans hbx)
  obtain ⟨b, off, e, hb, hc⟩ := HL h0
  exact ⟨b, off, e, ⟨by rw [hsz]; omega, by omega⟩, fun i hi => (al.cell (p := ⟨b, off + i, none⟩) hb).trans (hc i hi)⟩
 rw [Hw6.out] at al K3 hsz
 have hA0 : Atb w6 w6 w.heap.size [] := ⟨⟨none, 0, K3, World.ownsRow_nil _ _ _ _⟩, Kq.refl _ _⟩
 have HSQ := hide hseq
 have HA0 := hide hA0
 have HN := hide hN
 have HAl := hide al
 clear hseq hA0 HL hbx K3 hN al
 refine (callsIn_wide (n := 5)).1 ?_
 refine callsIn_of_wp_marks Tryz.func191 rfl trivial ?_ rfl
 simp only [Tryz.ntmps191, List.size_toArray, List.length_cons, List.length_nil, Nat.reduceAdd, Nat.reduceSub, Array.replicate_succ, Array.replicate_zero, List.push_toArray, List.append_toArray, List.nil_append, List.cons_append]
 refine wpIn_wide.2 ?_
 go_wp2
 rw [Hw6.out]
 refine (wpIn_wide (n := 5)).1 ?_
 refine wpIn_rangeFunc_ownG rfl (by omega) (gf := 183) (lb := #[.pointer (some ⟨bx, 0, none⟩)]) rfl trivial (enters_of Tryz.func183 (by kernel_rfl) rfl)
  HSQ.out (fun h k => Kq.trans h k) (fun W' l o o' hl _ _ _ => Kq.put W' l o o' hl) (Below.refl _ _) (fun _ => rfl)
  (fun pre W' => Atb w6 W' w.heap.size pre)
  (fun _ _ _ => False)
  (Atb.own (Nat.le_refl _))
  (fun _ _ _ _ _ hs _ _ => hs)
  HA0.out
  (fun x => { tmps := #[.slice none 0 0, .func (.func 183) #[] #[.pointer (some ⟨bx, 0, none⟩)], .pointer (some ⟨w.heap.size, 0, none⟩), undef, .slice none 0 0, .int .i64 (x : Int), .func (.func 183) #[] #[.pointer (some ⟨bx, 0, none⟩)], .int .i64 (x : Int), undef, undef, undef, undef, undef], defers := [] }) ?assign ?body ?done ?stop
 case assign =>
  intro L x W' K hK
  unfold nmv
  gi_wp2
  exact hK
 case body =>
  obtain ⟨i0, hi0, hz0, hz1, hz2⟩ := info_parts int_info
  intro L pre x W' hI hlt
  have HQ : Hid (∀ W8, KeepsFrom w6.heap.size W' W8 -> Kq (Sx w6.heap.size w.heap.size) W' W8 -> Atb w6 W8 w.heap.size (pre ++ [x]) -> ∀ a', ownPostG w6.heap.size (Kq (Sx w6.heap.size w.heap.size)) (fun pre W' => Atb w6 W' w.heap.size pre) (fun _ _ _ => False) (pre ++ [x]) W' .normal a' W8) := fun W8 k1 k2 k3 a' => ⟨k1, k2, k3⟩
  change (_ : Code).wpIn _ _ _ _ _ _
  generalize ownPostG w6.heap.size (Kq (Sx w6.heap.size w.heap.size)) (fun pre W' => Atb w6 W' w.heap.size pre) (fun _ _ _ => False) (pre ++ [x]) W' = QQ at HQ ⊢
  obtain ⟨ao2, cap2, h1, h2⟩ := hI.box
  obtain ⟨c1, c2⟩ := box_cell h1
  have HI := hide hI
  have hWs : w6.heap.size <= W'.heap.size := hI.kq.size
  have H1 := hide h1
  have H2 := hide h2
  have hB2 : w.heap.size < w6.heap.size := by omega
  generalize hy : pre.length = ly at *
  clear hI h1 h2 HA0 HSQ
  gi_wp2_with (gi_at_builtin; refine wpListIn_append_own _ rfl _ _ 27 rfl w6.heap.size 3 i0 (.int .i64 0) 1 8 Tryz.underlying27 hi0 hz0 hz1 hz2 rfl (by decide) _ ly (nms pre) rfl (own_below H2.out (alloc_below W' _)) ⟨W'.heap.size, 0, none⟩ 1 1 [.int .i64 (x : Int)] rfl rfl (cell_one_new _ _ _) (by simp [Value.oneCell']) (by unfold maxLen; omega) (by omega) (by simp; omega) ?_; intro v' w8 hown3 hg3 hnil3; clear hnil3; obtain ⟨hB3, hL3, hK3, hP3⟩ := HI.out.app (ao := ao2) (cap := cap2) hB2 (by rw [hy]; exact H1.out) (by rw [hy]; exact H2.out) (by rw [hy]; exact hown3) (by rw [hy]; exact hg3); obtain ⟨a3, k3, rfl⟩ := own_form hown3; obtain ⟨d1, d2⟩ := box_cell hB3)
  exact HQ.out _ hK3 hP3 hL3 _
 case done =>
  rintro D zs W7 hD rfl hI hK
  obtain ⟨ao2, cap2, h1, h2⟩ := hI.box
  rw [HN.out] at h1 h2
  obtain ⟨c1, c2⟩ := box_cell h1
  have HB7 := hide (HAl.out.trans (hI.kq.below (B := w.heap.size) (fun j hj => ⟨by omega, by omega⟩)))
  have HO7 := hide h2
  clear hI h1 h2 HA0 HSQ
  have hD2 : w.heap.size + 1 <= D := by omega
  go_wp2
  refine ⟨by simp, .inl ⟨_, _, rfl, run_takeDeferred hK, ?_⟩⟩
  exact ⟨_, results_tmp rfl _ _ _, _, rfl, own_mono (ownsRow_putObj HO7.out _ hK rfl) (by omega), HB7.out.trans (belowK_b (w := w) (Nat.le_refl _) W7 D _ _ (by omega) hK rfl rfl)⟩
 case stop =>
  rintro D c pre W _ _ hx _
  exact hx.elim
theorem gCollect (bx : Nat) (a : Option Addr) (c : Nat) (ats : List Nat) (N : Nat) (w : World) (hN : ats.length = N) (hN2 : N * 8 <= 140737488351232) (HL : Nat17 (fun j => j < w.heap.size) w a ats) (hbx : w.cell? ⟨bx, 0, none⟩ = some (.slice a N c)) :
 Calls Tryz.prog 181 #[.func (.func 183) #[] #[.pointer (some ⟨bx, 0, none⟩)]] w fun e w' => ∃ v', e = .returned v' ∧ w'.ownsRow w.heap.size 3 1 v' N (nms ats) ∧ Below w.heap.size w w' := by
 have HA := hide (gAppendSeq bx a c ats N w hN hN2 HL hbx)
 clear HL hbx
 go_enter Tryz.func181, Tryz.ntmps181
 go_wp2_with (go_at_call 191; refine HA.out.mono ?_; rintro e w1 ⟨v', rfl, hO, hb⟩; obtain ⟨a1, c1, rfl⟩ := own_form hO)
 go_ret
 exact ⟨_, rfl, hO, hb⟩
end Go.Proofs.YtjhididlcdepdaaGreat
