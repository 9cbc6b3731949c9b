import Derived.Test.YtipobchbnjgenaaGreatBunQ
import Derived.Lib.AppendZeros
set_option linter.unusedVariables false
set_option linter.unusedSimpArgs false
set_option maxRecDepth 100000
set_option maxHeartbeats 4000000
namespace Go.Proofs.YtipobchbnjgenaaGreat
open Go.RowKit Fld
theorem b8_info : (Tryz.prog.info? 5).map (fun i => (i.zero, i.size, i.bytes)) = some (some (.int .u8 0), 1, 1) := by kernel_rfl
theorem fits_big {need old : Nat} (h : old < need) (hb : need <= 225000000000000) : Builtin.nextslicecap need old * 1 <= 281474976710656 := by
 rw [Nat.mul_one]
 unfold Builtin.nextslicecap
 split
 · omega
 · split
   · omega
   · rw [growBy_four]
     repeat' split
     all_goals omega
theorem app_big {W : World} {lo n m c : Nat} {v : Value} {a : Option Addr} {xs ys : List Int} (h : W.ownsRow lo 5 1 v n (valb xs)) (hu : Rb W (.slice a m c) ys) (hl : n + m <= 225000000000000) (hb : lo <= W.heap.size) :
 ∃ v' W', (Builtin.append_ #[30, 30] 30 #[v, .slice a m c]).run Tryz.prog W = .ok v' W' ∧ W'.ownsRow lo 5 1 v' (n + m) (valb (xs ++ ys)) ∧ W.grownBy W' v.ownBlock := by
 obtain ⟨i0, hi0, hz0, hz1, hz2⟩ := info_parts b8_info
 have hml : ys.length = m := by obtain ⟨_, _, e, _⟩ := hu; cases e; rfl
 have hxl : (valb xs).length = n := by have := h.1; omega
 rw [valb_length] at hxl
 cases a with
 | none =>
  obtain ⟨e1, e2, e3⟩ := hu.none_
  subst e1 e2 e3
  refine ⟨v, W, ?_, by simpa using h, ⟨rfl, rfl, rfl, Nat.le_refl _, fun _ _ _ => rfl⟩⟩
  exact run_append_owned_none (P := Tryz.prog) (w := W) lo 30 30 5 i0 1 Tryz.underlying30 hi0 _ _ _ h
 | some ad =>
  have hn := hu.news
  have hvl : (valb ys).length = m * 1 := by rw [valb_length]; omega
  by_cases h47 : n + m <= 140737488355328
  · obtain ⟨v', W', hr, ho, hg, _⟩ := run_append_own (P := Tryz.prog) W lo 30 30 5 i0 (.int .u8 0) 1 1 Tryz.underlying30 hi0 hz0 hz1 hz2 rfl (by decide) v n (valb xs) h ad m c (valb ys) hvl hn (valb_one ys) (by unfold maxLen; omega) (by omega) hb
    exact ⟨v', W', hr, by rw [<- valb_app]; exact ho, hg⟩
  · have new : ∀ old (row : Option Nat), (W.drew.alloc (.cells ((valb xs).toArray ++ (valb ys).toArray ++ Builtin.zeroCells (Value.int .u8 0).cells (grownCap W (n + m) old 5 - (n + m))) 5)).ownsRow lo 5 1 (.slice (some ⟨W.heap.size, 0, none⟩) (n + m) (grownCap W (n + m) old 5)) (n + m) (valb (xs ++ ys)) ∧ W.grownBy (W.drew.alloc (.cells ((valb xs).toArray ++ (valb ys).toArray ++ Builtin.zeroCells (Value.int .u8 0).cells (grownCap W (n + m) old 5 - (n + m))) 5)) row := fun old row => by
     have hge := grownCap_ge W (n + m) old 5
     refine ⟨⟨by rw [valb_length, List.length_append]; omega, .inr ⟨W.heap.size, _, _, rfl, hb, heap_alloc_new W.drew _, hge, grownCap_le_maxLen W (n + m) old 5 (by unfold maxLen; omega), ?_, ?_⟩⟩, ⟨rfl, rfl, rfl, by simp, fun k hk _ => heap_alloc_old W.drew _ hk⟩⟩
     · rw [Array.size_append, Array.size_append, size_zeroCells, List.size_toArray, List.size_toArray, valb_length, valb_length]
       simp only [Value.cells, List.size_toArray, List.length_cons, List.length_nil]
       omega
     · have e : n + m = (valb (xs ++ ys)).length := by rw [valb_length, List.length_append]; omega
       rw [Nat.mul_one, Array.toList_append, Array.toList_append, List.toList_toArray, List.toList_toArray, valb_app]
       exact List.take_left' e.symm
    rcases h.2 with ⟨rfl, h0⟩ | ⟨g, cap, cur, rfl, hbg, hg, hnc, hcm, hcs, htk⟩
    · subst h0
      have hx : xs = [] := List.length_eq_zero_iff.1 hxl
      subst hx
      have hr := run_append_nil (P := Tryz.prog) W 30 30 5 i0 (.int .u8 0) Tryz.underlying30 hi0 hz0 ad m c (valb ys) (by rw [hz1]; exact hvl) hn (by omega) (by omega) (by rw [hz2]; omega)
      have := new 0 (Value.slice none 0 0).ownBlock
      rw [Nat.zero_add] at this ⊢
      refine ⟨_, _, hr, ?_, ?_⟩
      · simpa [valb] using this.1
      · simpa [valb] using this.2
    · by_cases hroom : n + m <= cap
      · have hr := run_append_room (P := Tryz.prog) W 30 30 5 i0 Tryz.underlying30 hi0 g n cap cur hg ad m c (valb ys) (by rw [hz1]; exact hvl) hn (valb_one ys) hroom (by rw [hz1, hcs, valb_length]; omega)
        refine ⟨_, _, hr, ⟨by rw [valb_length, List.length_append]; omega, .inr ⟨g, cap, _, rfl, hbg, setRow_heap W g cur _ 5 _ hg, hroom, hcm, ?_, ?_⟩⟩, ⟨rfl, rfl, rfl, by simp, fun k _ hk => setRow_other W g k _ (fun e => hk (by simp [Value.ownBlock, e]))⟩⟩
        · simp only [List.size_toArray, List.length_append, List.length_take, List.length_drop, Array.length_toList, hz1, valb_length]
          omega
        · have e : (n + m) * 1 = (valb xs ++ valb ys).length := by rw [List.length_append, valb_length, valb_length]; omega
          rw [hz1, htk, <- valb_app, e]
          exact List.take_left
      · have holds : ∀ j u, (valb xs)[j]? = some u -> W.cell? ((⟨g, 0, none⟩ : Addr).add j) = some u := h.cells (g := g) rfl
        have hr := run_append_grow (P := Tryz.prog) W 30 30 5 i0 (.int .u8 0) Tryz.underlying30 hi0 hz0 ⟨g, 0, none⟩ n cap (valb xs) (by rw [hz1, valb_length]; omega) holds ad m c (valb ys) (by rw [hz1]; exact hvl) hn (by omega) (by omega) (by rw [hz2]; exact fits_big (by omega) hl)
        have := new cap (Value.slice (some ⟨g, 0, none⟩) n cap).ownBlock
        exact ⟨_, _, hr, this.1, this.2⟩
theorem zeros_B (w : World) (k : Nat) (h0 : 0 < k) (hk : k <= 281000000000000) :
 ∃ cap w', (Builtin.append_ #[30, 3] 30 #[.slice none 0 0, .int .i64 (k : Int)]).run Tryz.prog w = .ok (.slice (some ⟨w.heap.size, 0, none⟩) k cap) w' ∧ w'.ownsRow w.heap.size 5 1 (.slice (some ⟨w.heap.size, 0, none⟩) 0 cap) 0 [] ∧ w.grownBy w' none := by
 obtain ⟨i0, hi0, hz0, hz1, hz2⟩ := info_parts b8_info
 have hr := Lib.run_append_nil_zeros (P := Tryz.prog) w 30 3 30 5 i0 (.int .u8 0) .i64 .i64 Tryz.underlying30 Tryz.underlying3 hi0 hz0 k h0 (by omega) (by omega) (by rw [hz2]; omega)
 have hge := grownCap_ge w k 0 5
 have hcm : grownCap w k 0 5 <= maxLen := grownCap_le_maxLen w k 0 5 (by unfold maxLen; omega)
 refine ⟨_, _, hr, ⟨rfl, .inr ⟨w.heap.size, _, _, rfl, Nat.le_refl _, heap_alloc_new w.drew _, Nat.zero_le _, hcm, ?_, rfl⟩⟩, ⟨rfl, rfl, rfl, by simp, fun j hj _ => heap_alloc_old w.drew _ hj⟩⟩
 simp only [Array.size_append, size_zeroCells]
 simp [Value.cells]
 omega
theorem Grow_B (k : Nat) (w : World) (h0 : 0 < k) (hk : k <= 281000000000000) :
 Calls Tryz.prog 162 #[.slice none 0 0, .int .i64 (k : Int)] w fun e w' => ∃ cap, e = .returned (.slice (some ⟨w.heap.size, 0, none⟩) 0 cap) ∧ w'.ownsRow w.heap.size 5 1 (.slice (some ⟨w.heap.size, 0, none⟩) 0 cap) 0 [] ∧ Below w.heap.size w w' := by
 obtain ⟨cap, w1, hr, hO, hg⟩ := zeros_B w k h0 hk
 have HO := hide hO
 have hB := below_grown_none hg
 clear hO hg
 go_enter Tryz.func162, Tryz.ntmps162
 go_wp2_with (at_builtin; refine Lib.wpList_append_run _ rfl _ _ _ _ rfl _ _ rfl rfl _ _ hr ?_)
 go_ret
 exact ⟨_, rfl, HO.out, hB⟩
def mgc (m : Mg) (s : Value) : Array Value := #[.int .u8 m.k, .int .i64 m.r, .int .i64 m.v, .int .u8 m.f, s]
def mgv (m : Mg) (s : Value) : Value := .agg (mgc m s)
structure Mgd (m : Mg) : Prop where
 k : 0 <= m.k ∧ m.k <= 255
 r : -9223372036854775808 <= m.r ∧ m.r <= 9223372036854775807
 v : -9223372036854775808 <= m.v ∧ m.v <= 9223372036854775807
 f : 0 <= m.f ∧ m.f <= 255
structure Mw (w : World) (m : Mg) (s : Value) : Prop where
 wd : Mgd m
 row : Row w s m.l
theorem Mw.below {w w' : World} {m : Mg} {s : Value} (h : Mw w m s) (hb : Below w.heap.size w w') : Mw w' m s := ⟨h.wd, h.row.below hb⟩
def Mb (w : World) (g : Nat) (m : Mg) (s : Value) : Prop := w.heap[g]? = some (.cells (mgc m s) 74 (0, 0))
theorem Mb.lt {w : World} {g : Nat} {m : Mg} {s : Value} (h : Mb w g m s) : g < w.heap.size := (Array.getElem?_eq_some_iff.1 h).1
theorem Mb.below {w w' : World} {g : Nat} {m : Mg} {s : Value} (h : Mb w g m s) (hb : Below w.heap.size w w') : Mb w' g m s := (hb.block g h.lt).trans h
theorem Mb.cells {w : World} {g : Nat} {m : Mg} {s : Value} (h : Mb w g m s) : w.cell? ⟨g, 0, none⟩ = some (.int .u8 m.k) ∧ w.cell? ⟨g, 1, none⟩ = some (.int .i64 m.r) ∧ w.cell? ⟨g, 2, none⟩ = some (.int .i64 m.v) ∧ w.cell? ⟨g, 3, none⟩ = some (.int .u8 m.f) ∧ w.cell? ⟨g, 4, none⟩ = some s := by
 have h' : w.heap[g]? = some (.cells (mgc m s) 74 (0, 0)) := h
 refine ⟨?_, ?_, ?_, ?_, ?_⟩ <;> simp [World.cell?, h', mgc]
theorem Mb.free {w : World} {g : Nat} {m : Mg} {s : Value} (h : Mb w g m s) (k : Nat) : w.frozen? ⟨g, k, none⟩ = false := by
 have h' : w.heap[g]? = some (.cells (mgc m s) 74 (0, 0)) := h
 simp [World.frozen?, h']
theorem load_msg {w : World} {g : Nat} {m : Mg} {s : Value} (h : Mb w g m s) : (loadVar 74 ⟨g, 0, none⟩).run Tryz.prog w = .ok (mgv m s) w := by
 obtain ⟨c0, c1, c2, c3, c4⟩ := h.cells
 simp [go_sem, c0, c1, c2, c3, c4, mgv, mgc]
theorem mb_new (w : World) (m : Mg) (s : Value) : Mb (w.alloc (.cells #[.int .u8 m.k, .int .i64 m.r, .int .i64 m.v, .int .u8 m.f, s] 74)) w.heap.size m s := heap_alloc_new w _
theorem mb_box {w : World} (m : Mg) (s : Value) : Mb (w.alloc (.cells #[.int .u8 m.k, .int .i64 m.r, .int .i64 m.v, .int .u8 m.f, s] 74)) w.heap.size m s ∧ Below w.heap.size w (w.alloc (.cells #[.int .u8 m.k, .int .i64 m.r, .int .i64 m.v, .int .u8 m.f, s] 74)) := ⟨mb_new w m s, alloc_below _ _⟩
theorem mb_two {w W : World} (m n : Mg) (s t : Value) (hW : (w.alloc (.cells #[.int .u8 m.k, .int .i64 m.r, .int .i64 m.v, .int .u8 m.f, s] 74)).alloc (.cells #[.int .u8 n.k, .int .i64 n.r, .int .i64 n.v, .int .u8 n.f, t] 74) = W) : Mb W w.heap.size m s ∧ Mb W (w.heap.size + 1) n t ∧ Below w.heap.size w W := by
 subst hW
 have e : (w.alloc (.cells #[.int .u8 m.k, .int .i64 m.r, .int .i64 m.v, .int .u8 m.f, s] 74)).heap.size = w.heap.size + 1 := by simp
 exact ⟨(mb_new w m s).below (alloc_below _ _), e ▸ mb_new _ n t, Below.next (alloc_below _ _) (alloc_below _ _)⟩
theorem gBelow (n c : Int) (w : World) : Calls Tryz.prog 142 #[.int .i64 n, .int .i64 c] w fun e w' => e = .returned (.bool (decide (0 <= n ∧ n < c))) ∧ w' = w := by
 by_cases h1 : 0 <= n <;> by_cases h2 : n < c
 all_goals
  go_enter Tryz.func142, Tryz.ntmps142
  go_wp2
  go_ret
  refine ⟨?_, rfl⟩
  simp_all
  try omega
structure Bt (w : World) (ad : Addr) (n cap : Nat) (bs : List Int) : Prop where
 rb : Rb w (.slice (some ad) n cap) bs
 len : bs.length = n
theorem Bt.news {w W : World} {ad : Addr} {n cap : Nat} {bs : List Int} (h : Bt w ad n cap bs) (hb : Below w.heap.size w W) : ∀ j u, (valb bs)[j]? = some u -> W.cell? (ad.add j) = some u := (h.rb.below hb).news
theorem Bt.size {w : World} {ad : Addr} {n cap : Nat} {bs : List Int} (h : Bt w ad n cap bs) : (valb bs).length = n * 1 := by rw [valb_length, h.len, Nat.mul_one]
theorem bt_of_own {w : World} {base n : Nat} {v : Value} {bs : List Int} {T : TypeId} (h : w.ownsRow base T 1 v n (valb bs)) (hb : By bs) (hl : bs.length <= 100000) (h0 : 0 < n) : ∃ g cap, v = .slice (some ⟨g, 0, none⟩) n cap ∧ base <= g ∧ Bt w ⟨g, 0, none⟩ n cap bs := by
 have hr := rb_of_own h hb (by omega)
 have hn : bs.length = n := by have := h.1; rw [valb_length] at this; omega
 obtain ⟨g, cap, hv, hg, _⟩ := h.form h0
 subst hv
 exact ⟨g, cap, rfl, hg, hr, hn⟩
theorem Bt.below {w W : World} {ad : Addr} {n cap : Nat} {bs : List Int} (h : Bt w ad n cap bs) (hb : Below w.heap.size w W) : Bt W ad n cap bs := ⟨h.rb.below hb, h.len⟩
theorem Cat_B (ad1 ad2 ad3 ad4 : Addr) (n1 n2 n3 n4 c1 c2 c3 c4 : Nat) (bs1 bs2 bs3 bs4 : List Int) (w : World) (b : Nat)
 (h1 : Bt w ad1 n1 c1 bs1) (h2 : Bt w ad2 n2 c2 bs2) (h3 : Bt w ad3 n3 c3 bs3) (h4 : Bt w ad4 n4 c4 bs4) (h0 : 0 < n1) (hl : n1 + n2 + n3 + n4 <= 100000)
 (t1 : w.cell? ⟨b, 0, none⟩ = some (.slice (some ad1) n1 c1)) (t2 : w.cell? ⟨b, 1, none⟩ = some (.slice (some ad2) n2 c2)) (t3 : w.cell? ⟨b, 2, none⟩ = some (.slice (some ad3) n3 c3)) (t4 : w.cell? ⟨b, 3, none⟩ = some (.slice (some ad4) n4 c4)) :
 Calls Tryz.prog 125 #[.slice (some ⟨b, 0, none⟩) 4 4] w fun e w' => ∃ v', e = .returned v' ∧ w'.ownsRow w.heap.size 5 1 v' (n1 + n2 + n3 + n4) (valb (bs1 ++ bs2 ++ bs3 ++ bs4)) ∧ Below w.heap.size w w' := by
 obtain ⟨i0, hi0, hz0, hz1, hz2⟩ := info_parts b8_info
 have tl := cell_in t1
 dsimp only at tl
 have HG : Hid (∀ W, Calls Tryz.prog 162 #[.slice none 0 0, .int .i64 ((n1 : Int) + (n2 : Int) + (n3 : Int) + (n4 : Int))] W fun e w' => ∃ cap, e = .returned (.slice (some ⟨W.heap.size, 0, none⟩) 0 cap) ∧ w'.ownsRow W.heap.size 5 1 (.slice (some ⟨W.heap.size, 0, none⟩) 0 cap) 0 [] ∧ Below W.heap.size W w') := fun W => by
  have := Grow_B (n1 + n2 + n3 + n4) W (by omega) (by omega)
  rw [Int.natCast_add, Int.natCast_add, Int.natCast_add] at this; exact this
 have HW : Hid (∀ W, Below w.heap.size w W -> W.cell? ⟨b, 0, none⟩ = some (.slice (some ad1) n1 c1) ∧ W.cell? ⟨b, 1, none⟩ = some (.slice (some ad2) n2 c2) ∧ W.cell? ⟨b, 2, none⟩ = some (.slice (some ad3) n3 c3) ∧ W.cell? ⟨b, 3, none⟩ = some (.slice (some ad4) n4 c4)) := fun W hb => ⟨(hb.cell (p := ⟨b, 0, none⟩) tl).trans t1, (hb.cell (p := ⟨b, 1, none⟩) tl).trans t2, (hb.cell (p := ⟨b, 2, none⟩) tl).trans t3, (hb.cell (p := ⟨b, 3, none⟩) tl).trans t4⟩
 have H1 := hide h1
 have H2 := hide h2
 have H3 := hide h3
 have H4 := hide h4
 clear h1 h2 h3 h4
 go_enter Tryz.func125, Tryz.ntmps125
 go_wp2
 refine wp_loop_rounds 5 ?_
 rw [rounds_succ]
 go_wp2
 rw [rounds_succ]
 go_wp2
 rw [rounds_succ]
 go_wp2
 rw [rounds_succ]
 go_wp2
 rw [rounds_succ]
 go_wp2_with fail
 refine (HG.out _).mono ?_
 rintro e w1 ⟨cp, rfl, hO, hB⟩
 obtain ⟨e1, e2, e3, e4⟩ := HW.out _ hB
 have hbs := hB.size
 clear t1 t2 t3 t4
 go_wp2_with fail
 refine wp_loop_rounds 5 ?_
 rw [rounds_succ]
 go_wp2_with (at_builtin; refine wpList_append_own _ rfl _ _ _ rfl w.heap.size 5 i0 _ 1 1 Tryz.underlying30 hi0 hz0 hz1 hz2 rfl (by omega) _ 0 (valb []) rfl hO ad1 n1 c1 (valb bs1) rfl H1.out.size (H1.out.news hB) (valb_one bs1) (by unfold maxLen; omega) (by omega) (by omega) ?_; intro v2 w2 hO2 hg2 _)
 have hB2 := hB.grown hg2 hbs (own_base hO)
 obtain ⟨_, f2, f3, f4⟩ := HW.out _ hB2
 have hbs2 := hB2.size
 rw [Nat.zero_add, valb_app, List.nil_append] at hO2
 obtain ⟨a2, k2, hv2⟩ := own_form hO2
 subst hv2
 clear e1 e2 e3 e4 hO hg2
 rw [rounds_succ]
 go_wp2_with (at_builtin; refine wpList_append_own _ rfl _ _ _ rfl w.heap.size 5 i0 _ 1 1 Tryz.underlying30 hi0 hz0 hz1 hz2 rfl (by omega) _ n1 (valb bs1) rfl hO2 ad2 n2 c2 (valb bs2) rfl H2.out.size (H2.out.news hB2) (valb_one bs2) (by unfold maxLen; omega) (by omega) (by omega) ?_; intro v3 w3 hO3 hg3 _)
 have hB3 := hB2.grown hg3 hbs2 (own_base hO2)
 obtain ⟨_, _, g3, g4⟩ := HW.out _ hB3
 have hbs3 := hB3.size
 rw [valb_app] at hO3
 obtain ⟨a3, k3, hv3⟩ := own_form hO3
 subst hv3
 clear f2 f3 f4 hO2 hg3
 rw [rounds_succ]
 go_wp2_with (at_builtin; refine wpList_append_own _ rfl _ _ _ rfl w.heap.size 5 i0 _ 1 1 Tryz.underlying30 hi0 hz0 hz1 hz2 rfl (by omega) _ (n1 + n2) (valb (bs1 ++ bs2)) rfl hO3 ad3 n3 c3 (valb bs3) rfl H3.out.size (H3.out.news hB3) (valb_one bs3) (by unfold maxLen; omega) (by omega) (by omega) ?_; intro v4 w4 hO4 hg4 _)
 have hB4 := hB3.grown hg4 hbs3 (own_base hO3)
 obtain ⟨_, _, _, h4⟩ := HW.out _ hB4
 have hbs4 := hB4.size
 rw [valb_app] at hO4
 obtain ⟨a4, k4, hv4⟩ := own_form hO4
 subst hv4
 clear g3 g4 hO3 hg4
 rw [rounds_succ]
 go_wp2_with (at_builtin; refine wpList_append_own _ rfl _ _ _ rfl w.heap.size 5 i0 _ 1 1 Tryz.underlying30 hi0 hz0 hz1 hz2 rfl (by omega) _ (n1 + n2 + n3) (valb (bs1 ++ bs2 ++ bs3)) rfl hO4 ad4 n4 c4 (valb bs4) rfl H4.out.size (H4.out.news hB4) (valb_one bs4) (by unfold maxLen; omega) (by omega) (by omega) ?_; intro v5 w5 hO5 hg5 _)
 have hB5 := hB4.grown hg5 hbs4 (own_base hO4)
 rw [valb_app] at hO5
 obtain ⟨a5, k5, hv5⟩ := own_form hO5
 subst hv5
 have HO5 := hide hO5
 clear h4 hO4 hg5 hO5
 rw [rounds_succ]
 go_wp2
 go_ret
 exact ⟨_, rfl, HO5.out, hB5⟩
end Go.Proofs.YtipobchbnjgenaaGreat
