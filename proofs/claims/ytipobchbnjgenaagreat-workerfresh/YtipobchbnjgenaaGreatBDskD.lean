import Derived.Test.YtipobchbnjgenaaGreatBunYI
import Derived.Test.YtipobchbnjgenaaGreatBTkA
import Derived.Deep.CutRange
import Derived.Great.BuildSlice
set_option linter.unusedVariables false
set_option linter.unusedSimpArgs false
set_option maxRecDepth 100000
set_option maxHeartbeats 4000000
namespace Go.Proofs.YtipobchbnjgenaaGreat
open Go.RowKit Fld
theorem op_mute {P : Program} {ops : Array Oper} {o : Oper} {a : Act} {w : World} {K : Act -> World -> Prop} {Q : Exit -> Act -> World -> Prop} {E : Prop} (hgd : o.guard = none) (v' : Value) (w' : World) (hr : (execOp a.eval o).run P w = .ok (.value v') w') (h : K (a.put o.dst v') w') : if Region.wanted o (yielded ops a.tmps) = true then Oper.wp P o a w K Q else E := by
 have hw : Region.wanted o (yielded ops a.tmps) = true := by simp [Region.wanted, hgd]
 rw [if_pos hw]
 unfold Oper.wp
 rw [hr]
 exact h
theorem Rb.range {w : World} {b off cap n : Nat} {bs : List Int} (h : Rb w (.slice (some ⟨b, off, none⟩) n cap) bs) (h32 : bs.length = 32) : w.rangeAt b off (k32 bs) := by
 intro j v hj
 rw [k32_valb h32] at hj
 have := h.news j v hj
 rw [Addr.add_mid] at this
 exact this
theorem k32_size : (Tryz.prog.info? 123).map (·.size) = some 32 := by kernel_rfl
theorem load_k32 {w : World} {b off : Nat} {bs : List Int} (h : w.rangeAt b off (k32 bs)) : (loadVar 123 ⟨b, off, none⟩).run Tryz.prog w = .ok (.agg (k32 bs).toArray) w :=
 run_loadVar_mid w b off 123 (k32 bs) _ h Tryz.underlying123 rfl (by rw [k32_len]; exact k32_size)
theorem array_k32 (b off cap : Nat) (W : World) : (Instr.arrayAt 123 (.slice (some ⟨b, off, none⟩) 32 cap)).run Tryz.prog W = .ok (.pointer (some ⟨b, off, none⟩)) W := by
 simp [Instr.arrayAt, run_underlying Tryz.underlying123]
theorem fill_k32 (bs : List Int) : Instr.fill (fun i => some (i * 32, 32)) ((Array.range 32).map ((List.replicate 32 (Value.int .u8 0)).toArray[· % 32]!)) [(0, .agg (k32 bs).toArray)] = some (k32 bs).toArray := by kernel_rfl
theorem build_k32 (bs : List Int) (w : World) : (Instr.buildSlice 91 1 #[(0, .agg (k32 bs).toArray)]).run Tryz.prog w = .ok (.slice (some ⟨w.heap.size, 0, none⟩) 1 1) (w.alloc (.cells (k32 bs).toArray 123)) := by
 obtain ⟨i0, hi0, hz0, hz1, hz2⟩ := info_parts kept_info
 refine run_buildSlice w 91 123 1 _ _ i0 _ Tryz.underlying91 hi0 hz0 (by rw [hz1]; decide) (by rw [hz1]; decide) ?_
 rw [hz1]
 exact fill_k32 bs
theorem wr_cases (D : Dsk) (b : List Int) :
 ((b.length : Int) ≠ 32 ∧ wrE22 D b = 2) ∨ (b.length = 32 ∧ dieD D = true ∧ wrE22 D b = 220) ∨ (b.length = 32 ∧ dieD D = false ∧ 65536 <= D.l.length ∧ wrE22 D b = 4) ∨ (b.length = 32 ∧ dieD D = false ∧ D.l.length < 65536 ∧ wrE22 D b = 0) := by
 unfold wrE22
 by_cases h1 : b.length = 32
 · rw [if_pos h1]
   cases h2 : dieD D with
   | true => exact .inr (.inl ⟨h1, rfl, by simp⟩)
   | false =>
    by_cases h3 : 65536 <= D.l.length
    · exact .inr (.inr (.inl ⟨h1, rfl, h3, by simp [h3]⟩))
    · exact .inr (.inr (.inr ⟨h1, rfl, by omega, by simp [h3]⟩))
 · rw [if_neg h1]
   exact .inl ⟨by omega, rfl⟩
theorem wr_same {D : Dsk} {b : List Int} (h : wrE22 D b ≠ 0) (h2 : wrE22 D b ≠ 220) : wrN22 D b = D := by
 unfold wrN22; rw [if_neg h, if_neg h2]
theorem gRaw_wr {w : World} {base g : Nat} {v : Value} {D : Dsk} (h : Hd w base g v D) (hb : base <= w.heap.size) (hn : D.n < 4611686018427387904) {u : Value} {b : List Int} (hu : Mr w u [b]) (h32 : b.length = 32) (hy : By b) :
 Calls Tryz.prog 96 #[.pointer (some ⟨g, 0, none⟩), .int .i64 (D.l.length : Int), u] w fun e w' => ∃ v', e = .returned (.int .i64 (wrE22 D b)) ∧ Hd w' base g v' (wrN22 D b) ∧ Mv w w' g v v' := by
 rcases wr_cases D b with ⟨h1, _⟩ | ⟨_, h2, he⟩ | ⟨_, h2, h3, he⟩ | ⟨_, h2, h3, he⟩
 · exact absurd h32 (by omega)
 · have e : wrN22 D b = { D with x := true } := by unfold wrN22; rw [if_neg (by omega), if_pos he]
   rw [he, e]
   exact (gRaw_cut h h2 _ _).mono fun r w' ⟨e1, e2, e3⟩ => ⟨v, e1, e2, e3⟩
 · rw [he, wr_same (by omega) (by omega)]
   have := h.o.ok.len
   exact (gRaw_full h h2 D.l.length hu (by omega) (by simp) (by simp; omega)).mono fun r w' ⟨e1, e2⟩ => ⟨v, e1, by rw [e2]; exact h, by rw [e2]; exact Mv.refl _ _ _⟩
 · have e : wrN22 D b = didD D (D.l ++ [b]) := by unfold wrN22; rw [if_pos he]
   rw [he, e]
   have := gRaw_ok h hb h2 hn D.l.length (Nat.le_refl _) hu (by simp; omega) (fun c hc => by
    have : c = b := by simpa using hc
    subst this; exact ⟨h32, hy⟩)
   rw [List.take_length] at this
   exact this
theorem gWrite_nil (u : Value) (w : World) : Calls Tryz.prog 71 #[.pointer none, u] w fun e w' => e = .returned (.int .i64 1) ∧ w' = w := by
 have H := hide (fun W => dIsThere_nil W)
 go_enter Tryz.func71, Tryz.ntmps71
 go_wp2_with (go_at_call 57; refine (H.out _).mono ?_; rintro e w1 ⟨rfl, rfl⟩)
 go_ret
 exact ⟨rfl, rfl⟩
theorem gWrite22 {w : World} {base g : Nat} {v : Value} {D : Dsk} (h : Hd w base g v D) (hb : base <= w.heap.size) (hn : D.n < 4611686018427387904) {u : Value} {bs : List Int} (hu : Rb w u bs) :
 Calls Tryz.prog 71 #[.pointer (some ⟨g, 0, none⟩), u] w fun e w' => ∃ v', e = .returned (.int .i64 (wrE22 D bs)) ∧ Hd w' base g v' (wrN22 D bs) ∧ Mv w w' g v v' := by
 have H := hide (dIsThere h)
 by_cases h32 : bs.length = 32
 · obtain ⟨b, off, cap, rfl, hcap, hbl⟩ := hu.form (by omega)
   have hr := hu.range h32
   have hy := hu.by
   obtain ⟨W, hW⟩ : ∃ W, w.drew.alloc (.cells (k32 bs).toArray 123) = W := ⟨_, rfl⟩
   have hBd : Below w.heap.size w W := by rw [<- hW]; exact Below.next (Below.refl w.heap.size w).drew (alloc_below w.drew _)
   have hbx : W.heap[w.heap.size]? = some (.cells (k32 bs).toArray 123 (0, 0)) := by rw [<- hW]; exact heap_alloc_new w.drew _
   have HBS : Hid ((Instr.buildSlice 91 1 #[(0, .agg (k32 bs).toArray)]).run Tryz.prog w.drew = .ok (.slice (some ⟨w.heap.size, 0, none⟩) 1 1) W) := by rw [<- hW]; exact build_k32 bs w.drew
   have HR := hide (gRaw_wr (h.below hBd) (Nat.le_trans hb hBd.size) hn (u := .slice (some ⟨w.heap.size, 0, none⟩) 1 1) (b := bs) (.inr ⟨w.heap.size, 1, rfl, fun j x hj => by
    have hj' : (k32 bs)[j]? = some x := by simpa using hj
    exact World.news_of_block (cs := (k32 bs).toArray) hbx j x (by simpa using hj')⟩) h32 hy)
   have HM := hide (fun (w' : World) (v' : Value) (m : Mv W w' g v v') => Mv.after hBd m)
   obtain ⟨ao, k, rfl, _⟩ := h.spell
   have c1 := h.cells.2.1
   have hcW := (h.below hBd).cells.2.1
   rw [h32] at *
   have hrd : w.drew.cell? ⟨g, 1, none⟩ = some (.slice ao D.l.length k) ∧ w.drew.rangeAt b off (k32 bs) := ⟨c1, hr⟩
   have hrW : W.cell? ⟨g, 1, none⟩ = some (.slice ao D.l.length k) ∧ W.rangeAt b off (k32 bs) := ⟨hcW, fun j v hv => (hBd.cell (p := ⟨b, off + j, none⟩) hbl).trans (hr j v hv)⟩
   have HX8 : Hid (∀ V : World, (V.cell? ⟨g, 1, none⟩ = some (.slice ao D.l.length k) ∧ V.rangeAt b off (k32 bs)) -> (loadVar 123 ⟨b, off, none⟩).run Tryz.prog V = .ok (.agg (k32 bs).toArray) V) := fun V hV => load_k32 hV.2
   have har := array_k32 b off cap
   clear hW hbx h hu hr hy hcW hBd hb hn hbl h32 hcap c1
   go_enter Tryz.func71, Tryz.ntmps71
   go_upto_region 5 with (go_at_call 57; refine H.out.mono ?_; rintro e w1 ⟨rfl, rfl⟩)
   refine wp_region_two (S := (fun V => V.cell? ⟨g, 1, none⟩ = some (.slice ao D.l.length k) ∧ V.rangeAt b off (k32 bs))) (by kernel_rfl) (by kernel_rfl) (by kernel_rfl) rfl rfl (by ((try dsimp only) <;> (first | with_reducible exact hrd | with_reducible exact hrW))) (fun hHeld => ?_)
   simp only [List.dropLast]
   refine tkY 0 ?_
   refine tkY 1 ?_
   refine tkY 2 ?_
   refine tkY 3 ?_
   refine tkY 4 ?_
   refine tkY 5 ?_
   refine tkY 6 ?_
   refine tkY 7 ?_
   refine tkY 8 ?_ (hy := by (intro w hSw; (try dsimp only at hSw); simp [execOp, Instr.loadAt, Instr.sureAddr, Act.eval, HX8.out _ hSw]; with_reducible rfl))
   refine rd1 9 (fun K hK => ?_)
   ((refine op_mute (by rfl) (.slice (some ⟨w1.heap.size, 0, none⟩) 1 1) W (by simp [execOp, Act.eval, HBS.out]) ?_))
   refine hK.out _ _ (by ((try dsimp only) <;> (first | with_reducible exact hrd | with_reducible exact hrW))) (fun hHeld => ?_)
   clear hK K
   (try simp only [ly0, ly1, ly2, ly3, ly4, ly5, ly6, ly7])
   refine wpAnyH_done (by kernel_rfl) ?_ _
   simp only [tailQ]
   clear hrd hrW HX8 har
   go_wp2_with (go_at_call 96; refine HR.out.mono ?_; rintro e w2 ⟨v2, rfl, hn2, hm2⟩)
   simp only [tailQ]
   go_wp2
   go_ret
   exact ⟨_, rfl, hn2, HM.out _ _ hm2⟩
 · have e1 : wrE22 D bs = 2 := by unfold wrE22; rw [if_neg h32]
   have e2 : wrN22 D bs = D := wr_same (by omega) (by omega)
   rw [e1, e2]
   have h32' : ¬ (bs.length : Int) = 32 := by omega
   have HP := hide h
   have HM := hide (Mv.refl w g v)
   obtain ⟨a, c, rfl, _⟩ := hu.spell
   clear e1 e2 h h32 hu hn hb
   go_enter Tryz.func71, Tryz.ntmps71
   go_wp2_with (go_at_call 57; refine H.out.mono ?_; rintro e w1 ⟨rfl, rfl⟩)
   go_ret
   exact ⟨_, rfl, HP.out, HM.out⟩
theorem tm_cases (D : Dsk) (i : Int) :
 ((i < 0 ∨ (D.l.length : Int) < i) ∧ tmE D i = 2 ∧ tmN D i = D) ∨ (∃ k : Nat, i = (k : Int) ∧ k <= D.l.length ∧ ((dieD D = true ∧ tmE D i = 220 ∧ tmN D i = { D with x := true }) ∨ (dieD D = false ∧ tmE D i = 0 ∧ tmN D i = didD D (D.l.take k)))) := by
 by_cases h : 0 <= i ∧ i <= (D.l.length : Int)
 · obtain ⟨k, rfl⟩ : ∃ k : Nat, i = (k : Int) := ⟨i.toNat, by omega⟩
   refine .inr ⟨k, rfl, by omega, ?_⟩
   cases h2 : dieD D with
   | true =>
    have e : tmE D (k : Int) = 220 := by unfold tmE; rw [if_pos h, if_pos h2]
    exact .inl ⟨rfl, e, by unfold tmN; rw [if_neg (by omega), if_pos e]⟩
   | false =>
    have e : tmE D (k : Int) = 0 := by unfold tmE; rw [if_pos h, if_neg (by rw [h2]; decide)]
    exact .inr ⟨rfl, e, by unfold tmN; rw [if_pos e, Int.toNat_natCast]⟩
 · have e : tmE D i = 2 := by unfold tmE; rw [if_neg h]
   exact .inl ⟨by omega, e, by unfold tmN; rw [if_neg (by omega), if_neg (by omega)]⟩
theorem gRaw_tm {w : World} {base g : Nat} {v : Value} {D : Dsk} (h : Hd w base g v D) (hb : base <= w.heap.size) (hn : D.n < 4611686018427387904) (i : Int) (hi : ¬ i < 0) (hi2 : ¬ (D.l.length : Int) < i) :
 Calls Tryz.prog 96 #[.pointer (some ⟨g, 0, none⟩), .int .i64 i, .slice none 0 0] w fun e w' => ∃ v', e = .returned (.int .i64 (tmE D i)) ∧ Hd w' base g v' (tmN D i) ∧ Mv w w' g v v' := by
 rcases tm_cases D i with ⟨h1, _⟩ | ⟨k, rfl, hk, ⟨h2, e1, e2⟩ | ⟨h2, e1, e2⟩⟩
 · omega
 · rw [e1, e2]
   exact (gRaw_cut h h2 _ _).mono fun r w' ⟨e1, e2, e3⟩ => ⟨v, e1, e2, e3⟩
 · rw [e1, e2]
   have := gRaw_ok h hb h2 hn k hk (u := .slice none 0 0) (bs := []) (.inl ⟨rfl, rfl⟩) (by have := h.o.ok.len; simp; omega) (fun c hc => by cases hc)
   rw [List.append_nil] at this
   exact this
theorem gTrim22 {w : World} {base g : Nat} {v : Value} {D : Dsk} (h : Hd w base g v D) (hb : base <= w.heap.size) (hn : D.n < 4611686018427387904) (i : Int) :
 Calls Tryz.prog 76 #[.pointer (some ⟨g, 0, none⟩), .int .i64 i] w fun e w' => ∃ v', e = .returned (.int .i64 (tmE D i)) ∧ Hd w' base g v' (tmN D i) ∧ Mv w w' g v v' := by
 have H := hide (dIsThere h)
 have HP := hide h
 have HM := hide (Mv.refl w g v)
 have HR := hide (gRaw_tm h hb hn i)
 have HC := hide (tm_cases D i)
 obtain ⟨ao, k, rfl, _⟩ := h.spell
 have c1 := h.cells.2.1
 clear h hb hn
 by_cases h1 : i < 0
 · obtain ⟨e1, e2⟩ : tmE D i = 2 ∧ tmN D i = D := by
    rcases HC.out with ⟨_, h⟩ | ⟨k, hk, _⟩
    · exact h
    · omega
   rw [e1, e2]
   clear e1 e2 HR HC
   go_enter Tryz.func76, Tryz.ntmps76
   go_wp2_with (go_at_call 57; refine H.out.mono ?_; rintro e w1 ⟨rfl, rfl⟩)
   go_ret
   exact ⟨_, rfl, HP.out, HM.out⟩
 · by_cases h2 : (D.l.length : Int) < i
   · obtain ⟨e1, e2⟩ : tmE D i = 2 ∧ tmN D i = D := by
      rcases HC.out with ⟨_, h⟩ | ⟨k, hk, hk2, _⟩
      · exact h
      · omega
     rw [e1, e2]
     clear e1 e2 HR HC
     go_enter Tryz.func76, Tryz.ntmps76
     go_wp2_with (go_at_call 57; refine H.out.mono ?_; rintro e w1 ⟨rfl, rfl⟩)
     go_ret
     exact ⟨_, rfl, HP.out, HM.out⟩
   · have HR2 := hide (HR.out h1 h2)
     clear HR HC
     go_enter Tryz.func76, Tryz.ntmps76
     go_wp2_with (first
      | (go_at_call 57; refine H.out.mono ?_; rintro e w1 ⟨rfl, rfl⟩)
      | (go_at_call 96; refine HR2.out.mono ?_; rintro e w2 ⟨v2, rfl, hn2, hm2⟩))
     go_ret
     exact ⟨_, rfl, hn2, hm2⟩
theorem lCloneK (v : Value) (n base : Nat) (xs : List Value) (w : World) (h : w.ownsRow base 123 32 v n xs) (hn : n <= 65536) (h1 : ∀ u ∈ xs, u.oneCell' = true) :
 Calls Tryz.prog 58 #[v] w fun e w' => ∃ v', e = .returned v' ∧ w'.ownsRow w.heap.size 123 32 v' n xs ∧ Below w.heap.size w w' := by
 obtain ⟨i0, hi0, hz0, hz1, hz2⟩ := info_parts kept_info
 rcases h.2 with ⟨rfl, rfl⟩ | ⟨g, cap, cur, rfl, hbg, hg, hnc, hcm, hcs, htake⟩
 · have hx : xs = [] := List.eq_nil_of_length_eq_zero (by simpa using h.1)
   subst hx
   have hq := Lib.run_eql_slice_nil (P := Tryz.prog) w 91 123 none 0 0 0 0 Tryz.underlying91
   clear h
   go_enter Tryz.func58, Tryz.ntmps58
   go_wp2
   go_ret
   exact ⟨_, rfl, World.ownsRow_nil _ _ _ _, Below.refl _ _⟩
 · have hq := Lib.run_eql_slice_nil (P := Tryz.prog) w 91 123 (some ⟨g, 0, none⟩) n cap 0 0 Tryz.underlying91
   have hown := own_none w 123 32
   have hB := alloc_below w (.cells #[] 123)
   have HL := hide h.1
   have HV := hide h1
   have HN : Hid (∀ j u, xs[j]? = some u -> (w.alloc (.cells #[] 123)).cell? ((⟨g, 0, none⟩ : Addr).add j) = some u) := fun j u hj => by
    have h2 := (own_below h hB).cells (g := g) rfl j u hj
    exact h2
   have HBr := hide (fun W r (hg : World.grownBy (w.alloc (.cells #[] 123)) W r) (hr : ∀ k, r = some k -> w.heap.size <= k) => hB.grown hg (by simp) hr)
   clear h h1 hg hcs htake
   go_enter Tryz.func58, Tryz.ntmps58
   go_wp2_with (at_builtin; refine wpList_append_own _ rfl _ _ _ rfl w.heap.size 123 i0 _ 32 32 Tryz.underlying91 hi0 hz0 hz1 hz2 rfl (by omega) _ 0 [] rfl hown ⟨g, 0, none⟩ n cap xs rfl HL.out HN.out HV.out (by unfold maxLen; omega) (by omega) (by simp) ?_; intro v' w1 hown1 hgrow _)
   go_ret
   refine ⟨_, rfl, by simpa using hown1, HBr.out _ _ hgrow (fun k hk => by cases hk; exact Nat.le_refl _)⟩
theorem dk0_dok : Dok dk0 := ⟨dk0_ok, fun b hb => by simp [dk0] at hb, by simp [dk0]⟩
theorem gNew22 (w : World) : Calls Tryz.prog 7 #[] w fun e w' => e = .returned (.pointer (some ⟨w.heap.size, 0, none⟩)) ∧ Hd w' w.heap.size w.heap.size (.slice none 0 0) dk0 ∧ Below w.heap.size w w' := by
 go_enter Tryz.func7, Tryz.ntmps7
 go_wp2
 go_ret
 exact ⟨rfl, ⟨heap_alloc_new w _, World.ownsRow_nil _ _ _ _, Nat.le_refl _, dk0_dok⟩, alloc_below w _⟩
theorem gFuse_nil (i : Int) (w : World) : Calls Tryz.prog 21 #[.pointer none, .int .i64 i] w fun e w' => e = .returned (.int .i64 1) ∧ w' = w := by
 have H := hide (fun W => dIsThere_nil W)
 go_enter Tryz.func21, Tryz.ntmps21
 go_wp2_with (go_at_call 57; refine (H.out _).mono ?_; rintro e w1 ⟨rfl, rfl⟩)
 go_ret
 exact ⟨rfl, rfl⟩
theorem gFuse {w : World} {base g : Nat} {v : Value} {D : Dsk} (h : Hd w base g v D) (i : Int) (hi : i <= 9223372036854775807) :
 Calls Tryz.prog 21 #[.pointer (some ⟨g, 0, none⟩), .int .i64 i] w fun e w' => e = .returned (.int .i64 (fuE i)) ∧ Hd w' base g v (fuN D i) ∧ Mv w w' g v v := by
 have H := hide (dIsThere h)
 have HP := hide h
 obtain ⟨_, _, c2, c3, _, _⟩ := h.cells
 have hf := h.free
 clear h
 by_cases h1 : i < 0
 · have e1 : fuE i = 2 := by unfold fuE; rw [if_neg (by omega)]
   have e2 : fuN D i = D := by unfold fuN; rw [if_neg (by omega)]
   rw [e1, e2]
   clear e1 e2 c2 c3 hf
   go_enter Tryz.func21, Tryz.ntmps21
   go_wp2_with (go_at_call 57; refine H.out.mono ?_; rintro e w1 ⟨rfl, rfl⟩)
   go_ret
   exact ⟨rfl, HP.out, Mv.refl _ _ _⟩
 · have e1 : fuE i = 0 := by unfold fuE; rw [if_pos (by omega)]
   have e2 : fuN D i = { D with f := i } := by unfold fuN; rw [if_pos e1]
   rw [e1, e2]
   clear e1 e2
   have HI := hide hi
   clear hi
   go_enter Tryz.func21, Tryz.ntmps21
   go_wp2_with (go_at_call 57; refine H.out.mono ?_; rintro e w1 ⟨rfl, hw1⟩; rw [hw1]; clear hw1)
   go_ret
   have h := HP.out
   refine ⟨rfl, ⟨?_, ownsRow_setCell_other (ownsRow_setCell_other h.row h.ne _) h.ne _, h.low, ⟨⟨h.o.ok.len, h.o.ok.blk, by show -1 <= i; omega⟩, h.o.byt, HI.out⟩⟩, (mv_set _ g 2 _ _).trans (mv_set _ g 3 _ _)⟩
   rw [set_blk (set_blk h.dsk 2 _) 3 _]
   unfold dkw
   dsimp only
   rw [decide_eq_true (show 0 <= i by omega), show max i 0 = i by omega]
   rfl
theorem gMend {w : World} {base g : Nat} {v : Value} {D : Dsk} (h : Hd w base g v D) :
 Calls Tryz.prog 23 #[.pointer (some ⟨g, 0, none⟩)] w fun e w' => e = .returned (.int .i64 0) ∧ Hd w' base g v (mdN D) ∧ Mv w w' g v v := by
 have H := hide (dIsThere h)
 have HP := hide h
 obtain ⟨_, _, c2, c3, c4, _⟩ := h.cells
 have hf := h.free
 clear h
 go_enter Tryz.func23, Tryz.ntmps23
 go_wp2_with (go_at_call 57; refine H.out.mono ?_; rintro e w1 ⟨rfl, hw1⟩; rw [hw1]; clear hw1)
 go_ret
 have h := HP.out
 refine ⟨rfl, ⟨?_, ownsRow_setCell_other (ownsRow_setCell_other (ownsRow_setCell_other h.row h.ne _) h.ne _) h.ne _, h.low, ⟨mdN_ok h.o.ok, h.o.byt, by simp [mdN]⟩⟩, ((mv_set _ g 2 _ _).trans (mv_set _ g 3 _ _)).trans (mv_set _ g 4 _ _)⟩
 rw [set_blk (set_blk (set_blk h.dsk 2 _) 3 _) 4 _]
 rfl
def nsl (n : Nat) : List Value := List.replicate n (.slice none 0 0)
theorem nsl_len (n : Nat) : (nsl n).length = n := by simp [nsl]
theorem makeY (n : Nat) (hm : n <= 100000) (W : World) : (Instr.makeSlice 35 (.int .i64 (n : Int)) (.int .i64 (n : Int))).run Tryz.prog W = .ok (.slice (some ⟨W.heap.size, 0, none⟩) n n) (W.alloc (.cells (nsl n).toArray 30)) := by
 obtain ⟨i, hi, hz, hs, hb⟩ := info_parts bsl_info
 have := run_make (P := Tryz.prog) W 35 30 i (.slice none 0 0) Tryz.underlying35 hi hz .i64 .i64 (n : Int) (n : Int) (by omega) (by omega) (by rw [hb]; omega) (by omega)
 rw [this, hs, Int.toNat_natCast]
 show Result.ok _ (W.alloc (.cells (madeCells #[.slice none 0 0] (n * 1)) 30)) = _
 rw [made_listO]
 rfl
theorem own_newY {W : World} {base n : Nat} {T : TypeId} {cs : List Value} (hb : base <= W.heap.size) (hl : cs.length = n) (hn : n <= 100000) : (W.alloc (.cells cs.toArray T)).ownsRow base T 1 (.slice (some ⟨W.heap.size, 0, none⟩) n n) n cs :=
 ⟨by rw [hl, Nat.mul_one], .inr ⟨W.heap.size, n, cs.toArray, rfl, hb, heap_alloc_new W _, Nat.le_refl _, by unfold maxLen; omega, by rw [List.size_toArray, hl, Nat.mul_one], by rw [Nat.mul_one, <- hl]; exact List.take_length⟩⟩
def tbl (r k : Nat) : List Value := (List.range k).map fun i => .slice (some ⟨r, i * 32, none⟩) 32 32
theorem tbl_len (r k : Nat) : (tbl r k).length = k := by simp [tbl]
theorem tbl_step (r : Nat) {n k : Nat} (hk : k < n) : (tbl r k ++ nsl (n - k)).set k (.slice (some ⟨r, k * 32, none⟩) 32 32) = tbl r (k + 1) ++ nsl (n - (k + 1)) := by
 have e : n - k = (n - (k + 1)) + 1 := by omega
 unfold nsl
 rw [e, List.replicate_succ, List.set_append_right _ _ (by rw [tbl_len]; exact Nat.le_refl _), tbl_len, Nat.sub_self, List.set_cons_zero]
 unfold tbl
 rw [List.range_succ, List.map_append, List.append_assoc]
 rfl
theorem tbl_at (r : Nat) {n k : Nat} (hk : k < n) : (tbl r k ++ nsl (n - k))[k]? = some (.slice none 0 0) := by
 rw [List.getElem?_append_right (by rw [tbl_len]; exact Nat.le_refl _), tbl_len, Nat.sub_self, nsl, List.getElem?_replicate, if_pos (by omega)]
structure Tol (w : World) (lo : Nat) (v : Value) (r c : Nat) (bs : List (List Int)) : Prop where
 row : w.ownsRow lo 30 1 v bs.length (tbl r bs.length)
 blk : 0 < bs.length -> w.ownsRow lo 123 32 (.slice (some ⟨r, 0, none⟩) bs.length c) bs.length (bs.flatMap k32)
 b32 : ∀ b ∈ bs, b.length = 32 ∧ By b
theorem gBlocks22 {w : World} {base g : Nat} {v : Value} {D : Dsk} (h : Hd w base g v D) :
 Calls Tryz.prog 26 #[.pointer (some ⟨g, 0, none⟩)] w fun e w' => ∃ v' r c, e = .returned v' ∧ Tol w' w.heap.size v' r c D.l ∧ Below w.heap.size w w' := by
 have H := hide (dIsThere h)
 have c1 := h.cells.2.1
 have HC := hide (lCloneK v D.l.length base (D.l.flatMap k32) w h.row h.o.ok.len (flat_one k32_one D.l))
 have HK : Hid (∀ b ∈ D.l, b.length = 32 ∧ By b) := fun b hb => ⟨h.o.ok.blk b hb, h.o.byt b hb⟩
 have hlen := h.o.ok.len
 obtain ⟨ao, cap, rfl, _⟩ := h.spell
 clear h
 generalize D.l = l at *
 generalize hn : l.length = n at *
 have HN := hide hn
 have hmk := makeY n (by omega)
 have HLn := hide hlen
 clear hn hlen
 go_enter Tryz.func26, Tryz.ntmps26
 go_wp2_with (first
  | (go_at_call 57; refine H.out.mono ?_; rintro e w1 ⟨rfl, hw1⟩; rw [hw1]; clear hw1)
  | (go_at_call 58; refine HC.out.mono ?_; rintro e w2 ⟨v2, rfl, ho2, hb2⟩; obtain ⟨a2, k2, hv2, _, hp2⟩ := own_spellO ho2; subst hv2))
 have hmo := own_newY (W := w2) (T := 30) (Nat.le_refl _) (nsl_len n) (by have := HLn.out; omega)
 have hmb := alloc_below w2 (.cells (nsl n).toArray 30)
 have HMo := hide hmo
 have HMb := hide hmb
 have HO2 := hide ho2
 have HB2 := hide hb2
 have HP2 := hide hp2
 clear hmo hmb ho2 hb2 hp2 c1 hmk
 generalize hW3 : w2.alloc (.cells (nsl n).toArray 30) = w3 at *
 clear hW3
 go_loopw [19] (fun vi wr => ∃ (k : Nat), k <= n ∧ vi = .int .i64 k ∧ Hid (∀ r, (0 < n -> a2 = some ⟨r, 0, none⟩) -> wr.ownsRow w2.heap.size 30 1 (.slice (some ⟨w2.heap.size, 0, none⟩) n n) n (tbl r k ++ nsl (n - k))) ∧ Below w2.heap.size w2 wr) (fun vi _ => n - (intOf vi).toNat)
 case atStart => exact ⟨0, Nat.zero_le _, rfl, fun r _ => by simpa [tbl] using HMo.out, HMb.out⟩
 case round =>
  obtain ⟨k, hk, rfl, HR, hB⟩ := hrel
  by_cases hlt : k < n
  · obtain ⟨r, rfl, hr1, hr2⟩ := HP2.out (by omega)
    have hrow := HR.out r (fun _ => rfl)
    have hc := own_atO hrow (tbl_at r hlt)
    have hfz := own_frz hrow k
    have k0 : (0 : Int) <= (k : Int) := by omega
    have k1 : (k : Int) < (n : Int) := by omega
    have hln := HLn.out
    have HRow := hide hrow
    clear hrow
    go_wp2
    go_roundw
    case rel =>
     refine ⟨k + 1, by omega, by go_num, fun r1 h1 => ?_, hB.setCell (p := ⟨w2.heap.size, _, none⟩) (Nat.le_refl _) _⟩
     have e : r = r1 := by have := h1 (by omega); injection this with this; injection this
     subst e
     rw [<- tbl_step r hlt]
     exact own_setn HRow.out _
    case measure => simp [intOf]; omega
  · have : k = n := by omega
    subst this
    go_wp2
    go_ret
    have hsz := HB2.out.size
    rcases Nat.eq_zero_or_pos k with h0 | h0
    · have hr := HR.out 0 (fun h => absurd h (by omega))
      rw [Nat.sub_self] at hr
      simp only [nsl, List.replicate_zero, List.append_nil] at hr
      refine ⟨_, 0, 0, rfl, ⟨by rw [HN.out]; exact own_mono hr hsz, fun h => ?_, HK.out⟩, Below.next HB2.out hB⟩
      rw [HN.out] at h; omega
    · obtain ⟨r, rfl, hr1, hr2⟩ := HP2.out h0
      have hr := HR.out r (fun _ => rfl)
      rw [Nat.sub_self] at hr
      simp only [nsl, List.replicate_zero, List.append_nil] at hr
      refine ⟨_, r, k2, rfl, ⟨by rw [HN.out]; exact own_mono hr hsz, fun _ => ?_, HK.out⟩, Below.next HB2.out hB⟩
      rw [HN.out]
      exact own_below HO2.out hB
theorem gWrite_none {w : World} {base g : Nat} {v : Value} {D : Dsk} (h : Hd w base g v D) :
 Calls Tryz.prog 71 #[.pointer (some ⟨g, 0, none⟩), .slice none 0 0] w fun e w' => e = .returned (.int .i64 2) ∧ w' = w := by
 have H := hide (dIsThere h)
 clear h
 go_enter Tryz.func71, Tryz.ntmps71
 go_wp2_with (go_at_call 57; refine H.out.mono ?_; rintro e w1 ⟨rfl, rfl⟩)
 go_ret
 exact ⟨rfl, rfl⟩
theorem gThere_no (w : World) : Calls Tryz.prog 74 #[.pointer none] w fun e w' => e = .returned (.bool false) ∧ w' = w := by
 have H := hide (fun W => gWrite_nil (.slice none 0 0) W)
 go_enter Tryz.func74, Tryz.ntmps74
 go_wp2_with (go_at_call 71; refine (H.out _).mono ?_; rintro e w1 ⟨rfl, rfl⟩)
 go_ret
 exact ⟨rfl, rfl⟩
theorem gThere {w : World} {base g : Nat} {v : Value} {D : Dsk} (h : Hd w base g v D) : Calls Tryz.prog 74 #[.pointer (some ⟨g, 0, none⟩)] w fun e w' => e = .returned (.bool true) ∧ w' = w := by
 have H := hide (gWrite_none h)
 clear h
 go_enter Tryz.func74, Tryz.ntmps74
 go_wp2_with (go_at_call 71; refine H.out.mono ?_; rintro e w1 ⟨rfl, rfl⟩)
 go_ret
 exact ⟨rfl, rfl⟩
theorem gSize23 (v : Value) (bs : List Int) (w : World) (h : Rb w v bs) : Calls Tryz.prog 127 #[v] w fun e w' => e = .returned (.int .i64 ((jrN bs.length : Nat) : Int)) ∧ w' = w := by
 have hl := h.len
 obtain ⟨a, c, rfl, _⟩ := h.spell
 clear h
 have e1 : ((jrN bs.length : Nat) : Int) = ((bs.length : Int) + 12 + 32 - 1) / 32 := by unfold jrN; omega
 have HE := hide e1
 clear e1
 generalize bs.length = n at *
 go_enter Tryz.func127, Tryz.ntmps127
 go_wp2
 go_ret
 exact ⟨by rw [HE.out]; rfl, rfl⟩
def keF (b : Nat) : Value := .func (.func 171) #[] #[.pointer (some ⟨b, 0, none⟩)]
def Ke (W : World) (b : Nat) (x : Int) : Prop := W.heap[b]? = some (.cells #[.int .i64 x] 40 (0, 0))
theorem gFirstJ (w : World) : Calls Tryz.prog 137 #[] w fun e w' => e = .returned (keF w.heap.size) ∧ w' = w.alloc (.cells #[.int .i64 0] 40) := by
 unfold keF
 go_enter Tryz.func137, Tryz.ntmps137
 go_wp2
 go_ret
 exact ⟨rfl, rfl⟩
theorem gKeep (w : World) (b : Nat) (x e : Int) (h : Ke w b x) : Calls Tryz.prog 171 #[.int .i64 e, .pointer (some ⟨b, 0, none⟩)] w fun r w' => r = .returned (.int .i64 (if x = 0 then e else x)) ∧ Ke w' b (if x = 0 then e else x) ∧ (w' = w ∨ w' = w.setCell ⟨b, 0, none⟩ (.int .i64 e)) := by
 have HX := hide h
 have c0 : w.cell? ⟨b, 0, none⟩ = some (.int .i64 x) := (Lib.cell_of_heap h 0).trans rfl
 have cf : w.frozen? ⟨b, 0, none⟩ = false := Lib.frozen_of_heap h 0
 clear h
 by_cases hx : x = 0
 · subst hx
   rw [if_pos rfl]
   go_enter Tryz.func171, Tryz.ntmps171
   go_wp2
   go_ret
   exact ⟨rfl, (set_blk HX.out 0 _).trans rfl, .inr rfl⟩
 · rw [if_neg hx]
   go_enter Tryz.func171, Tryz.ntmps171
   go_wp2
   go_ret
   exact ⟨rfl, HX.out, .inl rfl⟩
theorem headY {w : World} {base n cap : Nat} {ao : Option Addr} {xs : List Value} (h : w.ownsRow base 30 1 (.slice ao n cap) n xs) (k : Nat) (hk : k <= n) :
 ∀ W, (Instr.slice 35 (.slice ao n cap) none (some (.int .i64 (k : Int))) none).run Tryz.prog W = .ok (.slice ao k cap) W := by
 obtain ⟨i0, hi0, hz0, hz1, hz2⟩ := info_parts bsl_info
 intro W
 rcases h.2 with ⟨e, h0⟩ | ⟨g, cap', cur, e, h2, h3, h4, h5, h6, h7⟩
 · injection e with e1 e2 e3
   subst e1 e2 e3
   have : k = 0 := by omega
   subst this
   simp [Instr.slice, Instr.sliceBounds, Instr.sliceBound, asIntOf, run_underlying Tryz.underlying35, sizeOf, typeInfo, hi0, hz1]
 · cases e
   have h2' : (k : Int) <= (cap : Int) := by omega
   by_cases h0 : cap = 0
   · subst h0
     have : k = 0 := by omega
     subst this
     simp [Instr.slice, Instr.sliceBounds, Instr.sliceBound, asIntOf, run_underlying Tryz.underlying35, sizeOf, typeInfo, hi0, hz1]
   · simp [Instr.slice, Instr.sliceBounds, Instr.sliceBound, asIntOf, run_underlying Tryz.underlying35, sizeOf, typeInfo, hi0, hz1, h2', h0, show ¬ cap < k by omega, Addr.add]
theorem app_rw {W : World} {lo k c m c' : Nat} {a b : Option Addr} {xs ys : List Value} (h : W.ownsRow lo 30 1 (.slice a k c) k xs) (hm : ys.length = m) (hu : (b = none ∧ m = 0 ∧ c' = 0) ∨ ∃ ad, b = some ad ∧ (∀ j x, ys[j]? = some x -> W.cell? (ad.add j) = some x)) (h1 : ∀ x ∈ ys, x.oneCell' = true) (hl : k + m <= 5864062014700) (hb : lo <= W.heap.size) :
 ∃ (au : Option Addr) (cu : Nat) (W' : World), (Builtin.append_ #[35, 35] 35 #[.slice a k c, .slice b m c']).run Tryz.prog W = .ok (.slice au (k + m) cu) W' ∧ W'.ownsRow lo 30 1 (.slice au (k + m) cu) (k + m) (xs ++ ys) ∧ W.grownBy W' (Value.slice a k c).ownBlock ∧ (∀ j, (Value.slice au (k + m) cu).ownBlock = some j -> (Value.slice a k c).ownBlock = some j ∨ W.heap.size <= j) := by
 obtain ⟨i0, hi0, hz0, hz1, hz2⟩ := info_parts bsl_info
 rcases hu with ⟨rfl, rfl, rfl⟩ | ⟨ad, rfl, hc⟩
 · have : ys = [] := List.length_eq_zero_iff.1 hm
   subst this
   refine ⟨a, c, W, ?_, by simpa using h, ⟨rfl, rfl, rfl, Nat.le_refl _, fun _ _ _ => rfl⟩, fun j hj => .inl hj⟩
   exact run_append_owned_none (P := Tryz.prog) (w := W) lo 35 35 30 i0 1 Tryz.underlying35 hi0 _ _ _ h
 · obtain ⟨v', W', hr, ho, hg, _, hat⟩ := run_append_own_at (P := Tryz.prog) (w := W) lo 35 35 30 i0 (.slice none 0 0) 1 24 Tryz.underlying35 hi0 hz0 hz1 hz2 rfl (by decide) (.slice a k c) k xs h ad m c' ys (by omega) hc h1 (by unfold maxLen; omega) (by omega) hb
   obtain ⟨au, cu, rfl, _⟩ := own_spellO ho
   exact ⟨au, cu, W', hr, ho, hg, new_of_at hat⟩
theorem be_one {w : World} {base g : Nat} {v : Value} {D : Dsk} {es : List Be} (h : Dr w base g v D es) : ∀ e ∈ es, e.2.oneCell' = true := fun e he => by
 obtain ⟨a, c, hv, _⟩ := own_spellO (h.each e he)
 rw [hv]; rfl
theorem wr_mem {w : World} {base g : Nat} {v : Value} {D : Dsk} {es : List Be} (h : Dr w base g v D es) (hb : base <= w.heap.size) (hl : D.l.length < 65536) {bs : List Int} (h32 : bs.length = 32) (hy : By bs) {w2 : World} (hb2 : Below w.heap.size w w2) {a2 : Option Addr} {k2 : Nat} (ho : w2.ownsRow w.heap.size 5 1 (.slice a2 32 k2) 32 (valb bs)) :
 w2.cell? ⟨g, 0, none⟩ = some v ∧ (w2.alloc (.cells #[.slice a2 32 k2] 30)).cell? ⟨g, 0, none⟩ = some v ∧
 ∃ (au : Option Addr) (cu : Nat) (w4 : World), (Builtin.append_ #[35, 35] 35 #[v, .slice (some ⟨w2.heap.size, 0, none⟩) 1 1]).run Tryz.prog (w2.alloc (.cells #[.slice a2 32 k2] 30)) = .ok (.slice au (D.l.length + 1) cu) w4 ∧ w4.cell? ⟨g, 0, none⟩ = some v ∧ w4.frozen? ⟨g, 0, none⟩ = false ∧
  Hid (Dr (w4.setCell ⟨g, 0, none⟩ (.slice au (D.l.length + 1) cu)) base g (.slice au (D.l.length + 1) cu) { D with l := D.l ++ [bs] } (es ++ [(bs, .slice a2 32 k2)])) ∧ Hid (Mv w (w4.setCell ⟨g, 0, none⟩ (.slice au (D.l.length + 1) cu)) g v (.slice au (D.l.length + 1) cu)) := by
 have hb3 := Below.next hb2 (alloc_below w2 (.cells #[.slice a2 32 k2] 30))
 have h3 := h.below hb3
 have hlen := h.len
 obtain ⟨ao, cap, rfl, _⟩ := h.spell
 have hrow := h3.row
 rw [hlen] at hrow
 have hnew := World.news_of_block (cs := #[.slice a2 32 k2]) (t := 30) (fr := (0, 0)) (heap_alloc_new w2 (.cells #[.slice a2 32 k2] 30))
 obtain ⟨au, cu, w4, hr, hrow4, hg, hat⟩ := app_rw (m := 1) (c' := 1) (b := some ⟨w2.heap.size, 0, none⟩) (ys := [.slice a2 32 k2]) hrow rfl (.inr ⟨_, rfl, hnew⟩) (fun x hx => by rw [List.mem_singleton.1 hx]; rfl) (by omega) (by have := hb3.size; omega)
 have hblk : w4.heap[g]? = _ := (hg.block g h3.lt (fun e => h3.ne e.symm)).trans h3.dsk
 have hu : (w2.alloc (.cells #[.slice a2 32 k2] 30)).ownsRow base 5 1 (.slice a2 32 k2) 32 (valb bs) := own_mono (ho.alloc _) hb
 have keep : ∀ u n xs, (w2.alloc (.cells #[.slice a2 32 k2] 30)).ownsRow base 5 1 u n xs -> (w4.setCell ⟨g, 0, none⟩ (.slice au (D.l.length + 1) cu)).ownsRow base 5 1 u n xs := fun u n xs hO =>
  ownsRow_setCell_other (own_kept hO hg (fun j hj e2 => own_kindO hO hrow (by decide) j hj e2)) (own_notO (own_kept hO hg (fun j hj e2 => own_kindO hO hrow (by decide) j hj e2)) hblk (by decide)) _
 refine ⟨(h.below hb2).cells.1, h3.cells.1, au, cu, w4, hr, (Lib.cell_of_heap hblk 0).trans rfl, Lib.frozen_of_heap hblk 0, ⟨?_, ?_, fun e he => ?_, ?_, h.low, ⟨⟨?_, ?_, h.o.ok.fu⟩, ?_, h.o.top⟩⟩, Mv.after hb3 ((mv_grown g hg hrow hrow4 hat).trans (mv_set w4 g 0 _ _))⟩
 · rw [set_blk hblk 0 _]; rfl
 · rw [List.length_append, List.map_append, hlen]
   exact ownsRow_setCell_other hrow4 (own_notO hrow4 hblk (by decide)) _
 · rcases List.mem_append.1 he with h1 | h1
   · exact keep _ _ _ (h3.each e h1)
   · rw [List.mem_singleton.1 h1]
     rw [show (bs, Value.slice a2 32 k2).1.length = 32 from h32]
     exact keep _ _ _ hu
 · rw [List.map_append, h.eq]; rfl
 · show (D.l ++ [bs]).length <= 65536
   rw [List.length_append]; simp; omega
 · intro b hb
   rcases List.mem_append.1 hb with h1 | h1
   · exact h.o.ok.blk b h1
   · rw [List.mem_singleton.1 h1]; exact h32
 · intro b hb
   rcases List.mem_append.1 hb with h1 | h1
   · exact h.o.byt b h1
   · rw [List.mem_singleton.1 h1]; exact hy
theorem dies_no {D : Dsk} (h : dieD D = false) : ({ D with x := dieD D } : Dsk) = D ∧ D.x = false := by
 have hx : D.x = false := by
  unfold dieD at h
  simp only [Bool.or_eq_false_iff] at h
  exact h.1
 refine ⟨?_, hx⟩
 rw [h]
 obtain ⟨l, f, x, n⟩ := D
 dsimp only at hx
 rw [hx]
theorem dWrite22 {w : World} {base g : Nat} {v : Value} {D : Dsk} {es : List Be} (h : Dr w base g v D es) (hb : base <= w.heap.size) (hn : D.n < 4611686018427387904) {u : Value} {bs : List Int} (hu : Rb w u bs) :
 Calls Tryz.prog 85 #[.pointer (some ⟨g, 0, none⟩), u] w fun e w' => ∃ v', e = .returned (.int .i64 (wrE22 D bs)) ∧ Dy w' base g v' (wrN22 D bs) ∧ Mv w w' g v v' := by
 have HD := hide (dDies h)
 have HP : Hid (Dy w base g v D) := ⟨es, h⟩
 have HM := hide (Mv.refl w g v)
 rcases wr_cases D bs with ⟨c1, he⟩ | ⟨c1, c2, he⟩ | ⟨c1, c2, c3, he⟩ | ⟨c1, c2, c3, he⟩
 · rw [he, wr_same (by omega) (by omega)]
   obtain ⟨bo, bc, rfl, _⟩ := hu.spell
   clear h hu he HD hn hb
   go_enter Tryz.func85, Tryz.ntmps85
   go_wp2
   go_ret
   exact ⟨_, rfl, HP.out, HM.out⟩
 · have e : wrN22 D bs = { D with x := true } := by unfold wrN22; rw [if_neg (by omega), if_pos he]
   rw [c2] at HD
   rw [he, e]
   obtain ⟨bo, bc, rfl, _⟩ := hu.spell
   rw [c1]
   clear h hu he e c1 c2 hn hb
   go_enter Tryz.func85, Tryz.ntmps85
   go_wp2_with (go_at_call 103; refine HD.out.mono ?_; rintro e w1 ⟨rfl, hd1, hm1, _⟩)
   go_ret
   exact ⟨_, rfl, ⟨_, hd1⟩, hm1⟩
 · obtain ⟨e1, e2⟩ := dies_no c2
   rw [e1, c2] at HD
   rw [he, wr_same (by omega) (by omega)]
   obtain ⟨bo, bc, rfl, _⟩ := hu.spell
   rw [c1]
   obtain ⟨ao, cap, rfl, _⟩ := h.spell
   have q : (65536 : Int) <= (D.l.length : Int) := by omega
   have x0 : w.cell? ⟨g, 0, none⟩ = some (.slice ao D.l.length cap) := h.cells.1
   clear h hu he e1 e2 c1 c2 c3 hn hb
   go_enter Tryz.func85, Tryz.ntmps85
   go_wp2_with (go_at_call 103; refine HD.out.mono ?_; rintro e w1 ⟨rfl, _, _, hw1⟩; rw [hw1 rfl]; clear hw1)
   go_ret
   exact ⟨_, rfl, HP.out, HM.out⟩
 · obtain ⟨e1, e2⟩ := dies_no c2
   rw [e1, c2] at HD
   have e : wrN22 D bs = didD D (D.l ++ [bs]) := by unfold wrN22; rw [if_pos he]
   rw [he, e]
   have hy := hu.by
   have HBy := hide (rBytes u bs w.drew (hu.below (Below.refl _ w).drew) (by omega))
   have HX := hide (fun (w2 : World) (hb2 : Below w.heap.size w w2) (a2 : Option Addr) (k2 : Nat) (ho : w2.ownsRow w.heap.size 5 1 (.slice a2 32 k2) 32 (valb bs)) => wr_mem h hb c3 c1 hy hb2 ho)
   obtain ⟨bo, bc, rfl, _⟩ := hu.spell
   rw [c1] at HBy ⊢
   obtain ⟨ao, cap, rfl, _⟩ := h.spell
   have hS0 : w.drew.cell? ⟨g, 0, none⟩ = some (.slice ao D.l.length cap) := h.cells.1
   have x0 : w.cell? ⟨g, 0, none⟩ = some (.slice ao D.l.length cap) := h.cells.1
   have q : (decide ((65536 : Int) <= (D.l.length : Int))) = false := decide_eq_false (by omega)
   have HN := hide hn
   clear h hu he e e1 e2 c1 c2 c3 hn hb HP HM hy
   go_enter Tryz.func85, Tryz.ntmps85
   go_wp2_with (go_at_call 103; refine HD.out.mono ?_; rintro e w1 ⟨rfl, _, _, hw1⟩; rw [hw1 rfl]; clear hw1)
   refine wp_region_mute (S := (fun V => V.cell? ⟨g, 0, none⟩ = some (.slice ao D.l.length cap))) (by kernel_rfl) (by kernel_rfl) rfl (by ((try dsimp only) <;> (first | with_reducible exact hS0 | with_reducible exact hS1 | with_reducible exact hS2 | with_reducible exact hS4))) (fun hHeld => ?_)
   simp only [muteL, mute]
   refine tkY 0 ?_
   refine tkY 1 ?_
   refine tkY 2 ?_
   refine tkY 3 ?_
   refine tkY 4 ?_
   refine tkY 5 ?_
   refine rd1 6 (fun K hK => ?_)
   (try simp only [ly0, ly1, ly2, ly3, ly4, ly5, ly6, ly7])
   go_simp
   (first | (go_at_call 36; refine HBy.out.mono ?_; rintro e w2 ⟨v2, rfl, ho2, hb2⟩; obtain ⟨a2, k2, hv2, _⟩ := own_spellO ho2; subst hv2; obtain ⟨hS1, hS2, au4, cu4, w4, hr4, hS4, hz4, HN4, HM4⟩ := HX.out w2 (Below.trans (Below.refl w.heap.size w).drew hb2) a2 k2 ho2) | (refine app_mute (by rfl) _ _ _ _ (by rfl) _ _ (by rfl) (by rfl) _ w4 hr4 ?_))
   first | refine hK.out _ _ ?k1 (fun hHeld => ?_) | (go_wp2_with fail; refine hK.out _ _ ?k1 (fun hHeld => ?_))
   case k1 => ((try dsimp only) <;> (first | with_reducible exact hS0 | with_reducible exact hS1 | with_reducible exact hS2 | with_reducible exact hS4))
   clear hK K
   (try simp only [ly0, ly1, ly2, ly3, ly4, ly5, ly6, ly7])
   refine rd1 7 (fun K hK => ?_)
   (try simp only [ly0, ly1, ly2, ly3, ly4, ly5, ly6, ly7])
   go_simp
   refine hK.out _ _ (by ((try dsimp only) <;> (first | with_reducible exact hS0 | with_reducible exact hS1 | with_reducible exact hS2 | with_reducible exact hS4))) (fun hHeld => ?_)
   clear hK K
   (try simp only [ly0, ly1, ly2, ly3, ly4, ly5, ly6, ly7])
   refine rd1 8 (fun K hK => ?_)
   (refine app_mute (by rfl) _ _ _ _ (by rfl) _ _ (by rfl) (by rfl) _ w4 hr4 ?_)
   refine hK.out _ _ (by ((try dsimp only) <;> (first | with_reducible exact hS0 | with_reducible exact hS1 | with_reducible exact hS2 | with_reducible exact hS4))) (fun hHeld => ?_)
   clear hK K
   (try simp only [ly0, ly1, ly2, ly3, ly4, ly5, ly6, ly7])
   refine tkY 9 ?_
   refine tkY 10 ?_
   refine tkY 11 ?_
   refine wpAnyH_done (by kernel_rfl) ?_ _
   clear hS0 hS1 hS2 hr4 HX HBy q x0
   simp only [muteQ]
   have HDd := hide (dDid HN4.out HN.out)
   go_wp2_with (go_at_call 104; refine HDd.out.mono ?_; rintro e w6 ⟨rfl, hd6, hm6⟩)
   go_ret
   exact ⟨_, rfl, ⟨_, hd6⟩, HM4.out.trans hm6⟩
theorem dTrim22 {w : World} {base g : Nat} {v : Value} {D : Dsk} {es : List Be} (h : Dr w base g v D es) (hb : base <= w.heap.size) (hn : D.n < 4611686018427387904) (i : Int) :
 Calls Tryz.prog 79 #[.pointer (some ⟨g, 0, none⟩), .int .i64 i] w fun e w' => ∃ v', e = .returned (.int .i64 (tmE D i)) ∧ Dy w' base g v' (tmN D i) ∧ Mv w w' g v v' := by
 have HD := hide (dDies h)
 have HP : Hid (Dy w base g v D) := ⟨es, h⟩
 have HM := hide (Mv.refl w g v)
 have hlen := h.len
 obtain ⟨ao, cap, rfl, hcap, hsp⟩ := h.spell
 have x0 : w.cell? ⟨g, 0, none⟩ = some (.slice ao D.l.length cap) := h.cells.1
 rcases tm_cases D i with ⟨hi, e1, e2⟩ | ⟨k, rfl, hk, ⟨h2, e1, e2⟩ | ⟨h2, e1, e2⟩⟩
 · rw [e1, e2]
   clear e1 e2 h hn hb HD hlen hcap hsp
   by_cases h1 : i < 0
   · clear hi
     go_enter Tryz.func79, Tryz.ntmps79
     go_wp2
     go_ret
     exact ⟨_, rfl, HP.out, HM.out⟩
   · have h2 : (D.l.length : Int) < i := by omega
     clear hi
     go_enter Tryz.func79, Tryz.ntmps79
     go_wp2
     go_ret
     first | exact ⟨_, rfl, HP.out, HM.out⟩ | exact ⟨_, HP.out, HM.out⟩ | exact ⟨rfl, _, HP.out, HM.out⟩
 · rw [h2] at HD
   rw [e1, e2]
   have k0 : ¬ (k : Int) < 0 := by omega
   have k1 : ¬ (D.l.length : Int) < (k : Int) := by omega
   clear e1 e2 h hn hb h2 hlen hcap hsp
   go_enter Tryz.func79, Tryz.ntmps79
   go_wp2_with (go_at_call 103; refine HD.out.mono ?_; rintro e w1 ⟨rfl, hd1, hm1, _⟩)
   go_ret
   exact ⟨_, rfl, ⟨_, hd1⟩, hm1⟩
 · obtain ⟨e3, _⟩ := dies_no h2
   rw [e3, h2] at HD
   rw [e1, e2]
   have k0 : ¬ (k : Int) < 0 := by omega
   have k1 : ¬ (D.l.length : Int) < (k : Int) := by omega
   have hrow := h.row
   rw [hlen] at hrow
   have hsl := headY hrow k hk
   obtain ⟨W, hW⟩ : ∃ W, w.alloc (.cells #[] 30) = W := ⟨_, rfl⟩
   have hB : Below w.heap.size w W := by rw [<- hW]; exact alloc_below _ _
   have hWs : W.heap.size = w.heap.size + 1 := by rw [<- hW]; simp
   have hown : W.ownsRow w.heap.size 30 1 (.slice (some ⟨w.heap.size, 0, none⟩) 0 0) 0 [] := by rw [<- hW]; exact own_none w _ 1
   have hWd := h.below hB
   have x1 : W.cell? ⟨g, 0, none⟩ = some (.slice ao D.l.length cap) := hWd.cells.1
   obtain ⟨au, cu, W', hr, ho, hg, hat⟩ := app_rw (m := k) (c' := cap) (b := ao) (ys := (es.take k).map (·.2)) hown (by rw [List.length_map, List.length_take]; omega) (by
    cases ao with
    | none =>
     rcases hrow.2 with ⟨e, h0⟩ | ⟨g', _, _, e, _⟩
     · injection e with _ q1 q2
       exact .inl ⟨rfl, by omega, q2⟩
     · cases e
    | some ad =>
     refine .inr ⟨ad, rfl, fun j x hj => ?_⟩
     rcases hWd.row.2 with ⟨e, _⟩ | ⟨g', cp, cur, e, q2, q3, q4, q5, q6, q7⟩
     · cases e
     · injection e with q1 _ _
       injection q1 with q1
       subst q1
       refine hWd.row.cells (g := g') (by rfl) j x ?_
       rw [List.map_take] at hj
       have hj2 := (List.getElem?_eq_some_iff.1 hj).1
       rw [List.length_take] at hj2
       rw [List.getElem?_take_of_lt (by omega)] at hj
       exact hj) (fun x hx => by
     obtain ⟨e, he, rfl⟩ := List.mem_map.1 hx
     exact be_one h e (List.mem_of_mem_take he)) (by have := h.o.ok.len; omega) (by omega)
   rw [List.nil_append] at ho
   rw [Nat.zero_add] at hr ho hat
   have hblk : W'.heap[g]? = _ := (hg.block g hWd.lt (fun e => by have := h.lt; simp [Value.ownBlock] at e; omega)).trans hWd.dsk
   have hlow : ∀ j, (Value.slice au k cu).ownBlock = some j -> w.heap.size <= j := fun j hj => (ho.lt j hj).1
   have hne : (Value.slice au k cu).ownBlock ≠ some g := fun e => by have := hlow g e; have := h.lt; omega
   have hKq : Kq (fun j => j < w.heap.size) w W' := (Below.kq hB (fun j hj => hj)).trans (grown_kq hg (fun j hj => by omega) (fun q hq hj => by simp [Value.ownBlock] at hq; omega))
   have hmv : Mv w W' g (.slice ao D.l.length cap) (.slice au k cu) := ⟨hKq.mono (fun j hj => hj.1), fun j hj => .inr (hlow j hj)⟩
   have hD1 : Dr (W'.setCell ⟨g, 0, none⟩ (.slice au k cu)) base g (.slice au k cu) { D with l := D.l.take k } (es.take k) := by
    refine ⟨by rw [set_blk hblk 0 _]; rfl, ?_, fun e he => ?_, by rw [List.map_take, h.eq], h.low, ⟨⟨?_, fun b hb => h.o.ok.blk b (List.mem_of_mem_take hb), h.o.ok.fu⟩, fun b hb => h.o.byt b (List.mem_of_mem_take hb), h.o.top⟩⟩
    · rw [show (es.take k).length = k by rw [List.length_take]; omega]
      exact ownsRow_setCell_other (own_mono ho hb) hne _
    · have hm := List.mem_of_mem_take he
      exact ownsRow_setCell_other (hKq.own (h.each e hm) (fun j hj => ((h.each e hm).lt j hj).2)) (h.une hm) _
    · show (D.l.take k).length <= 65536
      rw [List.length_take]; have := h.o.ok.len; omega
   have hz1 : W'.cell? ⟨g, 0, none⟩ = some (.slice ao D.l.length cap) := (Lib.cell_of_heap hblk 0).trans rfl
   have hz2 : W'.frozen? ⟨g, 0, none⟩ = false := Lib.frozen_of_heap hblk 0
   have HDd := hide (dDid hD1 hn)
   have HMv := hide (hmv.trans (mv_set W' g 0 (.slice au k cu) _))
   have HW := hide hW
   clear e1 e2 e3 h hn hb h2 hlen hcap hsp hrow hB hWs hown hWd ho hg hat hblk hlow hne hKq hmv hD1 hW hk
   go_enter Tryz.func79, Tryz.ntmps79
   rw [<- HW.out] at hr x1
   go_wp2_with (first
    | (go_at_call 103; refine HD.out.mono ?_; rintro e w1 ⟨rfl, _, _, hw1⟩; rw [hw1 rfl]; clear hw1)
    | (at_builtin; refine app_runO rfl _ _ _ rfl _ _ _ rfl rfl hr ?_)
    | (go_at_call 104; refine HDd.out.mono ?_; rintro e w6 ⟨rfl, hd6, hm6⟩))
   go_ret
   exact ⟨_, rfl, ⟨_, hd6⟩, HMv.out.trans hm6⟩
theorem load_dkr {w : World} {b : Nat} {x0 x1 x2 x3 : Value} (h : w.heap[b]? = some (.cells #[x0, x1, x2, x3] 37 (0, 0))) : (loadVar 37 ⟨b, 0, none⟩).run Tryz.prog w = .ok (.agg #[x0, x1, x2, x3]) w := by
 have e0 : w.cell? ⟨b, 0, none⟩ = some x0 := by rw [Lib.cell_of_heap h]; rfl
 have e1 : w.cell? ⟨b, 1, none⟩ = some x1 := by rw [Lib.cell_of_heap h]; rfl
 have e2 : w.cell? ⟨b, 2, none⟩ = some x2 := by rw [Lib.cell_of_heap h]; rfl
 have e3 : w.cell? ⟨b, 3, none⟩ = some x3 := by rw [Lib.cell_of_heap h]; rfl
 simp [go_sem, e0, e1, e2, e3]
theorem dNew22 (w : World) : Calls Tryz.prog 8 #[] w fun e w' => e = .returned (.agg #[.slice none 0 0, .int .i64 (-1), .bool false, .int .i64 0]) ∧ Below w.heap.size w w' := by
 have HB := hide (alloc_below w (.cells #[.slice none 0 0, .int .i64 (-1), .bool false, .int .i64 0] 37))
 have HX := hide (heap_alloc_new w (.cells #[.slice none 0 0, .int .i64 (-1), .bool false, .int .i64 0] 37))
 go_enter Tryz.func8, Tryz.ntmps8
 go_wp2
 refine bodyPost_ret (resCell1 rfl rfl (load_dkr HX.out)) rfl ?_
 exact ⟨rfl, HB.out⟩
theorem dr_new {w : World} {base g : Nat} (h : w.heap[g]? = some (.cells #[.slice none 0 0, .int .i64 (-1), .bool false, .int .i64 0] 37 (0, 0))) (hb : base <= g) : Dr w base g (.slice none 0 0) dk0 [] :=
 ⟨h, World.ownsRow_nil _ _ _ _, fun e he => (by cases he), rfl, hb, dk0_dok⟩
def zr32 : List Int := List.replicate 32 0
theorem zr32_len : (valb zr32).length = 32 := by rw [valb_length]; rfl
theorem made_32 (W : World) : (Instr.makeSlice 30 (.int .i64 32) (.int .i64 32)).run Tryz.prog W = .ok (.slice (some ⟨W.heap.size, 0, none⟩) 32 32) (W.alloc (.cells (valb zr32).toArray 5)) := by
 obtain ⟨i, hi, hz, hs, hb⟩ := info_parts u8_info
 have := run_make (P := Tryz.prog) W 30 5 i (.int .u8 0) Tryz.underlying30 hi hz .i64 .i64 32 32 (by omega) (by omega) (by rw [hb]; decide) (by omega)
 rw [this, hs]
 show Result.ok _ (W.alloc (.cells (madeCells #[.int .u8 0] (32 * 1)) 5)) = _
 rw [made_listO]
 unfold valb zr32
 rw [List.map_replicate]
 rfl
def Bl (w : World) (v : Value) (bs : List (List Int)) : Prop :=
 ∃ ao cap, v = .slice ao bs.length cap ∧ bs.length <= cap ∧ ∀ i b, bs[i]? = some b -> ∃ r u, ao = some ⟨r, 0, none⟩ ∧ r < w.heap.size ∧ w.cell? ⟨r, i, none⟩ = some u ∧ Rb w u b
theorem Bl.below {w w' : World} {v : Value} {bs : List (List Int)} (h : Bl w v bs) (hb : Below w.heap.size w w') : Bl w' v bs := by
 obtain ⟨ao, cap, h1, h2, h3⟩ := h
 refine ⟨ao, cap, h1, h2, fun i b hi => ?_⟩
 obtain ⟨r, u, e1, e2, e3, e4⟩ := h3 i b hi
 exact ⟨r, u, e1, Nat.lt_of_lt_of_le e2 hb.size, (hb.cell (p := ⟨r, i, none⟩) e2).trans e3, e4.below hb⟩
theorem Dr.bl {w : World} {base g : Nat} {v : Value} {D : Dsk} {es : List Be} (h : Dr w base g v D es) : Bl w v D.l := by
 have hlen := h.len
 have hr := h.row
 obtain ⟨ao, cap, rfl, hcap, hsp⟩ := own_spellO hr
 refine ⟨ao, cap, by rw [hlen], by omega, fun i b hi => ?_⟩
 have hil : i < es.length := by have := (List.getElem?_eq_some_iff.1 hi).1; omega
 obtain ⟨r, rfl, _, hrl⟩ := hsp (by omega)
 have he : es[i]? = some es[i] := List.getElem?_eq_getElem hil
 have hb : es[i].1 = b := by
  rw [<- h.eq, List.getElem?_map, he] at hi
  simpa using hi
 have h9 := h.each _ (List.getElem_mem hil)
 rw [hb] at h9
 have h10 : b ∈ D.l := List.mem_of_getElem? hi
 exact ⟨r, es[i].2, rfl, hrl, own_atO hr (by rw [List.getElem?_map, he]; rfl), rb_of_own h9 (h.o.byt b h10) (by rw [h.o.ok.blk b h10]; decide)⟩
theorem tbl_get (r : Nat) {n i : Nat} (h : i < n) : (tbl r n)[i]? = some (.slice (some ⟨r, i * 32, none⟩) 32 32) := by
 unfold tbl
 rw [List.getElem?_map, List.getElem?_range h]; rfl
theorem row_rb {w : World} {lo r n c i : Nat} {bs : List (List Int)} {b : List Int} (h : w.ownsRow lo 123 32 (.slice (some ⟨r, 0, none⟩) n c) n (bs.flatMap k32)) (hi : bs[i]? = some b) (h32 : b.length = 32) (hy : By b) : r < w.heap.size ∧ Rb w (.slice (some ⟨r, i * 32, none⟩) 32 32) b := by
 have hf := fun j (hj : j < 32) => flat_get k32 32 k32_len bs i b j hi hj
 have hrl : r < w.heap.size := (h.lt r (by simp [Value.ownBlock])).2
 refine ⟨hrl, some ⟨r, i * 32, none⟩, 32, by rw [h32], ⟨by omega, by omega, fun h => by cases h⟩, hy, fun _ => ⟨r, i * 32, rfl, hrl, fun j hj => ?_⟩⟩
 have hj' : j < 32 := by omega
 have h2 := hf j hj'
 rw [k32_valb h32, valb_at b j hj] at h2
 exact own_atO h h2
theorem Tol.bl {w : World} {lo r c : Nat} {v : Value} {bs : List (List Int)} (h : Tol w lo v r c bs) : Bl w v bs := by
 have hr := h.row
 obtain ⟨ao, cap, rfl, hcap, hsp⟩ := own_spellO hr
 refine ⟨ao, cap, rfl, hcap, fun i b hi => ?_⟩
 have hil : i < bs.length := (List.getElem?_eq_some_iff.1 hi).1
 obtain ⟨q, rfl, _, hql⟩ := hsp (by omega)
 have hm := h.b32 b (List.mem_of_getElem? hi)
 have hk := row_rb (h.blk (by omega)) hi hm.1 hm.2
 exact ⟨q, _, rfl, hql, own_atO hr (tbl_get r hil), hk.2⟩
theorem dSame22 (v u : Value) (ps : List (List Int)) (w : World) (h1 : Bl w v ps) (h2 : Bl w u ps) (hl : ps.length <= 5864062014700) :
 Calls Tryz.prog 25 #[v, u] w fun e w' => e = .returned (.bool true) ∧ Below w.heap.size w w' := by
 have HO := hide (fun (p : List Int) x y W (r1 : Rb W x p) (r2 : Rb W y p) => rSame8 x y p p W r1 r2)
 simp only [decide_true] at HO
 have H1 := hide (fun W (hb : Below w.heap.size w W) => h1.below hb)
 have H2 := hide (fun W (hb : Below w.heap.size w W) => h2.below hb)
 obtain ⟨a1, k1, rfl, hk1, _⟩ := h1
 obtain ⟨a2, k2, rfl, hk2, _⟩ := h2
 generalize hn : ps.length = n at *
 have HN := hide hn
 clear hn
 go_enter Tryz.func25, Tryz.ntmps25
 go_wp2
 go_loopw [5] (fun vi wr => ∃ (k : Nat), k <= n ∧ vi = .int .i64 k ∧ Below w.heap.size w wr) (fun vi _ => n - (intOf vi).toNat)
 case atStart => exact ⟨0, Nat.zero_le _, rfl, Below.refl _ _⟩
 case round =>
  obtain ⟨k, hk, rfl, hB⟩ := hrel
  by_cases hlt : k < n
  · have hp : ps[k]? = some (ps[k]'(by have := HN.out; omega)) := List.getElem?_eq_getElem _
    generalize ps[k]'(by have := HN.out; omega) = p at *
    obtain ⟨x1, _, q1, _, q2⟩ := H1.out wr hB
    obtain ⟨b1, u1, rfl, hb1, c0, r1⟩ := q2 k p hp
    obtain ⟨x2, _, q3, _, q4⟩ := H2.out wr hB
    obtain ⟨b2, u2, rfl, hb2, d0, r2⟩ := q4 k p hp
    have e1 : a1 = some ⟨b1, 0, none⟩ := by injection q1
    have e3 : a2 = some ⟨b2, 0, none⟩ := by injection q3
    subst e1 e3
    clear q1 q3
    obtain ⟨a3, k3, rfl, _⟩ := r1.spell
    obtain ⟨a4, k4, rfl, _⟩ := r2.spell
    have HOne := hide (HO.out p _ _ wr.drew (r1.below (Below.refl _ wr).drew) (r2.below (Below.refl _ wr).drew))
    have hS0 : wr.drew.cell? ⟨b1, k, none⟩ = some (.slice a3 p.length k3) ∧ wr.drew.cell? ⟨b2, k, none⟩ = some (.slice a4 p.length k4) := ⟨c0, d0⟩
    have k0 : (0 : Int) <= (k : Int) := by omega
    have k1' : (k : Int) < (n : Int) := by omega
    clear H1 H2 HO q2 q4 r1 r2 hp c0 d0
    go_upto_region 6 with fail
    refine wp_region_held_drew (S := (fun V => V.cell? ⟨b1, k, none⟩ = some (.slice a3 p.length k3) ∧ V.cell? ⟨b2, k, none⟩ = some (.slice a4 p.length k4))) (by kernel_rfl) (by ((try dsimp only) <;> (with_reducible exact hS0))) (fun hHeld => ?_)
    refine tkY 0 ?_
    refine tkY 1 ?_
    refine tkY 2 ?_
    refine tkY 3 ?_
    refine tkY 4 ?_
    refine tkY 5 ?_
    refine tkY 6 ?_
    refine tkY 7 ?_
    refine rd1 8 (fun K hK => ?_)
    (try simp only [ly0, ly1, ly2, ly3, ly4, ly5, ly6, ly7])
    go_simp
    (
     (go_at_call 13; refine HOne.out.mono ?_; rintro e w2 ⟨rfl, hw2⟩; rw [hw2]; clear hw2))
    first | refine hK.out _ _ ?k2 (fun hHeld => ?_) | (go_wp2_with fail; refine hK.out _ _ ?k2 (fun hHeld => ?_))
    case k2 => ((try dsimp only) <;> (with_reducible exact hS0))
    clear hK K
    (try simp only [ly0, ly1, ly2, ly3, ly4, ly5, ly6, ly7])
    refine tkY 9 ?_
    refine wpAnyH_done (by kernel_rfl) ?_ _
    clear hS0 HOne
    go_wp2
    go_roundw
    case rel => exact ⟨k + 1, by omega, by go_num, (Below.next hB (Below.refl _ wr).drew)⟩
    case measure => simp [intOf]; omega
  · have : k = n := by omega
    subst this
    go_wp2
    go_ret
    exact ⟨rfl, hB⟩
theorem Hd.mvb {w w' : World} {base g : Nat} {v v' : Value} {D : Dsk} (h : Hd w base g v D) (m : Mv w w' g v v') (hb : base <= w.heap.size) : Below base w w' := m.below hb h.low (fun j hj => (h.own_lt j hj).1)
theorem Dy.mvb {w w' : World} {base g : Nat} {v v' : Value} {D : Dsk} (h : Dy w base g v D) (m : Mv w w' g v v') (hb : base <= w.heap.size) : Below base w w' := by
 obtain ⟨es, h⟩ := h
 exact m.below hb h.low (fun j hj => (h.row.lt j hj).1)
theorem Dr.mv {w w' : World} {base base' g g' : Nat} {u u' v : Value} {D E : Dsk} {es : List Be} (h : Dr w base g v D es) (hn : Hd w base' g' u E) (m : Mv w w' g' u u') : Dr w' base g v D es := by
 have key : ∀ (T : TypeId) s n x xs, (T = 30 ∨ T = 5) -> w.ownsRow base T s x n xs -> ∀ j, x.ownBlock = some j -> Bv w g' u.ownBlock j := fun T s n x xs hT ho j hj => by
  refine ⟨(ho.lt j hj).2, fun e => ?_, fun e => ?_⟩
  · subst e
    exact own_notO ho hn.dsk (by rcases hT with rfl | rfl <;> decide) hj
  · exact own_kindO ho hn.row (by rcases hT with rfl | rfl <;> decide) j hj e
 refine h.kept m.kq ⟨h.lt, fun e => ?_, own_notO hn.row h.dsk (by decide)⟩ (key _ _ _ _ _ (.inl rfl) h.row) (fun e he => key _ _ _ _ _ (.inr rfl) (h.each e he))
 subst e
 have := h.dsk.symm.trans hn.dsk
 simp at this
theorem Hd.mvd {w w' : World} {base base' g g' : Nat} {u u' v : Value} {D E : Dsk} {es : List Be} (h : Hd w base g v D) (hn : Dr w base' g' u E es) (m : Mv w w' g' u u') : Hd w' base g v D := by
 refine h.kept m.kq ⟨h.lt, fun e => ?_, own_notO hn.row h.dsk (by decide)⟩ (fun j hj => ⟨(h.own_lt j hj).2, fun e => ?_, fun e => ?_⟩)
 · subst e
   have := hn.dsk.symm.trans h.dsk
   simp at this
 · subst e; exact own_notO h.row hn.dsk (by decide) hj
 · exact own_kindO h.row hn.row (by decide) j hj e
theorem Dy.mv {w w' : World} {base base' g g' : Nat} {u u' v : Value} {D E : Dsk} (h : Dy w base g v D) (hn : Hd w base' g' u E) (m : Mv w w' g' u u') : Dy w' base g v D := by
 obtain ⟨es, h⟩ := h
 exact ⟨es, h.mv hn m⟩
theorem Hd.mvy {w w' : World} {base base' g g' : Nat} {u u' v : Value} {D E : Dsk} (h : Hd w base g v D) (hn : Dy w base' g' u E) (m : Mv w w' g' u u') : Hd w' base g v D := by
 obtain ⟨es, hn⟩ := hn
 exact h.mvd hn m
structure TwoD (w W : World) (base g gt : Nat) (D : Dsk) : Prop where
 p : ∃ v, Hd W base g v D
 d : ∃ v, Dy W base gt v D
 low : Below base w W
 sz : base <= W.heap.size
theorem TwoD.below {w W W' : World} {base g gt : Nat} {D : Dsk} (h : TwoD w W base g gt D) (hb : Below W.heap.size W W') : TwoD w W' base g gt D := by
 obtain ⟨v, h1⟩ := h.p
 obtain ⟨u, h2⟩ := h.d
 exact ⟨⟨v, h1.below hb⟩, ⟨u, h2.below hb⟩, h.low.trans (hb.mono h.sz), Nat.le_trans h.sz hb.size⟩
theorem two_step2 {w W W2 W3 : World} {base g gt : Nat} {v v2 u u3 : Value} {D E : Dsk} (h1 : Hd W base g v D) (h2 : Dy W base gt u D) (hl : Below base w W) (hs : base <= W.heap.size) (n2 : Hd W2 base g v2 E) (m2 : Mv W W2 g v v2) (n3 : Dy W3 base gt u3 E) (m3 : Mv W2 W3 gt u u3) : TwoD w W3 base g gt E := by
 have hy2 := h2.mv h1 m2
 have s2 := m2.kq.size
 have s3 := m3.kq.size
 exact ⟨⟨v2, n2.mvy hy2 m3⟩, ⟨u3, n3⟩, (hl.trans (h1.mvb m2 hs)).trans (hy2.mvb m3 (by omega)), by omega⟩
theorem two_newD {w w1 w2 : World} (h1 : Hd w1 w.heap.size w.heap.size (.slice none 0 0) dk0) (b1 : Below w.heap.size w w1) (b2 : Below w1.heap.size w1 w2) : TwoD w (w2.alloc (.cells #[.slice none 0 0, .int .i64 (-1), .bool false, .int .i64 0] 37)) w.heap.size w.heap.size w2.heap.size dk0 := by
 have b3 := alloc_below w2 (.cells #[.slice none 0 0, .int .i64 (-1), .bool false, .int .i64 0] 37)
 have z1 := b1.size
 have z2 := b2.size
 have z3 := b3.size
 exact ⟨⟨_, (h1.below b2).below b3⟩, ⟨_, [], dr_new (heap_alloc_new w2 _) (by omega)⟩, Below.next (Below.next b1 b2) b3, by omega⟩
theorem Dy.apart {W W' : World} {base g b : Nat} {v v' : Value} {D : Dsk} {cs : Array Value} {T : TypeId} (h : Dy W base g v D) (m : Mv W W' g v v') (hb : W.heap[b]? = some (.cells cs T (0, 0))) (h1 : T ≠ 37) (h2 : T ≠ 30) : W'.heap[b]? = some (.cells cs T (0, 0)) := by
 obtain ⟨es, h⟩ := h
 refine (m.block (Array.getElem?_eq_some_iff.1 hb).1 (fun e => ?_) (own_notO h.row hb h2)).trans hb
 subst e
 have := hb.symm.trans h.dsk
 injection this with this
 injection this with _ e2 _
 exact h1 e2
theorem dTrimY {w : World} {base g : Nat} {v : Value} {D : Dsk} (h : Dy w base g v D) (hb : base <= w.heap.size) (hn : D.n < 4611686018427387904) (i : Int) :
 Calls Tryz.prog 79 #[.pointer (some ⟨g, 0, none⟩), .int .i64 i] w fun e w' => ∃ v', e = .returned (.int .i64 (tmE D i)) ∧ Dy w' base g v' (tmN D i) ∧ Mv w w' g v v' := by
 obtain ⟨es, h⟩ := h
 exact dTrim22 h hb hn i
theorem dFuseY {w : World} {base g : Nat} {v : Value} {D : Dsk} (h : Dy w base g v D) (i : Int) (hi : i <= 9223372036854775807) :
 Calls Tryz.prog 22 #[.pointer (some ⟨g, 0, none⟩), .int .i64 i] w fun e w' => ∃ v', e = .returned (.int .i64 (fuE i)) ∧ Dy w' base g v' (fuN D i) ∧ Mv w w' g v v' := by
 obtain ⟨es, h⟩ := h
 exact (dFuse h i hi).mono fun e w' ⟨e1, e2, e3⟩ => ⟨v, e1, ⟨es, e2⟩, e3⟩
theorem dWriteY {w : World} {base g : Nat} {v : Value} {D : Dsk} (h : Dy w base g v D) (hb : base <= w.heap.size) (hn : D.n < 4611686018427387904) {u : Value} {bs : List Int} (hu : Rb w u bs) :
 Calls Tryz.prog 85 #[.pointer (some ⟨g, 0, none⟩), u] w fun e w' => ∃ v', e = .returned (.int .i64 (wrE22 D bs)) ∧ Dy w' base g v' (wrN22 D bs) ∧ Mv w w' g v v' := by
 obtain ⟨es, h⟩ := h
 exact dWrite22 h hb hn hu
theorem dMendY {w : World} {base g : Nat} {v : Value} {D : Dsk} (h : Dy w base g v D) : Calls Tryz.prog 24 #[.pointer (some ⟨g, 0, none⟩)] w fun e w' => e = .returned (.tuple #[]) ∧ Dy w' base g v (mdN D) ∧ Mv w w' g v v := by
 obtain ⟨es, h⟩ := h
 exact (dMend h).mono fun e w' ⟨h1, h2, h3⟩ => ⟨h1, ⟨es, h2⟩, h3⟩
end Go.Proofs.YtipobchbnjgenaaGreat
