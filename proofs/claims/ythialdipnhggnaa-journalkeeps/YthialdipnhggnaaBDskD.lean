import Derived.Test.YthialdipnhggnaaBDskC
import Derived.Test.YthialdipnhggnaaBQTwo
import Derived.Test.YthialdipnhggnaaBTkA
import Derived.Deep.CutRange
import Derived.Great.BuildSlice
set_option linter.unusedVariables false
set_option linter.unusedSimpArgs false
set_option maxRecDepth 100000
set_option maxHeartbeats 4000000
namespace Go.Proofs.Ythialdipnhggnaa
open Go.RowKit Fld
theorem op_mute {P : Program} {ops : Array Oper} {o : Oper} {a : Act} {w : World} {K : Act -> World -> Prop} {Q : Exit -> Act -> World -> Prop} {E : Prop} (hgd : o.guard = none) (v' : Value) (w' : World) (hr : (execOp a.eval o).run P w = .ok (.value v') w') (h : K (a.put o.dst v') w') : if Region.wanted o (yielded ops a.tmps) = true then Oper.wp P o a w K Q else E := by
 have hw : Region.wanted o (yielded ops a.tmps) = true := by simp [Region.wanted, hgd]
 rw [if_pos hw]
 unfold Oper.wp
 rw [hr]
 exact h
theorem Rb.range {w : World} {b off cap n : Nat} {bs : List Int} (h : Rb w (.slice (some ⟨b, off, none⟩) n cap) bs) (h32 : bs.length = 32) : w.rangeAt b off (k32 bs) := by
 intro j v hj
 rw [k32_valb h32] at hj
 have := h.news j v hj
 rw [Addr.add_mid] at this
 exact this
theorem k32_size : (Try.prog.info? 71).map (·.size) = some 32 := by kernel_rfl
theorem load_k32 {w : World} {b off : Nat} {bs : List Int} (h : w.rangeAt b off (k32 bs)) : (loadVar 71 ⟨b, off, none⟩).run Try.prog w = .ok (.agg (k32 bs).toArray) w :=
 run_loadVar_mid w b off 71 (k32 bs) _ h Try.underlying71 rfl (by rw [k32_len]; exact k32_size)
theorem array_k32 (b off cap : Nat) (W : World) : (Instr.arrayAt 71 (.slice (some ⟨b, off, none⟩) 32 cap)).run Try.prog W = .ok (.pointer (some ⟨b, off, none⟩)) W := by
 simp [Instr.arrayAt, run_underlying Try.underlying71]
theorem fill_k32 (bs : List Int) : Instr.fill (fun i => some (i * 32, 32)) ((Array.range 32).map ((List.replicate 32 (Value.int .u8 0)).toArray[· % 32]!)) [(0, .agg (k32 bs).toArray)] = some (k32 bs).toArray := by kernel_rfl
theorem build_k32 (bs : List Int) (w : World) : (Instr.buildSlice 62 1 #[(0, .agg (k32 bs).toArray)]).run Try.prog w = .ok (.slice (some ⟨w.heap.size, 0, none⟩) 1 1) (w.alloc (.cells (k32 bs).toArray 71)) := by
 obtain ⟨i0, hi0, hz0, hz1, hz2⟩ := info_parts kept_info
 refine run_buildSlice w 62 71 1 _ _ i0 _ Try.underlying62 hi0 hz0 (by rw [hz1]; decide) (by rw [hz1]; decide) ?_
 rw [hz1]
 exact fill_k32 bs
theorem wr_cases (D : Dsk) (b : List Int) :
 ((b.length : Int) ≠ 32 ∧ wrE22 D b = 2) ∨ (b.length = 32 ∧ dieD D = true ∧ wrE22 D b = 220) ∨ (b.length = 32 ∧ dieD D = false ∧ 65536 <= D.l.length ∧ wrE22 D b = 4) ∨ (b.length = 32 ∧ dieD D = false ∧ D.l.length < 65536 ∧ wrE22 D b = 0) := by
 unfold wrE22
 by_cases h1 : b.length = 32
 · rw [if_pos h1]
   cases h2 : dieD D with
   | true => exact .inr (.inl ⟨h1, rfl, by simp⟩)
   | false =>
    by_cases h3 : 65536 <= D.l.length
    · exact .inr (.inr (.inl ⟨h1, rfl, h3, by simp [h3]⟩))
    · exact .inr (.inr (.inr ⟨h1, rfl, by omega, by simp [h3]⟩))
 · rw [if_neg h1]
   exact .inl ⟨by omega, rfl⟩
theorem wr_same {D : Dsk} {b : List Int} (h : wrE22 D b ≠ 0) (h2 : wrE22 D b ≠ 220) : wrN22 D b = D := by
 unfold wrN22; rw [if_neg h, if_neg h2]
theorem gRaw_wr {w : World} {base g : Nat} {v : Value} {D : Dsk} (h : Hd w base g v D) (hb : base <= w.heap.size) (hn : D.n < 4611686018427387904) {u : Value} {b : List Int} (hu : Mr w u [b]) (h32 : b.length = 32) (hy : By b) :
 Calls Try.prog 38 #[.pointer (some ⟨g, 0, none⟩), .int .i64 (D.l.length : Int), u] w fun e w' => ∃ v', e = .returned (.int .i64 (wrE22 D b)) ∧ Hd w' base g v' (wrN22 D b) ∧ Mv w w' g v v' := by
 rcases wr_cases D b with ⟨h1, _⟩ | ⟨_, h2, he⟩ | ⟨_, h2, h3, he⟩ | ⟨_, h2, h3, he⟩
 · exact absurd h32 (by omega)
 · have e : wrN22 D b = { D with x := true } := by unfold wrN22; rw [if_neg (by omega), if_pos he]
   rw [he, e]
   exact (gRaw_cut h h2 _ _).mono fun r w' ⟨e1, e2, e3⟩ => ⟨v, e1, e2, e3⟩
 · rw [he, wr_same (by omega) (by omega)]
   have := h.o.ok.len
   exact (gRaw_full h h2 D.l.length hu (by omega) (by simp) (by simp; omega)).mono fun r w' ⟨e1, e2⟩ => ⟨v, e1, by rw [e2]; exact h, by rw [e2]; exact Mv.refl _ _ _⟩
 · have e : wrN22 D b = didD D (D.l ++ [b]) := by unfold wrN22; rw [if_pos he]
   rw [he, e]
   have := gRaw_ok h hb h2 hn D.l.length (Nat.le_refl _) hu (by simp; omega) (fun c hc => by
    have : c = b := by simpa using hc
    subst this; exact ⟨h32, hy⟩)
   rw [List.take_length] at this
   exact this
theorem gWrite_nil (u : Value) (w : World) : Calls Try.prog 23 #[.pointer none, u] w fun e w' => e = .returned (.int .i64 1) ∧ w' = w := by
 have H := hide (fun W => dIsThere_nil W)
 go_enter Try.func23, Try.ntmps23
 go_wp2_with (go_at_call 37; refine (H.out _).mono ?_; rintro e w1 ⟨rfl, rfl⟩)
 go_ret
 exact ⟨rfl, rfl⟩
theorem gWrite22 {w : World} {base g : Nat} {v : Value} {D : Dsk} (h : Hd w base g v D) (hb : base <= w.heap.size) (hn : D.n < 4611686018427387904) {u : Value} {bs : List Int} (hu : Rb w u bs) :
 Calls Try.prog 23 #[.pointer (some ⟨g, 0, none⟩), u] w fun e w' => ∃ v', e = .returned (.int .i64 (wrE22 D bs)) ∧ Hd w' base g v' (wrN22 D bs) ∧ Mv w w' g v v' := by
 have H := hide (dIsThere h)
 by_cases h32 : bs.length = 32
 · obtain ⟨b, off, cap, rfl, hcap, hbl⟩ := hu.form (by omega)
   have hr := hu.range h32
   have hy := hu.by
   obtain ⟨W, hW⟩ : ∃ W, w.drew.alloc (.cells (k32 bs).toArray 71) = W := ⟨_, rfl⟩
   have hBd : Below w.heap.size w W := by rw [<- hW]; exact Below.next (Below.refl w.heap.size w).drew (alloc_below w.drew _)
   have hbx : W.heap[w.heap.size]? = some (.cells (k32 bs).toArray 71 (0, 0)) := by rw [<- hW]; exact heap_alloc_new w.drew _
   have HBS : Hid ((Instr.buildSlice 62 1 #[(0, .agg (k32 bs).toArray)]).run Try.prog w.drew = .ok (.slice (some ⟨w.heap.size, 0, none⟩) 1 1) W) := by rw [<- hW]; exact build_k32 bs w.drew
   have HR := hide (gRaw_wr (h.below hBd) (Nat.le_trans hb hBd.size) hn (u := .slice (some ⟨w.heap.size, 0, none⟩) 1 1) (b := bs) (.inr ⟨w.heap.size, 1, rfl, fun j x hj => by
    have hj' : (k32 bs)[j]? = some x := by simpa using hj
    exact World.news_of_block (cs := (k32 bs).toArray) hbx j x (by simpa using hj')⟩) h32 hy)
   have HM := hide (fun (w' : World) (v' : Value) (m : Mv W w' g v v') => Mv.after hBd m)
   obtain ⟨ao, k, rfl, _⟩ := h.spell
   have c1 := h.cells.2.1
   have hcW := (h.below hBd).cells.2.1
   rw [h32] at *
   have hrd : w.drew.cell? ⟨g, 1, none⟩ = some (.slice ao D.l.length k) ∧ w.drew.rangeAt b off (k32 bs) := ⟨c1, hr⟩
   have hrW : W.cell? ⟨g, 1, none⟩ = some (.slice ao D.l.length k) ∧ W.rangeAt b off (k32 bs) := ⟨hcW, fun j v hv => (hBd.cell (p := ⟨b, off + j, none⟩) hbl).trans (hr j v hv)⟩
   have HX8 : Hid (∀ V : World, (V.cell? ⟨g, 1, none⟩ = some (.slice ao D.l.length k) ∧ V.rangeAt b off (k32 bs)) -> (loadVar 71 ⟨b, off, none⟩).run Try.prog V = .ok (.agg (k32 bs).toArray) V) := fun V hV => load_k32 hV.2
   have har := array_k32 b off cap
   clear hW hbx h hu hr hy hcW hBd hb hn hbl h32 hcap c1
   go_enter Try.func23, Try.ntmps23
   go_upto_region 5 with (go_at_call 37; refine H.out.mono ?_; rintro e w1 ⟨rfl, rfl⟩)
   refine wp_region_two (S := (fun V => V.cell? ⟨g, 1, none⟩ = some (.slice ao D.l.length k) ∧ V.rangeAt b off (k32 bs))) (by kernel_rfl) (by kernel_rfl) (by kernel_rfl) rfl rfl (by ((try dsimp only) <;> (first | with_reducible exact hrd | with_reducible exact hrW))) (fun hHeld => ?_)
   simp only [List.dropLast]
   refine tkY 0 ?_
   refine tkY 1 ?_
   refine tkY 2 ?_
   refine tkY 3 ?_
   refine tkY 4 ?_
   refine tkY 5 ?_
   refine tkY 6 ?_
   refine tkY 7 ?_
   refine tkY 8 ?_ (hy := by (intro w hSw; (try dsimp only at hSw); simp [execOp, Instr.loadAt, Instr.sureAddr, Act.eval, HX8.out _ hSw]; with_reducible rfl))
   refine rd1 9 (fun K hK => ?_)
   ((refine op_mute (by rfl) (.slice (some ⟨w1.heap.size, 0, none⟩) 1 1) W (by simp [execOp, Act.eval, HBS.out]) ?_))
   refine hK.out _ _ (by ((try dsimp only) <;> (first | with_reducible exact hrd | with_reducible exact hrW))) (fun hHeld => ?_)
   clear hK K
   (try simp only [ly0, ly1, ly2, ly3, ly4, ly5, ly6, ly7])
   refine wpAnyH_done (by kernel_rfl) ?_ _
   simp only [tailQ]
   clear hrd hrW HX8 har
   go_wp2_with (go_at_call 38; refine HR.out.mono ?_; rintro e w2 ⟨v2, rfl, hn2, hm2⟩)
   simp only [tailQ]
   go_wp2
   go_ret
   exact ⟨_, rfl, hn2, HM.out _ _ hm2⟩
 · have e1 : wrE22 D bs = 2 := by unfold wrE22; rw [if_neg h32]
   have e2 : wrN22 D bs = D := wr_same (by omega) (by omega)
   rw [e1, e2]
   have h32' : ¬ (bs.length : Int) = 32 := by omega
   have HP := hide h
   have HM := hide (Mv.refl w g v)
   obtain ⟨a, c, rfl, _⟩ := hu.spell
   clear e1 e2 h h32 hu hn hb
   go_enter Try.func23, Try.ntmps23
   go_wp2_with (go_at_call 37; refine H.out.mono ?_; rintro e w1 ⟨rfl, rfl⟩)
   go_ret
   exact ⟨_, rfl, HP.out, HM.out⟩
theorem tm_cases (D : Dsk) (i : Int) :
 ((i < 0 ∨ (D.l.length : Int) < i) ∧ tmE D i = 2 ∧ tmN D i = D) ∨ (∃ k : Nat, i = (k : Int) ∧ k <= D.l.length ∧ ((dieD D = true ∧ tmE D i = 220 ∧ tmN D i = { D with x := true }) ∨ (dieD D = false ∧ tmE D i = 0 ∧ tmN D i = didD D (D.l.take k)))) := by
 by_cases h : 0 <= i ∧ i <= (D.l.length : Int)
 · obtain ⟨k, rfl⟩ : ∃ k : Nat, i = (k : Int) := ⟨i.toNat, by omega⟩
   refine .inr ⟨k, rfl, by omega, ?_⟩
   cases h2 : dieD D with
   | true =>
    have e : tmE D (k : Int) = 220 := by unfold tmE; rw [if_pos h, if_pos h2]
    exact .inl ⟨rfl, e, by unfold tmN; rw [if_neg (by omega), if_pos e]⟩
   | false =>
    have e : tmE D (k : Int) = 0 := by unfold tmE; rw [if_pos h, if_neg (by rw [h2]; decide)]
    exact .inr ⟨rfl, e, by unfold tmN; rw [if_pos e, Int.toNat_natCast]⟩
 · have e : tmE D i = 2 := by unfold tmE; rw [if_neg h]
   exact .inl ⟨by omega, e, by unfold tmN; rw [if_neg (by omega), if_neg (by omega)]⟩
theorem gRaw_tm {w : World} {base g : Nat} {v : Value} {D : Dsk} (h : Hd w base g v D) (hb : base <= w.heap.size) (hn : D.n < 4611686018427387904) (i : Int) (hi : ¬ i < 0) (hi2 : ¬ (D.l.length : Int) < i) :
 Calls Try.prog 38 #[.pointer (some ⟨g, 0, none⟩), .int .i64 i, .slice none 0 0] w fun e w' => ∃ v', e = .returned (.int .i64 (tmE D i)) ∧ Hd w' base g v' (tmN D i) ∧ Mv w w' g v v' := by
 rcases tm_cases D i with ⟨h1, _⟩ | ⟨k, rfl, hk, ⟨h2, e1, e2⟩ | ⟨h2, e1, e2⟩⟩
 · omega
 · rw [e1, e2]
   exact (gRaw_cut h h2 _ _).mono fun r w' ⟨e1, e2, e3⟩ => ⟨v, e1, e2, e3⟩
 · rw [e1, e2]
   have := gRaw_ok h hb h2 hn k hk (u := .slice none 0 0) (bs := []) (.inl ⟨rfl, rfl⟩) (by have := h.o.ok.len; simp; omega) (fun c hc => by cases hc)
   rw [List.append_nil] at this
   exact this
theorem gTrim22 {w : World} {base g : Nat} {v : Value} {D : Dsk} (h : Hd w base g v D) (hb : base <= w.heap.size) (hn : D.n < 4611686018427387904) (i : Int) :
 Calls Try.prog 35 #[.pointer (some ⟨g, 0, none⟩), .int .i64 i] w fun e w' => ∃ v', e = .returned (.int .i64 (tmE D i)) ∧ Hd w' base g v' (tmN D i) ∧ Mv w w' g v v' := by
 have H := hide (dIsThere h)
 have HP := hide h
 have HM := hide (Mv.refl w g v)
 have HR := hide (gRaw_tm h hb hn i)
 have HC := hide (tm_cases D i)
 obtain ⟨ao, k, rfl, _⟩ := h.spell
 have c1 := h.cells.2.1
 clear h hb hn
 by_cases h1 : i < 0
 · obtain ⟨e1, e2⟩ : tmE D i = 2 ∧ tmN D i = D := by
    rcases HC.out with ⟨_, h⟩ | ⟨k, hk, _⟩
    · exact h
    · omega
   rw [e1, e2]
   clear e1 e2 HR HC
   go_enter Try.func35, Try.ntmps35
   go_wp2_with (go_at_call 37; refine H.out.mono ?_; rintro e w1 ⟨rfl, rfl⟩)
   go_ret
   exact ⟨_, rfl, HP.out, HM.out⟩
 · by_cases h2 : (D.l.length : Int) < i
   · obtain ⟨e1, e2⟩ : tmE D i = 2 ∧ tmN D i = D := by
      rcases HC.out with ⟨_, h⟩ | ⟨k, hk, hk2, _⟩
      · exact h
      · omega
     rw [e1, e2]
     clear e1 e2 HR HC
     go_enter Try.func35, Try.ntmps35
     go_wp2_with (go_at_call 37; refine H.out.mono ?_; rintro e w1 ⟨rfl, rfl⟩)
     go_ret
     exact ⟨_, rfl, HP.out, HM.out⟩
   · have HR2 := hide (HR.out h1 h2)
     clear HR HC
     go_enter Try.func35, Try.ntmps35
     go_wp2_with (first
      | (go_at_call 37; refine H.out.mono ?_; rintro e w1 ⟨rfl, rfl⟩)
      | (go_at_call 38; refine HR2.out.mono ?_; rintro e w2 ⟨v2, rfl, hn2, hm2⟩))
     go_ret
     exact ⟨_, rfl, hn2, hm2⟩
end Go.Proofs.Ythialdipnhggnaa
