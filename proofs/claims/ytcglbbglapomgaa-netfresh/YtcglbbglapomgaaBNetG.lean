import Derived.Test.YtcglbbglapomgaaBNetF
set_option linter.unusedVariables false
set_option linter.unusedSimpArgs false
set_option maxRecDepth 100000
set_option maxHeartbeats 4000000
namespace Go.Proofs.Ytcglbbglapomgaa
open Go.RowKit Fld
theorem nt0_nok {n : Int} (h : ntE n = 0) : Nok (nt0 n) := ⟨nt0_ok h, fun p hp => by simp [nt0] at hp⟩
theorem np_new (w : World) {n : Int} (h : ntE n = 0) : Np (w.alloc (.cells #[.int .i64 n, .slice none 0 0, .int .i64 0, .int .i64 0] 68)) w.heap.size w.heap.size (.slice none 0 0) (nt0 n) :=
 ⟨⟨heap_alloc_new w _, World.ownsRow_nil _ _ _ _, Nat.le_refl _⟩, nt0_nok h⟩
theorem gNew_no (n : Int) (h : ntE n = 2) (w : World) : Calls Try.prog 8 #[.int .i64 n] w fun e w' => e = .returned (.tuple #[.pointer none, .int .i64 2]) ∧ w' = w := by
 unfold ntE at h
 have hn : ¬ (1 <= n ∧ n <= 65) := fun hc => by rw [if_pos hc] at h; cases h
 by_cases h1 : n < 1
 · clear hn h
   go_enter Try.func8, Try.ntmps8
   go_wp2
   go_ret2
   exact ⟨rfl, rfl⟩
 · have h2 : 65 < n := by omega
   clear hn h
   go_enter Try.func8, Try.ntmps8
   go_wp2
   go_ret2
   exact ⟨rfl, rfl⟩
theorem gNew (n : Int) (h : ntE n = 0) (w : World) : Calls Try.prog 8 #[.int .i64 n] w fun e w' => e = .returned (.tuple #[.pointer (some ⟨w.heap.size, 0, none⟩), .int .i64 0]) ∧ Np w' w.heap.size w.heap.size (.slice none 0 0) (nt0 n) ∧ Below w.heap.size w w' := by
 have hp := hide (np_new w h)
 have hb := hide (alloc_below w (.cells #[.int .i64 n, .slice none 0 0, .int .i64 0, .int .i64 0] 68))
 unfold ntE at h
 have hn : 1 <= n ∧ n <= 65 := Classical.byContradiction fun hc => by rw [if_neg hc] at h; cases h
 have h1 : ¬ n < 1 := by omega
 have h2 : ¬ 65 < n := by omega
 clear hn h
 go_enter Try.func8, Try.ntmps8
 go_wp2
 go_ret2
 exact ⟨rfl, hp.out, hb.out⟩
theorem byB_mem {N : Nt} (h : Nok N) {b : List Int} (hb : By b) (f t : Int) : Nok (sdN N f t b) :=
 ⟨sdN_ok h.ok f t b, fun p hp => by
  unfold sdN at hp
  by_cases he : sdE N f t b = 0
  · rw [if_pos he] at hp
    rcases List.mem_append.1 hp with hp | hp
    · exact h.byt p hp
    · have : p = ⟨f, t, b⟩ := by simpa using hp
      subst this; exact hb
  · rw [if_neg he] at hp; exact h.byt p hp⟩
theorem sd_cases (N : Nt) (f t : Int) (b : List Int) :
 (decide (0 <= f ∧ f < N.n) = false ∧ sdE N f t b = 2) ∨
 (decide (0 <= f ∧ f < N.n) = true ∧ decide (0 <= t ∧ t < N.n) = false ∧ sdE N f t b = 2) ∨
 (decide (0 <= f ∧ f < N.n) = true ∧ decide (0 <= t ∧ t < N.n) = true ∧ decide (4096 <= N.l.length) = true ∧ sdE N f t b = 4) ∨
 (decide (0 <= f ∧ f < N.n) = true ∧ decide (0 <= t ∧ t < N.n) = true ∧ decide (4096 <= N.l.length) = false ∧ 1048576 < b.length ∧ sdE N f t b = 4) ∨
 (decide (0 <= f ∧ f < N.n) = true ∧ decide (0 <= t ∧ t < N.n) = true ∧ decide (4096 <= N.l.length) = false ∧ ¬ 1048576 < b.length ∧ sdE N f t b = 0) := by
 simp only [decide_eq_true_iff, decide_eq_false_iff_not]
 unfold sdE
 by_cases h1 : 0 <= f ∧ f < N.n
 · by_cases h2 : 0 <= t ∧ t < N.n
   · rw [if_pos ⟨h1.1, h1.2, h2.1, h2.2⟩]
     by_cases h3 : 4096 <= N.l.length
     · rw [if_pos (.inl h3)]; exact .inr (.inr (.inl ⟨h1, h2, h3, rfl⟩))
     · by_cases h4 : 1048576 < b.length
       · rw [if_pos (.inr h4)]; exact .inr (.inr (.inr (.inl ⟨h1, h2, h3, h4, rfl⟩)))
       · rw [if_neg (by omega)]; exact .inr (.inr (.inr (.inr ⟨h1, h2, h3, h4, rfl⟩)))
   · rw [if_neg (by omega)]; exact .inr (.inl ⟨h1, h2, rfl⟩)
 · rw [if_neg (by omega)]; exact .inl ⟨h1, rfl⟩
theorem gSend {w : World} {base g : Nat} {v : Value} {N : Nt} (h : Np w base g v N) (hb : base <= w.heap.size) (hs : N.s < 4611686018427387904) (f t : Int) {u : Value} {bs : List Int} (hu : Rb w u bs) :
 Calls Try.prog 14 #[.pointer (some ⟨g, 0, none⟩), .int .i64 f, .int .i64 t, u] w fun e w' => ∃ v', e = .returned (.int .i64 (sdE N f t bs)) ∧ Np w' base g v' (sdN N f t bs) ∧ Mv w w' g v v' := by
 have H := hide (gIsThere h)
 have HF := hide (gIsNode h.m f)
 have HT := hide (gIsNode h.m t)
 have HU := hide (gIsFull h.m)
 have HP := hide h
 have HM := hide (Mv.refl w g v)
 have hcv := rb_str hu
 have HY := hide hu.by
 obtain ⟨ao, cap, rfl, _⟩ := hu.spell
 clear hu
 rcases sd_cases N f t bs with ⟨c1, ce⟩ | ⟨c1, c2, ce⟩ | ⟨c1, c2, c3, ce⟩ | ⟨c1, c2, c3, c4, ce⟩ | ⟨c1, c2, c3, c4, ce⟩
 · rw [ce]
   have e2 : sdN N f t bs = N := by unfold sdN; rw [if_neg (by rw [ce]; decide)]
   rw [e2]
   rw [c1] at HF
   clear ce e2 c1
   go_enter Try.func14, Try.ntmps14
   go_wp2_with (first
    | (go_at_call 32; refine H.out.mono ?_; rintro e w1 ⟨rfl, rfl⟩)
    | (go_at_call_of 34 (Value.int .i64 f); refine HF.out.mono ?_; rintro e w1 ⟨rfl, rfl⟩))
   go_ret
   exact ⟨_, rfl, HP.out, HM.out⟩
 · rw [ce]
   have e2 : sdN N f t bs = N := by unfold sdN; rw [if_neg (by rw [ce]; decide)]
   rw [e2]
   rw [c1] at HF
   rw [c2] at HT
   clear ce e2 c1 c2
   go_enter Try.func14, Try.ntmps14
   go_wp2_with (first
    | (go_at_call 32; refine H.out.mono ?_; rintro e w1 ⟨rfl, rfl⟩)
    | (go_at_call_of 34 (Value.int .i64 f); refine HF.out.mono ?_; rintro e w1 ⟨rfl, rfl⟩)
    | (go_at_call_of 34 (Value.int .i64 t); refine HT.out.mono ?_; rintro e w1 ⟨rfl, rfl⟩))
   go_ret
   exact ⟨_, rfl, HP.out, HM.out⟩
 · rw [ce]
   have e2 : sdN N f t bs = N := by unfold sdN; rw [if_neg (by rw [ce]; decide)]
   rw [e2]
   rw [c1] at HF
   rw [c2] at HT
   rw [c3] at HU
   clear ce e2 c1 c2 c3
   go_enter Try.func14, Try.ntmps14
   go_wp2_with (first
    | (go_at_call 32; refine H.out.mono ?_; rintro e w1 ⟨rfl, rfl⟩)
    | (go_at_call_of 34 (Value.int .i64 f); refine HF.out.mono ?_; rintro e w1 ⟨rfl, rfl⟩)
    | (go_at_call_of 34 (Value.int .i64 t); refine HT.out.mono ?_; rintro e w1 ⟨rfl, rfl⟩)
    | (go_at_call 35; refine HU.out.mono ?_; rintro e w1 ⟨rfl, rfl⟩))
   go_ret
   exact ⟨_, rfl, HP.out, HM.out⟩
 · rw [ce]
   have e2 : sdN N f t bs = N := by unfold sdN; rw [if_neg (by rw [ce]; decide)]
   rw [e2]
   rw [c1] at HF
   rw [c2] at HT
   rw [c3] at HU
   have c4' : (1048576 : Int) < (bs.length : Int) := by omega
   clear ce e2 c1 c2 c3
   go_enter Try.func14, Try.ntmps14
   go_wp2_with (first
    | (go_at_call 32; refine H.out.mono ?_; rintro e w1 ⟨rfl, rfl⟩)
    | (go_at_call_of 34 (Value.int .i64 f); refine HF.out.mono ?_; rintro e w1 ⟨rfl, rfl⟩)
    | (go_at_call_of 34 (Value.int .i64 t); refine HT.out.mono ?_; rintro e w1 ⟨rfl, rfl⟩)
    | (go_at_call 35; refine HU.out.mono ?_; rintro e w1 ⟨rfl, rfl⟩))
   go_ret
   exact ⟨_, rfl, HP.out, HM.out⟩
 · have hl : N.l.length < 4096 := by have := of_decide_eq_false c3; omega
   have HA := hide (gAdd h.m hb ⟨f, t, bs⟩ hl hs)
   have HK := hide (byB_mem h.o HY.out f t)
   have c4' : ¬ (1048576 : Int) < (bs.length : Int) := by omega
   rw [ce]
   have e2 : sdN N f t bs = { N with l := N.l ++ [⟨f, t, bs⟩], s := N.s + 1 } := by unfold sdN; rw [if_pos ce]
   rw [e2] at HK ⊢
   unfold pkv at HA
   rw [c1] at HF
   rw [c2] at HT
   rw [c3] at HU
   clear ce e2 c1 c2 c3 c4 h
   go_enter Try.func14, Try.ntmps14
   go_wp2_with (first
    | (go_at_call 32; refine H.out.mono ?_; rintro e w1 ⟨rfl, rfl⟩)
    | (go_at_call_of 34 (Value.int .i64 f); refine HF.out.mono ?_; rintro e w1 ⟨rfl, rfl⟩)
    | (go_at_call_of 34 (Value.int .i64 t); refine HT.out.mono ?_; rintro e w1 ⟨rfl, rfl⟩)
    | (go_at_call 35; refine HU.out.mono ?_; rintro e w1 ⟨rfl, rfl⟩)
    | (go_at_call 36; refine HA.out.mono ?_; rintro e w2 ⟨v2, rfl, hn2, hm2⟩))
   go_ret
   exact ⟨_, rfl, ⟨hn2, HK.out⟩, hm2⟩
theorem pl_cases (N : Nt) (i : Int) : (∃ k : Nat, i = (k : Int) ∧ k < N.l.length ∧ hasI N.l i = true ∧ plE N i = 0) ∨ (hasI N.l i = false ∧ plE N i = 2) := by
 unfold plE
 cases hh : hasI N.l i with
 | true =>
  obtain ⟨k, h1, h2⟩ := hasI_iff.1 hh
  exact .inl ⟨k, h1, h2, rfl, by rw [if_pos rfl]⟩
 | false => exact .inr ⟨rfl, by rw [if_neg (by decide)]⟩
theorem at_getD {l : List Pk} {k : Nat} (h : k < l.length) : l[k]? = some (l.getD (k : Int).toNat pk0) := by
 rw [Int.toNat_natCast, List.getD_eq_getElem?_getD, List.getElem?_eq_getElem h]; rfl
theorem nok_erase {N M : Nt} (h : Nok N) (hk : NtOk M) (hl : ∀ p ∈ M.l, p ∈ N.l) : Nok M := ⟨hk, fun p hp => h.byt p (hl p hp)⟩
theorem nok_dp {N : Nt} (h : Nok N) (i : Int) : Nok (dpN N i) := nok_erase h (dpN_ok h.ok i) (fun p hp => by
 unfold dpN at hp
 split at hp
 · exact List.mem_of_mem_eraseIdx hp
 · exact hp)
theorem nok_dv {N : Nt} (h : Nok N) (i : Int) : Nok (dvN N i) := nok_erase h (dvN_ok h.ok i) (fun p hp => by
 unfold dvN at hp
 split at hp
 · exact List.mem_of_mem_eraseIdx hp
 · exact hp)
theorem nok_db {N : Nt} (h : Nok N) (i : Int) : Nok (dbN N i) := nok_erase h (dbN_ok h.ok i) (fun p hp => by
 unfold dbN at hp
 split at hp
 · rename_i he
   rcases List.mem_append.1 hp with hp | hp
   · exact hp
   · rw [List.mem_singleton.1 hp]
     unfold dbE at he
     cases hh : hasI N.l i with
     | true => exact getD_mem hh
     | false => rw [hh, if_neg (by decide)] at he; cases he
 · exact hp)
theorem nok_mv {N : Nt} (h : Nok N) (i j : Int) : Nok (mvN N i j) := nok_erase h (mvN_ok h.ok i j) (fun p hp => by
 unfold mvN at hp
 split at hp
 · rename_i he
   have hb : hasI N.l i = true := by
    unfold mvE at he
    cases hh : hasI N.l i with
    | true => rfl
    | false => rw [hh, if_neg (by simp)] at he; cases he
   exact mvL_mem (getD_mem hb) hp
 · exact hp)
theorem gDrop {w : World} {base g : Nat} {v : Value} {N : Nt} (h : Np w base g v N) (i : Int) :
 Calls Try.prog 15 #[.pointer (some ⟨g, 0, none⟩), .int .i64 i] w fun e w' => ∃ v', e = .returned (.int .i64 (plE N i)) ∧ Np w' base g v' (dpN N i) ∧ Mv w w' g v v' := by
 have H := hide (gPlace h i)
 have HK := hide (nok_dp h.o i)
 rcases pl_cases N i with ⟨k, rfl, hk, hh, e⟩ | ⟨hh, e⟩
 · have HT := hide (gTakeN h.m h.o.ok.len (at_getD hk))
   rw [e] at H ⊢
   have e2 : dpN N (k : Int) = { N with l := N.l.eraseIdx k, c := N.c + 1 } := by unfold dpN; rw [if_pos hh, Int.toNat_natCast]
   rw [e2] at HK ⊢
   clear e e2 hh hk h
   go_enter Try.func15, Try.ntmps15
   go_wp2_with (first
    | (go_at_call 29; refine H.out.mono ?_; rintro e w1 ⟨rfl, rfl⟩)
    | (go_at_call 30; refine HT.out.mono ?_; rintro e w2 ⟨v2, rfl, hn2, hm2⟩))
   go_ret
   exact ⟨_, rfl, ⟨⟨hn2.net, hn2.row, hn2.low⟩, HK.out⟩, hm2⟩
 · rw [e] at H ⊢
   have e2 : dpN N i = N := by unfold dpN; rw [if_neg (by rw [hh]; decide)]
   rw [e2]
   have HP := hide h
   have HM := hide (Mv.refl w g v)
   clear e e2 hh h
   go_enter Try.func15, Try.ntmps15
   go_wp2_with (go_at_call 29; refine H.out.mono ?_; rintro e w1 ⟨rfl, rfl⟩)
   go_ret
   exact ⟨_, rfl, HP.out, HM.out⟩
end Go.Proofs.Ytcglbbglapomgaa
