import Derived.Test.YtcglbbglapomgaaBNetJ
set_option linter.unusedVariables false
set_option linter.unusedSimpArgs false
set_option maxRecDepth 100000
set_option maxHeartbeats 4000000
namespace Go.Proofs.Ytcglbbglapomgaa
open Go.RowKit Fld
theorem made3 {α : Type} (f : α -> List Value) (hf : ∀ x, (f x).length = 3) (x : α) (a b c : Value) (hx : f x = [a, b, c]) (n : Nat) : (madeCells #[a, b, c] (n * 3)).toList = (List.replicate n x).flatMap f := by
 apply List.ext_getElem?
 intro j
 by_cases hj : j < n * 3
 · have hq : j / 3 < n := by omega
   have hj3 : j % 3 < 3 := Nat.mod_lt _ (by decide)
   have hg := flat_get f 3 hf (List.replicate n x) (j / 3) x (j % 3) (by rw [List.getElem?_replicate, if_pos hq]) hj3
   rw [show j / 3 * 3 + j % 3 = j by omega] at hg
   rw [hg, hx]
   have : (madeCells #[a, b, c] (n * 3)).toList[j]? = some (#[a, b, c][j % 3]!) := by
    unfold madeCells
    simp [hj]
   rw [this]
   have h3 : j % 3 = 0 ∨ j % 3 = 1 ∨ j % 3 = 2 := by omega
   rcases h3 with h | h | h <;> rw [h] <;> rfl
 · rw [List.getElem?_eq_none (by rw [Array.length_toList, size_madeCells]; omega), List.getElem?_eq_none (by rw [flat_len f 3 hf, List.length_replicate]; omega)]
abbrev Tkp := Pk × Nat × Nat
def tkc : Option Tkp -> List Value
 | none => [.int .i64 0, .int .i64 0, .slice none 0 0]
 | some (p, q, c) => [.int .i64 p.f, .int .i64 p.t, .slice (some ⟨q, 0, none⟩) p.b.length c]
theorem tkc_len (x : Option Tkp) : (tkc x).length = 3 := by rcases x with _ | ⟨p, q, c⟩ <;> rfl
structure Pq (w : World) (lo : Nat) (v : Value) (es : List (Option Tkp)) : Prop where
 row : w.ownsRow lo 40 3 v es.length (es.flatMap tkc)
 each : ∀ (i : Nat) (p : Pk) (q c : Nat), es[i]? = some (some (p, q, c)) -> lo <= q ∧ v.ownBlock ≠ some q ∧ Yb w q c p.b
 dif : ∀ (i j : Nat) (p : Pk) (q c : Nat) (p' : Pk) (q' c' : Nat), es[i]? = some (some (p, q, c)) -> es[j]? = some (some (p', q', c')) -> i ≠ j -> q ≠ q'
theorem Pq.below {w w' : World} {lo : Nat} {v : Value} {es : List (Option Tkp)} (h : Pq w lo v es) (hb : Below w.heap.size w w') : Pq w' lo v es :=
 ⟨own_below h.row hb, fun i p q c hi => ⟨(h.each i p q c hi).1, (h.each i p q c hi).2.1, (h.each i p q c hi).2.2.below hb⟩, h.dif⟩
theorem Pq.put {w : World} {lo gl n cap k : Nat} {es : List (Option Tkp)} (h : Pq w lo (.slice (some ⟨gl, 0, none⟩) n cap) es) (hn : n = es.length) (hk : k < es.length) {p : Pk} {q c : Nat} (hy : Yb w q c p.b) (hlo : lo <= q) (hg : gl ≠ q) (hup : ∀ (i : Nat) (p' : Pk) (q' c' : Nat), es[i]? = some (some (p', q', c')) -> q' ≠ q) :
 Pq (((w.setCell ⟨gl, k * 3, none⟩ (.int .i64 p.f)).setCell ⟨gl, k * 3 + 1, none⟩ (.int .i64 p.t)).setCell ⟨gl, k * 3 + 2, none⟩ (.slice (some ⟨q, 0, none⟩) p.b.length c)) lo (.slice (some ⟨gl, 0, none⟩) n cap) (es.set k (some (p, q, c))) := by
 subst hn
 have hfar : ∀ j, j ≠ gl -> (((w.setCell ⟨gl, k * 3, none⟩ (.int .i64 p.f)).setCell ⟨gl, k * 3 + 1, none⟩ (.int .i64 p.t)).setCell ⟨gl, k * 3 + 2, none⟩ (.slice (some ⟨q, 0, none⟩) p.b.length c)).heap[j]? = w.heap[j]? := fun j hj => by
  rw [Below.heap_setCell _ _ _ j hj, Below.heap_setCell _ _ _ j hj, Below.heap_setCell _ _ _ j hj]
 refine ⟨?_, fun i p' q' c' hi => ?_, fun i j p1 q1 c1 p2 q2 c2 h1 h2 hne => ?_⟩
 · rw [List.length_set]
   exact own_put3 tkc_len h.row hk rfl
 · rw [List.getElem?_set] at hi
   by_cases e : k = i
   · rw [if_pos e, if_pos hk] at hi
     simp only [Option.some.injEq, Prod.mk.injEq] at hi
     obtain ⟨rfl, rfl, rfl⟩ := hi
     exact ⟨hlo, by simp [Value.ownBlock]; exact hg, hy.kept (by simp) (hfar _ (Ne.symm hg))⟩
   · rw [if_neg e] at hi
     obtain ⟨a1, a2, a3⟩ := h.each i p' q' c' hi
     refine ⟨a1, a2, a3.kept (by simp) (hfar _ (fun e2 => ?_))⟩
     subst e2
     exact a2 rfl
 · rw [List.getElem?_set] at h1 h2
   by_cases e : k = i
   · rw [if_pos e, if_pos hk] at h1
     rw [if_neg (fun e2 => hne (e.symm.trans e2))] at h2
     simp only [Option.some.injEq, Prod.mk.injEq] at h1
     obtain ⟨rfl, rfl, rfl⟩ := h1
     exact fun e3 => hup j p2 q2 c2 h2 e3.symm
   · rw [if_neg e] at h1
     by_cases e2 : k = j
     · rw [if_pos e2, if_pos hk] at h2
       simp only [Option.some.injEq, Prod.mk.injEq] at h2
       obtain ⟨rfl, rfl, rfl⟩ := h2
       exact hup i p1 q1 c1 h1
     · rw [if_neg e2] at h2
       exact h.dif i j _ _ _ _ _ _ h1 h2 hne
theorem apk_info : (Try.prog.info? 40).map (fun i => (i.zero, i.size, i.bytes)) = some (some (.agg #[.int .i64 0, .int .i64 0, .slice none 0 0]), 3, 40) := by kernel_rfl
theorem makeP (n : Nat) (hm : n <= 100000) (W : World) : (Instr.makeSlice 27 (.int .i64 (n : Int)) (.int .i64 (n : Int))).run Try.prog W = .ok (.slice (some ⟨W.heap.size, 0, none⟩) n n) (W.alloc (.cells ((List.replicate n (none : Option Tkp)).flatMap tkc).toArray 40)) := by
 obtain ⟨i, hi, hz, hs, hb⟩ := info_parts apk_info
 have := run_make (P := Try.prog) W 27 40 i (.agg #[.int .i64 0, .int .i64 0, .slice none 0 0]) Try.underlying27 hi hz .i64 .i64 (n : Int) (n : Int) (by omega) (by omega) (by rw [hb]; omega) (by omega)
 rw [this, hs, Int.toNat_natCast]
 show Result.ok _ (W.alloc (.cells (madeCells #[.int .i64 0, .int .i64 0, .slice none 0 0] (n * 3)) 40)) = _
 rw [<- made3 tkc tkc_len none _ _ _ rfl n]
theorem pq_made (W : World) (n : Nat) (hn : n <= 100000) : Pq (W.alloc (.cells ((List.replicate n (none : Option Tkp)).flatMap tkc).toArray 40)) W.heap.size (.slice (some ⟨W.heap.size, 0, none⟩) n n) (List.replicate n none) := by
 have hl := flat_len tkc 3 tkc_len (List.replicate n (none : Option Tkp))
 rw [List.length_replicate] at hl
 refine ⟨⟨by rw [hl, List.length_replicate], .inr ⟨W.heap.size, n, _, by rw [List.length_replicate], Nat.le_refl _, heap_alloc_new W _, by rw [List.length_replicate]; exact Nat.le_refl _, by unfold maxLen; omega, by simp [hl], ?_⟩⟩, fun i p q c hi => ?_, fun i j p q c _ _ _ hi => ?_⟩
 · rw [List.length_replicate]
   show (List.take (n * 3) _) = _
   rw [<- hl, List.take_length]
 · rw [List.getElem?_replicate] at hi; split at hi <;> cases hi
 · rw [List.getElem?_replicate] at hi; split at hi <;> cases hi
theorem Pq.cells {w : World} {lo gl n cap k : Nat} {es : List (Option Tkp)} (h : Pq w lo (.slice (some ⟨gl, 0, none⟩) n cap) es) (hn : n = es.length) {x : Option Tkp} {a b c : Value} (hk : es[k]? = some x) (hx : tkc x = [a, b, c]) :
 w.cell? ⟨gl, k * 3, none⟩ = some a ∧ w.cell? ⟨gl, k * 3 + 1, none⟩ = some b ∧ w.cell? ⟨gl, k * 3 + 2, none⟩ = some c ∧ ∀ j, w.frozen? ⟨gl, j, none⟩ = false := by
 subst hn
 have hf := fun j (hj : j < 3) => flat_get tkc 3 tkc_len es k x j hk hj
 rw [hx] at hf
 exact ⟨own_atO h.row (hf 0 (by omega)), own_atO h.row (hf 1 (by omega)), own_atO h.row (hf 2 (by omega)), fun j => own_frz h.row j⟩
theorem tk_here {ls : List Tkp} {n k : Nat} (hl : ls.length = k) (hk : k < n) : (ls.map some ++ List.replicate (n - k) (none : Option Tkp))[k]? = some none := by
 rw [List.getElem?_append_right (by rw [List.length_map]; omega), List.length_map, hl, Nat.sub_self, List.getElem?_replicate, if_pos (by omega)]
theorem tk_len {ls : List Tkp} {n k : Nat} (hl : ls.length = k) (hk : k <= n) : (ls.map some ++ List.replicate (n - k) (none : Option Tkp)).length = n := by
 rw [List.length_append, List.length_map, List.length_replicate]; omega
theorem tk_step {ls : List Tkp} {n k : Nat} (hl : ls.length = k) (hk : k < n) (x : Tkp) : (ls.map some ++ List.replicate (n - k) none).set k (some x) = (ls ++ [x]).map some ++ List.replicate (n - (k + 1)) none := by
 have e : n - k = (n - (k + 1)) + 1 := by omega
 rw [e, List.replicate_succ, List.set_append_right _ _ (by rw [List.length_map]; omega), List.length_map, hl, Nat.sub_self, List.set_cons_zero, List.map_append, List.append_assoc]
 rfl
theorem gPending {w : World} {base g : Nat} {v : Value} {N : Nt} (h : Np w base g v N) :
 Calls Try.prog 18 #[.pointer (some ⟨g, 0, none⟩)] w fun e w' => ∃ (v' : Value) (ls : List Tkp), e = .returned v' ∧ Pq w' w.heap.size v' (ls.map some) ∧ ls.map (·.1) = N.l ∧ Below w.heap.size w w' := by
 have H := hide (gIsThere h)
 obtain ⟨c0, c1, c2, c3⟩ := h.m.cells
 obtain ⟨ao, cap, rfl, hcap, hr⟩ := h.m.spell
 have hlen := h.o.ok.len
 have hmk := makeP N.l.length (by omega)
 have HP0 := hide (pq_made w N.l.length (by omega))
 have hb0 := alloc_below w (.cells ((List.replicate N.l.length (none : Option Tkp)).flatMap tkc).toArray 40)
 have HB0 := hide hb0
 have c1' := ((h.below hb0).m.cells).2.1
 have HY := hide (fun p hp => h.o.byt p hp)
 have HYl := hide (fun p hp => (h.o.ok.pk p hp).2.2)
 have HC := hide (fun W (hb : Below w.heap.size w W) => (h.below hb).m)
 have HR := hide hr
 clear h hb0 c0 c2 c3 hr
 generalize hl : N.l = l at *
 generalize hn : l.length = n at *
 have HN := hide hn
 have HNl := hide hl
 clear hn hl
 go_enter Try.func18, Try.ntmps18
 go_wp2_with (go_at_call 32; refine H.out.mono ?_; rintro e w1 ⟨rfl, hw1⟩; rw [hw1]; clear hw1)
 go_loopw [20] (fun vi wr => ∃ (k : Nat) (ls : List Tkp), k <= n ∧ vi = .int .i64 k ∧ Hid (ls.length = k) ∧ Hid (ls.map (·.1) = l.take k) ∧ Hid (Pq wr w.heap.size (.slice (some ⟨w.heap.size, 0, none⟩) n n) (ls.map some ++ List.replicate (n - k) none)) ∧ Below w.heap.size w wr) (fun vi _ => n - (intOf vi).toNat)
 case atStart => exact ⟨0, [], Nat.zero_le _, rfl, rfl, by simp [Hid], HP0.out, HB0.out⟩
 case round =>
  obtain ⟨k, ls, hk, rfl, HL, HM, HP, hB⟩ := hrel
  by_cases hlt : k < n
  · obtain ⟨r, rfl, hr1, hr2⟩ := HR.out (by omega)
    have hM := HC.out wr hB
    have hkl : k < l.length := by have := HN.out; omega
    have hke : N.l[k]? = some (l[k]'hkl) := by rw [<- List.getElem?_eq_getElem hkl, <- HNl.out]
    obtain ⟨p0, p1, p2⟩ := hM.pk hke
    have hmem : l[k]'hkl ∈ l := List.getElem_mem hkl
    have HYp := hide (HY.out _ hmem)
    have HYq := hide (HYl.out _ hmem)
    have HT2 : Hid (l.take (k + 1) = l.take k ++ [l[k]'hkl]) := by show _ = _; rw [List.take_succ_eq_append_getElem hkl]
    generalize l[k]'hkl = p at *
    obtain ⟨f, t, bs⟩ := p
    dsimp only at p0 p1 p2
    obtain ⟨w2, hw2⟩ : ∃ w2, wr.alloc (.cells #[.int .i64 f, .int .i64 t, .string (strOfNums bs)] 72) = w2 := ⟨_, rfl⟩
    have hb2 : Below wr.heap.size wr w2 := by rw [<- hw2]; exact alloc_below _ _
    have hbx : w2.heap[wr.heap.size]? = some (.cells #[.int .i64 f, .int .i64 t, .string (strOfNums bs)] 72 (0, 0)) := by rw [<- hw2]; exact heap_alloc_new wr _
    have x0 : w2.cell? ⟨wr.heap.size, 0, none⟩ = some (.int .i64 f) := (Lib.cell_of_heap hbx 0).trans rfl
    have x1 : w2.cell? ⟨wr.heap.size, 1, none⟩ = some (.int .i64 t) := (Lib.cell_of_heap hbx 1).trans rfl
    have x2 : w2.cell? ⟨wr.heap.size, 2, none⟩ = some (.string (strOfNums bs)) := (Lib.cell_of_heap hbx 2).trans rfl
    have HG := hide (gTold ⟨f, t, bs⟩ HYp.out (by have := HYq.out; omega) w2)
    unfold pkv at HG
    have HP2 := hide (HP.out.below hb2)
    have HB2 := hide (Below.next hB hb2)
    have HZ := hide hb2.size
    have hzr := hB.size
    have HZr := hide hzr
    have HZz : Hid (w.heap.size < w2.heap.size) := by rw [<- hw2]; show _ < _; simp; omega
    have HK := hide hlt
    have k0 : (0 : Int) <= (k : Int) := by omega
    have k1 : (k : Int) < (n : Int) := by omega
    clear hM hke hbx hb2 c1 c1' hmk hkl hmem hB HP HC HB0 HP0 H HR hzr
    go_wp2_with (go_at_call 31; go_loud (refine HG.out.mono ?_; rintro e w3 ⟨q, c, rfl, hy3, hq3, hb3⟩; unfold pka; have HP3 := hide (HP2.out.below hb3); have HB3 := hide (Below.next HB2.out hb3); obtain ⟨y0, y1, y2, fz⟩ := HP3.out.cells (tk_len HL.out (by have := HK.out; omega)).symm (tk_here HL.out HK.out) rfl))
    have hgq : w.heap.size ≠ q := by have := HZz.out; omega
    have HQ := hide (HP3.out.put (k := k) (tk_len HL.out (by omega)).symm (by rw [tk_len HL.out (by omega)]; exact HK.out) (p := ⟨f, t, bs⟩) hy3 (by have := HZz.out; omega) hgq (fun i p' q' c' hi => by
     have h7 := ((HP2.out.each i p' q' c' hi).2.2).lt
     omega))
    rw [tk_step HL.out HK.out] at HQ
    have hq9 := hgq
    go_roundw
    case rel => exact ⟨k + 1, ls ++ [(⟨f, t, bs⟩, q, c)], by omega, by go_num, by show (ls ++ _).length = _; rw [List.length_append, HL.out]; rfl, by show (ls ++ _).map _ = _; rw [List.map_append, HM.out, HT2.out]; rfl, HQ, ((HB3.out.setCell (p := ⟨w.heap.size, _, none⟩) (Nat.le_refl _) _).setCell (p := ⟨w.heap.size, _, none⟩) (Nat.le_refl _) _).setCell (p := ⟨w.heap.size, _, none⟩) (Nat.le_refl _) _⟩
    case measure => simp [intOf]; omega
  · have : k = n := by omega
    subst this
    clear c1 c1' hmk
    go_wp2
    go_ret
    refine ⟨_, ls, rfl, by simpa using HP.out, by rw [HM.out, <- HN.out, List.take_length], hB⟩
end Go.Proofs.Ytcglbbglapomgaa
