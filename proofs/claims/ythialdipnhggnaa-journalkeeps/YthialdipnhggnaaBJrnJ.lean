import Derived.Test.YthialdipnhggnaaBJrnI
set_option linter.unusedVariables false
set_option linter.unusedSimpArgs false
set_option maxRecDepth 100000
set_option maxHeartbeats 4000000
namespace Go.Proofs.Ythialdipnhggnaa
open Go.RowKit Fld
def jrA (zs : List Int) : List (List Int) := jrR sum8 zs.length zs
theorem jrR_succ (S : List Int -> Int) (k : Nat) (zs : List Int) : jrR S (k + 1) zs = if jrH S zs = true then usL S zs :: jrR S k (zs.drop (32 * jrN (usN zs))) else [] := rfl
theorem jrA_step (zs : List Int) : jrA zs = if jrH sum8 zs = true then usL sum8 zs :: jrA (zs.drop (32 * jrN (usN zs))) else [] := by
 unfold jrA
 cases hz : zs.length with
 | zero =>
  have e : zs = [] := List.length_eq_zero_iff.1 hz
  subst e
  rfl
 | succ n =>
  have hb := jrN_bd (usN zs)
  rw [jrR_succ]
  by_cases h : jrH sum8 zs = true
  · rw [if_pos h, if_pos h]
    congr 1
    exact jr_fuel n (zs.drop (32 * jrN (usN zs))).length (zs.drop (32 * jrN (usN zs))) (by rw [List.length_drop]; omega) (by omega)
  · rw [if_neg h, if_neg h]
theorem jrA_len (zs : List Int) : 32 * jrW (jrA zs) <= zs.length := (jr_what zs.length zs).2.1
structure Rl (w : World) (base : Nat) (v : Value) (es : List Be) : Prop where
 row : w.ownsRow base 23 1 v es.length (es.map (·.2))
 each : ∀ e ∈ es, w.ownsRow base 5 1 e.2 e.1.length (valb e.1)
 by_ : ∀ e ∈ es, By e.1 ∧ e.1.length <= 1048576
theorem rl_nil (w : World) (base : Nat) : Rl w base (.slice none 0 0) [] := ⟨World.ownsRow_nil _ _ _ _, fun e he => (by cases he), fun e he => (by cases he)⟩
theorem Rl.below {w w' : World} {base : Nat} {v : Value} {es : List Be} (h : Rl w base v es) (hb : Below w.heap.size w w') : Rl w' base v es := ⟨own_below h.row hb, fun e he => own_below (h.each e he) hb, h.by_⟩
theorem Rl.mono {w : World} {base base' : Nat} {v : Value} {es : List Be} (h : Rl w base v es) (hb : base' <= base) : Rl w base' v es := ⟨own_mono h.row hb, fun e he => own_mono (h.each e he) hb, h.by_⟩
theorem Rl.push {w : World} {base c2 : Nat} {a2 : Option Addr} {es : List Be} (h : Rl w base (.slice a2 es.length c2) es) (hb : base <= w.heap.size) {rv : Value} {r : List Int} (hr : w.ownsRow base 5 1 rv r.length (valb r)) (hy : By r ∧ r.length <= 1048576) (hl : es.length + 1 <= 5864062014700) :
 ∃ (au : Option Addr) (cu : Nat) (W : World), (Builtin.append_ #[22, 22] 22 #[.slice a2 es.length c2, .slice (some ⟨w.heap.size, 0, none⟩) 1 1]).run Try.prog (w.alloc (.cells #[rv] 23)) = .ok (.slice au (es.length + 1) cu) W ∧ Rl W base (.slice au (es.length + 1) cu) (es ++ [(r, rv)]) ∧ Kq (fun j => j < w.heap.size ∧ (Value.slice a2 es.length c2).ownBlock ≠ some j) w W ∧ Below base w W := by
 have hB := alloc_below w (.cells #[rv] 23)
 have h3 := h.below hB
 have hnew := World.news_of_block (cs := #[rv]) (t := 23) (fr := (0, 0)) (heap_alloc_new w (.cells #[rv] 23))
 obtain ⟨ra, rc, rfl, _⟩ := own_spellO hr
 obtain ⟨au, cu, W, hrun, ho, hg, hat⟩ := app_rw (m := 1) (c' := 1) (b := some ⟨w.heap.size, 0, none⟩) (ys := [.slice ra r.length rc]) h3.row rfl (.inr ⟨_, rfl, hnew⟩) (fun x hx => by rw [List.mem_singleton.1 hx]; rfl) hl (by have := hB.size; omega)
 have keep : ∀ u n xs, (w.alloc (.cells #[.slice ra r.length rc] 23)).ownsRow base 5 1 u n xs -> W.ownsRow base 5 1 u n xs := fun u n xs hO =>
  own_kept hO hg (fun j hj e2 => own_kindO hO h3.row (by decide) j hj e2)
 refine ⟨au, cu, W, hrun, ⟨?_, fun e he => ?_, fun e he => ?_⟩, ?_, ?_⟩
 · rw [List.length_append, List.map_append]; exact ho
 · rcases List.mem_append.1 he with h1 | h1
   · exact keep _ _ _ (h3.each e h1)
   · rw [List.mem_singleton.1 h1]
     exact keep _ _ _ (own_below hr hB)
 · rcases List.mem_append.1 he with h1 | h1
   · exact h.by_ e h1
   · rw [List.mem_singleton.1 h1]; exact hy
 · exact (Below.kq hB (fun j hj => hj.1)).trans (grown_kq hg (fun j hj => Nat.lt_of_lt_of_le hj.1 hB.size) (fun k e hk => hk.2 e))
 · exact (hB.mono hb).grown hg (by have := hB.size; omega) (fun k hk => by
    rcases h.row.2 with ⟨e, _⟩ | ⟨g, cap, cur, e, hbg, _⟩
    · rw [e] at hk; simp [Value.ownBlock] at hk
    · rw [e] at hk; simp [Value.ownBlock] at hk; omega)
def Uz (w : World) (jv v : Value) (bs : List Int) : Prop := ∃ p, Ub w p v bs ∧ (bs ≠ [] -> jv.ownBlock = some p)
theorem Uz.kept {S : Nat -> Prop} {w w' : World} {jv v : Value} {bs : List Int} (h : Uz w jv v bs) (k : Kq S w w') (hs : ∀ j, jv.ownBlock = some j -> S j) : Uz w' jv v bs := by
 obtain ⟨p, hu, hp⟩ := h
 by_cases hne : bs = []
 · subst hne
   obtain ⟨⟨ao, cap, rfl, h1, h2, h3⟩, h4⟩ := hu
   exact ⟨p, ⟨⟨ao, cap, rfl, h1, h2, fun h => absurd rfl h⟩, h4⟩, hp⟩
 · exact ⟨p, hu.kept k (hs p (hp hne)), hp⟩
theorem Uz.below {w w' : World} {jv v : Value} {bs : List Int} (h : Uz w jv v bs) (k : Below w.heap.size w w') (hs : ∀ j, jv.ownBlock = some j -> j < w.heap.size) : Uz w' jv v bs :=
 h.kept (Below.kq k (S := fun j => j < w.heap.size) (fun j hj => hj)) hs
theorem Uz.rest {w : World} {jv : Value} {a : Option Addr} {n c : Nat} {bs : List Int} (h : Uz w jv (.slice a n c) bs) {k : Nat} (hk : k <= bs.length) : ∃ a', Uz w jv (.slice a' (bs.length - k) (bs.length - k)) (bs.drop k) ∧ ∀ W : World, (Instr.slice 23 (.slice a n c) (some (.int .i64 (k : Int))) (some (.int .i64 (bs.length : Int))) (some (.int .i64 (bs.length : Int)))).run Try.prog W = .ok (.slice a' (bs.length - k) (bs.length - k)) W := by
 obtain ⟨p, hu, hp⟩ := h
 obtain ⟨a', h1, h2⟩ := cut3u hu hk (Nat.le_refl _)
 rw [List.take_of_length_le (by rw [List.length_drop]; exact Nat.le_refl _)] at h1
 exact ⟨a', ⟨p, h1, fun hne => hp (by intro e; rw [e] at hne; simp at hne)⟩, h2⟩
theorem uz_own {w : World} {lo n c : Nat} {a : Option Addr} {zs : List Int} (h : w.ownsRow lo 5 1 (.slice a n c) n (valb zs)) (hy : By zs) (hl : zs.length <= 187649984500000) : Uz w (.slice a n c) (.slice a n c) zs := by
 refine ⟨((Value.slice a n c).ownBlock).getD 0, ub_of_own h hy hl (fun q hq => by rw [hq]; rfl), fun hne => ?_⟩
 rcases h.2 with ⟨e, h0⟩ | ⟨g, cap, cur, e, _⟩
 · have h1 := h.1
   rw [valb_length, h0] at h1
   exact absurd (List.length_eq_zero_iff.1 (by omega)) hne
 · rw [e]; rfl
structure Rdg (w : World) (jv : Value) (zs0 : List Int) (v2 v4 : Value) (es : List Be) (zs : List Int) (W : World) : Prop where
 rl : Rl W w.heap.size v2 es
 jn : W.ownsRow w.heap.size 5 1 jv zs0.length (valb zs0)
 lf : Uz W jv v4 zs
 low : Below w.heap.size w W
 all : jrA zs0 = es.map (·.1) ++ jrA zs
 cnt : 32 * jrW (es.map (·.1)) + zs.length = zs0.length
theorem Rdg.below {w W W' : World} {jv v2 v4 : Value} {zs0 zs : List Int} {es : List Be} (h : Rdg w jv zs0 v2 v4 es zs W) (hb : Below W.heap.size W W') : Rdg w jv zs0 v2 v4 es zs W' :=
 ⟨h.rl.below hb, own_below h.jn hb, h.lf.below hb (fun j hj => (h.jn.lt j hj).2), Below.next h.low hb, h.all, h.cnt⟩
theorem Rdg.many {w W : World} {jv v2 v4 : Value} {zs0 zs : List Int} {es : List Be} (h : Rdg w jv zs0 v2 v4 es zs W) : 32 * es.length + zs.length <= zs0.length := by
 have := jrW_ge (es.map (·.1))
 have := h.cnt
 rw [List.length_map] at *
 omega
theorem Rdg.next {w w5 w6 : World} {jv v4 v4' rv : Value} {a2 au : Option Addr} {c2 cu J : Nat} {zs0 zs us : List Int} {es : List Be} {n : Nat} (hn : es.length = n) (h : Rdg w jv zs0 (.slice a2 n c2) v4 es zs w5) (hl : Rl w6 w.heap.size (.slice au (n + 1) cu) (es ++ [(us, rv)])) (hk : Kq (fun j => j < w5.heap.size ∧ (Value.slice a2 n c2).ownBlock ≠ some j) w5 w6) (hb : Below w.heap.size w5 w6) (hu : Uz w5 jv v4' (zs.drop (32 * J)))
 (hall : jrA zs0 = (es.map (·.1) ++ [us]) ++ jrA (zs.drop (32 * J))) (hw : jrW (es.map (·.1) ++ [us]) = jrW (es.map (·.1)) + J) (hJ : 32 * J <= zs.length) : Rdg w jv zs0 (.slice au (n + 1) cu) v4' (es ++ [(us, rv)]) (zs.drop (32 * J)) w6 := by
 have key : ∀ j, jv.ownBlock = some j -> j < w5.heap.size ∧ (Value.slice a2 n c2).ownBlock ≠ some j := fun j hj => ⟨(h.jn.lt j hj).2, own_kindO h.jn h.rl.row (by decide) j hj⟩
 refine ⟨hl, hk.own h.jn key, hu.kept hk key, h.low.trans hb, by rw [List.map_append]; exact hall, ?_⟩
 rw [List.map_append]
 show 32 * jrW (es.map (·.1) ++ [us]) + (zs.drop (32 * J)).length = zs0.length
 rw [hw, List.length_drop]
 have := h.cnt
 omega
def GivesRd (N : Nat) (args : Array Value) (w : World) (zs : List Int) : Prop :=
 Calls Try.prog N args w fun r w' => ∃ v' es, r = .returned (.tuple #[v', .int .i64 ((jrW (jrA zs) : Nat) : Int)]) ∧ Rl w' w.heap.size v' es ∧ es.map (·.1) = jrA zs ∧ Below w.heap.size w w'
theorem gRecords (v : Value) (bs : List (List Int)) (w : World) (h : Bz w v bs) : GivesRd 7 #[v] w (jn32 bs) := by
 unfold GivesRd
 have HJ := hide (gJoined v bs w h)
 have hy := jn32_by h.by
 have hlen : (jn32 bs).length <= 187649984468288 := by rw [jn32_len]; have := j32_le bs; have := h.len; omega
 have hm32 : (jn32 bs).length % 32 = 0 := by rw [jn32_len]; omega
 rw [<- jn32_len] at HJ
 obtain ⟨a, c, rfl, hc⟩ := h.spell
 clear h hc
 generalize jn32 bs = zs0 at *
 generalize bs.length = n at *
 have HY := hide hy
 have HL := hide hlen
 have HM := hide hm32
 have HNx := hide (fun p x zs W (hu : Ub W p x zs) (hm : zs.length % 32 = 0) => gNext p x zs W hu hm)
 unfold GivesNx at HNx
 clear hy hlen hm32
 go_enter Try.func7, Try.ntmps7
 go_wp2_with (go_at_call 28; refine HJ.out.mono ?_; rintro e w1 ⟨jv, rfl, hO, hB⟩; have HO := hide hO; have HB := hide hB; obtain ⟨ja, jc, hjv⟩ := own_form hO; subst hjv; clear hO hB)
 go_loopw [2, 3, 4] (fun v2 v3 v4 wr => ∃ (es : List Be) (zs : List Int) (a2 a4 : Option Addr) (c2 c4 : Nat), v2 = .slice a2 es.length c2 ∧ v3 = .int .i64 ((jrW (es.map (·.1)) : Nat) : Int) ∧ v4 = .slice a4 zs.length c4 ∧ Hid (Rdg w (.slice ja zs0.length jc) zs0 (.slice a2 es.length c2) (.slice a4 zs.length c4) es zs wr)) (fun _ _ v4 _ => match v4 with | .slice _ m _ => m | _ => 0)
 case atStart =>
  exact ⟨[], zs0, none, ja, 0, jc, rfl, rfl, rfl, ⟨rl_nil _ _, HO.out, uz_own HO.out HY.out (by have := HL.out; omega), HB.out, rfl, by simp [jrW]⟩⟩
 case round =>
  obtain ⟨es, zs, a2, a4, c2, c4, rfl, rfl, rfl, HR⟩ := hrel
  have hcnt := HR.out.cnt
  have hmany := HR.out.many
  have hmod : zs.length % 32 = 0 := by have := HM.out; omega
  have hL := HL.out
  obtain ⟨p, hu, hp⟩ := HR.out.lf
  have hyz := hu.1.by
  have hnx := HNx.out p _ zs wr hu hmod
  have hall := HR.out.all
  rw [jrA_step zs] at hall
  by_cases hj : jrH sum8 zs = true
  · obtain ⟨i1, i2, i3, i4, i5⟩ := jrH_iff hj
    rw [hj, if_pos rfl] at hnx
    rw [if_pos hj] at hall
    have hJb := jrN_bd (usN zs)
    have HNk := hide hnx
    have HYr : Hid (By (usL sum8 zs) ∧ (usL sum8 zs).length <= 1048576) := by
     refine ⟨?_, i3⟩
     rw [(us_yes i1).1]; exact (hyz.drop _).take _
    have hwr := HR.out.low.size
    have HPush := hide (fun W (hb : Below wr.heap.size wr W) rv (hr : W.ownsRow wr.heap.size 5 1 rv (usL sum8 zs).length (valb (usL sum8 zs))) => (HR.out.below hb).rl.push (Nat.le_trans hwr hb.size) (own_mono hr hwr) HYr.out (by omega))
    have HRs := hide (fun W (hb : Below wr.heap.size wr W) => (HR.out.below hb).lf.rest (k := 32 * jrN (usN zs)) i5)
    have HRb := hide (fun W (hb : Below wr.heap.size wr W) => HR.out.below hb)
    have HAll : Hid (jrA zs0 = (es.map (·.1) ++ [usL sum8 zs]) ++ jrA (zs.drop (32 * jrN (usN zs)))) := by show _ = _; rw [hall]; simp
    have HLn : Hid ((zs.drop (32 * jrN (usN zs))).length = zs.length - 32 * jrN (usN zs)) := List.length_drop
    have HW : Hid (jrW (es.map (·.1) ++ [usL sum8 zs]) = jrW (es.map (·.1)) + jrN (usN zs)) := by show _ = _; rw [jrW_app]; simp only [jrW, i2]; omega
    clear hnx hj hall i1 i2 i3 i4 hmod hu hp hyz HNx
    obtain ⟨J, HJj⟩ : ∃ J, Hid (jrN (usN zs) = J) := ⟨_, rfl⟩
    obtain ⟨us, HUs⟩ : ∃ us, Hid (usL sum8 zs = us) := ⟨_, rfl⟩
    rw [HJj.out] at HNk HRs HLn HAll HW hJb i5
    rw [HUs.out] at HNk HPush HAll HW
    have e32 : (J : Int) * 32 = ((32 * J : Nat) : Int) := by omega
    obtain ⟨M, HMm⟩ : ∃ M, Hid (((32 * J : Nat) : Int) = M) := ⟨_, rfl⟩
    rw [HMm.out] at e32
    have qJ : 1 <= (J : Int) ∧ (J : Int) <= 6000000000000 := by omega
    have q0 : ((J : Int) == 0) = false := beq_eq_false_iff_ne.2 (by omega)
    have qM : 0 <= M ∧ M <= (zs.length : Int) := by rw [<- HMm.out]; omega
    have qW : ((jrW (es.map (·.1)) : Nat) : Int) <= 6000000000000 := by omega
    have qW0 : 0 <= ((jrW (es.map (·.1)) : Nat) : Int) := by omega
    have HWs : Hid (((jrW (es.map (·.1)) : Nat) : Int) + (J : Int) = ((jrW (es.map (·.1) ++ [us]) : Nat) : Int)) := by show _ = _; rw [HW.out]; omega
    obtain ⟨en, HEn⟩ : ∃ en, Hid (es.length = en) := ⟨_, rfl⟩
    generalize hzn : zs.length = zn at *
    rw [HEn.out] at HPush HRb hmany ⊢
    generalize ((jrW (es.map (·.1)) : Nat) : Int) = wh at *
    have HI5 := hide i5
    have HZn := hide hzn
    have HJ1 : Hid (1 <= J) := by show 1 <= J; omega
    clear hJb hcnt hzn i5
    go_wp2_with (first
     | (go_at_call 29; refine HNk.out.mono ?_; rintro e w5 ⟨rv, rfl, ho5, ⟨ra, rn, rc, hrv⟩, hb5⟩; subst hrv; obtain ⟨au, cu, w6, hr6, hl6, hk6, hb6⟩ := HPush.out _ hb5 _ (ho5 (by first | trivial | rfl)); obtain ⟨a7, hu7, hs7⟩ := HRs.out _ hb5; have HR5 := hide (HRb.out _ hb5); have HL6 := hide hl6; have HK6 := hide hk6; have HB6 := hide hb6; have HU7 := hide hu7; rw [HMm.out] at hs7; clear ho5 hl6 hk6 hb6 hu7)
     | (at_builtin; refine app_runO rfl _ _ _ rfl _ _ _ rfl rfl hr6 ?_))
    have HR8 := Rdg.next HEn.out HR5.out HL6.out HK6.out HB6.out HU7.out HAll.out HW.out (by have := HI5.out; have := HZn.out; omega)
    have HR9 := hide HR8
    have hlen1 : (es ++ [(us, Value.slice ra rn rc)]).length = en + 1 := by rw [List.length_append, HEn.out]; rfl
    clear hr6 hs7 HR8 HNk HPush HRs HRb
    go_roundw
    case rel =>
     refine ⟨es ++ [(us, .slice ra rn rc)], zs.drop (32 * J), au, a7, cu, zn - 32 * J, by rw [hlen1], by rw [HWs.out, List.map_append]; rfl, by rw [HLn.out], ?_⟩
     rw [hlen1, HLn.out]
     exact HR9.out
    case measure => simp; have := HI5.out; have := HJ1.out; omega
  · have hj2 : jrH sum8 zs = false := by simpa using hj
    rw [hj2, if_neg (by decide)] at hnx
    rw [if_neg hj, List.append_nil] at hall
    have HNk := hide hnx
    have HAll := hide hall
    clear hnx hj hj2 hall hmod hu hp hyz HNx hcnt hmany
    go_wp2_with (go_at_call 29; refine HNk.out.mono ?_; rintro e w5 ⟨rv, rfl, _, ⟨ra, rn, rc, hrv⟩, hb5⟩; subst hrv)
    go_ret2
    have HR5 := HR.out.below hb5
    exact ⟨_, es, by rw [HAll.out]; rfl, HR5.rl, HAll.out.symm, HR5.low⟩
end Go.Proofs.Ythialdipnhggnaa
