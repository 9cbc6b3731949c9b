/- Texts laid together: SlxA, SlxB. -/
import Derived.Test.YtjkialmhajbcfaaDoorBSlwZ
import Derived.Test.YtjkialmhajbcfaaDoorBSlwW
import Derived.Deep.CutBlock
namespace Go.Proofs.YtjkialmhajbcfaaDoor
open Go.RowKit Fld Slp
set_option linter.unusedVariables false
set_option linter.unusedSimpArgs false

/-- What After answers. -/
def IsAfter (N : Nat) (v1 v2 : Value) (w : World) (p q : Pr) : Prop :=
  Calls Tryd.prog N #[v1, v2] w fun e w' => ∃ vo vu, e = .returned (.tuple #[.agg #[.int .i64 (aftP p q).inp, vo, vu], .int .i64 (aftE p q)]) ∧ w'.ownsRow w.heap.size 47 4 vo (aftP p q).ops.length ((aftP p q).ops.flatMap opw) ∧ w'.ownsRow w.heap.size 3 1 vu (aftP p q).outs.length ((aftP p q).outs.flatMap iw) ∧ Below w.heap.size w w'
theorem res_ct {P : Program} {fn : Func} {tmps : Array Value} {w : World} {a b : Nat} {t : TypeId} {ad : Addr} {v u : Value} (hr : fn.results = #[.cell a t, .tmp b]) (ha : tmps.getD a undef = .pointer (some ad)) (hb : tmps.getD b undef = u) (hl : (loadVar t ad).run P w = .ok v w) :
    (results fn tmps).run P w = .ok (.tuple #[v, u]) w := by
  have ha2 : tmps[a]?.getD undef = .pointer (some ad) := by rw [← ha]; simp
  have hb2 : tmps[b]?.getD undef = u := by rw [← hb]; simp
  simp [results, hr, ha2, hb2, asAddr, hl]
theorem own_nil (w : World) (b s : Nat) (T : TypeId) : w.ownsRow b T s (.slice none 0 0) 0 [] := ⟨by simp, .inl ⟨rfl, rfl⟩⟩

/-- The three blocks of the call. -/
structure Bx (w W : World) (p q : Pr) (vo vu xo xu : Value) (r0 r1 r2 : Value) : Prop where
  p : W.heap[w.heap.size]? = some (.cells #[.int .i64 p.inp, vo, vu] 25 (0, 0))
  q : W.heap[w.heap.size + 1]? = some (.cells #[.int .i64 q.inp, xo, xu] 25 (0, 0))
  r : W.heap[w.heap.size + 1 + 1]? = some (.cells #[r0, r1, r2] 25 (0, 0))
  b : Below w.heap.size w W
theorem Bx.below {w W W' : World} {p q : Pr} {vo vu xo xu r0 r1 r2 : Value} (h : Bx w W p q vo vu xo xu r0 r1 r2) (hb : Below W.heap.size W W') : Bx w W' p q vo vu xo xu r0 r1 r2 :=
  ⟨(hb.block _ (Array.getElem?_eq_some_iff.1 h.p).1).trans h.p, (hb.block _ (Array.getElem?_eq_some_iff.1 h.q).1).trans h.q, (hb.block _ (Array.getElem?_eq_some_iff.1 h.r).1).trans h.r, Below.next h.b hb⟩

theorem Bx.setr {w W : World} {p q : Pr} {vo vu xo xu r0 r1 r2 : Value} (h : Bx w W p q vo vu xo xu r0 r1 r2) (a b c : Value) : Bx w (((W.setCell ⟨w.heap.size + 1 + 1, 0, none⟩ a).setCell ⟨w.heap.size + 1 + 1, 1, none⟩ b).setCell ⟨w.heap.size + 1 + 1, 2, none⟩ c) p q vo vu xo xu a b c := by
  have hg := set3_grown W (w.heap.size + 1 + 1) a b c
  have g1 := set_blk (set_blk (set_blk h.r 0 a) 1 b) 2 c
  refine ⟨(hg.block _ (Array.getElem?_eq_some_iff.1 h.p).1 (fun e => by have := Option.some.inj e; omega)).trans h.p, (hg.block _ (Array.getElem?_eq_some_iff.1 h.q).1 (fun e => by have := Option.some.inj e; omega)).trans h.q, g1, h.b.grown hg (by have := (Array.getElem?_eq_some_iff.1 h.r).1; omega) (fun k e => by cases e; omega)⟩

set_option maxRecDepth 100000 in
set_option maxHeartbeats 1000000 in
theorem sAfter_no (w : World) (v1 v2 : Value) (p q : Pr) (h1 : Pm w v1 p) (h2 : Pm w v2 q) (hE : ¬ aftE p q = 0) : IsAfter 18 v1 v2 w p q := by
  unfold IsAfter
  have eP : aftP p q = pz := by unfold aftP; rw [if_neg hE]
  rw [eP]
  have M1 := hide (fun W (hb : Below w.heap.size w W) => sMay v1 p W (h1.below hb))
  have M2 := hide (fun W (hb : Below w.heap.size w W) => sMay v2 q W (h2.below hb))
  obtain ⟨vo, vu, rfl, ho, hu⟩ := h1.form
  obtain ⟨xo, xu, rfl, go, gu⟩ := h2.form
  obtain ⟨ao, co, rfl, _⟩ := ho.spell
  obtain ⟨au, cu, rfl, _⟩ := hu.spell
  obtain ⟨bo, do_, rfl, _⟩ := go.spell
  obtain ⟨bu, du, rfl, _⟩ := gu.spell
  obtain ⟨k1, k2, k3, hB⟩ := alloc3 w (.cells #[.int .i64 p.inp, .slice ao p.ops.length co, .slice au p.outs.length cu] 25) (.cells #[.int .i64 q.inp, .slice bo q.ops.length do_, .slice bu q.outs.length du] 25) (.cells #[.int .i64 0, .slice none 0 0, .slice none 0 0] 25)
  have B0 : Bx w (((w.alloc (.cells #[.int .i64 p.inp, .slice ao p.ops.length co, .slice au p.outs.length cu] 25)).alloc (.cells #[.int .i64 q.inp, .slice bo q.ops.length do_, .slice bu q.outs.length du] 25)).alloc (.cells #[.int .i64 0, .slice none 0 0, .slice none 0 0] 25)) p q _ _ _ _ _ _ _ := ⟨k1, k2, k3, hB⟩
  clear k1 k2 k3 hB h1 h2 ho hu go gu
  have HE := hide hE
  clear hE
  have HR : Hid (∀ W r, Bx w W p q (.slice ao p.ops.length co) (.slice au p.outs.length cu) (.slice bo q.ops.length do_) (.slice bu q.outs.length du) (.int .i64 0) (.slice none 0 0) (.slice none 0 0) → r = aftE p q → ∀ tmps : Array Value, tmps.getD 4 undef = .pointer (some ⟨w.heap.size + 1 + 1, 0, none⟩) → tmps.getD 5 undef = .int .i64 r → bodyPost Tryd.prog Tryd.f18 (fun e w' => ∃ vo vu, e = .returned (.tuple #[.agg #[.int .i64 pz.inp, vo, vu], .int .i64 (aftE p q)]) ∧ w'.ownsRow w.heap.size 47 4 vo pz.ops.length (pz.ops.flatMap opw) ∧ w'.ownsRow w.heap.size 3 1 vu pz.outs.length (pz.outs.flatMap iw) ∧ Below w.heap.size w w') .ret ⟨tmps, []⟩ W) := by
    intro W r hB hr tmps t4 t5
    subst hr
    exact bodyPost_ret (res_ct (a := 4) (b := 5) rfl t4 t5 (load_prog hB.r)) rfl ⟨_, _, rfl, own_nil _ _ _ _, own_nil _ _ _ _, hB.b⟩
  cases hm : mayB p with
  | false =>
    have e1 : aftE p q = 2 := by unfold aftE; rw [if_neg (fun h => by rw [hm] at h; cases h.1)]
    rw [hm] at M1
    clear hm
    go_enter Tryd.func18, Tryd.ntmps18
    go_wp2_with (first
      | (go_at_call 9; refine (M1.out _ B0.b).mono ?_; rintro e w1 ⟨rfl, hb1⟩; have B1 := B0.below hb1; obtain ⟨r0, r1, r2⟩ := cell3 B1.r; have rf := fun k => Lib.frozen_of_heap B1.r k))
    exact HR.out _ _ (B1.setr _ _ _) e1.symm _ rfl rfl
  | true =>
    rw [hm] at M1
    cases hm2 : mayB q with
    | false =>
      have e1 : aftE p q = 2 := by unfold aftE; rw [if_neg (fun h => by rw [hm2] at h; cases h.2.1)]
      rw [hm2] at M2
      clear hm hm2
      go_enter Tryd.func18, Tryd.ntmps18
      go_wp2_with (first
        | (go_at_call 9; refine (M1.out _ B0.b).mono ?_; clear M1; rintro e w1 ⟨rfl, hb1⟩; have B1 := B0.below hb1; obtain ⟨q0, q1, q2⟩ := cell3 B1.q)
        | (go_at_call 9; refine (M2.out _ B1.b).mono ?_; rintro e w2 ⟨rfl, hb2⟩; have B2 := B1.below hb2; obtain ⟨r0, r1, r2⟩ := cell3 B2.r; have rf := fun k => Lib.frozen_of_heap B2.r k))
      exact HR.out _ _ (B2.setr _ _ _) e1.symm _ rfl rfl
    | true =>
      rw [hm2] at M2
      by_cases hl : (q.outs.length : Int) = p.inp
      · have hs : 256 < p.ops.length + q.ops.length := by
          apply Classical.byContradiction; intro hc
          exact HE.out (by unfold aftE; rw [if_pos ⟨hm, hm2, hl⟩, if_neg hc])
        have e1 : aftE p q = 4 := by unfold aftE; rw [if_pos ⟨hm, hm2, hl⟩, if_pos hs]
        have l1 := (mayB_iff.1 hm).1.2.2.1
        have l2 := (mayB_iff.1 hm2).1.2.2.1
        have g0 : IntKind.i64.wrap ((q.ops.length : Int) + (p.ops.length : Int)) = (q.ops.length : Int) + (p.ops.length : Int) := by rw [IntKind.wrap_i64]; omega
        have g1 : (256 : Int) < (q.ops.length : Int) + (p.ops.length : Int) := by omega
        clear hm hm2
        go_enter Tryd.func18, Tryd.ntmps18
        go_wp2_with (first
          | (go_at_call 9; refine (M1.out _ B0.b).mono ?_; clear M1; rintro e w1 ⟨rfl, hb1⟩; have B1 := B0.below hb1; obtain ⟨q0, q1, q2⟩ := cell3 B1.q)
          | (go_at_call 9; refine (M2.out _ B1.b).mono ?_; rintro e w2 ⟨rfl, hb2⟩; have B2 := B1.below hb2; obtain ⟨p0, p1, p2⟩ := cell3 B2.p; obtain ⟨q3, q4, q5⟩ := cell3 B2.q; obtain ⟨r0, r1, r2⟩ := cell3 B2.r; have rf := fun k => Lib.frozen_of_heap B2.r k))
        exact HR.out _ _ (B2.setr _ _ _) e1.symm _ rfl rfl
      · have e1 : aftE p q = 2 := by unfold aftE; rw [if_neg (fun h => hl h.2.2)]
        clear hm hm2
        go_enter Tryd.func18, Tryd.ntmps18
        go_wp2_with (first
          | (go_at_call 9; refine (M1.out _ B0.b).mono ?_; clear M1; rintro e w1 ⟨rfl, hb1⟩; have B1 := B0.below hb1; obtain ⟨q0, q1, q2⟩ := cell3 B1.q)
          | (go_at_call 9; refine (M2.out _ B1.b).mono ?_; rintro e w2 ⟨rfl, hb2⟩; have B2 := B1.below hb2; obtain ⟨p0, p1, p2⟩ := cell3 B2.p; obtain ⟨q3, q4, q5⟩ := cell3 B2.q; obtain ⟨r0, r1, r2⟩ := cell3 B2.r; have rf := fun k => Lib.frozen_of_heap B2.r k))
        exact HR.out _ _ (B2.setr _ _ _) e1.symm _ rfl rfl

end Go.Proofs.YtjkialmhajbcfaaDoor

namespace Go.Proofs.YtjkialmhajbcfaaDoor
open Go.RowKit Fld Slp
set_option linter.unusedVariables false
set_option linter.unusedSimpArgs false

theorem flat_set (o : O4) : ∀ (os : List O4) (k : Nat), k < os.length → (((((os.flatMap opw).set (k * 4) (.int .u8 o.k)).set (k * 4 + 1) (.int .i64 o.a)).set (k * 4 + 2) (.int .i64 o.b)).set (k * 4 + 3) (.int .u64 o.c)) = (os.set k o).flatMap opw
  | [], k, h => by simp at h
  | x :: os, 0, h => by simp [opw]
  | x :: os, k + 1, h => by
    have ih := flat_set o os k (by simpa using h)
    have e : ∀ (l : List Value) (j : Nat) (v : Value), ([Value.int .u8 x.k, .int .i64 x.a, .int .i64 x.b, .int .u64 x.c] ++ l).set (4 + j) v = [Value.int .u8 x.k, .int .i64 x.a, .int .i64 x.b, .int .u64 x.c] ++ l.set j v := fun l j v => by
      rw [Nat.add_comm]; rfl
    show ((((([Value.int .u8 x.k, .int .i64 x.a, .int .i64 x.b, .int .u64 x.c] ++ os.flatMap opw).set ((k + 1) * 4) _).set ((k + 1) * 4 + 1) _).set ((k + 1) * 4 + 2) _).set ((k + 1) * 4 + 3) _) = [Value.int .u8 x.k, .int .i64 x.a, .int .i64 x.b, .int .u64 x.c] ++ (os.set k o).flatMap opw
    rw [show (k + 1) * 4 = 4 + k * 4 by omega, e, show 4 + k * 4 + 1 = 4 + (k * 4 + 1) by omega, e, show 4 + k * 4 + 2 = 4 + (k * 4 + 2) by omega, e, show 4 + k * 4 + 3 = 4 + (k * 4 + 3) by omega, e, ih]
def set4 (W : World) (g i : Nat) (o : O4) : World := (((W.setCell ⟨g, i, none⟩ (.int .u8 o.k)).setCell ⟨g, i + 1, none⟩ (.int .i64 o.a)).setCell ⟨g, i + 2, none⟩ (.int .i64 o.b)).setCell ⟨g, i + 3, none⟩ (.int .u64 o.c)
theorem set4_grown (W : World) (g i : Nat) (o : O4) : W.grownBy (set4 W g i o) (some g) :=
  ⟨rfl, rfl, rfl, by simp [set4, World.setCell], fun j _ hj => by
    have h : j ≠ g := fun e => hj (by rw [e])
    unfold set4
    rw [Below.heap_setCell _ _ _ j h, Below.heap_setCell _ _ _ j h, Below.heap_setCell _ _ _ j h, Below.heap_setCell _ _ _ j h]⟩
theorem own_set4 {W : World} {base g n cap : Nat} {os : List O4} {k : Nat} (h : W.ownsRow base 47 4 (.slice (some ⟨g, 0, none⟩) n cap) n (os.flatMap opw)) (hk : k < os.length) (o : O4) : (set4 W g (k * 4) o).ownsRow base 47 4 (.slice (some ⟨g, 0, none⟩) n cap) n ((os.set k o).flatMap opw) := by
  have hn : os.length = n := by
    have := h.1
    rw [flat_len opw 4 opw_len] at this; omega
  rcases h.2 with ⟨e, _⟩ | ⟨g', cap', cur, e, hb, hgb, hnc, hcm, hcs, htake⟩
  · cases e
  · cases e
    have hs := set_blk (set_blk (set_blk (set_blk hgb (k * 4) (.int .u8 o.k)) (k * 4 + 1) (.int .i64 o.a)) (k * 4 + 2) (.int .i64 o.b)) (k * 4 + 3) (.int .u64 o.c)
    refine ⟨by rw [flat_len opw 4 opw_len, List.length_set, hn], .inr ⟨g, cap, _, rfl, hb, hs, hnc, hcm, by simpa using hcs, ?_⟩⟩
    simp only [Array.toList_setIfInBounds, List.take_set, htake]
    exact flat_set o os k hk
/-- How far the call has come: the program that it makes lies at b6. -/
structure Af (w W : World) (p q : Pr) (vo vu xo xu : Value) (b6 : Nat) (yo yu : Value) (os : List O4) (us : List Int) : Prop where
  bx : Bx w W p q vo vu xo xu (.int .i64 0) (.slice none 0 0) (.slice none 0 0)
  big : w.heap.size + 2 < b6
  blk : W.heap[b6]? = some (.cells #[.int .i64 q.inp, yo, yu] 25 (0, 0))
  ro : W.ownsRow (w.heap.size + 3) 47 4 yo os.length (os.flatMap opw)
  ru : W.ownsRow (w.heap.size + 3) 3 1 yu us.length (us.flatMap iw)
theorem Af.below {w W W' : World} {p q : Pr} {vo vu xo xu : Value} {b6 : Nat} {yo yu : Value} {os : List O4} {us : List Int} (h : Af w W p q vo vu xo xu b6 yo yu os us) (hb : Below W.heap.size W W') : Af w W' p q vo vu xo xu b6 yo yu os us :=
  ⟨h.bx.below hb, h.big, (hb.block _ (Array.getElem?_eq_some_iff.1 h.blk).1).trans h.blk, own_kept h.ro (below_own hb) (fun g _ => by simp), own_kept h.ru (below_own hb) (fun g _ => by simp)⟩
theorem Bx.grown {w W W' : World} {p q : Pr} {vo vu xo xu r0 r1 r2 : Value} {g : Option Nat} (h : Bx w W p q vo vu xo xu r0 r1 r2) (hg : W.grownBy W' g) (hb : ∀ k, g = some k → w.heap.size + 2 < k) : Bx w W' p q vo vu xo xu r0 r1 r2 := by
  refine ⟨(hg.block _ (Array.getElem?_eq_some_iff.1 h.p).1 (fun e => by have := hb _ e.symm; omega)).trans h.p, (hg.block _ (Array.getElem?_eq_some_iff.1 h.q).1 (fun e => by have := hb _ e.symm; omega)).trans h.q, (hg.block _ (Array.getElem?_eq_some_iff.1 h.r).1 (fun e => by have := hb _ e.symm; omega)).trans h.r, h.b.grown hg (by have := (Array.getElem?_eq_some_iff.1 h.p).1; omega) (fun k e => by have := hb k e; omega)⟩
theorem Af.put {w W : World} {p q : Pr} {vo vu xo xu : Value} {b6 g n cap : Nat} {yu : Value} {os : List O4} {us : List Int} {k : Nat} (h : Af w W p q vo vu xo xu b6 (.slice (some ⟨g, 0, none⟩) n cap) yu os us) (hk : k < os.length) (o : O4) : Af w (set4 W g (k * 4) o) p q vo vu xo xu b6 (.slice (some ⟨g, 0, none⟩) n cap) yu (os.set k o) us := by
  have hn : os.length = n := by
    have := h.ro.1
    obtain ⟨a, c, e⟩ := own_slice h.ro
    cases e; rfl
  subst hn
  have hg := set4_grown W g (k * 4) o
  have hgb := own_base h.ro g rfl
  obtain ⟨cs, hcs⟩ := own_blk h.ro (g := g) rfl
  have h6 : b6 ≠ g := fun e => by
    have := h.blk
    rw [e, hcs] at this; cases this
  refine ⟨h.bx.grown hg (fun j e => by cases e; omega), h.big, (hg.block _ (Array.getElem?_eq_some_iff.1 h.blk).1 (fun e => h6 (Option.some.inj e))).trans h.blk, ?_, own_kept h.ru hg (fun j hj e => ?_)⟩
  · rw [List.length_set]; exact own_set4 h.ro hk o
  · obtain ⟨cs2, hcs2⟩ := own_blk h.ru hj
    have := Option.some.inj e
    subst this
    rw [hcs] at hcs2; cases hcs2
/-- A number appended to the numbers. -/
theorem Af.app {w W : World} {p q : Pr} {vo vu xo xu : Value} {b6 : Nat} {yo yu : Value} {os : List O4} {us : List Int} (h : Af w W p q vo vu xo xu b6 yo yu os us) (a : Addr) (x : Int) (hc : W.cell? a = some (.int .i64 x)) (hl : us.length < 64) :
    ∃ (au' : Option Addr) (cu' : Nat) (W' : World), (Builtin.append_ #[23, 23] 23 #[yu, .slice (some a) 1 1]).run Tryd.prog W = .ok (.slice au' (us.length + 1) cu') W' ∧ W'.cell? ⟨b6, 2, none⟩ = some yu ∧ W'.frozen? ⟨b6, 2, none⟩ = false ∧ Af w (W'.setCell ⟨b6, 2, none⟩ (.slice au' (us.length + 1) cu')) p q vo vu xo xu b6 yo (.slice au' (us.length + 1) cu') os (us ++ [x]) := by
  obtain ⟨i0, hi0, hz0, hz1, hz2⟩ := info_parts int_info
  have hsz : w.heap.size + 3 ≤ W.heap.size := by have := (Array.getElem?_eq_some_iff.1 h.blk).1; have := h.big; omega
  obtain ⟨v', W', hr, ho, hg, _, hb⟩ := run_append_own_at (P := Tryd.prog) (w := W) (w.heap.size + 3) 23 23 3 i0 (.int .i64 0) 1 8 Tryd.underlying23 hi0 hz0 hz1 hz2 rfl (by decide) yu us.length (us.flatMap iw) h.ru a 1 1 [.int .i64 x] rfl (fun j u hj => by
    cases j with
    | zero => simp at hj; rw [← hj]; exact hc
    | succ j => simp at hj) (by simp [Value.oneCell']) (by unfold maxLen; omega) (by omega) hsz
  have hblk : W'.heap[b6]? = _ := (hg.block b6 (Array.getElem?_eq_some_iff.1 h.blk).1 (fun e => own_not h.ru h.blk (by decide) e.symm)).trans h.blk
  have hro : W'.ownsRow (w.heap.size + 3) 47 4 yo os.length (os.flatMap opw) := own_kept h.ro hg (fun g hg' => by
    obtain ⟨cs, hcs⟩ := own_blk h.ro hg'
    exact own_not h.ru hcs (by decide))
  have hset : W'.grownBy (W'.setCell ⟨b6, 2, none⟩ v') (some b6) := ⟨rfl, rfl, rfl, (KeepsWalks.setCell W' _ v').size, fun j _ hj => Below.heap_setCell _ _ _ j (fun e => hj (by rw [e]))⟩
  have hfl : (us ++ [x]).flatMap iw = us.flatMap iw ++ [.int .i64 x] := by rw [List.flatMap_append]; rfl
  have hln : (us ++ [x]).length = us.length + 1 := by simp
  obtain ⟨au', cu', rfl⟩ := own_slice ho
  have hbx := h.bx.grown hg (fun k e => by have := own_base h.ru k e; omega)
  refine ⟨au', cu', W', hr, by rw [Lib.cell_of_heap hblk]; rfl, Lib.frozen_of_heap hblk 2, ⟨hbx.grown hset (fun k e => by cases e; exact h.big), h.big, set_blk hblk 2 _, own_kept hro hset (fun g hg' e => ?_), ?_⟩⟩
  · exact own_not hro hblk (by decide) (hg'.trans e.symm)
  · rw [hfl, hln]
    exact own_kept ho hset (fun g hg' e => own_not ho hblk (by decide) (hg'.trans e.symm))

end Go.Proofs.YtjkialmhajbcfaaDoor

