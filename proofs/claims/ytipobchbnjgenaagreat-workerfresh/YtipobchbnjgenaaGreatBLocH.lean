import Derived.Lib.OwnBridge
import Derived.Test.YtipobchbnjgenaaGreatBWkrC
import Derived.Test.YtipobchbnjgenaaGreatBCddC
set_option linter.unusedVariables false
set_option linter.unusedSimpArgs false
set_option maxRecDepth 100000
set_option maxHeartbeats 4000000
namespace Go.Proofs.YtipobchbnjgenaaGreat
open Go.RowKit Go.Shelf Fld
attribute [local go_sem] Oper.semAt_some
attribute [local go_sem] Oper.semAt_some
attribute [local go_sem] Oper.semAt_some
def ints (l : List Nat) : List Int := l.map (fun (i : Nat) => (i : Int))
end Go.Proofs.YtipobchbnjgenaaGreat
namespace Go.Proofs.YtipobchbnjgenaaGreat
open Go.RowKit Fld
theorem few_nums : ∀ (n : Nat) {ats : List Nat}, ats.Nodup -> (∀ i ∈ ats, i < n) -> ats.length <= n
 | 0, ats, hn, h => by
  cases ats with
  | nil => exact Nat.le_refl _
  | cons a l => exact absurd (h a (by simp)) (by omega)
 | n + 1, ats, hn, h => by
  have h1 := few_nums n (hn.erase n) (fun i hi => by
   have h2 := hn.mem_erase_iff.1 hi
   have h3 := h i h2.2
   have := h2.1
   omega)
  rw [List.length_erase] at h1
  split at h1 <;> omega
end Go.Proofs.YtipobchbnjgenaaGreat
namespace Go.Proofs.YtipobchbnjgenaaGreat
open Go.RowKit Fld Slp Pln
theorem mr_words (w : World) {bs : List Int} (hb : By bs) : Wd (mrM sum8 bs).l := by
 have ho := own_newY (W := w) (base := w.heap.size) (n := (mrM sum8 bs).l.length) (T := 83) (cs := vals (mrM sum8 bs).l) (Nat.le_refl _) (vals_length _) (by
  have : (mrM sum8 bs).l.length <= 64 := by
   by_cases h : mrE sum8 bs = 0
   · exact (mgM_facts (mw_of_mr hb h).1).2.2.2.2.2.2
   · rw [mrM_no h]; decide
  omega)
 obtain ⟨_, _, _, h1, h2, _⟩ := (mrM_own hb ho).row
 exact ⟨h1, h2⟩
structure Wst (L : List (Int × List Int)) : Prop where
 rng : ∀ h ∈ L, 0 <= h.1 ∧ h.1 < 65536 ∧ Wd h.2 ∧ h.2.length <= 64
 nd : (L.map (·.1)).Nodup
theorem wst_nil : Wst [] := ⟨(fun h hh => by cases hh), by simp⟩
theorem nodup_range : ∀ (N : Nat) (l : List Int), l.Nodup -> (∀ a ∈ l, 0 <= a ∧ a < (N : Int)) -> l.length <= N := by
 intro N l hn hr
 have h1 : (l.map Int.toNat).Nodup := List.pairwise_map.2 (List.Pairwise.imp_of_mem (fun {x y} hx hy hne e => hne (by
  have := hr x hx; have := hr y hy; omega)) hn)
 have h2 := few_nums N h1 (fun i hi => by
  obtain ⟨a, ha, rfl⟩ := List.mem_map.1 hi
  have := hr a ha; omega)
 rwa [List.length_map] at h2
theorem Wst.len {L : List (Int × List Int)} (h : Wst L) : L.length <= 65536 := by
 have := nodup_range 65536 (L.map (·.1)) h.nd (fun a ha => by
  obtain ⟨x, hx, rfl⟩ := List.mem_map.1 ha
  have := h.rng x hx
  exact ⟨this.1, this.2.1⟩)
 rwa [List.length_map] at this
theorem Wst.sh {L : List (Int × List Int)} (h : Wst L) (r : Int) : Wd (shW L r) := by
 cases hf : fndW L r with
 | none => rw [shW_none hf]; exact wd_nil
 | some v => rw [shW_some hf]; exact (h.rng _ (fnd_mem hf)).2.2.1
theorem Wst.short {L : List (Int × List Int)} (h : Wst L) (r : Int) : (shW L r).length <= 64 := by
 cases hf : fndW L r with
 | none => rw [shW_none hf]; exact Nat.zero_le _
 | some v => rw [shW_some hf]; exact (h.rng _ (fnd_mem hf)).2.2.2
theorem Wst.put {L : List (Int × List Int)} (h : Wst L) {r : Int} {xs : List Int} (h0 : 0 <= r) (h1 : r < 65536) (hw : Wd xs) (hl : xs.length <= 64) (hf : fndW L r = none) : Wst (L ++ [(r, xs)]) := by
 refine ⟨fun x hx => ?_, ?_⟩
 · rcases List.mem_append.1 hx with hx | hx
   · exact h.rng x hx
   · rw [List.mem_singleton.1 hx]; exact ⟨h0, h1, hw, hl⟩
 · rw [List.map_append, List.map_cons, List.map_nil, List.nodup_append]
   refine ⟨h.nd, by simp, fun a ha c hc => ?_⟩
   rw [List.mem_singleton.1 hc]
   obtain ⟨g, hg, rfl⟩ := List.mem_map.1 ha
   exact fnd_none.1 hf g hg
section
variable {p : Pn} {q : Pr} {id : Int}
theorem sh_facts {b : List Int} (hb : By b) {f wd : Int} (hs : shB sum8 f wd id b = true) : (0 <= (mrM sum8 b).r ∧ (mrM sum8 b).r < 65536) ∧ (0 <= id ∧ id < 64) ∧ inW f (mrM sum8 b).l = true ∧ ((mrM sum8 b).l.length : Int) = wd := by
 obtain ⟨h1, h2, h3, h4, h5⟩ := shB_facts hs
 obtain ⟨a1, a2, a3, a4, a5, a6, a7⟩ := mgM_facts (mw_of_mr hb h1).1
 rw [h3] at a4 a5
 rw [h4] at a6
 exact ⟨⟨a2, a3⟩, ⟨a4, a5⟩, a6, h5⟩
theorem Wst.putW (w : World) {L : List (Int × List Int)} (h : Wst L) {f wd : Int} {b : List Int} (hb : By b) : Wst (putW sum8 f wd id L b) := by
 unfold Fld.putW
 split
 · rename_i hh
   obtain ⟨⟨h0, h1⟩, _⟩ := sh_facts hb hh.1
   exact h.put h0 h1 (mr_words w hb) (mgM_facts (mw_of_mr hb (shB_facts hh.1).1).1).2.2.2.2.2.2 hh.2
 · exact h
theorem Wst.hldW (w : World) (f wd : Int) (rs : List (List Int)) (hb : ∀ r ∈ rs, By r) : Wst (hldW sum8 f wd id rs) := by
 have key : ∀ (rs : List (List Int)) (L : List (Int × List Int)), (∀ r ∈ rs, By r) -> Wst L -> Wst (rs.foldl (Fld.putW sum8 f wd id) L) := by
  intro rs
  induction rs with
  | nil => intro L _ h; exact h
  | cons r rs ih => intro L hb h; exact ih _ (fun x hx => hb x (List.mem_cons_of_mem _ hx)) (h.putW w (hb r List.mem_cons_self))
 exact key rs [] hb wst_nil
theorem Wst.onW (w : World) {st : Wk} (h : Wst st.L) {f wd : Int} {D : Dsk} {b : List Int} (hb : By b) : Wst (onW sum8 f wd id st D b).L := by
 unfold Fld.onW
 split
 · split
   · exact h.putW w hb
   · exact h
 · exact h
theorem on_may (hk : mkB p q id = true) (w : World) {b : List Int} (hb : By b) (hs : shB sum8 p.f p.w id b = true) :
 rpE p q (mrM sum8 b).l = 0 ∧ mgM (onM sum8 p.f id (rpL p q) b) = true ∧ ∀ x ∈ rpL p q (mrM sum8 b).l, 0 <= x ∧ x <= 18446744073709551615 := by
 obtain ⟨_, h2, _, _, _⟩ := mkB_facts hk
 have hft : fitQ p q = true := by
  cases hf : fitQ p q with
  | true => rfl
  | false => rw [ftQ_no hf] at h2; cases h2
 obtain ⟨hm, hmb, _, hin, _⟩ := fit_facts hft
 obtain ⟨⟨r0, r1⟩, ⟨i0, i1⟩, hw, hl⟩ := sh_facts hb hs
 have hwd := mr_words w hb
 generalize hx : (mrM sum8 b).l = xs at *
 have hi : inF p.f xs = true := hw
 have e0 : evE p.f q xs = 0 := by
  unfold evE rwE
  rw [if_pos hmb, if_pos hi, if_pos (by rw [hl, hin])]
 have e1 : rpE p q xs = 0 := (rp_yes hft).1.trans e0
 have e2 : rpL p q xs = rnO (Rf p.f) q xs := by unfold rpL; rw [if_pos e1]
 obtain ⟨r, wd, hf, hal⟩ := inF_fi hi
 have hel := els_of hal hwd.2
 have hall : Els r (rns (Rf p.f) q xs) := el_all hf q.ops xs hel
 have hout : Els r (rpL p q xs) := fun x hx' => by
  rw [e2] at hx'
  obtain ⟨v, _, rfl⟩ := List.mem_map.1 hx'
  exact hall.co hf.pos v.toNat
 obtain ⟨⟨j0, j1, l1, l2⟩, _, _⟩ := mayB_iff.1 hmb
 refine ⟨e1, ?_, els_words hout hf.top⟩
 unfold onM
 rw [hx]
 refine decide_eq_true ⟨.inr rfl, r0, r1, i0, i1, ?_, by rw [e2, rnO_len]; omega⟩
 show inW p.f (rpL p q xs) = true
 rw [<- inW_inF, inF_yes hf]
 exact allIn_of hout
end
abbrev Hde := (Int × List Int) × Value
def hlc (e : Hde) : List Value := [.int .i64 e.1.1, e.2]
theorem hlc_len (e : Hde) : (hlc e).length = 2 := rfl
structure Hl (w : World) (base : Nat) (lv : Value) (es : List Hde) (L : List (Int × List Int)) : Prop where
 row : w.ownsRow base 109 2 lv es.length (es.flatMap hlc)
 each : ∀ e ∈ es, w.ownsRow base 83 1 e.2 e.1.2.length (vals e.1.2)
 eq : es.map (·.1) = L
theorem Hl.below {w w' : World} {base : Nat} {lv : Value} {es : List Hde} {L : List (Int × List Int)} (h : Hl w base lv es L) (hb : Below w.heap.size w w') : Hl w' base lv es L := ⟨own_below h.row hb, fun e he => own_below (h.each e he) hb, h.eq⟩
theorem Hl.kept {S : Nat -> Prop} {w w' : World} {base : Nat} {lv : Value} {es : List Hde} {L : List (Int × List Int)} (h : Hl w base lv es L) (k : Kq S w w') (hr : ∀ T s v n xs, (T = 83 ∨ T = 109) -> w.ownsRow base T s v n xs -> ∀ j, v.ownBlock = some j -> S j) : Hl w' base lv es L :=
 ⟨k.own h.row (fun j hj => hr _ _ _ _ _ (.inr rfl) h.row j hj), fun e he => k.own (h.each e he) (fun j hj => hr _ _ _ _ _ (.inl rfl) (h.each e he) j hj), h.eq⟩
theorem Hl.mono {w : World} {base base' : Nat} {lv : Value} {es : List Hde} {L : List (Int × List Int)} (h : Hl w base lv es L) (hb : base' <= base) : Hl w base' lv es L := ⟨own_mono h.row hb, fun e he => own_mono (h.each e he) hb, h.eq⟩
theorem hl_nil (w : World) (base : Nat) : Hl w base (.slice none 0 0) [] [] := ⟨World.ownsRow_nil _ _ _ _, fun e he => (by cases he), rfl⟩
theorem Hl.len {w : World} {base : Nat} {lv : Value} {es : List Hde} {L : List (Int × List Int)} (h : Hl w base lv es L) : es.length = L.length := by rw [<- h.eq, List.length_map]
def wyc (p : Pn) (q : Pr) (vo vu : Value) (id : Int) (lv : Value) (x : Bool) : Array Value := #[.int .u8 p.f, .int .i64 p.n, .int .i64 p.k, .int .i64 p.t, .int .i64 p.s, .int .i64 p.e, .int .i64 p.d, .int .i64 p.w, .int .i64 q.inp, vo, vu, .int .i64 id, lv, .bool x]
structure Wy (w : World) (base xb : Nat) (lv vo vu : Value) (p : Pn) (q : Pr) (id : Int) (es : List Hde) (st : Wk) : Prop where
 blk : w.heap[xb]? = some (.cells (wyc p q vo vu id lv st.x) 45 (0, 0))
 hl : Hl w base lv es st.L
 low : base <= xb
section
variable {w w' : World} {base xb : Nat} {lv vo vu : Value} {p : Pn} {q : Pr} {id : Int} {es : List Hde} {st : Wk}
theorem Wy.lt (h : Wy w base xb lv vo vu p q id es st) : xb < w.heap.size := (Array.getElem?_eq_some_iff.1 h.blk).1
theorem Wy.free (h : Wy w base xb lv vo vu p q id es st) (k : Nat) : w.frozen? ⟨xb, k, none⟩ = false := by
 have h' := h.blk
 simp [World.frozen?, h']
theorem Wy.below (h : Wy w base xb lv vo vu p q id es st) (hb : Below w.heap.size w w') : Wy w' base xb lv vo vu p q id es st := ⟨(hb.block _ h.lt).trans h.blk, h.hl.below hb, h.low⟩
theorem Wy.cells (h : Wy w base xb lv vo vu p q id es st) : w.cell? ⟨xb, 0, none⟩ = some (.int .u8 p.f) ∧ w.cell? ⟨xb, 11, none⟩ = some (.int .i64 id) ∧ w.cell? ⟨xb, 12, none⟩ = some lv ∧ w.cell? ⟨xb, 13, none⟩ = some (.bool st.x) := by
 have h' := h.blk
 exact ⟨cell_at h' rfl, cell_at h' rfl, cell_at h' rfl, cell_at h' rfl⟩
theorem Hl.at_ {r n cap : Nat} {L : List (Int × List Int)} (h : Hl w base (.slice (some ⟨r, 0, none⟩) n cap) es L) {k : Nat} (hk : k < es.length) : w.cell? ⟨r, k * 2, none⟩ = some (.int .i64 es[k].1.1) ∧ w.cell? ⟨r, k * 2 + 1, none⟩ = some es[k].2 := by
 have hx : es[k]? = some es[k] := List.getElem?_eq_getElem hk
 have hl := h.row.1
 have hn : n = es.length := by
  rcases h.row.2 with ⟨e, _⟩ | ⟨g, c, u, e, _⟩
  · cases e
  · injection e with _ e _
 subst hn
 have h0 := flat_get hlc 2 hlc_len es k es[k] 0 hx (by decide)
 have h1 := flat_get hlc 2 hlc_len es k es[k] 1 hx (by decide)
 rw [Nat.add_zero] at h0
 exact ⟨own_atO h.row (h0.trans rfl), own_atO h.row (h1.trans rfl)⟩
theorem fnd_at : ∀ {L : List (Int × List Int)} {k : Nat} {r : Int} (hk : k < L.length), (∀ j (hj : j < k), (L[j]'(by omega)).1 ≠ r) -> L[k].1 = r -> fndW L r = some L[k].2
 | h :: L, 0, r, hk, _, e => by
  have e : h.1 = r := e
  unfold fndW
  rw [if_pos e]; rfl
 | h :: L, k + 1, r, hk, hn, e => by
  have e0 : ¬ h.1 = r := hn 0 (by omega)
  unfold fndW
  rw [if_neg e0]
  exact fnd_at (by simpa using hk) (fun j hj => hn (j + 1) (by omega)) e
theorem dFind (h : Wy w base xb lv vo vu p q id es st) (r : Int) (hl : st.L.length <= 65536) :
 Calls Tryz.prog 48 #[.pointer (some ⟨xb, 0, none⟩), .int .i64 r] w fun e w' => ∃ v, e = .returned (.tuple #[v, .bool (fndW st.L r).isSome]) ∧ w.ownsRow base 83 1 v (shW st.L r).length (vals (shW st.L r)) ∧ w' = w := by
 obtain ⟨_, _, c12, _⟩ := h.cells
 have hlen := h.hl.len
 have HH := hide h.hl
 have HE := hide h.hl.eq
 obtain ⟨ao, cap, rfl, hcap, hsp⟩ := own_spellO h.hl.row
 have HSp := hide hsp
 obtain ⟨n, Hn⟩ : ∃ n, Hid (es.length = n) := ⟨_, rfl⟩
 have hn : n <= 65536 := by rw [<- Hn.out]; omega
 rw [Hn.out] at c12 HH HSp
 have HLen := hide hlen
 clear h hl hlen hsp hcap
 go_enter Tryz.func48, Tryz.ntmps48
 go_wp2
 go_loop [6] (fun vi => ∃ k : Nat, k <= n ∧ vi = .int .i64 k ∧ Hid (∀ j (hj : j < es.length), j < k -> es[j].1.1 ≠ r)) (fun vi => n - (intOf vi).toNat)
 case atStart => exact ⟨0, Nat.zero_le _, rfl, fun j hj h => by omega⟩
 case round =>
  obtain ⟨k, hk, rfl, HN⟩ := hrel
  by_cases hlt : k < n
  · have hlt' : k < es.length := by rw [Hn.out]; exact hlt
    obtain ⟨r0, er, _⟩ := HSp.out (by omega)
    subst er
    obtain ⟨d0, d1⟩ := HH.out.at_ hlt'
    have hrw := HH.out.each _ (List.getElem_mem hlt')
    obtain ⟨m1, Hm1⟩ : ∃ m1, Hid (es[k].1.2.length = m1) := ⟨_, hide rfl⟩
    rw [Hm1.out] at hrw
    obtain ⟨a1, k1, hv1⟩ := own_form hrw
    rw [hv1] at d1 hrw
    have ii0 : (0 : Int) <= (k : Int) := by omega
    have ii1 : (k : Int) < (n : Int) := by omega
    by_cases he : es[k].1.1 = r
    · have hf : fndW st.L r = some es[k].1.2 := by
       have hk2 : k < st.L.length := by rw [<- HLen.out]; exact hlt'
       have e : st.L[k] = es[k].1 := by simp only [<- HE.out, List.getElem_map]
       have := fnd_at hk2 (fun j hj => by
        have e2 : st.L[j]'(by omega) = (es[j]'(by omega)).1 := by simp only [<- HE.out, List.getElem_map]
        rw [e2]; exact HN.out j (by omega) hj) (by rw [e]; exact he)
       rw [e] at this; exact this
      have HF := hide hf
      have HR := hide hrw
      rw [he] at d0
      clear hf hrw he HN hv1
      go_wp2_with fail
      go_ret2
      refine ⟨_, by rw [HF.out]; rfl, ?_, rfl⟩
      have e3 := shW_some HF.out
      rw [e3, Hm1.out]
      exact HR.out
    · have HN2 : Hid (∀ j (hj : j < es.length), j < k + 1 -> es[j].1.1 ≠ r) := fun j hj hj2 => by
       rcases Nat.lt_or_eq_of_le (Nat.le_of_lt_succ hj2) with c | c
       · exact HN.out j hj c
       · subst c; exact he
      have q0 : (es[k].1.1 == r) = false := beq_eq_false_iff_ne.2 he
      clear HN he hrw d1 hv1
      generalize es[k].1.1 = r1 at *
      go_wp2_with fail
      go_round
      case rel => exact ⟨k + 1, by omega, by go_num, HN2⟩
      case measure => simp [intOf]; omega
  · obtain rfl : k = n := by omega
    have hf : fndW st.L r = none := fnd_none.2 (fun x hx => by
     rw [<- HE.out] at hx
     obtain ⟨e, he, rfl⟩ := List.mem_map.1 hx
     obtain ⟨j, hj, rfl⟩ := List.mem_iff_getElem.1 he
     exact HN.out j hj (by rw [<- Hn.out]; exact hj))
    have HF := hide hf
    clear hf HN
    go_wp2_with fail
    go_ret2
    refine ⟨_, by rw [HF.out]; rfl, ?_, rfl⟩
    rw [shW_none HF.out]
    exact World.ownsRow_nil _ _ _ _
theorem dShare24 (h : Wy w base xb lv vo vu p q id es st) (hst : Wst st.L) (r : Int) :
 Calls Tryz.prog 15 #[.pointer (some ⟨xb, 0, none⟩), .int .i64 r] w fun e w' => ∃ v', e = .returned (.tuple #[v', .bool (fndW st.L r).isSome]) ∧ w'.ownsRow w.heap.size 83 1 v' (shW st.L r).length (vals (shW st.L r)) ∧ Below w.heap.size w w' := by
 have HF := hide (dFind h r hst.len)
 have HC := hide (fun v (ho : w.ownsRow base 83 1 v (shW st.L r).length (vals (shW st.L r))) => Copy_any v (shW st.L r) w ((hst.sh r).row ho).1)
 clear h hst
 generalize (fndW st.L r).isSome = b at *
 obtain ⟨n7, hn7⟩ : ∃ n7, Hid ((shW st.L r).length = n7) := ⟨_, rfl⟩
 rw [hn7.out] at HF HC ⊢
 generalize shW st.L r = xs at *
 go_enter Tryz.func15, Tryz.ntmps15
 go_wp2_with (first
  | (go_at_call 48; refine HF.out.mono ?_; rintro e w1 ⟨v1, rfl, ho1, hw1⟩; rw [hw1]; clear hw1; have HC1 := hide (HC.out v1 ho1); obtain ⟨a1, k1, rfl⟩ := own_form ho1)
  | (go_at_call 54; refine HC1.out.mono ?_; rintro e w2 ⟨v2, rfl, ho2, hb2⟩))
 go_ret2
 exact ⟨_, rfl, ho2, hb2⟩
end
def tmB (p : Pn) (q : Pr) : Bool := decide (acE p = 0 ∧ ftQ p q = 0 ∧ 0 < q.outs.length)
theorem tm_mk {p : Pn} {q : Pr} {id : Int} : mkB p q id = (tmB p q && (decide (0 <= id) && decide (id < p.n))) := by
 unfold mkB tmB
 rw [<- Bool.decide_and, <- Bool.decide_and]
 congr 1
 apply propext
 constructor
 · rintro ⟨a, b, c, d, e⟩; exact ⟨⟨a, b, c⟩, d, e⟩
 · rintro ⟨⟨a, b, c⟩, d, e⟩; exact ⟨a, b, c, d, e⟩
theorem dTeam (p : Pn) (q : Pr) (vq : Value) (w : World) (hp : Ok8p p) (hq : Pm w vq q) : Calls Tryz.prog 29 #[plv p, vq] w fun e w' => e = .returned (.bool (tmB p q)) ∧ Below w.heap.size w w' := by
 obtain ⟨vo, vu, rfl, ho, hu⟩ := hq.form
 obtain ⟨ao, ca, rfl, _⟩ := ho.spell
 obtain ⟨au, cu, rfl, _⟩ := hu.spell
 have HA := hide (dAccept p hp)
 have HF := hide (fun W (hb : Below w.heap.size w W) => dFits16 p q _ W hp (hq.below hb))
 have hu2 := hu.len
 clear ho hu hq hp
 obtain ⟨W1, hW, hA, hS⟩ := pq_box w p q.inp (.slice ao q.ops.length ca) (.slice au q.outs.length cu) 24 28
 have HW := hide hW
 have HS := hide hS
 clear hW hS
 obtain ⟨⟨c0, c1, c2, c3, c4, c5, c6, c7⟩, d0, d1, d2⟩ := HS.out _ (Below.refl _ _)
 rw [plan_eq] at *
 obtain ⟨B, HB⟩ : ∃ B, Hid (tmB p q = B) := ⟨_, rfl⟩
 rw [HB.out]
 have hB2 := HB.out
 unfold tmB at hB2
 have HB2 := hide hB2
 clear hB2 HB
 generalize acE p = ea at *
 generalize ftQ p q = ef at *
 generalize q.outs.length = nu at *
 generalize q.ops.length = no at *
 by_cases e1 : ea = 0
 · subst e1
   by_cases e2 : ef = 0
   · subst e2
     have HB3 : Hid (B = decide ((0 : Int) < (nu : Int))) := by
      show _ = _
      rw [<- HB2.out]; simp
     clear HB2
     go_enter Tryz.func29, Tryz.ntmps29
     go_upto_region 1 with fail
     rw [HW.out]
     go_wp2_with (first
      | (go_at_call 60; refine (HA.out _).mono ?_; rintro e w1 ⟨rfl, hb1⟩; have hB1 := Below.next hA hb1; clear c0 c1 c2 c3 c4 c5 c6 c7 d0 d1 d2; obtain ⟨⟨c0, c1, c2, c3, c4, c5, c6, c7⟩, d0, d1, d2⟩ := HS.out _ hb1)
      | (go_at_call 61; refine (HF.out _ hB1).mono ?_; rintro e w2 ⟨rfl, hb2⟩; have hB2 := Below.next hB1 hb2; clear c0 c1 c2 c3 c4 c5 c6 c7 d0 d1 d2; obtain ⟨⟨c0, c1, c2, c3, c4, c5, c6, c7⟩, d0, d1, d2⟩ := HS.out _ (Below.next hb1 hb2)))
     go_ret
     refine ⟨?_, hB2⟩
     rw [HB3.out]
     refine congrArg (fun x => Ending.returned (.bool x)) ?_
     exact decide_eq_decide.2 ⟨fun h => by omega, fun h => by omega⟩
   · have hB : B = false := by rw [<- HB2.out]; exact decide_eq_false (fun h => e2 h.2.1)
     subst hB
     have q2 : (ef == 0) = false := beq_eq_false_iff_ne.2 e2
     clear HB2
     go_enter Tryz.func29, Tryz.ntmps29
     go_upto_region 1 with fail
     rw [HW.out]
     go_wp2_with (first
      | (go_at_call 60; refine (HA.out _).mono ?_; rintro e w1 ⟨rfl, hb1⟩; have hB1 := Below.next hA hb1; clear c0 c1 c2 c3 c4 c5 c6 c7 d0 d1 d2; obtain ⟨⟨c0, c1, c2, c3, c4, c5, c6, c7⟩, d0, d1, d2⟩ := HS.out _ hb1)
      | (go_at_call 61; refine (HF.out _ hB1).mono ?_; rintro e w2 ⟨rfl, hb2⟩; have hB2 := Below.next hB1 hb2))
     go_ret
     exact ⟨rfl, hB2⟩
 · have hB : B = false := by rw [<- HB2.out]; exact decide_eq_false (fun h => e1 h.1)
   subst hB
   have q2 : (ea == 0) = false := beq_eq_false_iff_ne.2 e1
   clear HB2
   go_enter Tryz.func29, Tryz.ntmps29
   go_upto_region 1 with fail
   rw [HW.out]
   go_wp2_with (go_at_call 60; refine (HA.out _).mono ?_; rintro e w1 ⟨rfl, hb1⟩; have hB1 := Below.next hA hb1; clear c0 c1 c2 c3 c4 c5 c6 c7 d0 d1 d2)
   go_ret
   exact ⟨rfl, hB1⟩
def shR (p : Pn) (id : Int) (b : List Int) : Int := if shB sum8 p.f p.w id b = true then (mrM sum8 b).r else 0
def shX (p : Pn) (id : Int) (b : List Int) : List Int := if shB sum8 p.f p.w id b = true then (mrM sum8 b).l else []
theorem held_box {W : World} {b : Nat} {x y : Value} (h : W.heap[b]? = some (.cells #[x, y] 109 (0, 0))) : (W.cell? ⟨b, 0, none⟩ = some x ∧ W.cell? ⟨b, 1, none⟩ = some y) ∧ (∀ k, W.frozen? ⟨b, k, none⟩ = false) ∧ (loadVar 109 ⟨b, 0, none⟩).run Tryz.prog W = .ok (.agg #[x, y]) W := by
 have c0 : W.cell? ⟨b, 0, none⟩ = some x := cell_at h rfl
 have c1 : W.cell? ⟨b, 1, none⟩ = some y := cell_at h rfl
 exact ⟨⟨c0, c1⟩, fun k => Lib.frozen_of_heap h k, by simp [go_sem, c0, c1]⟩
theorem held_set {W : World} {b : Nat} {x y : Value} (h : W.heap[b]? = some (.cells #[x, y] 109 (0, 0))) (x' y' : Value) : ((W.setCell ⟨b, 0, none⟩ x').setCell ⟨b, 1, none⟩ y').heap[b]? = some (.cells #[x', y'] 109 (0, 0)) ∧ Below b W ((W.setCell ⟨b, 0, none⟩ x').setCell ⟨b, 1, none⟩ y') := by
 refine ⟨?_, ((Below.refl b W).setCell (p := ⟨b, 0, none⟩) (Nat.le_refl _) _).setCell (p := ⟨b, 1, none⟩) (Nat.le_refl _) _⟩
 rw [set_blk (set_blk h 0 x') 1 y']; rfl
theorem dShareH (p : Pn) (id : Int) (u : Value) (b : List Int) (w : World) (hu : Rb w u b) :
 Calls Tryz.prog 47 #[plv p, .int .i64 id, u] w fun e w' => ∃ s, e = .returned (.tuple #[.agg #[.int .i64 (shR p id b), s], .bool (shB sum8 p.f p.w id b)]) ∧ w'.ownsRow w.heap.size 83 1 s (shX p id b).length (vals (shX p id b)) ∧ Below w.heap.size w w' := by
 have HR := hide (fun W (hb : Below w.heap.size w W) => dReadM u b W (hu.below hb))
 unfold GivesMsg at HR
 obtain ⟨pb, hA1⟩ := pb_box (w := w) p
 have hz1 : (w.alloc (.cells #[.int .u8 p.f, .int .i64 p.n, .int .i64 p.k, .int .i64 p.t, .int .i64 p.s, .int .i64 p.e, .int .i64 p.d, .int .i64 p.w] 24)).heap.size = w.heap.size + 1 := by simp
 obtain ⟨W1, HW1⟩ : ∃ W1, Hid (w.alloc (.cells #[.int .u8 p.f, .int .i64 p.n, .int .i64 p.k, .int .i64 p.t, .int .i64 p.s, .int .i64 p.e, .int .i64 p.d, .int .i64 p.w] 24) = W1) := ⟨_, rfl⟩
 rw [HW1.out] at pb hA1 hz1
 have hA2 := alloc_below W1 (.cells #[.int .i64 0, .slice none 0 0] 109)
 have hN2 := heap_alloc_new W1 (.cells #[.int .i64 0, .slice none 0 0] 109)
 have hz2 : (W1.alloc (.cells #[.int .i64 0, .slice none 0 0] 109)).heap.size = w.heap.size + 1 + 1 := by simp [hz1]
 obtain ⟨W2, HW2⟩ : ∃ W2, Hid (W1.alloc (.cells #[.int .i64 0, .slice none 0 0] 109) = W2) := ⟨_, rfl⟩
 rw [HW2.out] at hA2 hN2 hz2
 rw [hz1] at hN2
 have hB2 := Below.next hA1 hA2
 have HB2 := hide hB2
 have HPb := hide (fun W (hb : Below W2.heap.size W2 W) => ((pb.below hA2).below hb).cells)
 have HHd := hide (fun W (hb : Below W2.heap.size W2 W) => (hb.block _ (by rw [hz2]; omega)).trans hN2)
 have HZ2 := hide hz2
 obtain ⟨B, HB⟩ : ∃ B, Hid (shB sum8 p.f p.w id b = B) := ⟨_, rfl⟩
 have HB3 : Hid (decide (mrE sum8 b = 0 ∧ (mrM sum8 b).k = 1 ∧ (mrM sum8 b).v = id ∧ (mrM sum8 b).f = p.f ∧ ((mrM sum8 b).l.length : Int) = p.w) = B) := HB.out
 unfold shR shX
 rw [HB.out]
 clear HB pb hA1 hA2 hN2 hz1 hz2 hB2
 generalize mrM sum8 b = m at *
 generalize mrE sum8 b = er at *
 obtain ⟨au, cu, rfl, _⟩ := hu.spell
 generalize b.length = bl at *
 clear hu
 rw [plan_eq]
 have HX := hide (fun w3 (hb3 : Below W2.heap.size W2 w3) s (ho3 : w3.ownsRow W2.heap.size 83 1 s m.l.length (vals m.l)) => by
  have hA := alloc_below w3 (.cells #[.int .u8 m.k, .int .i64 m.r, .int .i64 m.v, .int .u8 m.f, s] 74)
  have hB := Below.next hb3 hA
  exact (⟨mb_new w3 m s, HPb.out _ hB, HHd.out _ hB, own_below ho3 hA, HB2.out.trans (hB.mono HB2.out.size)⟩ : Mb (w3.alloc (.cells #[.int .u8 m.k, .int .i64 m.r, .int .i64 m.v, .int .u8 m.f, s] 74)) w3.heap.size m s ∧ _ ∧ _ ∧ _ ∧ Below w.heap.size w _))
 have HEnd := hide (fun (W : World) (x y : Value) (h : W.heap[w.heap.size + 1]? = some (.cells #[.int .i64 0, .slice none 0 0] 109 (0, 0))) (hb : Below w.heap.size w W) => by
  obtain ⟨h1, h2⟩ := held_set h x y
  exact (⟨(held_box h1).2.2, hb.trans (h2.mono (Nat.le_succ _))⟩ : _ ∧ Below w.heap.size w _))
 by_cases e0 : er = 0
 case neg =>
  have q0 : (er != 0) = true := bne_iff_ne.2 e0
  have hB : B = false := by rw [<- HB3.out]; exact decide_eq_false (fun h => e0 h.1)
  subst hB
  clear HB3 e0
  rw [if_neg (by decide), if_neg (by decide)]
  go_enter Tryz.func47, Tryz.ntmps47
  go_upto_region 1 with fail
  rw [HW1.out, HW2.out]
  go_upto_region 2 with (go_at_call 30; refine (HR.out _ HB2.out).mono ?_; rintro e w3 ⟨s, rfl, ho3, hb3⟩; have hX := HX.out w3 hb3 s ho3; obtain ⟨sa, sc, rfl⟩ := own_form ho3; unfold mgv mgc)
  obtain ⟨hm, hp3, hh3, ho4, hb4⟩ := hX
  generalize w3.alloc (.cells #[.int .u8 m.k, .int .i64 m.r, .int .i64 m.v, .int .u8 m.f, .slice sa m.l.length sc] 74) = W4 at *
  obtain ⟨c0, c1, c2, c3, c4⟩ := hm.cells
  obtain ⟨p0, p1, p2, p3, p4, p5, p6, p7⟩ := hp3
  obtain ⟨⟨d0, d1⟩, f1, _⟩ := held_box hh3
  obtain ⟨hL, hB5⟩ := HEnd.out W4 (.int .i64 0) (.slice none 0 0) hh3 hb4
  have HL := hide hL
  clear hL
  go_wp2
  refine bodyPost_ret (res_ct rfl rfl rfl HL.out) rfl ?_
  exact ⟨_, rfl, World.ownsRow_nil _ _ _ _, hB5⟩
 subst e0
 by_cases e1 : m.k = 1
 case neg =>
  have q1 : (m.k != 1) = true := bne_iff_ne.2 e1
  have hB : B = false := by rw [<- HB3.out]; exact decide_eq_false (fun h => e1 h.2.1)
  subst hB
  clear HB3 e1
  rw [if_neg (by decide), if_neg (by decide)]
  go_enter Tryz.func47, Tryz.ntmps47
  go_upto_region 1 with fail
  rw [HW1.out, HW2.out]
  go_upto_region 2 with (go_at_call 30; refine (HR.out _ HB2.out).mono ?_; rintro e w3 ⟨s, rfl, ho3, hb3⟩; have hX := HX.out w3 hb3 s ho3; obtain ⟨sa, sc, rfl⟩ := own_form ho3; unfold mgv mgc)
  obtain ⟨hm, hp3, hh3, ho4, hb4⟩ := hX
  generalize w3.alloc (.cells #[.int .u8 m.k, .int .i64 m.r, .int .i64 m.v, .int .u8 m.f, .slice sa m.l.length sc] 74) = W4 at *
  obtain ⟨c0, c1, c2, c3, c4⟩ := hm.cells
  obtain ⟨p0, p1, p2, p3, p4, p5, p6, p7⟩ := hp3
  obtain ⟨⟨d0, d1⟩, f1, _⟩ := held_box hh3
  obtain ⟨hL, hB5⟩ := HEnd.out W4 (.int .i64 0) (.slice none 0 0) hh3 hb4
  have HL := hide hL
  clear hL
  go_wp2
  refine bodyPost_ret (res_ct rfl rfl rfl HL.out) rfl ?_
  exact ⟨_, rfl, World.ownsRow_nil _ _ _ _, hB5⟩
 have q1 : (m.k != 1) = false := by rw [e1]; exact bne_self_eq_false _
 have E1 := hide e1
 clear e1
 by_cases e2 : m.v = id
 case neg =>
  have q2 : (m.v != id) = true := bne_iff_ne.2 e2
  have hB : B = false := by rw [<- HB3.out]; exact decide_eq_false (fun h => e2 h.2.2.1)
  subst hB
  clear HB3 e2
  rw [if_neg (by decide), if_neg (by decide)]
  go_enter Tryz.func47, Tryz.ntmps47
  go_upto_region 1 with fail
  rw [HW1.out, HW2.out]
  go_upto_region 2 with (go_at_call 30; refine (HR.out _ HB2.out).mono ?_; rintro e w3 ⟨s, rfl, ho3, hb3⟩; have hX := HX.out w3 hb3 s ho3; obtain ⟨sa, sc, rfl⟩ := own_form ho3; unfold mgv mgc)
  obtain ⟨hm, hp3, hh3, ho4, hb4⟩ := hX
  generalize w3.alloc (.cells #[.int .u8 m.k, .int .i64 m.r, .int .i64 m.v, .int .u8 m.f, .slice sa m.l.length sc] 74) = W4 at *
  obtain ⟨c0, c1, c2, c3, c4⟩ := hm.cells
  obtain ⟨p0, p1, p2, p3, p4, p5, p6, p7⟩ := hp3
  obtain ⟨⟨d0, d1⟩, f1, _⟩ := held_box hh3
  obtain ⟨hL, hB5⟩ := HEnd.out W4 (.int .i64 0) (.slice none 0 0) hh3 hb4
  have HL := hide hL
  clear hL
  go_wp2
  refine bodyPost_ret (res_ct rfl rfl rfl HL.out) rfl ?_
  exact ⟨_, rfl, World.ownsRow_nil _ _ _ _, hB5⟩
 have q2 : (m.v != id) = false := by rw [e2]; exact bne_self_eq_false _
 have E2 := hide e2
 clear e2
 by_cases e3 : m.f = p.f
 case neg =>
  have q3 : (m.f != p.f) = true := bne_iff_ne.2 e3
  have hB : B = false := by rw [<- HB3.out]; exact decide_eq_false (fun h => e3 h.2.2.2.1)
  subst hB
  clear HB3 e3
  rw [if_neg (by decide), if_neg (by decide)]
  go_enter Tryz.func47, Tryz.ntmps47
  go_upto_region 1 with fail
  rw [HW1.out, HW2.out]
  go_upto_region 2 with (go_at_call 30; refine (HR.out _ HB2.out).mono ?_; rintro e w3 ⟨s, rfl, ho3, hb3⟩; have hX := HX.out w3 hb3 s ho3; obtain ⟨sa, sc, rfl⟩ := own_form ho3; unfold mgv mgc)
  obtain ⟨hm, hp3, hh3, ho4, hb4⟩ := hX
  generalize w3.alloc (.cells #[.int .u8 m.k, .int .i64 m.r, .int .i64 m.v, .int .u8 m.f, .slice sa m.l.length sc] 74) = W4 at *
  obtain ⟨c0, c1, c2, c3, c4⟩ := hm.cells
  obtain ⟨p0, p1, p2, p3, p4, p5, p6, p7⟩ := hp3
  obtain ⟨⟨d0, d1⟩, f1, _⟩ := held_box hh3
  obtain ⟨hL, hB5⟩ := HEnd.out W4 (.int .i64 0) (.slice none 0 0) hh3 hb4
  have HL := hide hL
  clear hL
  go_wp2
  refine bodyPost_ret (res_ct rfl rfl rfl HL.out) rfl ?_
  exact ⟨_, rfl, World.ownsRow_nil _ _ _ _, hB5⟩
 have q3 : (m.f != p.f) = false := by rw [e3]; exact bne_self_eq_false _
 have E3 := hide e3
 clear e3
 by_cases e4 : (m.l.length : Int) = p.w
 case neg =>
  have q4 : ((m.l.length : Int) != p.w) = true := bne_iff_ne.2 e4
  have hB : B = false := by rw [<- HB3.out]; exact decide_eq_false (fun h => e4 h.2.2.2.2)
  subst hB
  clear HB3 e4
  rw [if_neg (by decide), if_neg (by decide)]
  go_enter Tryz.func47, Tryz.ntmps47
  go_upto_region 1 with fail
  rw [HW1.out, HW2.out]
  go_upto_region 2 with (go_at_call 30; refine (HR.out _ HB2.out).mono ?_; rintro e w3 ⟨s, rfl, ho3, hb3⟩; have hX := HX.out w3 hb3 s ho3; obtain ⟨sa, sc, rfl⟩ := own_form ho3; unfold mgv mgc)
  obtain ⟨hm, hp3, hh3, ho4, hb4⟩ := hX
  generalize w3.alloc (.cells #[.int .u8 m.k, .int .i64 m.r, .int .i64 m.v, .int .u8 m.f, .slice sa m.l.length sc] 74) = W4 at *
  obtain ⟨c0, c1, c2, c3, c4⟩ := hm.cells
  obtain ⟨p0, p1, p2, p3, p4, p5, p6, p7⟩ := hp3
  obtain ⟨⟨d0, d1⟩, f1, _⟩ := held_box hh3
  obtain ⟨hL, hB5⟩ := HEnd.out W4 (.int .i64 0) (.slice none 0 0) hh3 hb4
  have HL := hide hL
  clear hL
  go_wp2
  refine bodyPost_ret (res_ct rfl rfl rfl HL.out) rfl ?_
  exact ⟨_, rfl, World.ownsRow_nil _ _ _ _, hB5⟩
 have q4 : ((m.l.length : Int) != p.w) = false := by rw [e4]; exact bne_self_eq_false _
 have E4 := hide e4
 clear e4
 have hB : B = true := by rw [<- HB3.out]; exact decide_eq_true ⟨rfl, E1.out, E2.out, E3.out, E4.out⟩
 subst hB
 clear HB3 E1 E2 E3 E4
 rw [if_pos rfl, if_pos rfl]
 go_enter Tryz.func47, Tryz.ntmps47
 go_upto_region 1 with fail
 rw [HW1.out, HW2.out]
 go_upto_region 2 with (go_at_call 30; refine (HR.out _ HB2.out).mono ?_; rintro e w3 ⟨s, rfl, ho3, hb3⟩; have hX := HX.out w3 hb3 s ho3; obtain ⟨sa, sc, rfl⟩ := own_form ho3; unfold mgv mgc)
 obtain ⟨hm, hp3, hh3, ho4, hb4⟩ := hX
 generalize w3.alloc (.cells #[.int .u8 m.k, .int .i64 m.r, .int .i64 m.v, .int .u8 m.f, .slice sa m.l.length sc] 74) = W4 at *
 obtain ⟨c0, c1, c2, c3, c4⟩ := hm.cells
 obtain ⟨p0, p1, p2, p3, p4, p5, p6, p7⟩ := hp3
 obtain ⟨⟨d0, d1⟩, f1, _⟩ := held_box hh3
 obtain ⟨hL, hB5⟩ := HEnd.out W4 (.int .i64 m.r) (.slice sa m.l.length sc) hh3 hb4
 have ho5 := rg_own (rg_own (own_mono ho4 (show w.heap.size + 1 + 1 <= W2.heap.size by rw [HZ2.out]; omega)) (Nat.lt_succ_self (w.heap.size + 1)) 0 (.int .i64 m.r)) (Nat.lt_succ_self (w.heap.size + 1)) 1 (.slice sa m.l.length sc)
 have HL := hide hL
 have HO5 := hide ho5
 clear hL ho5
 go_wp2
 refine bodyPost_ret (res_ct rfl rfl rfl HL.out) rfl ?_
 exact ⟨_, rfl, own_mono HO5.out (by omega), hB5⟩
structure Shx (w W : World) (bx : Nat) (p : Pn) (id : Int) (b : List Int) (s : Value) : Prop where
 box : W.heap[bx]? = some (.cells #[.int .i64 (shR p id b), s] 109 (0, 0))
 own : W.ownsRow w.heap.size 83 1 s (shX p id b).length (vals (shX p id b))
 low : w.heap.size <= bx
 bel : Below w.heap.size w W
theorem shx_one {w w8 : World} {p : Pn} {id : Int} {b : List Int} {s : Value} (ho : w8.ownsRow w.heap.size 83 1 s (shX p id b).length (vals (shX p id b))) (hb : Below w.heap.size w w8) : Shx w (w8.alloc (.cells #[.int .i64 (shR p id b), s] 109)) w8.heap.size p id b s := by
 have hA := alloc_below w8 (.cells #[.int .i64 (shR p id b), s] 109)
 exact ⟨heap_alloc_new w8 _, own_below ho hA, hb.size, Below.next hb hA⟩
theorem shx_two {w w8 : World} {p : Pn} {id : Int} {b : List Int} {s : Value} (ho : w8.ownsRow (w.alloc (.cells #[.int .i64 0, .slice none 0 0] 109)).heap.size 83 1 s (shX p id b).length (vals (shX p id b))) (hb : Below (w.alloc (.cells #[.int .i64 0, .slice none 0 0] 109)).heap.size (w.alloc (.cells #[.int .i64 0, .slice none 0 0] 109)) w8) :
 w8.heap[w.heap.size]? = some (.cells #[.int .i64 0, .slice none 0 0] 109 (0, 0)) ∧ Shx w ((w8.setCell ⟨w.heap.size, 0, none⟩ (.int .i64 (shR p id b))).setCell ⟨w.heap.size, 1, none⟩ s) w.heap.size p id b s := by
 have hA := alloc_below w (.cells #[.int .i64 0, .slice none 0 0] 109)
 have hn := heap_alloc_new w (.cells #[.int .i64 0, .slice none 0 0] 109)
 have hz : (w.alloc (.cells #[.int .i64 0, .slice none 0 0] 109)).heap.size = w.heap.size + 1 := by simp
 rw [hz] at ho
 have h8 := (hb.block _ (by rw [hz]; omega)).trans hn
 obtain ⟨h1, h2⟩ := held_set h8 (.int .i64 (shR p id b)) s
 have hb8 := Below.next hA hb
 exact ⟨h8, h1, own_mono (rg_own (rg_own ho (Nat.lt_succ_self _) 0 _) (Nat.lt_succ_self _) 1 _) (Nat.le_succ _), Nat.le_refl _, hb8.trans h2⟩
theorem dShare_one (p : Pn) (id : Int) (u : Value) (b : List Int) (w : World) (hu : Rb w u b) :
 Calls Tryz.prog 47 #[plv p, .int .i64 id, u] w.drew fun e w' => ∃ a k, e = .returned (.tuple #[.agg #[.int .i64 (shR p id b), .slice a (shX p id b).length k], .bool (shB sum8 p.f p.w id b)]) ∧ Shx w (w'.alloc (.cells #[.int .i64 (shR p id b), .slice a (shX p id b).length k] 109)) w'.heap.size p id b (.slice a (shX p id b).length k) ∧ Below w.heap.size w w' :=
 (dShareH p id u b w.drew (hu.below (Below.refl w.heap.size w).drew)).mono fun e w' ⟨s, e1, ho, hb⟩ => by
  obtain ⟨a, k, rfl⟩ := own_form ho
  exact ⟨a, k, e1, shx_one ho ((Below.refl w.heap.size w).drew.trans hb), (Below.refl w.heap.size w).drew.trans hb⟩
theorem dShare_two (p : Pn) (id : Int) (u : Value) (b : List Int) (w : World) (hu : Rb w u b) :
 Calls Tryz.prog 47 #[plv p, .int .i64 id, u] (w.alloc (.cells #[.int .i64 0, .slice none 0 0] 109)).drew fun e w' => ∃ a k, e = .returned (.tuple #[.agg #[.int .i64 (shR p id b), .slice a (shX p id b).length k], .bool (shB sum8 p.f p.w id b)]) ∧ (w'.cell? ⟨w.heap.size, 0, none⟩ = some (.int .i64 0) ∧ w'.cell? ⟨w.heap.size, 1, none⟩ = some (.slice none 0 0) ∧ ∀ j, w'.frozen? ⟨w.heap.size, j, none⟩ = false) ∧ Shx w ((w'.setCell ⟨w.heap.size, 0, none⟩ (.int .i64 (shR p id b))).setCell ⟨w.heap.size, 1, none⟩ (.slice a (shX p id b).length k)) w.heap.size p id b (.slice a (shX p id b).length k) ∧ Below w.heap.size w w' :=
 (dShareH p id u b _ (hu.below (alloc_below w _).drew)).mono fun e w' ⟨s, e1, ho, hb⟩ => by
  obtain ⟨a, k, rfl⟩ := own_form ho
  obtain ⟨h8, hX⟩ := shx_two ho ((Below.refl _ (w.alloc (.cells #[.int .i64 0, .slice none 0 0] 109))).drew.trans hb)
  obtain ⟨⟨z0, z1⟩, zf, _⟩ := held_box h8
  exact ⟨a, k, e1, ⟨z0, z1, zf⟩, hX, Below.next (alloc_below w _) ((Below.refl _ (w.alloc (.cells #[.int .i64 0, .slice none 0 0] 109))).drew.trans hb)⟩
theorem held_info : (Tryz.prog.info? 109).map (fun i => (i.zero, i.size, i.bytes)) = some (some (.agg #[.int .i64 0, .slice none 0 0]), 2, 32) := by kernel_rfl
theorem appH {W : World} {base : Nat} {lv : Value} {es : List Hde} (hO : W.ownsRow base 109 2 lv es.length (es.flatMap hlc)) (b : Nat) (r : Int) (s : Value) (c0 : W.cell? ⟨b, 0, none⟩ = some (.int .i64 r)) (c1 : W.cell? ⟨b, 1, none⟩ = some s) (h1 : s.oneCell' = true) (hl : es.length <= 100000) (hb : base <= W.heap.size) :
 ∃ v' W', (Builtin.append_ #[43, 43] 43 #[lv, .slice (some ⟨b, 0, none⟩) 1 1]).run Tryz.prog W = .ok v' W' ∧ W'.ownsRow base 109 2 v' (es.length + 1) (es.flatMap hlc ++ [.int .i64 r, s]) ∧ W.grownBy W' lv.ownBlock ∧ (v'.ownBlock = lv.ownBlock ∨ v'.ownBlock = some W.heap.size) := by
 obtain ⟨i0, hi0, hz0, hz1, hz2⟩ := info_parts held_info
 obtain ⟨v', W', hr, ho, hg, _, hbk⟩ := run_append_own_at (P := Tryz.prog) (w := W) base 43 43 109 i0 (.agg #[.int .i64 0, .slice none 0 0]) 2 32 Tryz.underlying43 hi0 hz0 hz1 hz2 rfl (by decide) lv es.length (es.flatMap hlc) hO ⟨b, 0, none⟩ 1 1 [.int .i64 r, s] rfl (fun j u hj => by
  rw [add_atO, Nat.zero_add]
  match j, hj with
  | 0, hj => simp at hj; rw [<- hj]; exact c0
  | 1, hj => simp at hj; rw [<- hj]; exact c1
  | j + 2, hj => simp at hj) (by intro x hx; simp at hx; rcases hx with rfl | rfl; rfl; exact h1) (by unfold maxLen; omega) (by omega) hb
 exact ⟨v', W', hr, ho, hg, hbk⟩
section
variable {w w' W W' : World} {base xb g : Nat} {lv lv' vo vu v v' : Value} {p : Pn} {q : Pr} {id : Int} {es : List Hde} {st : Wk} {D : Dsk}
def Xv (w : World) (xb : Nat) (o : Option Nat) (j : Nat) : Prop := j < w.heap.size ∧ j ≠ xb ∧ o ≠ some j
theorem Wy.app (h : Wy W base xb lv vo vu p q id es st) {r : Int} {xs : List Int} {s : Value} (ho : W'.ownsRow base 109 2 lv' (es.length + 1) (es.flatMap hlc ++ [.int .i64 r, s])) (hg : W.grownBy W' lv.ownBlock) (hat : lv'.ownBlock = lv.ownBlock ∨ lv'.ownBlock = some W.heap.size) (hs : W.ownsRow base 83 1 s xs.length (vals xs)) :
 Wy (W'.setCell ⟨xb, 12, none⟩ lv') base xb lv' vo vu p q id (es ++ [((r, xs), s)]) ⟨st.L ++ [(r, xs)], st.x⟩ ∧ Kq (Xv W xb lv.ownBlock) W (W'.setCell ⟨xb, 12, none⟩ lv') := by
 have hx := own_notO h.hl.row h.blk (by decide)
 have hk1 : Kq (fun j => j < W.heap.size ∧ lv.ownBlock ≠ some j) W W' := grown_kq hg (fun j hj => hj.1) (fun k e hk => hk.2 e)
 have hk2 : Kq (fun j => j ≠ xb) W' (W'.setCell ⟨xb, 12, none⟩ lv') := ⟨rfl, rfl, rfl, by simp, fun j hj => Below.heap_setCell _ _ _ j hj⟩
 have hb' : W'.heap[xb]? = some (.cells (wyc p q vo vu id lv st.x) 45 (0, 0)) := (hk1.block xb ⟨h.lt, hx⟩).trans h.blk
 have sz := hg.size
 refine ⟨⟨by rw [set_blk hb' 12 lv']; rfl, ⟨?_, fun e he => ?_, by rw [List.map_append, h.hl.eq]; rfl⟩, h.low⟩, (hk1.mono (fun j hj => ⟨hj.1, hj.2.2⟩)).trans (hk2.mono (fun j hj => hj.2.1))⟩
 · have e : (es ++ [((r, xs), s)]).flatMap hlc = es.flatMap hlc ++ [.int .i64 r, s] := by rw [List.flatMap_append]; rfl
   rw [e, List.length_append]
   refine hk2.own ho (fun j hj e => ?_)
   subst e
   rcases hat with h1 | h1
   · exact hx (by rw [<- h1]; exact hj)
   · rw [h1] at hj
     injection hj with hj
     have := h.lt
     omega
 · have keep : ∀ {x : Value} {n : Nat} {ys : List Value}, W.ownsRow base 83 1 x n ys -> (W'.setCell ⟨xb, 12, none⟩ lv').ownsRow base 83 1 x n ys := fun hu =>
    hk2.own (hk1.own hu (fun j hj => ⟨(hu.lt j hj).2, own_kindO hu h.hl.row (by decide) j hj⟩)) (fun j hj e => own_notO hu h.blk (by decide) (by rw [hj, e]))
   rcases List.mem_append.1 he with he | he
   · exact keep (h.hl.each e he)
   · rw [List.mem_singleton.1 he]; exact keep hs
theorem Wy.down (h : Wy W base xb lv vo vu p q id es st) : Wy (W.setCell ⟨xb, 13, none⟩ (.bool true)) base xb lv vo vu p q id es ⟨st.L, true⟩ ∧ Kq (Xv W xb lv.ownBlock) W (W.setCell ⟨xb, 13, none⟩ (.bool true)) := by
 have hk2 : Kq (fun j => j ≠ xb) W (W.setCell ⟨xb, 13, none⟩ (.bool true)) := ⟨rfl, rfl, rfl, by simp, fun j hj => Below.heap_setCell _ _ _ j hj⟩
 refine ⟨⟨by rw [set_blk h.blk 13 (.bool true)]; rfl, h.hl.kept hk2 (fun T s x n xs hT ho j hj e => own_notO ho h.blk (by rcases hT with rfl | rfl <;> decide) (by rw [hj, e])), h.low⟩, hk2.mono (fun j hj => hj.2.1)⟩
theorem Wy.mvd (h : Wy W base xb lv vo vu p q id es st) {base2 : Nat} (hd : Dy W base2 g v D) (m : Mv W W' g v v') : Wy W' base xb lv vo vu p q id es st := by
 obtain ⟨ds, hd⟩ := hd
 refine ⟨(m.kq.block xb ⟨h.lt, fun e => ?_, own_notO hd.row h.blk (by decide)⟩).trans h.blk, h.hl.kept m.kq (fun T s x n xs hT hu j hj => ⟨(hu.lt j hj).2, fun e => ?_, own_kindO hu hd.row (by rcases hT with rfl | rfl <;> decide) j hj⟩), h.low⟩
 · have h1 := hd.dsk
   rw [<- e, h.blk] at h1
   simp at h1
 · subst e
   exact own_notO hu hd.dsk (by rcases hT with rfl | rfl <;> decide) hj
theorem Dy.xv (hd : Dy W base g v D) {base2 : Nat} (h : Wy W base2 xb lv vo vu p q id es st) (k : Kq (Xv W xb lv.ownBlock) W W') : Dy W' base g v D := by
 obtain ⟨ds, hd⟩ := hd
 have key : ∀ {T : TypeId} {s n : Nat} {x : Value} {xs : List Value}, (T = 30 ∨ T = 5) -> W.ownsRow base T s x n xs -> ∀ j, x.ownBlock = some j -> Xv W xb lv.ownBlock j := fun hT ho j hj =>
  ⟨(ho.lt j hj).2, fun e => own_notO ho h.blk (by rcases hT with rfl | rfl <;> decide) (by rw [hj, e]), own_kindO ho h.hl.row (by rcases hT with rfl | rfl <;> decide) j hj⟩
 refine ⟨ds, hd.kept k ⟨hd.lt, fun e => ?_, own_notO h.hl.row hd.dsk (by decide)⟩ (key (.inl rfl) hd.row) (fun e he => key (.inr rfl) (hd.each e he))⟩
 have h1 := hd.dsk
 rw [e, h.blk] at h1
 simp at h1
end
end Go.Proofs.YtipobchbnjgenaaGreat
