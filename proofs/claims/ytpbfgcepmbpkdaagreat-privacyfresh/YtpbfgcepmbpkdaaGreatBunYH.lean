/- Texts laid together: MtxB, PrvL, PrvM, PrvN, LawYA. -/
import Derived.Test.YtpbfgcepmbpkdaaGreatBPntM
import Derived.Test.YtpbfgcepmbpkdaaGreatBLawPA
import Derived.Test.YtpbfgcepmbpkdaaGreatBunYI
import Derived.Test.YtpbfgcepmbpkdaaGreatBunYG
import Derived.Test.YtpbfgcepmbpkdaaGreatBunYC
import Derived.Test.YtpbfgcepmbpkdaaGreatBunYO
namespace Go.Proofs.YtpbfgcepmbpkdaaGreat
open Go.RowKit Fld
set_option linter.unusedVariables false

/-- Words of bounded length, each of them. -/
def Bwd (zss : List (List Int)) : Prop := ∀ i, Wd (zss.getD i [])
theorem Bwd.set {zss : List (List Int)} (h : Bwd zss) {k : Nat} {zs : List Int} (hz : Wd zs) : Bwd (zss.set k zs) := fun i => by
  rw [List.getD_eq_getElem?_getD, List.getElem?_set]
  split
  · split
    · exact hz
    · exact wd_nil
  · rw [← List.getD_eq_getElem?_getD]; exact h i
/-- One of the rows is written over. -/
theorem Mtx.spoilt {w w' : World} {lo : Nat} {v : Value} {us : List Value} {l : List (List Int)} {k : Nat} {zs : List Int} (h : Mtx w lo v us l) (hk : k < l.length) (hg : w.grownBy w' (us.getD k nov).ownBlock) (hO : w'.ownsRow lo 50 1 (us.getD k nov) (l.getD k []).length (vals zs)) : Mtx w' lo v us (l.set k zs) := by
  have hzl := own_len hO
  refine ⟨?_, fun i hi => ?_, fun i j g hi hj => h.dif i j g (by rw [List.length_set] at hi; exact hi) (by rw [List.length_set] at hj; exact hj)⟩
  · rw [List.length_set]
    exact own_kept h.row hg (fun g hgb hc => own_kind h.row (h.each k hk) ne_kinds g hgb hc)
  · rw [List.length_set] at hi
    rw [Rnk.getD_set _ _ _ hk]
    by_cases e : i = k
    · rw [if_pos e, e, hzl]; exact hO
    · rw [if_neg e]
      exact own_kept (h.each i hi) hg (fun g hgb hc => h.dif i k g hi hk e hgb hc)
/-- Rows elsewhere stay. -/
theorem Mtx.far {w w' : World} {lo B : Nat} {v : Value} {us : List Value} {l : List (List Int)} {r : Option Nat} (h : Mtx w lo v us l) (hg : w.grownBy w' r) (hr : ∀ g, r = some g → g < B) (hB : B ≤ lo) : Mtx w' lo v us l :=
  ⟨own_kept h.row hg (fun g hgb hc => by have := own_base h.row g hgb; have := hr g hc; omega), fun i hi => own_kept (h.each i hi) hg (fun g hgb hc => by have := own_base (h.each i hi) g hgb; have := hr g hc; omega), h.dif⟩

/-- One of the rows is laid elsewhere, or where it was, with other elements. -/
theorem Mtx.push {w w' : World} {lo G r cap k : Nat} {us : List Value} {l : List (List Int)} {v : Value} {ys : List Int} (h : Mtx w lo (.slice (some ⟨G, 0, none⟩) r cap) us l) (hr : r = l.length) (hk : k < l.length) (hg : w.grownBy w' (us.getD k nov).ownBlock) (hO : w'.ownsRow lo 50 1 v ys.length (vals ys)) (hv : v.ownBlock = (us.getD k nov).ownBlock ∨ v.ownBlock = some w.heap.size) :
    Mtx (w'.setCell ⟨G, k, none⟩ v) lo (.slice (some ⟨G, 0, none⟩) r cap) (us.set k v) (l.set k ys) := by
  subst hr
  have hl := h.len
  have hG : w'.ownsRow lo 45 1 (.slice (some ⟨G, 0, none⟩) l.length cap) l.length us := own_kept h.row hg (fun g hgb hc => own_kind h.row (h.each k hk) ne_kinds g hgb hc)
  have hE : ∀ i, i < l.length → i ≠ k → w'.ownsRow lo 50 1 (us.getD i nov) (l.getD i []).length (vals (l.getD i [])) := fun i hi hne => own_kept (h.each i hi) hg (fun g hgb hc => h.dif i k g hi hk hne hgb hc)
  have hD : ∀ i g, i < l.length → i ≠ k → (us.getD i nov).ownBlock = some g → v.ownBlock ≠ some g := fun i g hi hne hgi hc => by
    rcases hv with hv | hv
    · rw [hv] at hc; exact h.dif i k g hi hk hne hgi hc
    · rw [hv] at hc
      have := own_top (h.each i hi) g hgi
      injection hc with hc
      omega
  refine ⟨?_, fun i hi => ?_, fun i j g hi hj hne e1 e2 => ?_⟩
  · rw [List.length_set]; exact own_setv hG v hk
  · rw [List.length_set] at hi
    rw [Rnk.getD_set _ _ _ (by omega), Rnk.getD_set _ _ _ hk]
    by_cases e : i = k
    · rw [if_pos e, if_pos e]
      exact own_other hO (fun e2 => own_kind hO hG (Ne.symm ne_kinds) G e2 rfl)
    · rw [if_neg e, if_neg e]
      exact own_other (hE i hi e) (fun e2 => own_kind (hE i hi e) hG (Ne.symm ne_kinds) G e2 rfl)
  · rw [List.length_set] at hi hj
    rw [Rnk.getD_set _ _ _ (by omega)] at e1 e2
    by_cases ei : i = k
    · rw [if_pos ei] at e1
      rw [if_neg (fun ej => hne (ei.trans ej.symm))] at e2
      exact hD j g hj (fun ej => hne (ei.trans ej.symm)) e2 e1
    · rw [if_neg ei] at e1
      by_cases ej : j = k
      · rw [if_pos ej] at e2
        exact hD i g hi ei e1 e2
      · rw [if_neg ej] at e2
        exact h.dif i j g hi hj hne e1 e2

end Go.Proofs.YtpbfgcepmbpkdaaGreat

namespace Go.Proofs.YtpbfgcepmbpkdaaGreat
open Go.RowKit Fld Pln Shr Rnk
set_option linter.unusedVariables false
set_option linter.unusedSimpArgs false

/-- So many blocks less the other ones. -/
def chK (q : Int) (w : Nat) (dl ol : List (List Int)) (k : Nat) : List (List Int) := mkl dl.length (fun r => if r < k then chg q w (dl.getD r []) (ol.getD r []) else [])
theorem chK_len (q : Int) (w : Nat) (dl ol : List (List Int)) (k : Nat) : (chK q w dl ol k).length = dl.length := mkl_len _ _
theorem chK_all (q : Int) (w : Nat) (dl ol : List (List Int)) : chK q w dl ol dl.length = chL q w dl ol := mkl_congr (fun r hr => if_pos hr)
theorem chK_set (q : Int) (w : Nat) {dl ol : List (List Int)} {k : Nat} (hk : k < dl.length) (a : List Int) : ((chK q w dl ol k).set k a).set k (chg q w (dl.getD k []) (ol.getD k [])) = chK q w dl ol (k + 1) := by
  unfold chK
  rw [List.set_set, mkl_set _ hk]
  refine mkl_congr (fun r hr => ?_)
  by_cases e : r = k
  · rw [if_pos e, if_pos (by omega), e]
  · rw [if_neg e]
    by_cases e2 : r < k
    · rw [if_pos e2, if_pos (by omega)]
    · rw [if_neg e2, if_neg (by omega)]
theorem Rws.row {w W : World} {v : Value} {l : List (List Int)} (h : Rws w v l) (hB : Below w.heap.size w W) {j : Nat} (hj : j < l.length) (h0 : 0 < (l.getD j []).length) : ∃ b off cap b2 off2 c2, v = .slice (some ⟨b, off, none⟩) l.length cap ∧ b < w.heap.size ∧ W.cell? ⟨b, off + j, none⟩ = some (.slice (some ⟨b2, off2, none⟩) (l.getD j []).length c2) ∧ b2 < w.heap.size ∧ (l.getD j []).length ≤ c2 ∧ ∀ k, k < (l.getD j []).length → W.cell? ⟨b2, off2 + k, none⟩ = some (.int .u64 (co (l.getD j []) k)) := by
  obtain ⟨ao, cap, rfl, _, _, hc⟩ := h
  obtain ⟨b, off, rfl, hbl, hcell⟩ := hc (by intro h; rw [h] at hj; simp at hj)
  obtain ⟨u, hu, hR⟩ := hcell j hj
  obtain ⟨⟨au, cu, rfl, _, _, hx⟩, a9, m9, c9, e9, hcap⟩ := hR
  obtain ⟨b2, off2, rfl, hb2, hcx⟩ := hx (by intro h; rw [h] at h0; simp at h0)
  cases e9
  exact ⟨b, off, cap, b2, off2, cu, rfl, hbl, (hB.cell (p := ⟨b, off + j, none⟩) hbl).trans hu, hb2, hcap, fun k hk => (hB.cell (p := ⟨b2, off2 + k, none⟩) hb2).trans (hcx k hk)⟩

theorem own_cap {w : World} {base g n cap : Nat} {T : TypeId} {xs : List Value} (h : w.ownsRow base T 1 (.slice (some ⟨g, 0, none⟩) n cap) n xs) : n ≤ cap := by
  rcases h.2 with ⟨e, _⟩ | ⟨g', cap', cur, e, _, _, h4, _⟩
  · cases e
  · cases e; exact h4
theorem Eqs.keep {W0 wr : World} {base g N : Nat} {zs : List Int} (h : Eqs W0 wr base g N zs) {a : Addr} (hlt : a.block < W0.heap.size) (hne : a.block ≠ g) : wr.cell? a = W0.cell? a := World.cell?_of_block (h.grown.block a.block hlt (fun e => hne (by injection e)))
/-- Equations stored whole. -/
def setS (V : World) (b : Nat) (q : Int) (g N T W : Nat) : World := (((V.setCell ⟨b, 0, none⟩ (.int .u64 q)).setCell ⟨b, 1, none⟩ (.slice (some ⟨g, 0, none⟩) N N)).setCell ⟨b, 2, none⟩ (.int .i64 T)).setCell ⟨b, 3, none⟩ (.int .i64 W)
theorem setS_syb {V : World} {b : Nat} {x0 x1 x2 x3 : Value} (h : V.heap[b]? = some (.cells #[x0, x1, x2, x3] 56 (0, 0))) (q : Int) (g N T W : Nat) : Syb (setS V b q g N T W) b q g N N T W := by
  unfold setS Syb
  rw [set_blk (set_blk (set_blk (set_blk h 0 _) 1 _) 2 _) 3 _]
  rfl
theorem setS_own {V : World} {b base n : Nat} {v : Value} {us : List Value} {U : TypeId} {q : Int} {g N T W : Nat} (h : V.ownsRow base U 1 v n us) (hne : v.ownBlock ≠ some b) : (setS V b q g N T W).ownsRow base U 1 v n us := own_other (own_other (own_other (own_other h hne) hne) hne) hne
theorem setS_below {V w : World} {B b : Nat} {q : Int} {g N T W : Nat} (h : Below B w V) (hb : B ≤ b) : Below B w (setS V b q g N T W) :=
  below_set (below_set (below_set (below_set h hb) hb) hb) hb
/-- What the first loop makes: the change. -/
structure Chm (W0 wr : World) (G K : Nat) (us : List Value) (l : List (List Int)) : Prop where
  m : Mtx wr W0.heap.size (.slice (some ⟨G, 0, none⟩) K K) us l
  b : Below W0.heap.size W0 wr

theorem lay_entries {T W s : Nat} (hs : s = T + W) {zs : List Int} (hl : zs.length = T * s) {i : Nat} (hi : i < T) {fs rs : List Int} {B : Nat → Nat → Int} (h : ∀ r m, r < i → m < s → fl s zs r m = B r m) (hB : ∀ m, m < s → B i m = if m < T then co fs m else co rs (m - T)) : ∀ r m, r < i + 1 → m < s → fl s (seg (seg zs (i * s) T (co fs)) (i * s + T) W (co rs)) r m = B r m := by
  intro r m hr hm
  rw [fl_mid (by rw [seg_len]; exact hl) (by omega) _ (by omega) hm]
  have e := fl_mid (j := i) (i := 0) (n := T) hl (by omega) (co fs) (r := r) (m := m) (by omega) hm
  rw [Nat.add_zero] at e
  rw [e]
  by_cases c : r = i
  · subst c
    rw [hB m hm]
    by_cases c2 : m < T
    · rw [if_neg (by omega), if_pos ⟨rfl, by omega, by omega⟩, if_pos c2, Nat.sub_zero]
    · rw [if_pos ⟨rfl, by omega, by omega⟩, if_neg c2]
  · rw [if_neg (fun x => c x.1), if_neg (fun x => c x.1)]
    exact h r m (by omega) hm
theorem sha_one {p : Pn} {dl pl : List (List Int)} (hz : bkE p dl pl [] = 0) {x : Int} (h0 : 0 ≤ x) (h1 : x < p.n) : bkE p dl pl [x] = 0 := by
  rw [bk_none] at hz
  unfold bkE
  rw [show whoB p.n [x] = true from whoB_iff.2 (fun y hy => by rw [List.mem_singleton.1 hy]; exact ⟨h0, h1⟩), Bool.and_true]
  exact hz
theorem sha_facts {p : Pn} {q : Int} {wd : Bool} (hm : mayP p = true) (hf : Fi p.f q wd) {dl pl : List (List Int)} (hz : bkE p dl pl [] = 0) {x : Int} (h0 : 0 ≤ x) (h1 : x < p.n) : shaL p dl pl x = shr q (innL p) p.w.toNat (dl ++ pl) (p.k + p.t + x) := by
  unfold shaL
  rw [if_pos (sha_one hz h0 h1), pOf_eq hf]
  have := pts_at (p.k + p.t) (n := p.n.toNat) (i := x.toNat) (by omega)
  have e : co (outL p) x.toNat = p.k + p.t + x := by
    show (pts _ _).getD _ _ = _
    rw [this]; omega
  rw [e]
set_option maxRecDepth 100000 in
set_option maxHeartbeats 1600000 in
theorem gEquations (p : Pn) (q : Int) (wd : Bool) (vw vd vp vo : Value) (fx : List Int) (dl pl ol : List (List Int)) (K T W s N : Nat) (w : World) (hp : Ok8p p) (hm : mayP p = true) (hf : Fi p.f q wd) (hk : p.k = (K : Int)) (ht : p.t = (T : Int)) (hw : p.w = (W : Int)) (hs : s = T + W) (hN : N = T * s)
    (h1 : Rws w vd dl) (h2 : Rws w vp pl) (h4 : Rws w vo ol) (h3 : Lm iw 1 w vw fx) (hfx : ∀ x ∈ fx, 0 ≤ x ∧ x < p.n) (hfl : fx.length = T) (ed : ∀ b ∈ dl, Els q b) (eo : ∀ b ∈ ol, Els q b) (ld : dl.length = K) (lo : ol.length = K) (wd_ : ∀ b ∈ dl, b.length = W) (wo : ∀ b ∈ ol, b.length = W) (hz : bkE p (chL q W dl ol) pl [] = 0) :
    Calls Tryz.prog 21 #[plv p, vw, vd, vp, vo] w fun e w' => ∃ g zs, e = .returned (.agg #[.int .u64 q, .slice (some ⟨g, 0, none⟩) N N, .int .i64 T, .int .i64 W]) ∧ w'.ownsRow w.heap.size 50 1 (.slice (some ⟨g, 0, none⟩) N N) N (vals zs) ∧ Below w.heap.size w w' ∧ Els q zs ∧ ∀ r m, r < T → m < s → fl s zs r m = eqB q (innL p) (fx.map (fun x => p.k + p.t + x)) K T (fx.map (shaL p (chL q W dl ol) pl)) r m := by
  obtain ⟨⟨n0, n1⟩, ⟨k0, k1⟩, ⟨t0, t1⟩, _, _, _, w0, w1⟩ := may_facts hm
  have hq := hf.pos
  have hT : T ≤ 64 := by omega
  have hW : W ≤ 64 := by omega
  have hW0 : 0 < W := by omega
  have hK : K ≤ 64 := by omega
  have hNb : N ≤ 64 * 128 := by rw [hN]; exact Nat.mul_le_mul (by omega) (by omega)
  have HMo := hide (fun W' => gModulusOf p.f q wd W' hf)
  have HRw := hide (fun W' => gRows p W' hp)
  unfold GivesL at HRw
  rw [erP_yes hm, rwsL_map hm hf] at HRw
  have HSy := hide (fun W' => pSystemOf q N T W s W' hs hN hT hW)
  have hmk := makeN K (by omega)
  have HTk : Hid (∀ (W' : World) g cap b2 o2 c2 (a b : List Int), Els q a → a.length = W → Els q b → b.length = W → W ≤ cap → W ≤ c2 → b2 ≠ g → b2 < W'.heap.size → (∀ k, k < W → W'.cell? ⟨b2, o2 + k, none⟩ = some (.int .u64 (co b k))) → ∀ base, W'.ownsRow base 50 1 (.slice (some ⟨g, 0, none⟩) W cap) W (vals a) → Calls Tryz.prog 43 #[.int .u64 q, .slice (some ⟨g, 0, none⟩) W cap, .int .u64 1, .slice (some ⟨b2, o2, none⟩) W c2] W' fun e w' => e = .returned (.tuple #[]) ∧ w'.ownsRow base 50 1 (.slice (some ⟨g, 0, none⟩) W cap) W (vals (chg q W a b)) ∧ W'.grownBy w' (some g)) := fun W' g cap b2 o2 c2 a b ea la eb lb hc hc2 hne hlt hcell base hO =>
    pTakeOff q 1 wd g 0 W W cap cap base b2 o2 c2 a (co b) W' hf.md (one_el hf.md) ea hO (by omega) (by omega) hc hc2 (fun k _ => eb.co hq k) (rdb_far hne hlt hcell)
  have HEd : Hid (∀ k, k < K → Els q (dl.getD k []) ∧ (dl.getD k []).length = W) := fun k hk' => ⟨getD_memP (P := Els q) ed (by omega), getD_memP (P := fun b => b.length = W) wd_ (by omega)⟩
  have HEo : Hid (∀ k, k < K → Els q (ol.getD k []) ∧ (ol.getD k []).length = W) := fun k hk' => ⟨getD_memP (P := Els q) eo (by omega), getD_memP (P := fun b => b.length = W) wo (by omega)⟩
  have HCs := hide (fun k (hk' : k < K) a => chK_set q W (dl := dl) (ol := ol) (k := k) (by omega) a)
  have HCl := hide (chK_len q W dl ol)
  have HCa : Hid (chK q W dl ol K = chL q W dl ol) := by show _ = _; rw [← ld]; exact chK_all q W dl ol
  have HC0 : Hid (∀ (V : World) lo, lo ≤ V.heap.size → Mtx (V.alloc (.cells (nvs K).toArray 45)) lo (.slice (some ⟨V.heap.size, 0, none⟩) K K) (nvs K) (chK q W dl ol 0)) := fun V lo hlo => by
    have := mtx_new V (lo := lo) (n := K) hlo (by omega) (fun r => if r < 0 then chg q W (dl.getD r []) (ol.getD r []) else []) (fun t ht => if_neg (by omega))
    unfold chK
    rw [ld]; exact this
  have HWd : Hid (∀ i, Wd ((chL q W dl ol).getD i [])) := fun i => getD_wd (fun b hb => wd_els (chL_els hq ed b hb) hf.top (by rw [chL_wide wd_ b hb]; omega)) i
  have HChR : Hid (∀ V lo v us, Mtx V lo v us (chL q W dl ol) → Rws V v (chL q W dl ol)) := fun V lo v us h => h.rws HWd.out (by rw [chL_len]; omega)
  have HSe := hide (fun W' vc (x1 : Rws W' vc (chL q W dl ol)) x2 => gSees p vc vp (chL q W dl ol) pl W' x1 x2)
  have HEa := hide (fun W' vc b1 b2 b3 (x1 : Rws W' vc (chL q W dl ol)) x2 x3 x4 => gEachP p vw vc vp (chL q W dl ol) pl fx b1 b2 b3 W' hp x1 x2 x3 x4 (by omega))
  have HRt : Hid (∀ r, r < T → ((fx.map (shaL p (chL q W dl ol) pl)).getD r []).length = W ∧ Els q ((fx.map (shaL p (chL q W dl ol) pl)).getD r [])) := fun r hr => by
    have hx := hfx _ (getD_memA 0 (show r < fx.length by omega))
    have e : (fx.map (shaL p (chL q W dl ol) pl)).getD r [] = shaL p (chL q W dl ol) pl (fx.getD r 0) := by
      rw [List.getD_eq_getElem?_getD, List.getElem?_map, List.getD_eq_getElem?_getD, List.getElem?_eq_getElem (show r < fx.length by omega)]; rfl
    rw [e, sha_facts hm hf hz hx.1 hx.2]
    exact ⟨by rw [shr_len]; omega, shr_els hq _ _ _ _⟩
  have HXx : Hid (∀ r, r < T → ∃ J : Nat, fx.getD r 0 = (J : Int) ∧ J < ((outL p).map (fun z => bsl q (innL p) z)).length ∧ ((outL p).map (fun z => bsl q (innL p) z)).getD J [] = bsl q (innL p) (co (fx.map (fun x => p.k + p.t + x)) r)) := fun r hr => by
    have hx := hfx _ (getD_memA 0 (show r < fx.length by omega))
    refine ⟨(fx.getD r 0).toNat, by omega, by rw [List.length_map]; unfold outL; rw [pts_len]; omega, ?_⟩
    rw [map_row (by unfold outL; rw [pts_len]; omega)]
    have := pts_at (p.k + p.t) (n := p.n.toNat) (i := (fx.getD r 0).toNat) (by omega)
    have e : co (outL p) (fx.getD r 0).toNat = p.k + p.t + fx.getD r 0 := by
      show (pts _ _).getD _ _ = _
      rw [this]; omega
    rw [e]
    congr 1
    unfold co
    rw [List.getD_eq_getElem?_getD, List.getD_eq_getElem?_getD, List.getElem?_map, List.getElem?_eq_getElem (show r < fx.length by omega)]; rfl
  have HBl : Hid (∀ z, (bsl q (innL p) z).length = K + T) := fun z => by rw [bsl_len]; unfold innL; rw [pts_len]; omega
  have HBc : Hid (∀ z m, m < T → co ((bsl q (innL p) z).drop K) m = bs q (innL p) z (K + m)) := fun z m hm' => by
    rw [co_dropR, bsl_at (by unfold innL; rw [pts_len]; omega)]
  have HLa : Hid (∀ (W' : World) i g base b1 o1 c1 b2 o2 c2 (zs fs rs : List Int), i < T → W'.ownsRow base 50 1 (.slice (some ⟨g, 0, none⟩) N N) N (vals zs) → fs.length = T → rs.length = W → b1 < W'.heap.size → b1 ≠ g → (∀ k, k < T → W'.cell? ⟨b1, o1 + k, none⟩ = some (.int .u64 (co fs k))) → b2 < W'.heap.size → b2 ≠ g → (∀ k, k < W → W'.cell? ⟨b2, o2 + k, none⟩ = some (.int .u64 (co rs k))) → Calls Tryz.prog 46 #[.agg #[.int .u64 q, .slice (some ⟨g, 0, none⟩) N N, .int .i64 T, .int .i64 W], .int .i64 i, .slice (some ⟨b1, o1, none⟩) T c1, .slice (some ⟨b2, o2, none⟩) W c2] W' fun e w' => e = .returned (.tuple #[]) ∧ w'.ownsRow base 50 1 (.slice (some ⟨g, 0, none⟩) N N) N (vals (seg (seg zs (i * s) T (co fs)) (i * s + T) W (co rs))) ∧ W'.grownBy w' (some g)) := fun W' i g base b1 o1 c1 b2 o2 c2 zs fs rs x1 x2 x3 x4 x5 x6 x7 x8 x9 x10 =>
    pLay q g N T W s i base b1 o1 c1 b2 o2 c2 zs fs rs W' hs hN hT hW hW0 x1 x2 x3 x4 x5 x6 x7 x8 x9 x10
  have HStep : Hid (∀ i (zs fs rs : List Int), i < T → zs.length = N → (∀ r m, r < i → m < s → fl s zs r m = eqB q (innL p) (fx.map (fun x => p.k + p.t + x)) K T (fx.map (shaL p (chL q W dl ol) pl)) r m) → (∀ m, m < T → co fs m = bs q (innL p) (co (fx.map (fun x => p.k + p.t + x)) i) (K + m)) → rs = (fx.map (shaL p (chL q W dl ol) pl)).getD i [] → ∀ r m, r < i + 1 → m < s → fl s (seg (seg zs (i * s) T (co fs)) (i * s + T) W (co rs)) r m = eqB q (innL p) (fx.map (fun x => p.k + p.t + x)) K T (fx.map (shaL p (chL q W dl ol) pl)) r m) := fun i zs fs rs x1 x2 x3 x4 x5 =>
    lay_entries hs (by rw [x2, hN]) x1 x3 (fun m hm' => by
      unfold eqB
      by_cases c : m < T
      · rw [if_pos c, if_pos c, x4 m c]
      · rw [if_neg c, if_neg c, x5])
  have HEls : Hid (∀ i (zs fs rs : List Int), Els q zs → Els q fs → Els q rs → Els q (seg (seg zs (i * s) T (co fs)) (i * s + T) W (co rs))) := fun i zs fs rs x1 x2 x3 => seg_els hq (seg_els hq x1 (fun k _ => x2.co hq k)) (fun k _ => x3.co hq k)
  have HDe : Hid (∀ z, Els q ((bsl q (innL p) z).drop K)) := fun z x hx => bsl_els hq _ _ x (List.mem_of_mem_drop hx)
  have HZ0 : Hid (Els q (List.replicate N (0 : Int))) := fun x hx => by rw [List.eq_of_mem_replicate hx]; exact ⟨by omega, hq⟩
  have H1 := hide h1
  have H2 := hide h2
  have H3 := hide h3
  have H4 := hide h4
  obtain ⟨pb, hA⟩ := pb_box (w := w) p
  have HPb := hide pb
  obtain ⟨a1, c1, rfl, _, hcap1, _⟩ := h1
  obtain ⟨a2, c2, rfl, _, _, _⟩ := h2
  obtain ⟨a4, c4, rfl, _, hcap4, _⟩ := h4
  obtain ⟨a3, c3, rfl, _⟩ := h3.spell
  have HB2 := hide (alloc_below (w.alloc (.cells #[.int .u8 p.f, .int .i64 p.n, .int .i64 p.k, .int .i64 p.t, .int .i64 p.s, .int .i64 p.e, .int .i64 p.d, .int .i64 p.w] 24)) (.cells #[.int .u64 0, .slice none 0 0, .int .i64 0, .int .i64 0] 56))
  have HR2 : Hid (((w.alloc (.cells #[.int .u8 p.f, .int .i64 p.n, .int .i64 p.k, .int .i64 p.t, .int .i64 p.s, .int .i64 p.e, .int .i64 p.d, .int .i64 p.w] 24)).alloc (.cells #[.int .u64 0, .slice none 0 0, .int .i64 0, .int .i64 0] 56)).heap[w.heap.size + 1]? = some (.cells #[.int .u64 0, .slice none 0 0, .int .i64 0, .int .i64 0] 56 (0, 0))) := by
    have e : (w.alloc (.cells #[.int .u8 p.f, .int .i64 p.n, .int .i64 p.k, .int .i64 p.t, .int .i64 p.s, .int .i64 p.e, .int .i64 p.d, .int .i64 p.w] 24)).heap.size = w.heap.size + 1 := by simp
    have := heap_alloc_last (w.alloc (.cells #[.int .u8 p.f, .int .i64 p.n, .int .i64 p.k, .int .i64 p.t, .int .i64 p.s, .int .i64 p.e, .int .i64 p.d, .int .i64 p.w] 24)) (.cells #[.int .u64 0, .slice none 0 0, .int .i64 0, .int .i64 0] 56)
    rw [e] at this
    exact this
  have HhN := hide hN
  have Hhs := hide hs
  clear pb h3 hp hm hf hfx ed eo wd_ wo hz HWd hN hs
  have HRl : Hid ((fx.map (shaL p (chL q W dl ol) pl)).length = T) := by show _ = _; rw [List.length_map]; exact hfl
  generalize fx.map (shaL p (chL q W dl ol) pl) = rt at *
  generalize fx.map (fun x => p.k + p.t + x) = pts' at *
  generalize (outL p).map (fun z => bsl q (innL p) z) = rows at *
  generalize innL p = xs at *
  obtain ⟨pf, pn, pk, pt, ps, pe, pw, pd⟩ := p
  dsimp only at *
  subst hk ht hw
  rw [plan_eq] at *
  dsimp only at *
  rw [ld, lo, hfl]
  rw [ld] at H1
  rw [lo] at H4
  rw [hfl] at H3 HEa
  have Hfl := hide hfl
  have Hld := hide ld
  have Hlo := hide lo
  clear hfl ld lo
  generalize pl.length = npl at *
  go_enter Tryz.func21, Tryz.ntmps21
  go_upto_region 1 with fail
  have hA0 := Below.next hA HB2.out
  have HP0 := hide (HPb.out.below HB2.out)
  clear hA HB2 HPb
  generalize hW0' : World.alloc (World.alloc w _) _ = W0 at *
  clear hW0'
  obtain ⟨d0, d1, d2, d3, d4, d5, d6, d7⟩ := HP0.out.cells
  dsimp only at d0 d1 d2 d3 d4 d5 d6 d7
  go_upto_region 2 with (go_at_call 41; refine (HMo.out _).mono ?_; rintro e w1 ⟨rfl, hb1⟩)
  have hal := alloc_below w1 (.cells (nvs K).toArray 45)
  have HM0 : Hid (Chm W0 (w1.alloc (.cells (nvs K).toArray 45)) w1.heap.size K (nvs K) (chK q W dl ol 0)) := ⟨HC0.out w1 W0.heap.size hb1.size, Below.next hb1 hal⟩
  have hGs : W0.heap.size ≤ w1.heap.size := hb1.size
  clear d0 d1 d2 d3 d4 d5 d6 d7 HMo HC0
  go_wp2_with fail
  clear hmk hal
  generalize w1.alloc (.cells (nvs K).toArray 45) = V1 at *
  generalize w1.heap.size = G at *
  clear hb1
  go_loopw [27] (fun vk wr => ∃ (k : Nat) (us : List Value), k ≤ K ∧ vk = .int .i64 k ∧ Hid (Chm W0 wr G K us (chK q W dl ol k))) (fun vk _ => K - (intOf vk).toNat)
  case atStart => exact ⟨0, _, Nat.zero_le _, rfl, HM0⟩
  case round =>
    clear HM0
    obtain ⟨k, us, hkK, rfl, HM⟩ := hrel
    by_cases hlt : k < K
    · have hBw := hA0.trans (HM.out.b.mono hA0.size)
      obtain ⟨e1, e2⟩ := HEd.out k hlt
      obtain ⟨e3, e4⟩ := HEo.out k hlt
      obtain ⟨b, off, cp, b2, off2, x2, heq, _, x3, x4, x5, x6⟩ := H1.out.row hBw (j := k) (by rw [Hld.out]; exact hlt) (by omega)
      rw [Hld.out] at heq
      cases heq
      obtain ⟨b', off', cp', b3, off3, y2, heq, _, y3, y4, y5, y6⟩ := H4.out.row hBw (j := k) (by rw [Hlo.out]; exact hlt) (by omega)
      rw [Hlo.out] at heq
      cases heq
      rw [e2] at x3 x5 x6
      rw [e4] at y3 y5 y6
      have HCw : Hid (Calls Tryz.prog 42 #[.slice (some ⟨b2, off2, none⟩) W x2] wr fun e w' => ∃ v', e = .returned v' ∧ w'.ownsRow wr.heap.size 50 1 v' W (vals (dl.getD k [])) ∧ Below wr.heap.size wr w') := pCloneW b2 off2 W x2 (dl.getD k []) wr e2 (by omega) (by omega) x5 (Nat.lt_of_lt_of_le x4 hBw.size) x6
      have k0 : (0 : Int) ≤ (k : Int) := by omega
      have k1 : (k : Int) < (K : Int) := by omega
      have hml := HCl.out k
      rw [Hld.out] at hml
      have hbG : b' ≠ G := by have := hA0.size; omega
      have hbm : b' < wr.heap.size := cell_in y3
      have HLay : Hid (∀ V g2 cap2, Below wr.heap.size wr V → V.ownsRow wr.heap.size 50 1 (.slice (some ⟨g2, 0, none⟩) W cap2) W (vals (dl.getD k [])) → V.cell? ⟨G, k, none⟩ = some (us.getD k nov) ∧ V.frozen? ⟨G, k, none⟩ = false ∧ Chm W0 (V.setCell ⟨G, k, none⟩ (.slice (some ⟨g2, 0, none⟩) W cap2)) G K (us.set k (.slice (some ⟨g2, 0, none⟩) W cap2)) ((chK q W dl ol k).set k (dl.getD k [])) ∧ (V.setCell ⟨G, k, none⟩ (.slice (some ⟨g2, 0, none⟩) W cap2)).cell? ⟨G, k, none⟩ = some (.slice (some ⟨g2, 0, none⟩) W cap2) ∧ (V.setCell ⟨G, k, none⟩ (.slice (some ⟨g2, 0, none⟩) W cap2)).cell? ⟨b', off' + k, none⟩ = some (.slice (some ⟨b3, off3, none⟩) W y2) ∧ W0.heap.size ≤ g2) := fun V g2 cap2 hb hO => by
        have hMV := HM.out.m.below hb
        have hg2 := own_base hO g2 rfl
        have hL := hMV.lay hml.symm (k := k) (by rw [hml]; exact hlt) (u := .slice (some ⟨g2, 0, none⟩) W cap2) (ys := dl.getD k []) (by rw [e2]; exact own_mono hO HM.out.b.size) (fun i g hi hne hg e => by
          have h1 := HM.out.m.tops hi hg
          have h2 := own_base hO g e
          omega)
        have hls : ((chK q W dl ol k).set k (dl.getD k [])).length = K := by rw [List.length_set]; exact hml
        refine ⟨hMV.cell (i := k) (by rw [hml]; exact hlt), free_own (by have := hMV.row; rw [hml] at this; exact this) k, ⟨hL, (HM.out.b.trans (hb.mono HM.out.b.size)).setCell (p := ⟨G, k, none⟩) hGs _⟩, ?_, ?_, Nat.le_trans HM.out.b.size hg2⟩
        · rw [hL.cell (i := k) (by rw [hls]; exact hlt), Rnk.getD_set _ _ _ (by have := HM.out.m.len; omega), if_pos rfl]
        · rw [cell_far hbG]
          exact (hb.cell (p := ⟨b', off' + k, none⟩) hbm).trans y3
      have HT1 := hide (fun (V : World) g2 cap2 (hc : W ≤ cap2) hne hlt' hcell base hO => HTk.out V g2 cap2 b3 off3 y2 (dl.getD k []) (ol.getD k []) e1 e2 e3 e4 hc y5 hne hlt' hcell base hO)
      have HNx : Hid (∀ (V V' : World) g2 cap2 us', Chm W0 V G K us' ((chK q W dl ol k).set k (dl.getD k [])) → us'.getD k nov = .slice (some ⟨g2, 0, none⟩) W cap2 → V'.ownsRow W0.heap.size 50 1 (.slice (some ⟨g2, 0, none⟩) W cap2) W (vals (chg q W (dl.getD k []) (ol.getD k []))) → V.grownBy V' (some g2) → W0.heap.size ≤ g2 → Chm W0 V' G K us' (chK q W dl ol (k + 1))) := fun V V' g2 cap2 us' hC hu hO hg hg2 => by
        have hls : ((chK q W dl ol k).set k (dl.getD k [])).length = K := by rw [List.length_set]; exact hml
        have hgd : ((chK q W dl ol k).set k (dl.getD k [])).getD k [] = dl.getD k [] := by rw [Rnk.getD_set _ _ _ (by rw [hml]; exact hlt), if_pos rfl]
        have := hC.m.spoilt (w' := V') (k := k) (zs := chg q W (dl.getD k []) (ol.getD k [])) (by rw [hls]; exact hlt) (by rw [hu]; exact hg) (by rw [hu, hgd, e2]; exact hO)
        rw [HCs.out k hlt] at this
        exact ⟨this, hC.b.grown hg (by have := hC.b.size; omega) (fun x hx => by injection hx with hx; omega)⟩
      have hus : k < us.length := by have := HM.out.m.len; rw [hml] at this; omega
      have HBx : Hid (∀ V, Below wr.heap.size wr V → ∀ g2 cap2, ∀ j, j < W → (V.setCell ⟨G, k, none⟩ (.slice (some ⟨g2, 0, none⟩) W cap2)).cell? ⟨b3, off3 + j, none⟩ = some (.int .u64 (co (ol.getD k []) j))) := fun V hb g2 cap2 j hj => by
        rw [cell_far (by have := hA0.size; omega)]
        exact (hb.cell (p := ⟨b3, off3 + j, none⟩) (Nat.lt_of_lt_of_le y4 hBw.size)).trans (y6 j hj)
      have hb3w : b3 < wr.heap.size := Nat.lt_of_lt_of_le y4 hBw.size
      have hGl : G < wr.heap.size := own_top HM.out.m.row G rfl
      have hWr : W0.heap.size ≤ wr.heap.size := HM.out.b.size
      clear HM HTk HCs hml x6 y6 e1 e2 e3 e4
      generalize us.getD k nov = u0 at *
      generalize chg q W (dl.getD k []) (ol.getD k []) = zc at *
      generalize (chK q W dl ol k).set k (dl.getD k []) = lk at *
      generalize dl.getD k [] = dk at *
      generalize co (ol.getD k []) = okf at *
      go_upto_region 7 with (go_at_call 42; refine HCw.out.mono ?_; rintro e w2 ⟨v2, rfl, hO2, hb2⟩; obtain ⟨g2, cap2, rfl, hcap2, _⟩ := hO2.form (by omega); obtain ⟨z1, z2, HM2, z3, z4, z5⟩ := HLay.out _ _ _ hb2 hO2; have HM2 := hide HM2; clear HLay)
      have hcp2 := own_cap hO2
      have hGr : G < wr.heap.size := by
        have := z1
        exact hGl
      have HO3 := hide (own_other (g := G) (k := k) (u := .slice (some ⟨g2, 0, none⟩) W cap2) (own_mono hO2 hWr) (fun e => by
        have : g2 = G := by simpa [Value.ownBlock] using e
        omega))
      have HB3 := hide (HBx.out w2 hb2 g2 cap2)
      have hsz : b3 < (w2.setCell ⟨G, k, none⟩ (.slice (some ⟨g2, 0, none⟩) W cap2)).heap.size := by
        rw [World.size_setCell]; exact Nat.lt_of_lt_of_le hb3w hb2.size
      have hb3g : b3 ≠ g2 := by omega
      have Hus : Hid ((us.set k (.slice (some ⟨g2, 0, none⟩) W cap2)).getD k nov = .slice (some ⟨g2, 0, none⟩) W cap2) := by
        show _ = _
        rw [Rnk.getD_set _ _ _ hus, if_pos rfl]
      clear HCw HBx hO2 z1 z2
      generalize w2.setCell ⟨G, k, none⟩ (.slice (some ⟨g2, 0, none⟩) W cap2) = V2 at *
      generalize us.set k (.slice (some ⟨g2, 0, none⟩) W cap2) = us2 at *
      refine wp_region_lastS (by kernel_rfl) (by kernel_rfl) (by kernel_rfl) ?_
      simp only [List.dropLast]
      repeat (go_big_quiet_step (fail))
      refine wpQuiet_nil ?_
      intro _ hw'
      obtain ⟨nq, hw''⟩ := hw'
      subst hw''
      simp only [lastL]
      have hdq : Below V2.heap.size V2 (V2.drewN nq) := below_drewN (Below.refl _ V2) nq
      have HT2 := hide (HT1.out (V2.drewN nq) g2 cap2 hcp2 hb3g (Nat.lt_of_lt_of_le hsz hdq.size) (fun j hj => (hdq.cell (p := ⟨b3, off3 + j, none⟩) hsz).trans (HB3.out j hj)) W0.heap.size (own_below HO3.out hdq))
      have HM3 : Hid (Chm W0 (V2.drewN nq) G K us2 lk) := ⟨HM2.out.m.below hdq, HM2.out.b.trans (hdq.mono HM2.out.b.size)⟩
      have HNx2 := hide (fun V' hO hg => HNx.out (V2.drewN nq) V' g2 cap2 us2 HM3.out Hus.out hO hg z5)
      clear HT1 HNx HM2 HM3 HB3 HO3 hdq z3 z4
      go_wp2_with (go_at_call 43; refine HT2.out.mono ?_; rintro e w3 ⟨rfl, hO3, hG3⟩)
      have HM4 := hide (HNx2.out w3 hO3 hG3)
      clear hO3 hG3 HNx2 HT2
      go_roundw
      case rel => exact ⟨k + 1, us2, by omega, by go_num, HM4⟩
      case measure => simp [intOf]; omega
    · have ekK : K = k := by omega
      subst ekK
      rw [HCa.out] at HM
      have HR1 := hide (HChR.out _ _ _ _ HM.out.m)
      have hB := HM.out.b
      obtain ⟨d0, d1, d2, d3, d4, d5, d6, d7⟩ := (HP0.out.below hB).cells
      dsimp only at d0 d1 d2 d3 d4 d5 d6 d7
      clear HCs HCl HCa HChR HTk HEd HEo H1 H4 hlt
      go_upto_region 10 with (go_at_call 44; refine (HRw.out _).mono ?_; rintro e w5 ⟨v5, us5, rfl, hL5, hb5⟩; have HL5 := hide hL5.mtx; obtain ⟨a5, c5, rfl⟩ := own_form hL5.row; clear hL5)
      have hB5 := Below.next hB hb5
      clear d0 d1 d2 d3 d4 d5 d6 d7
      obtain ⟨d0, d1, d2, d3, d4, d5, d6, d7⟩ := (HP0.out.below hB5).cells
      dsimp only at d0 d1 d2 d3 d4 d5 d6 d7
      go_upto_region 11 with (go_at_call 45; refine (HSy.out _).mono ?_; rintro e w6 ⟨g, rfl, hO6, hb6⟩)
      have hal6 := alloc_below w6 (.cells #[.int .u64 q, .slice (some ⟨g, 0, none⟩) N N, .int .i64 T, .int .i64 W] 56)
      have HS7 : Hid (Syb (w6.alloc (.cells #[.int .u64 q, .slice (some ⟨g, 0, none⟩) N N, .int .i64 T, .int .i64 W] 56)) w6.heap.size q g N N T W) := heap_alloc_last w6 _
      have hg5 : w5.heap.size ≤ g := own_base hO6 g rfl
      have hg6 : g < w6.heap.size := own_top hO6 g rfl
      have hC7 := Below.next hb6 hal6
      have hD7 := Below.next hb5 hC7
      have hB7 := Below.next hB5 hC7
      have HO7 := hide (own_mono (own_below hO6 hal6) hB5.size)
      have HM7 := hide (HL5.out.below hC7)
      have HR7 := hide (HR1.out.below hD7)
      have hW0w : w.heap.size + 1 < W0.heap.size := (Array.getElem?_eq_some_iff.1 HR2.out).1
      clear hal6 d0 d1 d2 d3 d4 d5 d6 d7
      generalize w6.alloc (.cells #[.int .u64 q, .slice (some ⟨g, 0, none⟩) N N, .int .i64 T, .int .i64 W] 56) = w7 at *
      have hL5 : ∀ i x, i < rows.length → (us5.getD i nov).ownBlock = some x → x < w5.heap.size := fun i x hi hx => HL5.out.tops hi hx
      have HL5b := hide hL5
      have hGR : ∀ x, (Value.slice a5 rows.length c5).ownBlock = some x → x < w5.heap.size := fun x hx => own_top HL5.out.row x hx
      have HGR := hide hGR
      clear hL5 hGR HL5 HM HR1
      obtain ⟨d0, d1, d2, d3, d4, d5, d6, d7⟩ := (HP0.out.below hB7).cells
      dsimp only at d0 d1 d2 d3 d4 d5 d6 d7
      have HSe7 := hide (HSe.out w7 _ HR7.out (H2.out.below (hA0.trans (hB7.mono hA0.size))))
      have HEa7 := hide (fun W' b1 b2 b3 (hb : Below w7.heap.size w7 W') x4 => HEa.out W' (.slice (some ⟨G, 0, none⟩) K K) b1 b2 b3 (HR7.out.below hb) (H2.out.below (hA0.trans ((Below.next hB7 hb).mono hA0.size))) (H3.out.below (hA0.trans ((Below.next hB7 hb).mono hA0.size))) x4)
      clear HSe HEa HRw HSy
      go_wp2_with (first
        | (go_at_call 34; refine HSe7.out.mono ?_; rintro e w8 ⟨b1, b2, b3, rfl, hSee, hb8⟩)
        | (go_at_call 33; refine (HEa7.out w8 b1 b2 b3 hb8 hSee).mono ?_; rintro e w9 ⟨v9, us9, rfl, hM9, hb9⟩; obtain ⟨a9, c9, rfl⟩ := own_form hM9.row; have HM9 := hide hM9; clear hM9))
      rw [HRl.out] at HM9 ⊢
      have hC9 := Below.next hb8 hb9
      have hB9 := Below.next hB7 hC9
      have HE9 : Hid (Eqs w9 w9 W0.heap.size g N (List.replicate N 0)) := ⟨own_below HO7.out hC9, grown_refl _ _⟩
      have HS9 := hide (HS7.out.below hC9)
      have HM5 := hide (HM7.out.below hC9)
      have HP9 := hide (HP0.out.below hB9)
      have HR9 : Hid (w9.heap[w.heap.size + 1]? = some (.cells #[.int .u64 0, .slice none 0 0, .int .i64 0, .int .i64 0] 56 (0, 0))) := (hB9.block _ hW0w).trans HR2.out
      have H39 := hide (H3.out.below (hA0.trans (hB9.mono hA0.size)))
      have hsz : w7.heap.size ≤ w9.heap.size := hC9.size
      have hs67 : w6.heap.size < w7.heap.size := HS7.out.lt
      have hs78 : w7.heap.size ≤ w8.heap.size := hb8.size
      have hs05 : W0.heap.size ≤ w5.heap.size := hB5.size
      have hs0 : w.heap.size ≤ W0.heap.size := hA0.size
      have HEn : Hid (Els q (List.replicate N (0 : Int)) ∧ ∀ r m, r < 0 → m < s → fl s (List.replicate N 0) r m = eqB q xs pts' K T rt r m) := ⟨HZ0.out, fun r m h _ => absurd h (by omega)⟩
      clear HSe7 HEa7 hSee hb8 hb9 HS7 HM7 HP0 HR2 H2 HO7 HR7 hO6 hb6 hb5 hC7 hD7 hB hB5 d0 d1 d2 d3 d4 d5 d6 d7 HZ0
      go_loopw [67] (fun vi wr => ∃ (i : Nat) (zs : List Int), i ≤ T ∧ vi = .int .i64 i ∧ Hid (Eqs w9 wr W0.heap.size g N zs) ∧ Hid (Els q zs ∧ ∀ r m, r < i → m < s → fl s zs r m = eqB q xs pts' K T rt r m)) (fun vi _ => T - (intOf vi).toNat)
      case atStart => exact ⟨0, _, Nat.zero_le _, rfl, HE9, HEn⟩
      case round =>
        clear HE9 HEn
        obtain ⟨i, zs, hi, rfl, HE, HN⟩ := hrel
        by_cases hlt : i < T
        · obtain ⟨d0, d1, d2, d3⟩ := (HS9.out.grown HE.out.grown (by omega)).cells
          -- what the worker sees
          obtain ⟨r1, r2⟩ := HRt.out i hlt
          have hrl : i < rt.length := by rw [HRl.out]; exact hlt
          obtain ⟨GT, cT, hvT, hGT0, hGT1, hcT⟩ := HM9.out.spell (by omega)
          rw [HRl.out] at hvT hcT
          cases hvT
          obtain ⟨gr, cr, hur, hgr0, hgr1, hcr, hcel⟩ := HM9.out.one hrl (by omega)
          rw [r1] at hur hcr hcel
          have y1 := (HE.out.keep (a := ⟨GT, i, none⟩) hGT1 (by show GT ≠ g; omega)).trans (HM9.out.cell hrl)
          rw [hur] at y1
          have Hy2 : Hid (∀ m, m < W → wr.cell? ⟨gr, 0 + m, none⟩ = some (.int .u64 (co (rt.getD i []) m))) := fun m hm' => by
            rw [Nat.zero_add, HE.out.keep (a := ⟨gr, m, none⟩) hgr1 (by show gr ≠ g; omega)]
            exact hcel m hm'
          -- the worker, and its row
          obtain ⟨J, hJ, hJl, hJr⟩ := HXx.out i hlt
          obtain ⟨bw, ow, cw, hvw, _, hbw⟩ := H3.out.form (by rw [Hfl.out]; omega)
          rw [Hfl.out] at hvw
          cases hvw
          have hBw9 : Below w.heap.size w w9 := hA0.trans (hB9.mono hA0.size)
          have y3 := (lmi_cell H3.out hBw9 (k := i) (by rw [Hfl.out]; exact hlt)).2
          rw [hJ] at y3
          have y3' := (HE.out.keep (a := ⟨bw, ow + i, none⟩) (Nat.lt_of_lt_of_le hbw hBw9.size) (by show bw ≠ g; omega)).trans y3
          obtain ⟨GR, cR, hvR, hGR0, hGR1, hcR⟩ := HM5.out.spell (by omega)
          cases hvR
          have hrow : (rows.getD J []).length = K + T := by rw [hJr]; exact HBl.out _
          obtain ⟨gf, cf, huf, hgf0, hgf1, hcf, hcelf⟩ := HM5.out.one hJl (by omega)
          rw [hrow] at huf hcf hcelf
          have hGRg : GR < g := Nat.lt_of_lt_of_le (HGR.out GR rfl) hg5
          have hgfg : gf < g := Nat.lt_of_lt_of_le (HL5b.out J gf hJl (by rw [huf]; rfl)) hg5
          have y4 := (HE.out.keep (a := ⟨GR, J, none⟩) hGR1 (by show GR ≠ g; omega)).trans (HM5.out.cell hJl)
          rw [huf] at y4
          have Hy5 : Hid (∀ m, m < T → wr.cell? ⟨gf, K + m, none⟩ = some (.int .u64 (co ((rows.getD J []).drop K) m))) := fun m hm' => by
            rw [HE.out.keep (a := ⟨gf, K + m, none⟩) hgf1 (by show gf ≠ g; omega), hcelf (K + m) (by omega), co_dropR]
            rfl
          have y6 := (HE.out.keep (a := ⟨w.heap.size, 2, none⟩) (by show w.heap.size < _; omega) (by show w.heap.size ≠ g; omega)).trans HP9.out.cells.2.2.1
          dsimp only at y6
          have HSt := hide (HStep.out i zs ((rows.getD J []).drop K) (rt.getD i []) hlt (own_len HE.out.own) HN.out.2 (fun m hm' => by rw [hJr]; exact HBc.out _ m hm') rfl)
          have HEl := hide (HEls.out i zs ((rows.getD J []).drop K) (rt.getD i []) HN.out.1 (by rw [hJr]; exact HDe.out _) r2)
          have HLa1 : Hid (∀ nq, Calls Tryz.prog 46 #[.agg #[.int .u64 q, .slice (some ⟨g, 0, none⟩) N N, .int .i64 T, .int .i64 W], .int .i64 i, .slice (some ⟨gf, K, none⟩) T (cf - K), .slice (some ⟨gr, 0, none⟩) W cr] (wr.drewN nq) fun e w' => e = .returned (.tuple #[]) ∧ w'.ownsRow W0.heap.size 50 1 (.slice (some ⟨g, 0, none⟩) N N) N (vals (seg (seg zs (i * s) T (co ((rows.getD J []).drop K))) (i * s + T) W (co (rt.getD i [])))) ∧ (wr.drewN nq).grownBy w' (some g)) := fun nq => by
            have hdq : Below wr.heap.size wr (wr.drewN nq) := below_drewN (Below.refl _ wr) nq
            have hgw : w9.heap.size ≤ wr.heap.size := HE.out.grown.size
            exact HLa.out (wr.drewN nq) i g W0.heap.size gf K (cf - K) gr 0 cr zs _ _ hlt (own_below HE.out.own hdq) (by rw [List.length_drop, hrow]; omega) r1 (Nat.lt_of_lt_of_le hgf1 (Nat.le_trans hgw hdq.size)) (by omega) (fun m hm' => (hdq.cell (p := ⟨gf, K + m, none⟩) (Nat.lt_of_lt_of_le hgf1 hgw)).trans (Hy5.out m hm')) (Nat.lt_of_lt_of_le hgr1 (Nat.le_trans hgw hdq.size)) (by omega) (fun m hm' => (hdq.cell (p := ⟨gr, 0 + m, none⟩) (Nat.lt_of_lt_of_le hgr1 hgw)).trans (Hy2.out m hm'))
          have HEq : Hid (∀ nq V zs', V.ownsRow W0.heap.size 50 1 (.slice (some ⟨g, 0, none⟩) N N) N (vals zs') → (wr.drewN nq).grownBy V (some g) → Eqs w9 V W0.heap.size g N zs') := fun nq V zs' h1 h2 => (HE.out.below (below_drewN (Below.refl _ wr) nq)).next h1 h2
          generalize seg (seg zs (i * s) T (co ((rows.getD J []).drop K))) (i * s + T) W (co (rt.getD i [])) = zs2 at *
          have i0 : (0 : Int) ≤ (i : Int) := by omega
          have i1 : (i : Int) < (T : Int) := by omega
          have j0 : (0 : Int) ≤ (J : Int) := by omega
          have j1 : (J : Int) < (rows.length : Int) := by omega
          have kk0 : (0 : Int) ≤ (K : Int) := by omega
          have kk1 : (K : Int) ≤ ((K + T : Nat) : Int) := by omega
          have kk2 : ¬ K + T = K := by omega
          have kk3 : ¬ cf = K := by omega
          have kk4 : K + T - K = T := by omega
          clear HE HN Hy2 Hy5 hcel hcelf y3
          go_upto_region 14 with fail
          clear huf hur hgf0 hGR0 hrow
          generalize hKT : K + T = KT at *
          have HKT := hide hKT
          clear hKT
          refine wp_region_lastS (by kernel_rfl) (by kernel_rfl) (by kernel_rfl) ?_
          simp only [List.dropLast]
          repeat (go_big_quiet_step (fail))
          refine wpQuiet_nil ?_
          intro _ hw'
          obtain ⟨nq, hw''⟩ := hw'
          subst hw''
          simp only [lastL]
          have HLa2 := hide (HLa1.out nq)
          have HEq2 := hide (HEq.out nq)
          clear HLa1 HEq
          go_wp2_with (go_at_call 46; refine HLa2.out.mono ?_; rintro e w10 ⟨rfl, hO10, hG10⟩)
          have HE10 := hide (HEq2.out w10 zs2 hO10 hG10)
          have HN10 : Hid (Els q zs2 ∧ ∀ r m, r < i + 1 → m < s → fl s zs2 r m = eqB q xs pts' K T rt r m) := ⟨HEl.out, HSt.out⟩
          clear hO10 hG10 HEq2 HLa2
          go_roundw
          case rel => exact ⟨i + 1, zs2, by omega, by go_num, HE10, HN10⟩
          case measure => simp [intOf]; omega
        · obtain rfl : T = i := by omega
          obtain ⟨d0, d1, d2, d3⟩ := (HS9.out.grown HE.out.grown (by omega)).cells
          have HR3 : Hid (wr.heap[w.heap.size + 1]? = some (.cells #[.int .u64 0, .slice none 0 0, .int .i64 0, .int .i64 0] 56 (0, 0))) := (HE.out.grown.block _ (by omega) (fun e => by injection e with e; omega)).trans HR9.out
          have f0 : ∀ m, wr.frozen? ⟨w.heap.size + 1, m, none⟩ = false := fun m => Lib.frozen_of_heap HR3.out m
          have x0 : wr.cell? ⟨w.heap.size + 1, 0, none⟩ = some (.int .u64 0) := by rw [Lib.cell_of_heap HR3.out]; rfl
          have x1 : wr.cell? ⟨w.heap.size + 1, 1, none⟩ = some (.slice none 0 0) := by rw [Lib.cell_of_heap HR3.out]; rfl
          have x2 : wr.cell? ⟨w.heap.size + 1, 2, none⟩ = some (.int .i64 0) := by rw [Lib.cell_of_heap HR3.out]; rfl
          have x3 : wr.cell? ⟨w.heap.size + 1, 3, none⟩ = some (.int .i64 0) := by rw [Lib.cell_of_heap HR3.out]; rfl
          have hBw : Below w.heap.size w wr := (hA0.trans (hB9.mono hA0.size)).grown HE.out.grown (by omega) (fun x hx => by injection hx with hx; omega)
          go_wp2_with fail
          refine bodyPost_ret (v := .agg #[.int .u64 q, .slice (some ⟨g, 0, none⟩) N N, .int .i64 T, .int .i64 W]) (resCell1 (a := 10) (t := 56) (ad := ⟨w.heap.size + 1, 0, none⟩) rfl rfl (load_sys (setS_syb HR3.out q g N T W))) rfl ?_
          have hgne : (Value.slice (some ⟨g, 0, none⟩) N N).ownBlock ≠ some (w.heap.size + 1) := fun e => by
            have : g = w.heap.size + 1 := by simpa [Value.ownBlock] using e
            omega
          exact ⟨g, zs, rfl, own_mono (setS_own HE.out.own hgne) hs0, setS_below hBw (by omega), HN.out.1, HN.out.2⟩

end Go.Proofs.YtpbfgcepmbpkdaaGreat

namespace Go.Proofs.YtpbfgcepmbpkdaaGreat
open Go.RowKit Fld Pln Shr Rnk
set_option linter.unusedVariables false
set_option linter.unusedSimpArgs false

theorem prw_len (x : Prt) : (prw x).length = 2 := rfl
/-- Parts that were just laid down. -/
theorem lm_parts (w : World) (ps : List Prt) (T : TypeId) (hl : ps.length ≤ 10) : Lm prw 2 (w.alloc (.cells (ps.flatMap prw).toArray T)) (.slice (some ⟨w.heap.size, 0, none⟩) ps.length ps.length) ps := by
  have hf := flat_len prw 2 prw_len ps
  refine lm_of_own (T := T) (base := 0) prw_len (by decide) (n := ps.length) ⟨by rw [hf], .inr ⟨w.heap.size, ps.length, (ps.flatMap prw).toArray, rfl, Nat.zero_le _, heap_alloc_last w _, Nat.le_refl _, by unfold maxLen; omega, by rw [List.size_toArray, hf], by
    show (ps.flatMap prw).take (ps.length * 2) = _
    rw [← hf]; exact List.take_length⟩⟩ (by omega)
theorem ck_bool (b0 b1 b2 b3 b4 b5 b6 b7 b8 b9 : Bool) : (if (b0 && b1 && (b2 && (b3 && (b4 && true)))) = true then (if (b8 && (b5 && (b6 && (b7 && true)))) = true then (if b9 = true then (0 : Int) else 6) else 3) else 2) =
    (let d := (if (b0 && b2 && b3) = true then (if (b5 && b6) = true then (0 : Int) else 3) else 2)
     let o := (if (b0 && b4 && b3) = true then (if (b7 && b6) = true then (0 : Int) else 3) else 2)
     let e := if d = 0 ∨ o = 2 then o else d
     if e ≠ 2 ∧ b1 = true then (if e = 0 then (if b8 = true then (if b9 = true then 0 else 6) else 3) else e) else 2) := by
  revert b0 b1 b2 b3 b4 b5 b6 b7 b8 b9
  decide +kernel
theorem ck_bool2 (b0 b1 b2 b3 b5 b6 b8 b9 : Bool) : (if (b0 && b1 && (b2 && (b3 && true))) = true then (if (b8 && (b5 && (b6 && true))) = true then (if b9 = true then (0 : Int) else 6) else 3) else 2) =
    (let e := (if (b0 && b2 && b3) = true then (if (b5 && b6) = true then (0 : Int) else 3) else 2)
     if e ≠ 2 ∧ b1 = true then (if e = 0 then (if b8 = true then (if b9 = true then 0 else 6) else 3) else e) else 2) := by
  revert b0 b1 b2 b3 b5 b6 b8 b9
  decide +kernel
theorem if_dec {α : Type} (p : Prop) [Decidable p] (a b : α) : (if p then a else b) = if decide p = true then a else b := by
  by_cases h : p <;> simp [h]
theorem ck_tw (p : Pn) (who : List Int) (dl pl ol : List (List Int)) (ua ub uc : Value) : ckE p who [(ua, dl, p.k), (ub, pl, p.t), (uc, ol, p.k)] = twE p who dl pl ol := by
  unfold ckE ckA ckF twE pwE otE
  rw [bk_none, bk_none]
  have := ck_bool (mayP p) (whoB p.n who) (elsB p.f dl) (elsB p.f pl) (elsB p.f ol) (blkB p.w p.k dl) (blkB p.w p.t pl) (blkB p.w p.k ol) (decide ((who.length : Int) ≤ p.t)) (decide who.Nodup)
  simp only [List.all_cons, List.all_nil, if_dec (who.Nodup), if_dec ((who.length : Int) ≤ p.t)]
  exact this
theorem ck_se (p : Pn) (who : List Int) (dl pl : List (List Int)) (ua ub : Value) : ckE p who [(ua, dl, p.k), (ub, pl, p.t)] = seE p who dl pl := by
  unfold ckE ckA ckF seE pwE
  rw [bk_none]
  have := ck_bool2 (mayP p) (whoB p.n who) (elsB p.f dl) (elsB p.f pl) (blkB p.w p.k dl) (blkB p.w p.t pl) (decide ((who.length : Int) ≤ p.t)) (decide who.Nodup)
  simp only [List.all_cons, List.all_nil, if_dec (who.Nodup), if_dec ((who.length : Int) ≤ p.t)]
  exact this
end Go.Proofs.YtpbfgcepmbpkdaaGreat

namespace Go.Proofs.YtpbfgcepmbpkdaaGreat
open Go.RowKit Fld Pln Shr Rnk
set_option linter.unusedVariables false
set_option linter.unusedSimpArgs false

theorem se_eq {p : Pn} {who : List Int} {dl pl : List (List Int)} (hz : seE p who dl pl = 0) : who.map (shaL p dl pl) = seL p who dl pl := by
  obtain ⟨z, hw, hl, hn⟩ := se_zero.1 hz
  obtain ⟨hm, ⟨q, wd, hf, _⟩, _⟩ := bk_zero z
  unfold seL
  rw [if_pos hz]
  refine List.map_congr_left (fun i hi => ?_)
  obtain ⟨h0, h1⟩ := hw i hi
  rw [sha_facts hm hf z h0 h1, all_at hf z h0 h1]

set_option maxRecDepth 100000 in
set_option maxHeartbeats 400000 in
theorem gSeen (p : Pn) (vw vd vp : Value) (who : List Int) (dl pl : List (List Int)) (w : World) (hp : Ok8p p) (h3 : Lm iw 1 w vw who) (h1 : Rws w vd dl) (h2 : Rws w vp pl) : GivesM 12 #[plv p, vw, vd, vp] w (seL p who dl pl) (seE p who dl pl) := by
  have HK : Hid (∀ W, Below w.heap.size w W → Calls Tryz.prog 20 #[plv p, vw, .slice (some ⟨W.heap.size, 0, none⟩) 2 2] (W.alloc (.cells #[vd, .int .i64 p.k, vp, .int .i64 p.t] 53)) fun e w' => e = .returned (.int .i64 (seE p who dl pl)) ∧ Below W.heap.size W w') := fun W hb => by
    have hal := alloc_below W (.cells #[vd, .int .i64 p.k, vp, .int .i64 p.t] 53)
    have hB := Below.next hb hal
    have hl := lm_parts W [(vd, dl, p.k), (vp, pl, p.t)] 53 (by show (2 : Nat) ≤ 10; omega)
    have := gCheck p vw (.slice (some ⟨W.heap.size, 0, none⟩) 2 2) who [(vd, dl, p.k), (vp, pl, p.t)] (W.alloc (.cells #[vd, .int .i64 p.k, vp, .int .i64 p.t] 53)) hp hl (fun x hx => by
      rcases List.mem_cons.1 hx with rfl | hx
      · exact h1.below hB
      · rw [List.mem_singleton.1 hx]; exact h2.below hB) (h3.below hB)
    rw [ck_se] at this
    exact this.mono (fun e w' ⟨x1, x2⟩ => ⟨x1, Below.next hal x2⟩)
  obtain ⟨pb, hA⟩ := pb_box (w := w) p
  have HPb := hide pb
  obtain ⟨c0, c1, c2, c3, c4, c5, c6, c7⟩ := pb.cells
  have HSe := hide (fun W (hb : Below w.heap.size w W) => gSees p vd vp dl pl W (h1.below hb) (h2.below hb))
  by_cases hz : seE p who dl pl = 0
  · obtain ⟨z, hw, hl, hn⟩ := se_zero.1 hz
    have hm := (bk_zero z).1
    have hw64 : who.length ≤ 1000 := by
      have := (may_facts hm).2.2.1
      have := (may_facts hm).2.1
      omega
    have HEa := hide (fun W b1 b2 b3 (hb : Below w.heap.size w W) hS => gEachP p vw vd vp dl pl who b1 b2 b3 W hp (h1.below hb) (h2.below hb) (h3.below hb) hS hw64)
    rw [se_eq hz] at HEa
    rw [hz] at HK ⊢
    have hwl := h3.len
    obtain ⟨aw, cw, rfl, _⟩ := h3.spell
    obtain ⟨ad, cd, rfl, _, _, _⟩ := h1
    obtain ⟨ap, cp, rfl, _, _, _⟩ := h2
    clear hz hm hw hn pb h3 hp z
    generalize seL p who dl pl = res at *
    generalize who.length = nw at *
    generalize dl.length = nd at *
    generalize pl.length = np at *
    rw [plan_eq] at *
    show Calls _ _ _ _ _
    go_enter Tryz.func12, Tryz.ntmps12
    go_upto_region 1 with fail
    generalize w.alloc (.cells #[.int .u8 p.f, .int .i64 p.n, .int .i64 p.k, .int .i64 p.t, .int .i64 p.s, .int .i64 p.e, .int .i64 p.d, .int .i64 p.w] 24) = W0 at *
    go_wp2_with (first
      | (go_at_call 20; refine (HK.out _ hA).mono ?_; rintro e w1 ⟨rfl, hb1⟩; have hB1 := Below.next hA hb1; clear c0 c1 c2 c3 c4 c5 c6 c7; obtain ⟨c0, c1, c2, c3, c4, c5, c6, c7⟩ := (HPb.out.below hb1).cells)
      | (go_at_call 34; refine (HSe.out _ hB1).mono ?_; rintro e w2 ⟨b1, b2, b3, rfl, hS2, hb2⟩; have hB2 := Below.next hB1 hb2)
      | (go_at_call 33; refine (HEa.out _ _ _ _ hB2 hS2).mono ?_; rintro e w3 ⟨v3, us3, rfl, hM3, hb3⟩; obtain ⟨a3, k3, rfl⟩ := own_form hM3.row; have HM3 := hide (hM3.low hB2.size); clear hM3))
    go_ret2
    exact ⟨_, us3, rfl, HM3.out, Below.next hB2 hb3⟩
  · have ht : (seE p who dl pl != 0) = true := bne_iff_ne.2 hz
    have HV : Hid (seL p who dl pl = []) := by show _ = _; unfold seL; rw [if_neg hz]
    rw [HV.out]
    have hwl := h3.len
    obtain ⟨aw, cw, rfl, _⟩ := h3.spell
    obtain ⟨ad, cd, rfl, _, _, _⟩ := h1
    obtain ⟨ap, cp, rfl, _, _, _⟩ := h2
    clear hz pb h3 HV hp HSe
    generalize seE p who dl pl = e0 at *
    generalize who.length = nw at *
    generalize dl.length = nd at *
    generalize pl.length = np at *
    rw [plan_eq] at *
    show Calls _ _ _ _ _
    go_enter Tryz.func12, Tryz.ntmps12
    go_upto_region 1 with fail
    generalize w.alloc (.cells #[.int .u8 p.f, .int .i64 p.n, .int .i64 p.k, .int .i64 p.t, .int .i64 p.s, .int .i64 p.e, .int .i64 p.d, .int .i64 p.w] 24) = W0 at *
    go_wp2_with (go_at_call 20; refine (HK.out _ hA).mono ?_; rintro e w1 ⟨rfl, hb1⟩)
    go_ret2
    exact ⟨_, [], rfl, mtx_nil _ _, Below.next hA hb1⟩

theorem stf_may {p : Pn} (hm : mayP p = true) : mayP (stf p) = true := by
  obtain ⟨⟨n0, n1⟩, ⟨k0, k1⟩, ⟨t0, t1⟩, _⟩ := may_facts hm
  rw [mayP_all] at hm ⊢
  simp only [Bool.and_eq_true, btw, decide_eq_true_iff] at hm ⊢
  have e : (stf p).n = if p.n < p.t then p.t else p.n := rfl
  refine ⟨⟨⟨⟨⟨⟨⟨hm.1.1.1.1.1.1.1, ?_⟩, hm.1.1.1.1.1.2⟩, hm.1.1.1.1.2⟩, hm.1.1.1.2⟩, hm.1.1.2⟩, hm.1.2⟩, hm.2⟩
  rw [e]; split <;> omega
theorem stf_bk {p : Pn} {dl pl : List (List Int)} (hm : mayP p = true) (h : bkE p dl pl [] = 0) : bkE (stf p) dl pl [] = 0 := by
  rw [bk_none] at h ⊢
  rw [stf_may hm]
  rw [hm] at h
  exact h
theorem stf_ok {p : Pn} (hp : Ok8p p) : Ok8p (stf p) := by
  obtain ⟨h1, h2, h3, h4, h5⟩ := hp
  refine ⟨h1, ?_, h3, h4, h5⟩
  show I64 (if p.n < p.t then p.t else p.n)
  split
  · exact h4
  · exact h2
/-- The rows that are found are the twin. -/
theorem tw_found {p : Pn} {who : List Int} {dl pl ol : List (List Int)} {q : Int} {wd : Bool} (h : Twf p who dl pl ol q wd) : mkl p.t.toNat (fun r => mk p.w.toNat (fun t => co ((twL p who dl pl ol).getD r []) t)) = twL p who dl pl ol := by
  obtain ⟨_, h2, h3⟩ := h.twin
  refine ext_l (by rw [mkl_len, h3]) (fun i hi => ?_)
  rw [mkl_len] at hi
  rw [mkl_at _ hi]
  have hl : ((twL p who dl pl ol).getD i []).length = p.w.toNat := getD_memP (P := fun b => b.length = p.w.toNat) h2 (by omega)
  refine ext_co (by rw [mk_len, hl]) (fun t ht => ?_)
  rw [mk_len] at ht
  rw [co_mk, if_pos ht]
/-- What the equations lead to. -/
theorem tw_ev {p : Pn} {who : List Int} {dl pl ol : List (List Int)} {q : Int} {wd : Bool} (h : Twf p who dl pl ol q wd) {s : Nat} (hs : s = p.t.toNat + p.w.toNat) {es : List Int} (hel : Els q es) (hlen : es.length = p.t.toNat * s) (hz : bkE (stf p) (chL q p.w.toNat dl ol) pl [] = 0)
    (hE : ∀ r m, r < p.t.toNat → m < s → fl s es r m = eqB q (innL (stf p)) ((fxN who p.t.toNat).map (fun x => (stf p).k + (stf p).t + x)) p.k.toNat p.t.toNat ((fxN who p.t.toNat).map (shaL (stf p) (chL q p.w.toNat dl ol) pl)) r m) :
    Ev q p.t.toNat p.w.toNat s (fun r t => co ((twL p who dl pl ol).getD r []) t) 0 es := by
  obtain ⟨⟨n0, n1⟩, ⟨k0, k1⟩, ⟨t0, t1⟩, _⟩ := may_facts h.may
  have hi : innL (stf p) = pts 0 p.k.toNat ++ pts p.k p.t.toNat := (inn_app h.may).symm
  have hr : (fxN who p.t.toNat).map (shaL (stf p) (chL q p.w.toNat dl ol) pl) = (fxL p who).map (shr q (pts 0 p.k.toNat ++ pts p.k p.t.toNat) p.w.toNat (chL q p.w.toNat dl ol ++ pl)) := by
    unfold fxL
    rw [List.map_map]
    refine List.map_congr_left (fun x hx => ?_)
    have hb := fxN_mem h.who_ hx
    have hn : x < (stf p).n := by
      show x < if p.n < p.t then p.t else p.n
      split <;> omega
    rw [sha_facts (stf_may h.may) h.fi hz hb.1 hn, hi]
    rfl
  have := twin_ev h.fi.md h.pts (W := p.w.toNat) (s := s) (dl := dl) (pl := pl) (ol := ol) h.ed h.ep h.eo (by rw [pts_len]; exact h.ld) (by rw [pts_len]; exact h.lp) (by rw [pts_len]; exact h.lo) h.wd_ (fun x hx hc => by
    obtain ⟨y, hy, rfl⟩ := List.mem_map.1 hx
    have hb := fxN_mem h.who_ hy
    rcases List.mem_append.1 hc with hc | hc
    · have := pts_mem.1 hc; omega
    · have := pts_mem.1 hc; omega) (by rw [pts_len]; exact hs) (es := es) hel (by rw [pts_len]; exact hlen) (fun r m hr' hm' => by
    rw [pts_len] at hr'
    rw [hE r m hr' hm', hi, hr, pts_len, pts_len]
    rfl)
  rw [pts_len] at this
  rw [h.eq]
  exact this

set_option maxRecDepth 100000 in
set_option maxHeartbeats 800000 in
theorem gTwin (p : Pn) (vw vd vp vo : Value) (who : List Int) (dl pl ol : List (List Int)) (w : World) (hp : Ok8p p) (h3 : Lm iw 1 w vw who) (h1 : Rws w vd dl) (h2 : Rws w vp pl) (h4 : Rws w vo ol) : GivesM 8 #[plv p, vw, vd, vp, vo] w (twL p who dl pl ol) (twE p who dl pl ol) := by
  have HK : Hid (∀ W, Below w.heap.size w W → Calls Tryz.prog 20 #[plv p, vw, .slice (some ⟨W.heap.size, 0, none⟩) 3 3] (W.alloc (.cells #[vd, .int .i64 p.k, vp, .int .i64 p.t, vo, .int .i64 p.k] 53)) fun e w' => e = .returned (.int .i64 (twE p who dl pl ol)) ∧ Below W.heap.size W w') := fun W hb => by
    have hal := alloc_below W (.cells #[vd, .int .i64 p.k, vp, .int .i64 p.t, vo, .int .i64 p.k] 53)
    have hB := Below.next hb hal
    have hl := lm_parts W [(vd, dl, p.k), (vp, pl, p.t), (vo, ol, p.k)] 53 (by show (3 : Nat) ≤ 10; omega)
    have := gCheck p vw (.slice (some ⟨W.heap.size, 0, none⟩) 3 3) who [(vd, dl, p.k), (vp, pl, p.t), (vo, ol, p.k)] (W.alloc (.cells #[vd, .int .i64 p.k, vp, .int .i64 p.t, vo, .int .i64 p.k] 53)) hp hl (fun x hx => by
      rcases List.mem_cons.1 hx with rfl | hx
      · exact h1.below hB
      · rcases List.mem_cons.1 hx with rfl | hx
        · exact h2.below hB
        · rw [List.mem_singleton.1 hx]; exact h4.below hB) (h3.below hB)
    rw [ck_tw] at this
    exact this.mono (fun e w' ⟨x1, x2⟩ => ⟨x1, Below.next hal x2⟩)
  obtain ⟨pb, hA⟩ := pb_box (w := w) p
  have HPb := hide pb
  obtain ⟨c0, c1, c2, c3, c4, c5, c6, c7⟩ := pb.cells
  by_cases hz : twE p who dl pl ol = 0
  · obtain ⟨q, wd, h⟩ := tw_facts hz h1.wordsH h2.wordsH h4.wordsH
    obtain ⟨⟨n0, n1⟩, ⟨k0, k1⟩, ⟨t0, t1⟩, _, _, _, w0, w1'⟩ := may_facts h.may
    obtain ⟨s, Hs⟩ : ∃ s, Hid (s = p.t.toNat + p.w.toNat) := ⟨_, rfl⟩
    obtain ⟨N, HN⟩ : ∃ N, Hid (N = p.t.toNat * s) := ⟨_, rfl⟩
    have hzc : bkE (stf p) (chL q p.w.toNat dl ol) pl [] = 0 := stf_bk h.may (Twf.bk h.may h.fi (chL_els h.fi.pos h.ed) h.ep (by rw [chL_len]; exact h.ld) h.lp (chL_wide h.wd_) h.wp)
    have HSt := hide (fun W' => gStaffed p W')
    have HFi := hide (fun W' (hb : Below w.heap.size w W') => gFilled p vw who W' (h3.below hb) (fun x hx => by have := h.who_ x hx; omega) h.nd h.len (by omega))
    have HEq : Hid (∀ W' v lo, Below w.heap.size w W' → W'.ownsRow lo 3 1 v (fxN who p.t.toNat).length ((fxN who p.t.toNat).flatMap iw) → Calls Tryz.prog 21 #[plv (stf p), v, vd, vp, vo] W' fun e w' => ∃ g zs, e = .returned (.agg #[.int .u64 q, .slice (some ⟨g, 0, none⟩) N N, .int .i64 (p.t.toNat : Nat), .int .i64 (p.w.toNat : Nat)]) ∧ w'.ownsRow W'.heap.size 50 1 (.slice (some ⟨g, 0, none⟩) N N) N (vals zs) ∧ Below W'.heap.size W' w' ∧ Ev q p.t.toNat p.w.toNat s (fun r t => co ((twL p who dl pl ol).getD r []) t) 0 zs) := fun W' v lo hb hO => by
      have hfl : (fxN who p.t.toNat).length = p.t.toNat := fxN_len (by have := h.len; omega)
      have := gEquations (stf p) q wd v vd vp vo (fxN who p.t.toNat) dl pl ol p.k.toNat p.t.toNat p.w.toNat s N W' (stf_ok hp) (stf_may h.may) h.fi (by show p.k = _; omega) (by show p.t = _; omega) (by show p.w = _; omega) Hs.out HN.out (h1.below hb) (h2.below hb) (h4.below hb) (lm_of_own iw_len (by decide) hO (by omega)) (fun x hx => by
        have hm' := fxN_mem h.who_ hx
        refine ⟨hm'.1, ?_⟩
        show x < if p.n < p.t then p.t else p.n
        split <;> omega) hfl h.ed h.eo h.ld h.lo h.wd_ h.wo hzc
      refine this.mono ?_
      rintro e w' ⟨g, zs, rfl, x1, x2, x3, x4⟩
      exact ⟨g, zs, rfl, x1, x2, tw_ev h Hs.out x3 (by rw [own_len x1, HN.out]) hzc x4⟩
    have HSo : Hid (∀ W' g zs lo, W'.ownsRow lo 50 1 (.slice (some ⟨g, 0, none⟩) N N) N (vals zs) → Ev q p.t.toNat p.w.toNat s (fun r t => co ((twL p who dl pl ol).getD r []) t) 0 zs → Calls Tryz.prog 24 #[.agg #[.int .u64 q, .slice (some ⟨g, 0, none⟩) N N, .int .i64 (p.t.toNat : Nat), .int .i64 (p.w.toNat : Nat)]] W' fun e w' => ∃ v' us, e = .returned v' ∧ Mtx w' W'.heap.size v' us (twL p who dl pl ol) ∧ W'.grownBy w' (some g)) := fun W' g zs lo hO hE => by
      have := pSolved q wd g N p.t.toNat p.w.toNat s lo zs (fun r t => co ((twL p who dl pl ol).getD r []) t) W' h.fi.md Hs.out HN.out (by omega) (by omega) (by omega) hO hE (fun r t hr ht' => by
        obtain ⟨e1, e2, e3⟩ := h.twin
        exact (getD_memP (P := Els q) e1 (by omega)).co h.fi.pos t)
      rw [tw_found h] at this
      exact this
    have HS := hide (fun W' (hb : Below (w.alloc (.cells #[.int .u8 p.f, .int .i64 p.n, .int .i64 p.k, .int .i64 p.t, .int .i64 p.s, .int .i64 p.e, .int .i64 p.d, .int .i64 p.w] 24)).heap.size _ W') => (pb.below hb).cells)
    rw [hz] at HK ⊢
    have hwl := h3.len
    obtain ⟨aw, cw, rfl, _⟩ := h3.spell
    obtain ⟨ad, cd, rfl, _, _, _⟩ := h1
    obtain ⟨ap, cp, rfl, _, _, _⟩ := h2
    obtain ⟨ao, co', rfl, _, _, _⟩ := h4
    clear hz pb h3 hp h hzc Hs HN n0 n1 k0 k1 t0 t1 w0 w1'
    generalize twL p who dl pl ol = res at *
    generalize (fxN who p.t.toNat).flatMap iw = fxs at *
    generalize (fxN who p.t.toNat).length = nfx at *
    generalize who.length = nw at *
    generalize dl.length = nd at *
    generalize pl.length = np at *
    generalize ol.length = no at *
    generalize plv (stf p) = A at *
    generalize p.t.toNat = T at *
    generalize p.w.toNat = W at *
    rw [plan_eq] at *
    show Calls _ _ _ _ _
    go_enter Tryz.func8, Tryz.ntmps8
    go_upto_region 1 with fail
    generalize w.alloc (.cells #[.int .u8 p.f, .int .i64 p.n, .int .i64 p.k, .int .i64 p.t, .int .i64 p.s, .int .i64 p.e, .int .i64 p.d, .int .i64 p.w] 24) = W0 at *
    go_upto_region 4 with (go_at_call 20; refine (HK.out _ hA).mono ?_; rintro e w1 ⟨rfl, hb1⟩)
    have hB1 := Below.next hA hb1
    clear c0 c1 c2 c3 c4 c5 c6 c7 HK
    have hdr : Below w1.heap.size w1 w1.drew := (Below.refl _ w1).drew
    have hC1 := Below.next hb1 hdr
    have hS0 := HS.out _ hC1
    refine wp_region_held_drew (S := (fun V => V.cell? ⟨w.heap.size, 0, none⟩ = some (.int .u8 p.f) ∧ V.cell? ⟨w.heap.size, 1, none⟩ = some (.int .i64 p.n) ∧ V.cell? ⟨w.heap.size, 2, none⟩ = some (.int .i64 p.k) ∧ V.cell? ⟨w.heap.size, 3, none⟩ = some (.int .i64 p.t) ∧ V.cell? ⟨w.heap.size, 4, none⟩ = some (.int .i64 p.s) ∧ V.cell? ⟨w.heap.size, 5, none⟩ = some (.int .i64 p.e) ∧ V.cell? ⟨w.heap.size, 6, none⟩ = some (.int .i64 p.d) ∧ V.cell? ⟨w.heap.size, 7, none⟩ = some (.int .i64 p.w))) (by kernel_rfl) (by ((try dsimp only) <;> (first | with_reducible exact hS6 | with_reducible exact hS4 | with_reducible exact hS3 | with_reducible exact hS2 | with_reducible exact hS0))) (fun hHeld => ?_)
    (refine wpAnyH_take (i := 0) (oi := _) (v := ?v95) rfl (by kernel_rfl) (by kernel_rfl) (by kernel_rfl) (fun _ _ _ h => h) (Or.inl ⟨by rfl, ?hy95⟩) (by assumption) ?rest95; (case hy95 => (first | (intro w hSw; (try dsimp only at hSw); go_simp; done) | (intro w hSw; (try dsimp only at hSw); go_simp; with_reducible rfl))); (try simp only [Act.put, List.getElem_toArray, List.getElem_cons_succ, List.getElem_cons_zero, List.setIfInBounds_toArray, List.set_cons_zero, List.set_cons_succ]))
    (refine wpAnyH_take (i := 2) (oi := _) (v := ?v96) rfl (by kernel_rfl) (by kernel_rfl) (by kernel_rfl) (fun _ _ _ h => h) (Or.inl ⟨by rfl, ?hy96⟩) (by assumption) ?rest96; (case hy96 => (first | (intro w hSw; (try dsimp only at hSw); go_simp; done) | (intro w hSw; (try dsimp only at hSw); go_simp; with_reducible rfl))); (try simp only [Act.put, List.getElem_toArray, List.getElem_cons_succ, List.getElem_cons_zero, List.setIfInBounds_toArray, List.set_cons_zero, List.set_cons_succ]))
    (refine wpAnyH_take (i := 3) (oi := _) (v := ?v97) rfl (by kernel_rfl) (by kernel_rfl) (by kernel_rfl) (fun _ _ _ h => h) (Or.inl ⟨by rfl, ?hy97⟩) (by assumption) ?rest97; (case hy97 => (first | (intro w hSw; (try dsimp only at hSw); go_simp; done) | (intro w hSw; (try dsimp only at hSw); go_simp; with_reducible rfl))); (try simp only [Act.put, List.getElem_toArray, List.getElem_cons_succ, List.getElem_cons_zero, List.setIfInBounds_toArray, List.set_cons_zero, List.set_cons_succ]))
    (refine wpAnyH_take (i := 5) (oi := _) (v := ?v98) rfl (by kernel_rfl) (by kernel_rfl) (by kernel_rfl) (fun _ _ _ h => h) (Or.inl ⟨by rfl, ?hy98⟩) (by assumption) ?rest98; (case hy98 => (first | (intro w hSw; (try dsimp only at hSw); go_simp; done) | (intro w hSw; (try dsimp only at hSw); go_simp; with_reducible rfl))); (try simp only [Act.put, List.getElem_toArray, List.getElem_cons_succ, List.getElem_cons_zero, List.setIfInBounds_toArray, List.set_cons_zero, List.set_cons_succ]))
    (refine wpAnyH_take (i := 6) (oi := _) (v := ?v99) rfl (by kernel_rfl) (by kernel_rfl) (by kernel_rfl) (fun _ _ _ h => h) (Or.inl ⟨by rfl, ?hy99⟩) (by assumption) ?rest99; (case hy99 => (first | (intro w hSw; (try dsimp only at hSw); go_simp; done) | (intro w hSw; (try dsimp only at hSw); go_simp; with_reducible rfl))); (try simp only [Act.put, List.getElem_toArray, List.getElem_cons_succ, List.getElem_cons_zero, List.setIfInBounds_toArray, List.set_cons_zero, List.set_cons_succ]))
    (refine wpAnyH_take (i := 7) (oi := _) (v := ?v100) rfl (by kernel_rfl) (by kernel_rfl) (by kernel_rfl) (fun _ _ _ h => h) (Or.inl ⟨by rfl, ?hy100⟩) (by assumption) ?rest100; (case hy100 => (first | (intro w hSw; (try dsimp only at hSw); go_simp; done) | (intro w hSw; (try dsimp only at hSw); go_simp; with_reducible rfl))); (try simp only [Act.put, List.getElem_toArray, List.getElem_cons_succ, List.getElem_cons_zero, List.setIfInBounds_toArray, List.set_cons_zero, List.set_cons_succ]))
    refine wpAnyH_ready (rs := [1]) (by kernel_rfl) (by simp) ?_
    refine AllReadyH.cons (o := _) rfl (fun K hK => ?_) AllReadyH.nil
    try simp only [List.getElem_toArray, List.getElem_cons_succ, List.getElem_cons_zero]
    go_simp
    (first
          | (go_at_call 22; refine (HSt.out _).mono ?_; rintro e w2 ⟨rfl, hb2⟩; have hC2 := Below.next hC1 hb2; have hS2 := HS.out _ hC2)
          | (go_at_call 23; refine (HFi.out _ (Below.next hA hC2)).mono ?_; rintro e w3 ⟨v3, rfl, hO3, hb3⟩; have hC3 := Below.next hC2 hb3; have hS3 := HS.out _ hC3)
          | (go_at_call 21; refine (HEq.out _ _ _ (Below.next hA hC3) hO3).mono ?_; rintro e w4 ⟨g, zs, rfl, hO4, hb4, hE4⟩; have hC4 := Below.next hC3 hb4; have hS4 := HS.out _ hC4)
          | (go_at_call 24; refine (HSo.out _ _ _ _ hO4 hE4).mono ?_; rintro e w6 ⟨v6, us6, rfl, hM6, hG6⟩; have hgb := own_base hO4 g rfl; have hC6 := hC4.grown hG6 hC4.size (fun x hx => by injection hx with hx; have := hC3.size; omega); have hS6 := HS.out _ hC6; obtain ⟨a6, k6, rfl⟩ := own_form hM6.row; have HM6 := hide (hM6.low (Nat.le_trans hA.size hC4.size)); clear hM6))
    first | (refine hK.out _ _ (by ((try dsimp only) <;> (first | with_reducible exact hS6 | with_reducible exact hS4 | with_reducible exact hS3 | with_reducible exact hS2 | with_reducible exact hS0))) (fun hHeld => ?_)) | (go_wp2_with fail; refine hK.out _ _ (by ((try dsimp only) <;> (first | with_reducible exact hS6 | with_reducible exact hS4 | with_reducible exact hS3 | with_reducible exact hS2 | with_reducible exact hS0))) (fun hHeld => ?_))
    clear hK K
    (try simp only [Act.put, List.getElem_toArray, List.getElem_cons_succ, List.getElem_cons_zero, List.setIfInBounds_toArray, List.set_cons_zero, List.set_cons_succ])
    refine wpAnyH_ready (rs := [4]) (by kernel_rfl) (by simp) ?_
    refine AllReadyH.cons (o := _) rfl (fun K hK => ?_) AllReadyH.nil
    try simp only [List.getElem_toArray, List.getElem_cons_succ, List.getElem_cons_zero]
    go_simp
    (first
          | (go_at_call 22; refine (HSt.out _).mono ?_; rintro e w2 ⟨rfl, hb2⟩; have hC2 := Below.next hC1 hb2; have hS2 := HS.out _ hC2)
          | (go_at_call 23; refine (HFi.out _ (Below.next hA hC2)).mono ?_; rintro e w3 ⟨v3, rfl, hO3, hb3⟩; have hC3 := Below.next hC2 hb3; have hS3 := HS.out _ hC3)
          | (go_at_call 21; refine (HEq.out _ _ _ (Below.next hA hC3) hO3).mono ?_; rintro e w4 ⟨g, zs, rfl, hO4, hb4, hE4⟩; have hC4 := Below.next hC3 hb4; have hS4 := HS.out _ hC4)
          | (go_at_call 24; refine (HSo.out _ _ _ _ hO4 hE4).mono ?_; rintro e w6 ⟨v6, us6, rfl, hM6, hG6⟩; have hgb := own_base hO4 g rfl; have hC6 := hC4.grown hG6 hC4.size (fun x hx => by injection hx with hx; have := hC3.size; omega); have hS6 := HS.out _ hC6; obtain ⟨a6, k6, rfl⟩ := own_form hM6.row; have HM6 := hide (hM6.low (Nat.le_trans hA.size hC4.size)); clear hM6))
    first | (refine hK.out _ _ (by ((try dsimp only) <;> (first | with_reducible exact hS6 | with_reducible exact hS4 | with_reducible exact hS3 | with_reducible exact hS2 | with_reducible exact hS0))) (fun hHeld => ?_)) | (go_wp2_with fail; refine hK.out _ _ (by ((try dsimp only) <;> (first | with_reducible exact hS6 | with_reducible exact hS4 | with_reducible exact hS3 | with_reducible exact hS2 | with_reducible exact hS0))) (fun hHeld => ?_))
    clear hK K
    (try simp only [Act.put, List.getElem_toArray, List.getElem_cons_succ, List.getElem_cons_zero, List.setIfInBounds_toArray, List.set_cons_zero, List.set_cons_succ])
    refine wpAnyH_ready (rs := [8]) (by kernel_rfl) (by simp) ?_
    refine AllReadyH.cons (o := _) rfl (fun K hK => ?_) AllReadyH.nil
    try simp only [List.getElem_toArray, List.getElem_cons_succ, List.getElem_cons_zero]
    go_simp
    (first
          | (go_at_call 22; refine (HSt.out _).mono ?_; rintro e w2 ⟨rfl, hb2⟩; have hC2 := Below.next hC1 hb2; have hS2 := HS.out _ hC2)
          | (go_at_call 23; refine (HFi.out _ (Below.next hA hC2)).mono ?_; rintro e w3 ⟨v3, rfl, hO3, hb3⟩; have hC3 := Below.next hC2 hb3; have hS3 := HS.out _ hC3)
          | (go_at_call 21; refine (HEq.out _ _ _ (Below.next hA hC3) hO3).mono ?_; rintro e w4 ⟨g, zs, rfl, hO4, hb4, hE4⟩; have hC4 := Below.next hC3 hb4; have hS4 := HS.out _ hC4)
          | (go_at_call 24; refine (HSo.out _ _ _ _ hO4 hE4).mono ?_; rintro e w6 ⟨v6, us6, rfl, hM6, hG6⟩; have hgb := own_base hO4 g rfl; have hC6 := hC4.grown hG6 hC4.size (fun x hx => by injection hx with hx; have := hC3.size; omega); have hS6 := HS.out _ hC6; obtain ⟨a6, k6, rfl⟩ := own_form hM6.row; have HM6 := hide (hM6.low (Nat.le_trans hA.size hC4.size)); clear hM6))
    first | (refine hK.out _ _ (by ((try dsimp only) <;> (first | with_reducible exact hS6 | with_reducible exact hS4 | with_reducible exact hS3 | with_reducible exact hS2 | with_reducible exact hS0))) (fun hHeld => ?_)) | (go_wp2_with fail; refine hK.out _ _ (by ((try dsimp only) <;> (first | with_reducible exact hS6 | with_reducible exact hS4 | with_reducible exact hS3 | with_reducible exact hS2 | with_reducible exact hS0))) (fun hHeld => ?_))
    clear hK K
    (try simp only [Act.put, List.getElem_toArray, List.getElem_cons_succ, List.getElem_cons_zero, List.setIfInBounds_toArray, List.set_cons_zero, List.set_cons_succ])
    refine wpAnyH_ready (rs := [9]) (by kernel_rfl) (by simp) ?_
    refine AllReadyH.cons (o := _) rfl (fun K hK => ?_) AllReadyH.nil
    try simp only [List.getElem_toArray, List.getElem_cons_succ, List.getElem_cons_zero]
    go_simp
    (first
          | (go_at_call 22; refine (HSt.out _).mono ?_; rintro e w2 ⟨rfl, hb2⟩; have hC2 := Below.next hC1 hb2; have hS2 := HS.out _ hC2)
          | (go_at_call 23; refine (HFi.out _ (Below.next hA hC2)).mono ?_; rintro e w3 ⟨v3, rfl, hO3, hb3⟩; have hC3 := Below.next hC2 hb3; have hS3 := HS.out _ hC3)
          | (go_at_call 21; refine (HEq.out _ _ _ (Below.next hA hC3) hO3).mono ?_; rintro e w4 ⟨g, zs, rfl, hO4, hb4, hE4⟩; have hC4 := Below.next hC3 hb4; have hS4 := HS.out _ hC4)
          | (go_at_call 24; refine (HSo.out _ _ _ _ hO4 hE4).mono ?_; rintro e w6 ⟨v6, us6, rfl, hM6, hG6⟩; have hgb := own_base hO4 g rfl; have hC6 := hC4.grown hG6 hC4.size (fun x hx => by injection hx with hx; have := hC3.size; omega); have hS6 := HS.out _ hC6; obtain ⟨a6, k6, rfl⟩ := own_form hM6.row; have HM6 := hide (hM6.low (Nat.le_trans hA.size hC4.size)); clear hM6))
    first | (refine hK.out _ _ (by ((try dsimp only) <;> (first | with_reducible exact hS6 | with_reducible exact hS4 | with_reducible exact hS3 | with_reducible exact hS2 | with_reducible exact hS0))) (fun hHeld => ?_)) | (go_wp2_with fail; refine hK.out _ _ (by ((try dsimp only) <;> (first | with_reducible exact hS6 | with_reducible exact hS4 | with_reducible exact hS3 | with_reducible exact hS2 | with_reducible exact hS0))) (fun hHeld => ?_))
    clear hK K
    (try simp only [Act.put, List.getElem_toArray, List.getElem_cons_succ, List.getElem_cons_zero, List.setIfInBounds_toArray, List.set_cons_zero, List.set_cons_succ])
    (refine wpAnyH_take (i := 10) (oi := _) (v := ?v101) rfl (by kernel_rfl) (by kernel_rfl) (by kernel_rfl) (fun _ _ _ h => h) (Or.inl ⟨by rfl, ?hy101⟩) (by assumption) ?rest101; (case hy101 => (first | (intro w hSw; (try dsimp only at hSw); go_simp; done) | (intro w hSw; (try dsimp only at hSw); go_simp; with_reducible rfl))); (try simp only [Act.put, List.getElem_toArray, List.getElem_cons_succ, List.getElem_cons_zero, List.setIfInBounds_toArray, List.set_cons_zero, List.set_cons_succ]))
    (refine wpAnyH_take (i := 11) (oi := _) (v := ?v102) rfl (by kernel_rfl) (by kernel_rfl) (by kernel_rfl) (fun _ _ _ h => h) (Or.inl ⟨by rfl, ?hy102⟩) (by assumption) ?rest102; (case hy102 => (first | (intro w hSw; (try dsimp only at hSw); go_simp; done) | (intro w hSw; (try dsimp only at hSw); go_simp; with_reducible rfl))); (try simp only [Act.put, List.getElem_toArray, List.getElem_cons_succ, List.getElem_cons_zero, List.setIfInBounds_toArray, List.set_cons_zero, List.set_cons_succ]))
    refine wpAnyH_done (by kernel_rfl) ?_ _
    go_wp2
    go_ret2
    exact ⟨_, us6, rfl, HM6.out, Below.next hA hC6⟩
  · have ht : (twE p who dl pl ol != 0) = true := bne_iff_ne.2 hz
    have HV : Hid (twL p who dl pl ol = []) := by show _ = _; unfold twL; rw [if_neg hz]
    rw [HV.out]
    have hwl := h3.len
    obtain ⟨aw, cw, rfl, _⟩ := h3.spell
    obtain ⟨ad, cd, rfl, _, _, _⟩ := h1
    obtain ⟨ap, cp, rfl, _, _, _⟩ := h2
    obtain ⟨ao, co', rfl, _, _, _⟩ := h4
    clear hz pb h3 HV hp
    generalize twE p who dl pl ol = e0 at *
    generalize who.length = nw at *
    generalize dl.length = nd at *
    generalize pl.length = np at *
    generalize ol.length = no at *
    rw [plan_eq] at *
    show Calls _ _ _ _ _
    go_enter Tryz.func8, Tryz.ntmps8
    go_upto_region 1 with fail
    generalize w.alloc (.cells #[.int .u8 p.f, .int .i64 p.n, .int .i64 p.k, .int .i64 p.t, .int .i64 p.s, .int .i64 p.e, .int .i64 p.d, .int .i64 p.w] 24) = W0 at *
    go_wp2_with (go_at_call 20; refine (HK.out _ hA).mono ?_; rintro e w1 ⟨rfl, hb1⟩)
    go_ret2
    exact ⟨_, [], rfl, mtx_nil _ _, Below.next hA hb1⟩

end Go.Proofs.YtpbfgcepmbpkdaaGreat

namespace Go.Proofs.YtpbfgcepmbpkdaaGreat
open Go.RowKit Fld Pln Shr
set_option linter.unusedVariables false
set_option linter.unusedSimpArgs false

theorem lm_lit {W : World} {n : Nat} (hn : W.heap.size = n) (x : Int) (T : TypeId) : Lm iw 1 (W.alloc (.cells #[.int .i64 x] T)) (.slice (some ⟨n, 0, none⟩) 1 1) [x] := by
  subst hn
  refine ⟨_, _, rfl, ⟨by simp, by simp, fun h => by cases h⟩, fun _ => ⟨_, _, rfl, by simp, fun i y hy j u hu => ?_⟩⟩
  have hi : i = 0 := by have := (List.getElem?_eq_some_iff.1 hy).1; simp at this; omega
  have hj : j = 0 := by have := (List.getElem?_eq_some_iff.1 hu).1; rw [iw_len] at this; omega
  subst hi hj
  simp at hy
  subst hy
  simpa [iw, go_sem] using hu
theorem lit_case (w : World) (o : Obj) (I T S : TypeId) : Lm iw 1 ((((((((((w.alloc o).alloc (.cells #[.int .i64 0] I)).alloc (.cells #[.int .u64 5] T)).alloc (.cells #[.int .u64 7] T)).alloc (.cells #[.slice (some ⟨w.heap.size + 1 + 1, 0, none⟩) 1 1, .slice (some ⟨w.heap.size + 1 + 1 + 1, 0, none⟩) 1 1] S)).alloc (.cells #[.int .u64 9] T)).alloc (.cells #[.slice (some ⟨w.heap.size + 1 + 1 + 1 + 1 + 1, 0, none⟩) 1 1] S)).alloc (.cells #[.int .u64 0] T)).alloc (.cells #[.int .u64 0] T)).alloc (.cells #[.slice (some ⟨w.heap.size + 1 + 1 + 1 + 1 + 1 + 1 + 1, 0, none⟩) 1 1, .slice (some ⟨w.heap.size + 1 + 1 + 1 + 1 + 1 + 1 + 1 + 1, 0, none⟩) 1 1] S)) (.slice (some ⟨w.heap.size + 1, 0, none⟩) 1 1) [0] ∧
    Rws ((((((((((w.alloc o).alloc (.cells #[.int .i64 0] I)).alloc (.cells #[.int .u64 5] T)).alloc (.cells #[.int .u64 7] T)).alloc (.cells #[.slice (some ⟨w.heap.size + 1 + 1, 0, none⟩) 1 1, .slice (some ⟨w.heap.size + 1 + 1 + 1, 0, none⟩) 1 1] S)).alloc (.cells #[.int .u64 9] T)).alloc (.cells #[.slice (some ⟨w.heap.size + 1 + 1 + 1 + 1 + 1, 0, none⟩) 1 1] S)).alloc (.cells #[.int .u64 0] T)).alloc (.cells #[.int .u64 0] T)).alloc (.cells #[.slice (some ⟨w.heap.size + 1 + 1 + 1 + 1 + 1 + 1 + 1, 0, none⟩) 1 1, .slice (some ⟨w.heap.size + 1 + 1 + 1 + 1 + 1 + 1 + 1 + 1, 0, none⟩) 1 1] S)) (.slice (some ⟨w.heap.size + 1 + 1 + 1 + 1, 0, none⟩) 2 2) [[5], [7]] ∧
    Rws ((((((((((w.alloc o).alloc (.cells #[.int .i64 0] I)).alloc (.cells #[.int .u64 5] T)).alloc (.cells #[.int .u64 7] T)).alloc (.cells #[.slice (some ⟨w.heap.size + 1 + 1, 0, none⟩) 1 1, .slice (some ⟨w.heap.size + 1 + 1 + 1, 0, none⟩) 1 1] S)).alloc (.cells #[.int .u64 9] T)).alloc (.cells #[.slice (some ⟨w.heap.size + 1 + 1 + 1 + 1 + 1, 0, none⟩) 1 1] S)).alloc (.cells #[.int .u64 0] T)).alloc (.cells #[.int .u64 0] T)).alloc (.cells #[.slice (some ⟨w.heap.size + 1 + 1 + 1 + 1 + 1 + 1 + 1, 0, none⟩) 1 1, .slice (some ⟨w.heap.size + 1 + 1 + 1 + 1 + 1 + 1 + 1 + 1, 0, none⟩) 1 1] S)) (.slice (some ⟨w.heap.size + 1 + 1 + 1 + 1 + 1 + 1, 0, none⟩) 1 1) [[9]] ∧
    Rws ((((((((((w.alloc o).alloc (.cells #[.int .i64 0] I)).alloc (.cells #[.int .u64 5] T)).alloc (.cells #[.int .u64 7] T)).alloc (.cells #[.slice (some ⟨w.heap.size + 1 + 1, 0, none⟩) 1 1, .slice (some ⟨w.heap.size + 1 + 1 + 1, 0, none⟩) 1 1] S)).alloc (.cells #[.int .u64 9] T)).alloc (.cells #[.slice (some ⟨w.heap.size + 1 + 1 + 1 + 1 + 1, 0, none⟩) 1 1] S)).alloc (.cells #[.int .u64 0] T)).alloc (.cells #[.int .u64 0] T)).alloc (.cells #[.slice (some ⟨w.heap.size + 1 + 1 + 1 + 1 + 1 + 1 + 1, 0, none⟩) 1 1, .slice (some ⟨w.heap.size + 1 + 1 + 1 + 1 + 1 + 1 + 1 + 1, 0, none⟩) 1 1] S)) (.slice (some ⟨w.heap.size + 1 + 1 + 1 + 1 + 1 + 1 + 1 + 1 + 1, 0, none⟩) 2 2) [[0], [0]] ∧
    Below w.heap.size w ((((((((((w.alloc o).alloc (.cells #[.int .i64 0] I)).alloc (.cells #[.int .u64 5] T)).alloc (.cells #[.int .u64 7] T)).alloc (.cells #[.slice (some ⟨w.heap.size + 1 + 1, 0, none⟩) 1 1, .slice (some ⟨w.heap.size + 1 + 1 + 1, 0, none⟩) 1 1] S)).alloc (.cells #[.int .u64 9] T)).alloc (.cells #[.slice (some ⟨w.heap.size + 1 + 1 + 1 + 1 + 1, 0, none⟩) 1 1] S)).alloc (.cells #[.int .u64 0] T)).alloc (.cells #[.int .u64 0] T)).alloc (.cells #[.slice (some ⟨w.heap.size + 1 + 1 + 1 + 1 + 1 + 1 + 1, 0, none⟩) 1 1, .slice (some ⟨w.heap.size + 1 + 1 + 1 + 1 + 1 + 1 + 1 + 1, 0, none⟩) 1 1] S)) := by
  have s1 := size_alloc (W := w) rfl (o)
  have s2 := size_alloc s1 (.cells #[.int .i64 0] I)
  have s3 := size_alloc s2 (.cells #[.int .u64 5] T)
  have s4 := size_alloc s3 (.cells #[.int .u64 7] T)
  have s5 := size_alloc s4 (.cells #[.slice (some ⟨w.heap.size + 1 + 1, 0, none⟩) 1 1, .slice (some ⟨w.heap.size + 1 + 1 + 1, 0, none⟩) 1 1] S)
  have s6 := size_alloc s5 (.cells #[.int .u64 9] T)
  have s7 := size_alloc s6 (.cells #[.slice (some ⟨w.heap.size + 1 + 1 + 1 + 1 + 1, 0, none⟩) 1 1] S)
  have s8 := size_alloc s7 (.cells #[.int .u64 0] T)
  have s9 := size_alloc s8 (.cells #[.int .u64 0] T)
  have r1 := lm_lit s1 0 I
  have r2 := rw_lit s2 5 (by decide) T
  have r3 := rw_lit s3 7 (by decide) T
  have r4 := rws_lit2 s4 (r2.below (alloc_below _ _)) r3 S
  have r5 := rw_lit s5 9 (by decide) T
  have r6 := rws_lit1 s6 r5 S
  have r7 := rw_lit s7 0 (by decide) T
  have r8 := rw_lit s8 0 (by decide) T
  have r9 := rws_lit2 s9 (r7.below (alloc_below _ _)) r8 S
  exact ⟨((((((((r1.below (alloc_below _ _)).below (alloc_below _ _)).below (alloc_below _ _)).below (alloc_below _ _)).below (alloc_below _ _)).below (alloc_below _ _)).below (alloc_below _ _)).below (alloc_below _ _)), (((((r4.below (alloc_below _ _)).below (alloc_below _ _)).below (alloc_below _ _)).below (alloc_below _ _)).below (alloc_below _ _)), (((r6.below (alloc_below _ _)).below (alloc_below _ _)).below (alloc_below _ _)), r9, Below.next (Below.next (Below.next (Below.next (Below.next (Below.next (Below.next (Below.next (Below.next (alloc_below _ _) (alloc_below _ _)) (alloc_below _ _)) (alloc_below _ _)) (alloc_below _ _)) (alloc_below _ _)) (alloc_below _ _)) (alloc_below _ _)) (alloc_below _ _)) (alloc_below _ _)⟩
theorem four_tw : twE fourP [0] [[5], [7]] [[9]] [[0], [0]] = 0 := by decide +kernel
theorem four_fx : fxL fourP [0] = [3] ∧ pts 0 fourP.k.toNat = [0, 1] ∧ pts fourP.k fourP.t.toNat = [2] := by decide +kernel
theorem four_twp : twp 2013265921 [0, 1] [2] [3] [[5], [7]] [[9]] [[0], [0]] 0 = [0, 1677721599, 335544322] := by
  have hm := fi_one.md
  have e : twp 2013265921 [0, 1] [2] [3] [[5], [7]] [[9]] [[0], [0]] 0 = tp 2013265921 [0, 1, 3] [0, 0, 11] [(0 : Int), 1, 3].length := by
    show tp 2013265921 [0, 1, 3] ([0, 0] ++ [vl 2013265921 3 (py 2013265921 [0, 1, 2] [[5], [7], [9]] 0)]) _ = _
    rw [four_py]
    have : vl 2013265921 3 [5, 2] = 11 := by decide +kernel
    rw [this]; rfl
  rw [e]
  refine Thr.only hm (xs := [0, 1, 3]) (ys := [0, 0, 11]) (by unfold Els El; decide) (by decide) (tp_thr hm (by unfold Els El; decide) (by unfold Els El; decide) (by decide)) ⟨⟨by unfold Els El; decide, by decide +kernel⟩, by decide, fun i hi => ?_⟩
  have : i = 0 ∨ i = 1 ∨ i = 2 := by simp at hi; omega
  rcases this with rfl | rfl | rfl <;> decide +kernel
theorem four_twl : twL fourP [0] [[5], [7]] [[9]] [[0], [0]] = [[671088644]] := by
  unfold twL
  rw [if_pos four_tw, four_fx.1, four_fx.2.1, four_fx.2.2, show pOf fourP.f = 2013265921 from rfl]
  show [[vl 2013265921 2 (twp 2013265921 [0, 1] [2] [3] [[5], [7]] [[9]] [[0], [0]] 0)]] = _
  rw [four_twp]
  decide +kernel
theorem lit_one (w : World) (T S : TypeId) : Rws ((w.alloc (.cells #[.int .u64 671088644] T)).alloc (.cells #[.slice (some ⟨w.heap.size, 0, none⟩) 1 1] S)) (.slice (some ⟨w.heap.size + 1, 0, none⟩) 1 1) [[671088644]] ∧ Below w.heap.size w ((w.alloc (.cells #[.int .u64 671088644] T)).alloc (.cells #[.slice (some ⟨w.heap.size, 0, none⟩) 1 1] S)) :=
  ⟨rws_lit1 (size_alloc (W := w) rfl _) (rw_lit (W := w) rfl 671088644 (by decide) T) S, Below.next (alloc_below _ _) (alloc_below _ _)⟩

set_option maxRecDepth 100000 in
set_option maxHeartbeats 400000 in
theorem anch15 : Ans 11 #[] (.bool true) := by
  intro w
  have HA := hide (fun W vw v1 v2 v3 h0 h1 h2 h3 => gTwin fourP vw v1 v2 v3 [0] [[5], [7]] [[9]] [[0], [0]] W four_ok.1 h0 h1 h2 h3)
  unfold GivesM at HA
  rw [four_tw, four_twl, plan_eq] at HA
  have HD := hide (fun o I T S => lit_case w o I T S)
  have HL := hide (fun W T S => lit_one W T S)
  unfold fourP at HA
  dsimp only at HA
  go_enter Tryz.func11, Tryz.ntmps11
  go_wp2_with (first
    | (go_at_call 8; refine (HA.out _ _ _ _ _ (HD.out _ _ _ _).1 (HD.out _ _ _ _).2.1 (HD.out _ _ _ _).2.2.1 (HD.out _ _ _ _).2.2.2.1).mono ?_; rintro e w1 ⟨v1, us1, rfl, hM1, hb1⟩; have hB1 := Below.next (HD.out _ _ _ _).2.2.2.2 hb1; have r1 := hide (hM1.rws (getD_wd (by unfold Wd; decide)) (by simp)); obtain ⟨a1, k1, rfl⟩ := own_form hM1.row; clear hM1)
    | (go_at_call 10; refine (Rows_h _ _ _ _ (r1.out.below (HL.out _ _ _).2) (HL.out _ _ _).1).mono ?_; rintro e w2 ⟨rfl, hb2⟩; have hB2 := Below.next (Below.next hB1 (HL.out _ _ _).2) hb2))
  go_ret
  exact ⟨rfl, hB2⟩

/-- A plan and a case, boxed one behind the other. -/
theorem case_box (w : World) (p : Pn) (v1 v2 v3 : Value) (T : TypeId) : ∃ W1, (w.alloc (.cells #[.int .u8 p.f, .int .i64 p.n, .int .i64 p.k, .int .i64 p.t, .int .i64 p.s, .int .i64 p.e, .int .i64 p.d, .int .i64 p.w] 24)).alloc (.cells #[v1, v2, v3] T) = W1 ∧ Below w.heap.size w W1 ∧ ∀ W, Below W1.heap.size W1 W → (W.cell? ⟨w.heap.size, 0, none⟩ = some (.int .u8 p.f) ∧ W.cell? ⟨w.heap.size, 1, none⟩ = some (.int .i64 p.n) ∧ W.cell? ⟨w.heap.size, 2, none⟩ = some (.int .i64 p.k) ∧ W.cell? ⟨w.heap.size, 3, none⟩ = some (.int .i64 p.t) ∧ W.cell? ⟨w.heap.size, 4, none⟩ = some (.int .i64 p.s) ∧ W.cell? ⟨w.heap.size, 5, none⟩ = some (.int .i64 p.e) ∧ W.cell? ⟨w.heap.size, 6, none⟩ = some (.int .i64 p.d) ∧ W.cell? ⟨w.heap.size, 7, none⟩ = some (.int .i64 p.w)) ∧ W.cell? ⟨w.heap.size + 1, 0, none⟩ = some v1 ∧ W.cell? ⟨w.heap.size + 1, 1, none⟩ = some v2 ∧ W.cell? ⟨w.heap.size + 1, 2, none⟩ = some v3 := by
  obtain ⟨pb, hA⟩ := pb_box (w := w) p
  refine ⟨_, rfl, Below.next hA (alloc_below _ _), fun W hb => ⟨((pb.below (alloc_below _ _)).below hb).cells, ?_, ?_, ?_⟩⟩
  · exact (hb.cell (p := ⟨w.heap.size + 1, 0, none⟩) (by simp)).trans (by simp [go_sem])
  · exact (hb.cell (p := ⟨w.heap.size + 1, 1, none⟩) (by simp)).trans (by simp [go_sem])
  · exact (hb.cell (p := ⟨w.heap.size + 1, 2, none⟩) (by simp)).trans (by simp [go_sem])

end Go.Proofs.YtpbfgcepmbpkdaaGreat

