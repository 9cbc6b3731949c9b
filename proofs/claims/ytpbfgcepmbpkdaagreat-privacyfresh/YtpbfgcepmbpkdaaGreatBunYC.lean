/- Texts laid together: PriC, PriD, PriE. -/
import Derived.Test.YtpbfgcepmbpkdaaGreatBunYB
import Derived.Test.YtpbfgcepmbpkdaaGreatBunHC
import Derived.Test.YtpbfgcepmbpkdaaGreatBunYA
import Derived.Test.YtpbfgcepmbpkdaaGreatBShaM
namespace Go.Proofs.YtpbfgcepmbpkdaaGreat
open Go.RowKit Fld Pln Shr
set_option linter.unusedVariables false
set_option linter.unusedSimpArgs false

/-- What is known where Twin has no error. -/
structure Twf (p : Pn) (who : List Int) (dl pl ol : List (List Int)) (q : Int) (wd : Bool) : Prop where
  may : mayP p = true
  fi : Fi p.f q wd
  pts : Pts q (pts 0 p.k.toNat) (pts p.k p.t.toNat) (fxL p who)
  ed : ∀ b ∈ dl, Els q b
  ep : ∀ b ∈ pl, Els q b
  eo : ∀ b ∈ ol, Els q b
  ld : dl.length = p.k.toNat
  lp : pl.length = p.t.toNat
  lo : ol.length = p.k.toNat
  wd_ : ∀ b ∈ dl, b.length = p.w.toNat
  wp : ∀ b ∈ pl, b.length = p.w.toNat
  wo : ∀ b ∈ ol, b.length = p.w.toNat
  who_ : ∀ x ∈ who, 0 ≤ x ∧ x < p.n
  len : (who.length : Int) ≤ p.t
  nd : who.Nodup
  eq : twL p who dl pl ol = twin q (Go.Proofs.YtpbfgcepmbpkdaaGreat.pts 0 p.k.toNat) (Go.Proofs.YtpbfgcepmbpkdaaGreat.pts p.k p.t.toNat) (fxL p who) p.w.toNat dl pl ol
theorem tw_facts {p : Pn} {who : List Int} {dl pl ol : List (List Int)} (hz : twE p who dl pl ol = 0) (w1 : ∀ b ∈ dl, Wd b) (w2 : ∀ b ∈ pl, Wd b) (w3 : ∀ b ∈ ol, Wd b) : ∃ q wd, Twf p who dl pl ol q wd := by
  obtain ⟨⟨z1, z2⟩, hw, hl, hn⟩ := tw_zero.1 hz
  obtain ⟨q, wd, hm, hf, e1, l1, d1, p1, _⟩ := bk_facts z1 w1 w2
  obtain ⟨q', wd', _, hf', e2, l2, d2, p2, _⟩ := bk_facts z2 w3 w2
  have hq : q' = q := by rw [← pOf_eq hf', pOf_eq hf]
  subst hq
  exact ⟨q', wd, hm, hf, fx_pts hm hf hw hl hn, fun b hb => e1 b (List.mem_append_left _ hb), fun b hb => e1 b (List.mem_append_right _ hb), fun b hb => e2 b (List.mem_append_left _ hb), d1, p1, d2, fun b hb => l1 b (List.mem_append_left _ hb), fun b hb => l1 b (List.mem_append_right _ hb), fun b hb => l2 b (List.mem_append_left _ hb), hw, hl, hn, by unfold twL; rw [if_pos hz, pOf_eq hf]⟩
theorem Twf.bk {p : Pn} {q : Int} {wd : Bool} (hm : mayP p = true) (hf : Fi p.f q wd) {dl pl : List (List Int)} (ed : ∀ b ∈ dl, Els q b) (ep : ∀ b ∈ pl, Els q b) (ld : dl.length = p.k.toNat) (lp : pl.length = p.t.toNat) (wd_ : ∀ b ∈ dl, b.length = p.w.toNat) (wp : ∀ b ∈ pl, b.length = p.w.toNat) : bkE p dl pl [] = 0 := by
  obtain ⟨⟨n0, n1⟩, ⟨k0, k1⟩, ⟨t0, t1⟩, _, _, _, w0, w1'⟩ := may_facts hm
  have e1 : elsB p.f dl = true := (elsB_iff hf).2 (fun b hb => allIn_of (ed b hb))
  have e2 : elsB p.f pl = true := (elsB_iff hf).2 (fun b hb => allIn_of (ep b hb))
  have e3 : blkB p.w p.k dl = true := blkB_iff.2 ⟨fun b hb => by have := wd_ b hb; omega, by omega⟩
  have e4 : blkB p.w p.t pl = true := blkB_iff.2 ⟨fun b hb => by have := wp b hb; omega, by omega⟩
  rw [bk_none, hm, e1, e2, e3, e4]
  rfl
/-- What the twin is. -/
theorem Twf.twin {p : Pn} {who : List Int} {dl pl ol : List (List Int)} {q : Int} {wd : Bool} (h : Twf p who dl pl ol q wd) : (∀ b ∈ twL p who dl pl ol, Els q b) ∧ (∀ b ∈ twL p who dl pl ol, b.length = p.w.toNat) ∧ (twL p who dl pl ol).length = p.t.toNat := by
  rw [h.eq]
  exact ⟨twin_els h.fi.pos, twin_wide, by rw [twin_len, pts_len]⟩
theorem Twf.bk_other {p : Pn} {who : List Int} {dl pl ol : List (List Int)} {q : Int} {wd : Bool} (h : Twf p who dl pl ol q wd) : bkE p ol (twL p who dl pl ol) [] = 0 :=
  Twf.bk h.may h.fi h.eo h.twin.1 h.lo h.twin.2.2 h.wo h.twin.2.1
theorem all_at {p : Pn} {q : Int} {wd : Bool} (hf : Fi p.f q wd) {dl pl : List (List Int)} (hz : bkE p dl pl [] = 0) {i : Int} (h0 : 0 ≤ i) (h1 : i < p.n) : (allL p dl pl).getD i.toNat [] = shr q (innL p) p.w.toNat (dl ++ pl) (p.k + p.t + i) := by
  unfold allL outL
  rw [if_pos hz, pOf_eq hf, List.getD_eq_getElem?_getD, List.getElem?_map]
  have hl : i.toNat < (pts (p.k + p.t) p.n.toNat).length := by rw [pts_len]; omega
  have e := pts_at (p.k + p.t) (n := p.n.toNat) (i := i.toNat) (by omega)
  rw [List.getD_eq_getElem?_getD, List.getElem?_eq_getElem hl] at e
  rw [List.getElem?_eq_getElem hl]
  show shr _ _ _ _ _ = _
  rw [show (pts (p.k + p.t) p.n.toNat)[i.toNat] = p.k + p.t + i by simpa [Int.toNat_of_nonneg h0] using e]
/-- The named workers' shares are the same. -/
theorem Twf.same {p : Pn} {who : List Int} {dl pl ol : List (List Int)} {q : Int} {wd : Bool} (h : Twf p who dl pl ol q wd) (hz : bkE p dl pl [] = 0) {i : Int} (hi : i ∈ who) : (allL p ol (twL p who dl pl ol)).getD i.toNat [] = (allL p dl pl).getD i.toNat [] := by
  obtain ⟨h0, h1⟩ := h.who_ i hi
  rw [all_at h.fi h.bk_other h0 h1, all_at h.fi hz h0 h1, h.eq, ← inn_app h.may]
  refine twin_same h.fi.md h.pts h.eo (by rw [pts_len]; exact h.lo) ?_
  unfold fxL
  exact List.mem_map.2 ⟨i, List.mem_append_left _ hi, rfl⟩
/-- Words, and not too many. -/
theorem tw_wd {p : Pn} {who : List Int} {dl pl ol : List (List Int)} (w1 : ∀ b ∈ dl, Wd b) (w2 : ∀ b ∈ pl, Wd b) (w3 : ∀ b ∈ ol, Wd b) : (∀ b ∈ twL p who dl pl ol, Wd b) ∧ (twL p who dl pl ol).length ≤ 64 := by
  by_cases hz : twE p who dl pl ol = 0
  · obtain ⟨q, wd, h⟩ := tw_facts hz w1 w2 w3
    obtain ⟨⟨n0, n1⟩, ⟨k0, k1⟩, ⟨t0, t1⟩, _, _, _, w0, w1'⟩ := may_facts h.may
    obtain ⟨a, b, c⟩ := h.twin
    exact ⟨fun x hx => wd_els (a x hx) h.fi.top (by rw [b x hx]; omega), by omega⟩
  · unfold twL; rw [if_neg hz]; exact ⟨fun b hb => (by cases hb), by simp⟩
theorem se_wd {p : Pn} {who : List Int} {dl pl : List (List Int)} (hA : ∀ i, Wd ((allL p dl pl).getD i [])) : (∀ b ∈ seL p who dl pl, Wd b) ∧ (seL p who dl pl).length ≤ 64 := by
  unfold seL
  split
  · rename_i hz
    obtain ⟨z, hw, hl, hn⟩ := se_zero.1 hz
    obtain ⟨hm, _⟩ := bk_zero z
    obtain ⟨⟨n0, n1⟩, ⟨k0, k1⟩, ⟨t0, t1⟩, _⟩ := may_facts hm
    refine ⟨fun b hb => ?_, by rw [List.length_map]; omega⟩
    obtain ⟨i, _, rfl⟩ := List.mem_map.1 hb
    exact hA _
  · exact ⟨fun b hb => (by cases hb), by simp⟩

end Go.Proofs.YtpbfgcepmbpkdaaGreat

namespace Go.Proofs.YtpbfgcepmbpkdaaGreat
open Go.RowKit Fld Pln Shr Rnk
set_option linter.unusedVariables false
set_option linter.unusedSimpArgs false

/-- A block less another one. -/
def chg (q : Int) (w : Nat) (a b : List Int) : List Int := seg a 0 w (fun t => sub q (co a (0 + t)) (mul q 1 (co b t)))
def chL (q : Int) (w : Nat) (dl ol : List (List Int)) : List (List Int) := mkl dl.length (fun r => chg q w (dl.getD r []) (ol.getD r []))
theorem chL_len (q : Int) (w : Nat) (dl ol : List (List Int)) : (chL q w dl ol).length = dl.length := mkl_len _ _
theorem chg_len (q : Int) (w : Nat) (a b : List Int) : (chg q w a b).length = a.length := seg_len _ _ _ _
theorem getD_memP {l : List (List Int)} {P : List Int → Prop} (h : ∀ b ∈ l, P b) {i : Nat} (hi : i < l.length) : P (l.getD i []) := h _ (getD_memA [] hi)
theorem chL_mem {q : Int} {w : Nat} {dl ol : List (List Int)} {b : List Int} (hb : b ∈ chL q w dl ol) : ∃ r, r < dl.length ∧ b = chg q w (dl.getD r []) (ol.getD r []) := by
  unfold chL mkl at hb
  obtain ⟨r, hr, rfl⟩ := List.mem_map.1 hb
  exact ⟨r, List.mem_range.1 hr, rfl⟩
theorem chg_els {q : Int} (hq : 0 < q) {w : Nat} {a b : List Int} (ha : Els q a) : Els q (chg q w a b) := seg_els hq ha (fun k _ => sub_el hq)
theorem chL_els {q : Int} (hq : 0 < q) {w : Nat} {dl ol : List (List Int)} (hd : ∀ b ∈ dl, Els q b) : ∀ b ∈ chL q w dl ol, Els q b := fun b hb => by
  obtain ⟨r, hr, rfl⟩ := chL_mem hb
  exact chg_els hq (getD_memP (P := Els q) hd hr)
theorem chL_wide {q : Int} {w n : Nat} {dl ol : List (List Int)} (hd : ∀ b ∈ dl, b.length = n) : ∀ b ∈ chL q w dl ol, b.length = n := fun b hb => by
  obtain ⟨r, hr, rfl⟩ := chL_mem hb
  rw [chg_len]; exact getD_memP (P := fun b => b.length = n) hd hr
theorem chL_at {q : Int} {w : Nat} {dl ol : List (List Int)} {r t : Nat} (hr : r < dl.length) (ht : t < w) (hl : w ≤ (dl.getD r []).length) : q ∣ co ((chL q w dl ol).getD r []) t - (co (dl.getD r []) t - co (ol.getD r []) t) := by
  unfold chL
  rw [mkl_at _ hr]
  unfold chg
  rw [seg_co (by omega), if_pos (by omega), Nat.zero_add, Nat.sub_zero]
  unfold sub mul
  rw [Int.one_mul]
  have a1 := mod_dvd q (co (dl.getD r []) t - co (ol.getD r []) t % q)
  have a2 := (Int.dvd_neg).2 (mod_dvd q (co (ol.getD r []) t))
  have := Int.dvd_add a1 a2
  rwa [show (co (dl.getD r []) t - co (ol.getD r []) t % q) % q - (co (dl.getD r []) t - co (ol.getD r []) t % q) + -(co (ol.getD r []) t % q - co (ol.getD r []) t) = (co (dl.getD r []) t - co (ol.getD r []) t % q) % q - (co (dl.getD r []) t - co (ol.getD r []) t) by omega] at this
theorem co_col (bl : List (List Int)) (t : Nat) {k : Nat} (hk : k < bl.length) : co (col bl t) k = co (bl.getD k []) t := by
  rw [col_at hk, List.getD_eq_getElem?_getD, List.getElem?_eq_getElem hk]; rfl
theorem getD_left {a b : List (List Int)} {k : Nat} (h : k < a.length) : (a ++ b).getD k [] = a.getD k [] := by rw [getD_app, if_pos h]
theorem getD_right {a b : List (List Int)} {k : Nat} : (a ++ b).getD (a.length + k) [] = b.getD k [] := by rw [getD_app, if_neg (by omega), Nat.add_sub_cancel_left]
/-- A share as two sums. -/
theorem shr_two {q : Int} {wd : Bool} (hm : Md q wd) {xs : List Int} (hx : Els q xs) (hn : xs.Nodup) {w : Nat} {a b : List (List Int)} (ha : ∀ l ∈ a, Els q l) (hb : ∀ l ∈ b, Els q l) (hl : xs.length = a.length + b.length) (x : Int) {t : Nat} (ht : t < w) :
    q ∣ co (shr q xs w (a ++ b) x) t - (sm (fun k => bs q xs x k * co (a.getD k []) t) a.length + sm (fun k => bs q xs x (a.length + k) * co (b.getD k []) t) b.length) := by
  rw [shr_row hm hx hn (bl_app ha hb) x ht]
  have h1 := ds_sm q (bs q xs x) (co (col (a ++ b) t)) xs.length
  have e : sm (fun k => bs q xs x k * co (col (a ++ b) t) k) xs.length = sm (fun k => bs q xs x k * co (a.getD k []) t) a.length + sm (fun k => bs q xs x (a.length + k) * co (b.getD k []) t) b.length := by
    rw [hl, sm_split]
    congr 1
    · exact sm_congr (fun k hk => by rw [co_col _ _ (by rw [List.length_append]; omega), getD_left hk])
    · exact sm_congr (fun k hk => by
        show bs q xs x (a.length + k) * co (col (a ++ b) t) (a.length + k) = _
        rw [co_col _ _ (by rw [List.length_append]; omega), getD_right])
  rwa [e] at h1
/-- What the entries of the equations are. -/
def eqB (q : Int) (xs fx : List Int) (K T : Nat) (rt : List (List Int)) (r m : Nat) : Int := if m < T then bs q xs (co fx r) (K + m) else co (rt.getD r []) (m - T)
theorem twin_ev {q : Int} {wd : Bool} (hm : Md q wd) {zs ts fx : List Int} (h : Pts q zs ts fx) {W s : Nat} {dl pl ol : List (List Int)} (hd : ∀ l ∈ dl, Els q l) (hpa : ∀ l ∈ pl, Els q l) (ho : ∀ l ∈ ol, Els q l) (ld : dl.length = zs.length) (lp : pl.length = ts.length) (lo : ol.length = zs.length) (wd_ : ∀ l ∈ dl, l.length = W)
    (hnf : ∀ x ∈ fx, x ∉ zs ++ ts) (hs : s = ts.length + W) {es : List Int} (hel : Els q es) (hlen : es.length = ts.length * s)
    (hE : ∀ r m, r < ts.length → m < s → fl s es r m = eqB q (zs ++ ts) fx zs.length ts.length (fx.map (shr q (zs ++ ts) W (chL q W dl ol ++ pl))) r m) :
    Ev q ts.length W s (fun r t => co ((twin q zs ts fx W dl pl ol).getD r []) t) 0 es := by
  have hq : 0 < q := by have := hm.bounds; omega
  have hxs := els_app h.ez h.et
  have hfl := h.len
  have htw : ∀ l ∈ twin q zs ts fx W dl pl ol, Els q l := twin_els hq
  have lt : (twin q zs ts fx W dl pl ol).length = ts.length := twin_len _ _ _ _ _ _ _ _
  have lx : (zs ++ ts).length = zs.length + ts.length := List.length_append
  have lc : (chL q W dl ol).length = zs.length := by rw [chL_len, ld]
  refine ⟨hel, hlen, ⟨fun r m hr hm' => hel.co hq _, fun n hn => ?_, fun r m _ hm' => absurd hm' (by omega), fun r w hr hw => ?_⟩⟩
  · have hw : Els q (fx.take n) := fun x hx => h.ef x (List.mem_of_mem_take hx)
    have hv : (fx.take n).Nodup := ((List.nodup_append.1 h.n2).2.1).sublist (List.take_sublist n fx)
    have hln : (fx.take n).length = n := by rw [List.length_take]; omega
    have := bs_mid hm hxs h.n1 hw hv (a := zs.length) (by rw [hln, lx]; omega) (fun x hx => hnf x (List.mem_of_mem_take hx))
    rw [hln] at this
    refine ind_part (fun k m hk hm' => ?_) this
    rw [hE k m (by omega) (by omega)]
    unfold eqB
    rw [if_pos (by omega)]
    have : co (fx.take n) k = co fx k := by
      unfold co
      rw [List.getD_eq_getElem?_getD, List.getD_eq_getElem?_getD, List.getElem?_take_of_lt hk]
    rw [this]
  · have hrf : r < fx.length := by omega
    have e1 : fl s es r (ts.length + w) = co (shr q (zs ++ ts) W (chL q W dl ol ++ pl) (co fx r)) w := by
      rw [hE r (ts.length + w) hr (by omega)]
      unfold eqB
      rw [if_neg (by omega), Nat.add_sub_cancel_left, List.getD_eq_getElem?_getD, List.getElem?_map, List.getElem?_eq_getElem hrf, co_at hrf]
      rfl
    have e2 : sm (fun t => fl s es r t * co ((twin q zs ts fx W dl pl ol).getD t []) w) ts.length = sm (fun t => bs q (zs ++ ts) (co fx r) (zs.length + t) * co ((twin q zs ts fx W dl pl ol).getD t []) w) ts.length := sm_congr (fun t ht => by
      rw [hE r t hr (by omega)]
      unfold eqB
      rw [if_pos ht])
    show q ∣ sm (fun t => fl s es r t * co ((twin q zs ts fx W dl pl ol).getD t []) w) ts.length - fl s es r (ts.length + w)
    rw [e1, e2]
    have hsame := twin_same hm h (w := W) (da := dl) (pa := pl) (ot := ol) ho lo (x := co fx r) (by rw [co_at hrf]; exact List.getElem_mem hrf)
    have s1 := shr_two hm hxs h.n1 ho htw (by rw [lx, lo, lt]) (co fx r) hw
    have s2 := shr_two hm hxs h.n1 hd hpa (by rw [lx, ld, lp]) (co fx r) hw
    have s3 := shr_two hm hxs h.n1 (chL_els hq (w := W) (ol := ol) hd) hpa (by rw [lx, lc, lp]) (co fx r) hw
    rw [hsame] at s1
    rw [lo, lt] at s1
    rw [ld, lp] at s2
    rw [lc, lp] at s3
    -- the change, block by block
    have s4 : q ∣ sm (fun k => bs q (zs ++ ts) (co fx r) k * co ((chL q W dl ol).getD k []) w) zs.length - sm (fun k => bs q (zs ++ ts) (co fx r) k * co (dl.getD k []) w + -(bs q (zs ++ ts) (co fx r) k * co (ol.getD k []) w)) zs.length := sm_dvd (fun k hk => by
      have := chL_at (q := q) (w := W) (dl := dl) (ol := ol) (r := k) (t := w) (by omega) hw (by rw [getD_memP (P := fun b => b.length = W) wd_ (by omega)]; exact Nat.le_refl _)
      have := Int.dvd_trans this (Int.dvd_mul_left (bs q (zs ++ ts) (co fx r) k) _)
      rwa [Int.mul_sub, Int.mul_sub, show bs q (zs ++ ts) (co fx r) k * co ((chL q W dl ol).getD k []) w - (bs q (zs ++ ts) (co fx r) k * co (dl.getD k []) w - bs q (zs ++ ts) (co fx r) k * co (ol.getD k []) w) = bs q (zs ++ ts) (co fx r) k * co ((chL q W dl ol).getD k []) w - (bs q (zs ++ ts) (co fx r) k * co (dl.getD k []) w + -(bs q (zs ++ ts) (co fx r) k * co (ol.getD k []) w)) by omega] at this)
    rw [sm_add] at s4
    have s5 : sm (fun k => -(bs q (zs ++ ts) (co fx r) k * co (ol.getD k []) w)) zs.length = -sm (fun k => bs q (zs ++ ts) (co fx r) k * co (ol.getD k []) w) zs.length := by
      have := sm_times (-1) (fun k => bs q (zs ++ ts) (co fx r) k * co (ol.getD k []) w) zs.length
      rw [Int.neg_mul, Int.one_mul] at this
      rw [this]
      exact sm_congr (fun t ht => by rw [Int.neg_mul, Int.one_mul])
    rw [s5] at s4
    generalize co (shr q (zs ++ ts) W (dl ++ pl) (co fx r)) w = y1 at *
    generalize co (shr q (zs ++ ts) W (chL q W dl ol ++ pl) (co fx r)) w = y2 at *
    generalize sm (fun k => bs q (zs ++ ts) (co fx r) k * co (ol.getD k []) w) zs.length = a1 at *
    generalize sm (fun k => bs q (zs ++ ts) (co fx r) k * co (dl.getD k []) w) zs.length = a2 at *
    generalize sm (fun k => bs q (zs ++ ts) (co fx r) k * co ((chL q W dl ol).getD k []) w) zs.length = a3 at *
    generalize sm (fun k => bs q (zs ++ ts) (co fx r) (zs.length + k) * co (pl.getD k []) w) ts.length = b2 at *
    generalize sm (fun k => bs q (zs ++ ts) (co fx r) (zs.length + k) * co ((twin q zs ts fx W dl pl ol).getD k []) w) ts.length = b1 at *
    have f1 := Int.dvd_sub (Int.dvd_sub s2 s1) s3
    have f2 := Int.dvd_sub f1 s4
    rwa [show y1 - (a2 + b2) - (y1 - (a1 + b1)) - (y2 - (a3 + b2)) - (a3 - (a2 + -a1)) = b1 - y2 by omega] at f2

end Go.Proofs.YtpbfgcepmbpkdaaGreat

namespace Go.Proofs.YtpbfgcepmbpkdaaGreat
open Go.RowKit Fld Pln Shr
set_option linter.unusedVariables false
set_option linter.unusedSimpArgs false

/-- The elements through which it goes. -/
def tdX (p : Pn) (who : List Int) : List Int := pts 0 p.k.toNat ++ fxL p who
def tdV (p : Pn) (dl pl : List (List Int)) (m : Nat) (x : Int) : Int := valE p.f x ((polL p dl pl).getD m [])
def tdY (p : Pn) (who : List Int) (dl pl ol : List (List Int)) (m : Nat) : List Int := col ol m ++ (fxL p who).map (tdV p dl pl m)
def tdQ (p : Pn) (who : List Int) (dl pl ol : List (List Int)) (m : Nat) : List Int := thrL p.f (tdX p who) (tdY p who dl pl ol m)
def tdR (p : Pn) (who : List Int) (dl pl ol : List (List Int)) (m r : Nat) : Int := valE p.f (p.k + (r : Int)) (tdQ p who dl pl ol m)
/-- What is known of it where there is no error. -/
structure Tdf (p : Pn) (who : List Int) (dl pl ol : List (List Int)) (T W : Nat) : Prop where
  pol : ∀ m, m < W → m < (polL p dl pl).length
  wp : ∀ m, Wd ((polL p dl pl).getD m [])
  wx : Wd (tdX p who)
  wy : ∀ m, m < W → Wd (tdY p who dl pl ol m)
  wq : ∀ m, m < W → Wd (tdQ p who dl pl ol m)
  res : mkl T (fun r => mk W (fun m => tdR p who dl pl ol m r)) = twL p who dl pl ol
theorem td_facts {p : Pn} {who : List Int} {dl pl ol : List (List Int)} {q : Int} {wd : Bool} (h : Twf p who dl pl ol q wd) (z : bkE p dl pl [] = 0) : Tdf p who dl pl ol p.t.toNat p.w.toNat := by
  obtain ⟨⟨n0, n1⟩, ⟨k0, k1⟩, ⟨t0, t1⟩, _, _, _, w0, w1⟩ := may_facts h.may
  have hq := h.fi.pos
  have hi := inn_app h.may
  have hX : Els q (tdX p who) := els_app h.pts.ez h.pts.ef
  have hXn : (tdX p who).Nodup := h.pts.n2
  have hXl : (tdX p who).length = p.k.toNat + p.t.toNat := by unfold tdX; rw [List.length_append, h.pts.len, pts_len, pts_len]
  have hpol : polL p dl pl = pys q (innL p) p.w.toNat (dl ++ pl) := by unfold polL; rw [if_pos z, pOf_eq h.fi]
  have hpl : (polL p dl pl).length = p.w.toNat := by rw [hpol]; simp [pys]
  have hpa : ∀ m, m < p.w.toNat → (polL p dl pl).getD m [] = py q (innL p) (dl ++ pl) m := fun m hm => by
    rw [hpol]; simp [pys, List.getD_eq_getElem?_getD, hm]
  have hinn := inn_facts h.may h.fi
  have hpt : ∀ m, Tm q (py q (innL p) (dl ++ pl) m) ∧ (py q (innL p) (dl ++ pl) m).length ≤ (innL p).length := fun m => by
    have := py_thr h.fi.md hinn.1 hinn.2.1 (bl_app h.ed h.ep) m
    exact ⟨this.1, this.2.1⟩
  have hpm : ∀ m, m < p.w.toNat → Els q ((polL p dl pl).getD m []) ∧ ((polL p dl pl).getD m []).length ≤ 64 := fun m hm => by
    rw [hpa m hm]
    exact ⟨(hpt m).1.1, by have := (hpt m).2; rw [hinn.2.2.1] at this; omega⟩
  have hval : ∀ (l : List Int) (x : Int), Els q l → l.length ≤ 4096 → El q x → valE p.f x l = vl q x l := fun l x hl hn hx => by
    have e0 : er p.f l [x] = 0 := er_yes h.fi (allIn_of hl) (allIn_of (fun y hy => by rw [List.mem_singleton.1 hy]; exact hx)) hn (by simp)
    unfold valE
    rw [e0, if_pos rfl, pOf_eq h.fi]
  have hY : ∀ m, m < p.w.toNat → tdY p who dl pl ol m = col ol m ++ (fxL p who).map (fun x => vl q x (py q (pts 0 p.k.toNat ++ pts p.k p.t.toNat) (dl ++ pl) m)) := fun m hm => by
    unfold tdY
    congr 1
    refine List.map_congr_left (fun x hx => ?_)
    unfold tdV
    rw [hval _ x (hpm m hm).1 (by have := (hpm m hm).2; omega) (h.pts.ef x hx), hpa m hm, hi]
  have hYe : ∀ m, m < p.w.toNat → Els q (tdY p who dl pl ol m) := fun m hm => by
    rw [hY m hm]
    refine els_app (col_els hq h.eo m) (fun y hy => ?_)
    obtain ⟨x, _, rfl⟩ := List.mem_map.1 hy
    exact vl_el hq _ _
  have hYl : ∀ m, (tdY p who dl pl ol m).length = (tdX p who).length := fun m => by
    unfold tdY
    rw [List.length_append, col_len, List.length_map, h.lo, hXl, h.pts.len, pts_len]
  have hQ : ∀ m, m < p.w.toNat → tdQ p who dl pl ol m = twp q (pts 0 p.k.toNat) (pts p.k p.t.toNat) (fxL p who) dl pl ol m := fun m hm => by
    unfold tdQ
    rw [thr_zeroL h.fi hX hXn (hYe m hm) (hYl m) (by omega), hY m hm]
    rfl
  have hQt : ∀ m, m < p.w.toNat → Els q (tdQ p who dl pl ol m) ∧ (tdQ p who dl pl ol m).length ≤ 128 := fun m hm => by
    rw [hQ m hm]
    have := twp_thr h.fi.md h.pts (da := dl) (pa := pl) (ot := ol) h.eo (by rw [pts_len]; exact h.lo) m
    exact ⟨this.1.1, by have := this.2.1; rw [pts_len, h.pts.len, pts_len] at this; omega⟩
  refine ⟨fun m hm => by rw [hpl]; exact hm, fun m => ?_, wd_els hX h.fi.top (by rw [hXl]; omega), fun m hm => wd_els (hYe m hm) h.fi.top (by rw [hYl, hXl]; omega), fun m hm => wd_els (hQt m hm).1 h.fi.top (by have := (hQt m hm).2; omega), ?_⟩
  · by_cases hm : m < p.w.toNat
    · exact wd_els (hpm m hm).1 h.fi.top (by have := (hpm m hm).2; omega)
    · rw [List.getD_eq_getElem?_getD, List.getElem?_eq_none (by omega)]; exact wd_nil
  · rw [h.eq]
    refine ext_l (by rw [mkl_len, twin_len, pts_len]) (fun r hr => ?_)
    rw [mkl_len] at hr
    have hr2 : r < (pts p.k p.t.toNat).length := by rw [pts_len]; exact hr
    have e1 : (Shr.twin q (pts 0 p.k.toNat) (pts p.k p.t.toNat) (fxL p who) p.w.toNat dl pl ol).getD r [] = mk p.w.toNat (fun t => vl q (p.k + (r : Int)) (twp q (pts 0 p.k.toNat) (pts p.k p.t.toNat) (fxL p who) dl pl ol t)) := by
      have hrt : r < (Shr.twin q (pts 0 p.k.toNat) (pts p.k p.t.toNat) (fxL p who) p.w.toNat dl pl ol).length := by rw [twin_len]; exact hr2
      rw [List.getD_eq_getElem?_getD, List.getElem?_eq_getElem hrt]
      show (Shr.twin q (pts 0 p.k.toNat) (pts p.k p.t.toNat) (fxL p who) p.w.toNat dl pl ol)[r] = _
      rw [twin_at hrt hr2]
      have := pts_at p.k (n := p.t.toNat) (i := r) hr
      rw [List.getD_eq_getElem?_getD, List.getElem?_eq_getElem hr2] at this
      have e : (pts p.k p.t.toNat)[r] = p.k + (r : Int) := this
      rw [e]
    rw [mkl_at _ hr, e1]
    refine ext_co (by rw [mk_len, mk_len]) (fun m hm => ?_)
    rw [mk_len] at hm
    rw [co_mk, co_mk, if_pos hm, if_pos hm]
    unfold tdR
    rw [hval _ _ (hQt m hm).1 (by have := (hQt m hm).2; omega) (pts_els h.fi (a := p.k) (n := p.t.toNat) (by omega) (by omega) _ (pts_mem.2 (by omega))), hQ m hm]
/-- While rows grow: the first t of them have one more. -/
def tdM (R : Nat → Nat → Int) (T m t : Nat) : List (List Int) := mkl T (fun r => mk (if r < t then m + 1 else m) (fun j => R j r))
theorem tdM_len (R : Nat → Nat → Int) (T m t : Nat) : (tdM R T m t).length = T := mkl_len _ _
theorem tdM_at (R : Nat → Nat → Int) {T m t : Nat} (h : t < T) : (tdM R T m t).getD t [] = mk m (fun j => R j t) := by
  unfold tdM
  rw [mkl_at _ h, if_neg (by omega)]
theorem mk_snoc (m : Nat) (f : Nat → Int) : mk m f ++ [f m] = mk (m + 1) f := by
  unfold mk; rw [List.range_succ, List.map_append]; rfl
theorem tdM_set (R : Nat → Nat → Int) {T m t : Nat} (h : t < T) : (tdM R T m t).set t (mk (m + 1) (fun j => R j t)) = tdM R T m (t + 1) := by
  unfold tdM
  rw [mkl_set _ h]
  refine mkl_congr (fun r hr => ?_)
  by_cases e : r = t
  · rw [if_pos e, if_pos (by omega), e]
  · rw [if_neg e]
    by_cases e2 : r < t
    · rw [if_pos e2, if_pos (by omega)]
    · rw [if_neg e2, if_neg (by omega)]
theorem tdM_next (R : Nat → Nat → Int) (T m : Nat) : tdM R T m T = tdM R T (m + 1) 0 := by
  unfold tdM
  exact mkl_congr (fun r hr => by rw [if_pos hr, if_neg (by omega)])
theorem tdM_end (R : Nat → Nat → Int) (T m : Nat) : tdM R T m 0 = mkl T (fun r => mk m (fun j => R j r)) := by
  unfold tdM
  exact mkl_congr (fun r hr => by rw [if_neg (by omega)])

end Go.Proofs.YtpbfgcepmbpkdaaGreat

