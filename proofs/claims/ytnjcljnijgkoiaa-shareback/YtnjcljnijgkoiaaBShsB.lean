/-
  The statements of layer 14: ShareBack: what any K + T shares open to; the memory of the names.
-/
import Derived.Test.YtnjcljnijgkoiaaBLawHA
import Derived.Test.YtnjcljnijgkoiaaBunHE
import Derived.Test.YtnjcljnijgkoiaaBunHD
import Derived.Test.YtnjcljnijgkoiaaBByA
namespace Go.Proofs.Ytnjcljnijgkoiaa
open Go.RowKit Fld Pln Shr
set_option linter.unusedVariables false
set_option linter.unusedSimpArgs false

/-- An order of the workers. -/
def Wks (N : Nat) (ws : List Int) : Prop := ws.length = N ∧ ws.Nodup ∧ ∀ x ∈ ws, 0 ≤ x ∧ x < (N : Int)
theorem Wks.perm {N : Nat} {ws vs : List Int} (h : Wks N ws) (hp : vs.Perm ws) : Wks N vs := ⟨hp.length_eq.trans h.1, hp.nodup_iff.2 h.2.1, fun x hx => h.2.2 x (hp.mem_iff.1 hx)⟩
theorem wks_first (N : Nat) : Wks N (pts 0 N) := ⟨pts_len _ _, pts_nodup _ _, fun x hx => by have := pts_mem.1 hx; omega⟩
/-- Any K + T shares open to what was shared. -/
theorem back_facts {p : Pn} {dl pl : List (List Int)} (hz : bkE p dl pl [] = 0) (w1 : ∀ b ∈ dl, Wd b) (w2 : ∀ b ∈ pl, Wd b) {ws : List Int} (hW : Wks p.n.toNat ws) (hle : p.k + p.t ≤ p.n) :
    opE p (ws.take (p.k + p.t).toNat) ((ws.take (p.k + p.t).toNat).map (fun x => (allL p dl pl).getD x.toNat [])) = 0 ∧ opdL p (ws.take (p.k + p.t).toNat) ((ws.take (p.k + p.t).toNat).map (fun x => (allL p dl pl).getD x.toNat [])) = dl ∧ oppL p (ws.take (p.k + p.t).toNat) ((ws.take (p.k + p.t).toNat).map (fun x => (allL p dl pl).getD x.toNat [])) = pl := by
  obtain ⟨q, wd, hm, hf, hbe, hbw, hdl, hpl, hbl, ie, inn, i64', oe, on, o64, d0, _⟩ := bk_facts hz w1 w2
  obtain ⟨⟨n0, n1⟩, ⟨k0, k1⟩, ⟨t0, t1⟩, _, _, _, w0, w1'⟩ := may_facts hm
  obtain ⟨hl, hn, hx⟩ := hW
  have hwl : (ws.take (p.k + p.t).toNat).length = (p.k + p.t).toNat := by rw [List.length_take]; omega
  have hwx : ∀ x ∈ ws.take (p.k + p.t).toNat, 0 ≤ x ∧ x < p.n := fun x h => by have := hx x (List.mem_of_mem_take h); omega
  have hwn : (ws.take (p.k + p.t).toNat).Nodup := List.Pairwise.sublist (List.take_sublist _ _) hn
  generalize ws.take (p.k + p.t).toNat = who at *
  obtain ⟨m1, m2⟩ := nmd_facts hm hwx hwn
  have me : Els q (nmd p who) := fun x h => by
    have := m2 x h
    have := hf.big
    exact ⟨by omega, by omega⟩
  have hsh : who.map (fun x => (allL p dl pl).getD x.toNat []) = (nmd p who).map (shr q (innL p) p.w.toNat (dl ++ pl)) := by
    unfold nmd allL
    rw [if_pos hz, pOf_eq hf, List.map_map]
    refine List.map_congr_left (fun x h => ?_)
    have hx := hwx x h
    have hxl : x.toNat < (outL p).length := by omega
    show ((outL p).map _).getD x.toNat [] = shr _ _ _ _ (co (outL p) x.toNat)
    rw [List.getD_eq_getElem?_getD, List.getElem?_map, List.getElem?_eq_getElem hxl, co_at hxl]; rfl
  rw [hsh]
  have hil : (innL p).length = (p.k + p.t).toNat := pts_len _ _
  have hE : opE p who ((nmd p who).map (shr q (innL p) p.w.toNat (dl ++ pl))) = 0 := by
    unfold opE
    have e1 : elsB p.f ((nmd p who).map (shr q (innL p) p.w.toNat (dl ++ pl))) = true := (elsB_iff hf).2 (fun b hb => by
      obtain ⟨z, _, rfl⟩ := List.mem_map.1 hb
      exact allIn_of (shr_els hf.pos _ _ _ _))
    have e2 : blkB p.w (p.k + p.t) ((nmd p who).map (shr q (innL p) p.w.toNat (dl ++ pl))) = true := blkB_iff.2 ⟨fun b hb => by
      obtain ⟨z, _, rfl⟩ := List.mem_map.1 hb
      rw [shr_len]; omega, by rw [List.length_map, nmd_len, hwl]; omega⟩
    rw [hm, e1, whoB_iff.2 hwx, e2, decide_eq_true (by rw [hwl]; omega), if_pos hwn]; rfl
  have hB := open_back hf.md ie inn me m1 (by rw [nmd_len, hwl, hil]) hbe hbw hbl
  rw [← inn_app hm, List.map_append] at hB
  rw [inn_app hm] at hB
  obtain ⟨e3, e4⟩ := List.append_inj hB (by rw [List.length_map, pts_len, hdl])
  refine ⟨hE, ?_, ?_⟩
  · unfold opdL
    rw [if_pos hE, pOf_eq hf]; exact e3
  · unfold oppL
    rw [if_pos hE, pOf_eq hf]; exact e4
/-- Ints in memory. -/
def ivs (xs : List Int) : List Value := xs.map (Value.int .i64)
theorem ivs_len (xs : List Int) : (ivs xs).length = xs.length := List.length_map ..
theorem ivs_flat (xs : List Int) : xs.flatMap iw = ivs xs := by
  unfold ivs
  induction xs with
  | nil => rfl
  | cons x xs ih => rw [List.flatMap_cons, ih]; rfl
theorem ivs_set (xs : List Int) (k : Nat) (x : Int) : (ivs xs).set k (.int .i64 x) = ivs (xs.set k x) := by unfold ivs; rw [List.map_set]
theorem ivs_swp (ws : List Int) {a b : Nat} (ha : a < ws.length) (hb : b < ws.length) : ((ivs ws).set a (.int .i64 (ws.getD b 0))).set b (.int .i64 (ws.getD a 0)) = ivs (Rnk.swp 0 ws a b) := by
  unfold Rnk.swp
  rw [ivs_set, ivs_set]
theorem own_icell {W : World} {base g n cap k : Nat} {xs : List Int} {T : TypeId} (h : W.ownsRow base T 1 (.slice (some ⟨g, 0, none⟩) n cap) n (ivs xs)) (hl : xs.length = n) (hk : k < n) : W.cell? ⟨g, k, none⟩ = some (.int .i64 (xs.getD k 0)) := by
  rw [h.cellAt k (by omega)]
  unfold ivs
  rw [List.getElem?_map, List.getElem?_eq_getElem (by omega), List.getD_eq_getElem?_getD, List.getElem?_eq_getElem (by omega)]; rfl
theorem own_takeV {w : World} {base n cap : Nat} {ao : Option Addr} {xs : List Value} {T : TypeId} (h : w.ownsRow base T 1 (.slice ao n cap) n xs) {k : Nat} (hk : k ≤ n) : w.ownsRow base T 1 (.slice ao k cap) k (xs.take k) := by
  have hl := h.1
  have e : (xs.take k).length = k * 1 := by rw [List.length_take]; omega
  refine ⟨e, ?_⟩
  rcases h.2 with ⟨h1, h2⟩ | ⟨g, cap', cur, h1, h2, h3, h4, h5, h6, h7⟩
  · cases h1
    have : k = 0 := by omega
    subst this
    exact .inl ⟨rfl, rfl⟩
  · cases h1
    refine .inr ⟨g, cap, cur, rfl, h2, h3, by omega, h5, h6, ?_⟩
    rw [← h7, List.take_take]; congr 1; omega
theorem int_info14 : (Try.prog.info? 3).map (fun i => (i.zero, i.size, i.bytes)) = some (some (.int .i64 0), 1, 8) := by kernel_rfl
def zis (n : Nat) : List Value := ivs (List.replicate n 0)
theorem makeI14 (n : Nat) (hm : n ≤ 1000) (W : World) : (Instr.makeSlice 34 (.int .i64 (n : Int)) (.int .i64 (n : Int))).run Try.prog W = .ok (.slice (some ⟨W.heap.size, 0, none⟩) n n) (W.alloc (.cells (zis n).toArray 3)) := by
  obtain ⟨i, hi, hz, hs, hb⟩ := info_parts int_info14
  have := run_make (P := Try.prog) W 34 3 i (.int .i64 0) Try.underlying34 hi hz .i64 .i64 (n : Int) (n : Int) (by omega) (by omega) (by rw [hb]; omega) (by omega)
  rw [this, hs, Int.toNat_natCast]
  show Result.ok _ (W.alloc (.cells (madeCells #[.int .i64 0] (n * 1)) 3)) = _
  rw [made_listH]
  unfold zis ivs
  rw [List.map_replicate]
theorem zis_len (n : Nat) : (zis n).length = n := by unfold zis; rw [ivs_len]; simp
theorem lmi_of_own {w : World} {base n : Nat} {v : Value} {xs : List Int} {T : TypeId} (h : w.ownsRow base T 1 v n (ivs xs)) (hl : xs.length ≤ 1000) : Lm iw 1 w v xs := lm_of_own iw_len (by decide) (by rw [ivs_flat]; exact h) (by omega)
theorem tmod_nat14 {x : Int} {N : Nat} (h0 : 0 ≤ x) (hN : 0 < N) : ∃ a : Nat, a < N ∧ x.tmod (N : Int) = (a : Int) := by
  refine ⟨(x % (N : Int)).toNat, ?_, ?_⟩
  · have := Int.emod_lt_of_pos x (show (0 : Int) < N by omega)
    have := Int.emod_nonneg x (show (N : Int) ≠ 0 by omega)
    omega
  · rw [Int.tmod_eq_emod_of_nonneg h0]
    have := Int.emod_nonneg x (show (N : Int) ≠ 0 by omega)
    omega

end Go.Proofs.Ytnjcljnijgkoiaa
