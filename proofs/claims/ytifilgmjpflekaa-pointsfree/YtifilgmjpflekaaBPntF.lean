/-
  Layer 13, plain: the workers' rows, in any order: any T of them, but for the data's entries, any K + T whole ones, are independent.
-/
import Derived.Test.YtifilgmjpflekaaBunAT
import Derived.Test.YtifilgmjpflekaaBunAB
namespace Go.Proofs.Ytifilgmjpflekaa
open Go.RowKit Fld Pln Rnk
set_option linter.unusedVariables false

theorem mx_map (g : Int → List Int) (ws : List Int) {k : Nat} (hk : k < ws.length) (m : Nat) : mx (ws.map g) k m = co (g (co ws k)) m := by
  unfold mx
  rw [List.getD_eq_getElem?_getD, List.getElem?_map, List.getElem?_eq_getElem hk, co_at hk]; rfl
theorem co_dropR (xs : List Int) (a m : Nat) : co (xs.drop a) m = co xs (a + m) := by
  unfold co
  rw [List.getD_eq_getElem?_getD, List.getElem?_drop, List.getD_eq_getElem?_getD]
theorem map_row {g : Int → List Int} {ws : List Int} {k : Nat} (hk : k < ws.length) : (ws.map g).getD k [] = g (co ws k) := by
  rw [List.getD_eq_getElem?_getD, List.getElem?_map, List.getElem?_eq_getElem hk, co_at hk]; rfl

/-- The rows of a plan, as Lagrange's. -/
theorem rwsL_map {p : Pn} {q : Int} {wd : Bool} (h : mayP p = true) (hf : Fi p.f q wd) : rwsL p = (outL p).map (fun z => bsl q (innL p) z) := by
  unfold rwsL chgL
  rw [if_pos h, if_pos (row_bac h), pOf_eq hf]
/-- What is known of the workers' points in another order. -/
structure Wrk (p : Pn) (q : Int) (ws : List Int) : Prop where
  els : Els q ws
  nd : ws.Nodup
  len : ws.length = p.n.toNat
  far : ∀ z ∈ ws, p.k + p.t ≤ z
theorem Wrk.first {p : Pn} {q : Int} {wd : Bool} (h : mayP p = true) (hf : Fi p.f q wd) : Wrk p q (outL p) := by
  obtain ⟨⟨n0, n1⟩, ⟨k0, k1⟩, ⟨t0, t1⟩, _⟩ := may_facts h
  exact ⟨pts_els hf (by omega) (by omega), pts_nodup _ _, pts_len _ _, fun z hz => (pts_mem.1 hz).1⟩
theorem Wrk.perm {p : Pn} {q : Int} {ws vs : List Int} (h : Wrk p q ws) (hp : vs.Perm ws) : Wrk p q vs :=
  ⟨fun z hz => h.els z (hp.mem_iff.1 hz), hp.symm.nodup h.nd, by rw [hp.length_eq]; exact h.len, fun z hz => h.far z (hp.mem_iff.1 hz)⟩
theorem Wrk.take {p : Pn} {q : Int} {ws : List Int} (h : Wrk p q ws) (n : Nat) : Els q (ws.take n) ∧ (ws.take n).Nodup ∧ ∀ z ∈ ws.take n, p.k + p.t ≤ z :=
  ⟨fun z hz => h.els z (List.mem_of_mem_take hz), h.nd.sublist (List.take_sublist n ws), fun z hz => h.far z (List.mem_of_mem_take hz)⟩
theorem inn_len {p : Pn} (h : mayP p = true) : (innL p).length = p.k.toNat + p.t.toNat := by
  obtain ⟨_, ⟨k0, k1⟩, ⟨t0, t1⟩, _⟩ := may_facts h
  unfold innL
  rw [pts_len]; omega
/-- Any so many whole rows. -/
theorem free_whole {p : Pn} {q : Int} {wd : Bool} (h : mayP p = true) (hf : Fi p.f q wd) {ws : List Int} (hw : Wrk p q ws) {n : Nat} (hn : n ≤ p.k.toNat + p.t.toNat) : Ind q ((ws.take n).map (fun z => bsl q (innL p) z)).length (p.k.toNat + p.t.toNat) (mx ((ws.take n).map (fun z => bsl q (innL p) z))) := by
  obtain ⟨⟨n0, n1⟩, ⟨k0, k1⟩, ⟨t0, t1⟩, _⟩ := may_facts h
  obtain ⟨w1, w2, w3⟩ := hw.take n
  have hl := inn_len h
  have hx : Els q (innL p) := pts_els hf (by omega) (by omega)
  have := bs_free hf.md hx (pts_nodup _ _) w1 w2 (a := 0) (by rw [hl, List.length_take]; omega) (fun z _ => by simp)
  rw [List.length_map]
  rw [Nat.sub_zero, hl] at this
  refine ind_cong (fun k m hk hm => ?_) this
  rw [mx_map _ _ hk, bsl_at (by omega), Nat.zero_add, Int.sub_self]
  exact ⟨0, by simp⟩
/-- Any so many rows, of them the entries of the pads. -/
theorem free_pads {p : Pn} {q : Int} {wd : Bool} (h : mayP p = true) (hf : Fi p.f q wd) {ws : List Int} (hw : Wrk p q ws) {n : Nat} (hn : n ≤ p.t.toNat) : Ind q ((ws.take n).map (fun z => (bsl q (innL p) z).drop p.k.toNat)).length p.t.toNat (mx ((ws.take n).map (fun z => (bsl q (innL p) z).drop p.k.toNat))) := by
  obtain ⟨⟨n0, n1⟩, ⟨k0, k1⟩, ⟨t0, t1⟩, _⟩ := may_facts h
  obtain ⟨w1, w2, w3⟩ := hw.take n
  have hl := inn_len h
  have hx : Els q (innL p) := pts_els hf (by omega) (by omega)
  have := bs_free hf.md hx (pts_nodup _ _) w1 w2 (a := p.k.toNat) (by rw [hl, List.length_take]; omega) (fun z hz hz2 => by
    have h1 := w3 z hz
    have h2 := (pts_mem.1 (List.mem_of_mem_take hz2)).2
    omega)
  rw [List.length_map]
  rw [hl, Nat.add_sub_cancel_left] at this
  refine ind_cong (fun k m hk hm => ?_) this
  rw [mx_map _ _ hk, co_dropR, bsl_at (by omega), Int.sub_self]
  exact ⟨0, by simp⟩

end Go.Proofs.Ytifilgmjpflekaa
