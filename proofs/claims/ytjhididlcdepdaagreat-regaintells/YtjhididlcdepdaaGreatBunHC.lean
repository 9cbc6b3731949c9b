import Derived.Test.YtjhididlcdepdaaGreatBShaM
import Derived.Test.YtjhididlcdepdaaGreatBQMute
import Derived.Test.YtjhididlcdepdaaGreatBTkA
set_option linter.unusedVariables false
set_option linter.unusedSimpArgs false
set_option maxRecDepth 100000
set_option maxHeartbeats 4000000
namespace Go.Proofs.YtjhididlcdepdaaGreat
open Go.RowKit Fld Pln Shr
theorem Rws.wordsH {w : World} {v : Value} {xss : List (List Int)} (h : Rws w v xss) : ∀ xs ∈ xss, Wd xs := fun xs hx => by
 obtain ⟨ao, cap, rfl, _, _, hc⟩ := h
 obtain ⟨i, hi, rfl⟩ := List.mem_iff_getElem.1 hx
 obtain ⟨b, off, _, _, hcell⟩ := hc (by intro e; rw [e] at hi; simp at hi)
 obtain ⟨u, _, hR⟩ := hcell i hi
 rw [List.getD_eq_getElem?_getD, List.getElem?_eq_getElem hi] at hR
 exact ⟨hR.len, hR.words⟩
theorem plan_eq (p : Pn) : plv p = .agg #[.int .u8 p.f, .int .i64 p.n, .int .i64 p.k, .int .i64 p.t, .int .i64 p.s, .int .i64 p.e, .int .i64 p.d, .int .i64 p.w] := rfl
theorem getD_wd {l : List (List Int)} (h : ∀ b ∈ l, Wd b) (i : Nat) : Wd (l.getD i []) := by
 by_cases hi : i < l.length
 · exact h _ (getD_memA [] hi)
 · rw [List.getD_eq_getElem?_getD, List.getElem?_eq_none (by omega)]; exact wd_nil
theorem getD_app {α : Type} (a b : List α) (d : α) (i : Nat) : (a ++ b).getD i d = if i < a.length then a.getD i d else b.getD (i - a.length) d := by
 rw [List.getD_eq_getElem?_getD, List.getD_eq_getElem?_getD, List.getD_eq_getElem?_getD]
 by_cases h : i < a.length
 · rw [if_pos h, List.getElem?_append_left h]
 · rw [if_neg h, List.getElem?_append_right (by omega)]
theorem thr_zeroL {f q : Int} {wd : Bool} (hf : Fi f q wd) {xs ys : List Int} (hx : Els q xs) (hn : xs.Nodup) (hy : Els q ys) (hl : ys.length = xs.length) (lx : xs.length ≤ 512) : thrL f xs ys = tp q xs ys xs.length := by
 have e1 : inF f xs = true := by rw [inF_yes hf]; exact allIn_of hx
 have e2 : inF f ys = true := by rw [inF_yes hf]; exact allIn_of hy
 have hb : bad f xs ys ys.length = 0 := by rw [bad_end e1 e2 hl.symm (by omega), if_pos hn]
 unfold thrL
 rw [if_pos hb, pOf_eq hf]
theorem bk_facts {p : Pn} {dl pl : List (List Int)} {who : List Int} (h : bkE p dl pl who = 0) (w1 : ∀ b ∈ dl, Wd b) (w2 : ∀ b ∈ pl, Wd b) : ∃ q wd, mayP p = true ∧ Fi p.f q wd ∧ (∀ b ∈ dl ++ pl, Els q b) ∧ (∀ b ∈ dl ++ pl, b.length = p.w.toNat) ∧ dl.length = p.k.toNat ∧ pl.length = p.t.toNat ∧ (dl ++ pl).length = (innL p).length ∧ Els q (innL p) ∧ (innL p).Nodup ∧ (innL p).length ≤ 64 ∧ Els q (outL p) ∧ (outL p).length = p.n.toNat ∧ (outL p).length ≤ 64 ∧ 0 < dl.length ∧ ∀ x ∈ who, 0 ≤ x ∧ x < p.n := by
 obtain ⟨hm, ⟨q, wd, hf, he⟩, hw, hd, hp, hwho⟩ := bk_zero h
 obtain ⟨⟨n0, n1⟩, ⟨k0, k1⟩, ⟨t0, t1⟩, _⟩ := may_facts hm
 obtain ⟨i1, i2, i3, i4, i5, i6⟩ := inn_facts hm hf
 refine ⟨q, wd, hm, hf, fun b hb => els_of (he b hb) ?_, hw, hd, hp, by rw [List.length_append]; omega, i1, i2, by omega, i4, i6, by omega, by omega, hwho⟩
 rcases List.mem_append.1 hb with hb | hb
 · exact (w1 b hb).2
 · exact (w2 b hb).2
end Go.Proofs.YtjhididlcdepdaaGreat
