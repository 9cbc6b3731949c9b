import Derived.Test.YtjhididlcdepdaaGreatBunAT
import Derived.Test.YtjhididlcdepdaaGreatBunM
import Derived.Test.YtjhididlcdepdaaGreatBRowA
set_option linter.unusedVariables false
set_option linter.unusedSimpArgs false
set_option maxRecDepth 100000
set_option maxHeartbeats 4000000
namespace Go.Proofs.YtjhididlcdepdaaGreat
open Go.RowKit Fld Pln Shr
def elsB (f : Int) (l : List (List Int)) : Bool := l.all (fun xs => inF f xs)
def lenB (w : Int) (l : List (List Int)) : Bool := l.all (fun xs => decide ((xs.length : Int) = w))
def blkB (w n : Int) (l : List (List Int)) : Bool := lenB w l && decide ((l.length : Int) = n)
def whoB (n : Int) (l : List Int) : Bool := l.all (fun x => decide (0 <= x ∧ x < n))
def bkE (p : Pn) (dl pl : List (List Int)) (who : List Int) : Int := if mayP p && elsB p.f dl && elsB p.f pl && whoB p.n who then (if blkB p.w p.k dl && blkB p.w p.t pl then 0 else 3) else 2
def polL (p : Pn) (dl pl : List (List Int)) : List (List Int) := if bkE p dl pl [] = 0 then pys (pOf p.f) (innL p) p.w.toNat (dl ++ pl) else []
def allL (p : Pn) (dl pl : List (List Int)) : List (List Int) := if bkE p dl pl [] = 0 then (outL p).map (shr (pOf p.f) (innL p) p.w.toNat (dl ++ pl)) else []
def shaL (p : Pn) (dl pl : List (List Int)) (i : Int) : List Int := if bkE p dl pl [i] = 0 then shr (pOf p.f) (innL p) p.w.toNat (dl ++ pl) (co (outL p) i.toNat) else []
theorem elsB_iff {f q : Int} {wd : Bool} (h : Fi f q wd) {l : List (List Int)} : elsB f l = true ↔ ∀ b ∈ l, allIn q b = true := by
 unfold elsB
 rw [List.all_eq_true]
 constructor
 · intro hl b hb; rw [<- inF_yes h]; exact hl b hb
 · intro hl b hb; rw [inF_yes h]; exact hl b hb
theorem blkB_iff {w n : Int} {l : List (List Int)} : blkB w n l = true ↔ (∀ b ∈ l, (b.length : Int) = w) ∧ (l.length : Int) = n := by
 unfold blkB lenB
 rw [Bool.and_eq_true, List.all_eq_true, decide_eq_true_iff]
 constructor
 · rintro ⟨h1, h2⟩; exact ⟨fun b hb => of_decide_eq_true (h1 b hb), h2⟩
 · rintro ⟨h1, h2⟩; exact ⟨fun b hb => decide_eq_true (h1 b hb), h2⟩
theorem whoB_iff {n : Int} {l : List Int} : whoB n l = true ↔ ∀ x ∈ l, 0 <= x ∧ x < n := by
 unfold whoB
 rw [List.all_eq_true]
 exact ⟨fun h x hx => of_decide_eq_true (h x hx), fun h x hx => decide_eq_true (h x hx)⟩
theorem bk_zero {p : Pn} {dl pl : List (List Int)} {who : List Int} (h : bkE p dl pl who = 0) : mayP p = true ∧ (∃ q wd, Fi p.f q wd ∧ ∀ b ∈ dl ++ pl, allIn q b = true) ∧ (∀ b ∈ dl ++ pl, b.length = p.w.toNat) ∧ dl.length = p.k.toNat ∧ pl.length = p.t.toNat ∧ ∀ x ∈ who, 0 <= x ∧ x < p.n := by
 unfold bkE at h
 split at h
 · rename_i h1
   rw [Bool.and_eq_true, Bool.and_eq_true, Bool.and_eq_true] at h1
   obtain ⟨⟨⟨hm, hd⟩, hp⟩, hw⟩ := h1
   split at h
   · rename_i h2
     rw [Bool.and_eq_true, blkB_iff, blkB_iff] at h2
     obtain ⟨⟨a1, a2⟩, b1, b2⟩ := h2
     obtain ⟨q, wd, hf⟩ := may_field hm
     refine ⟨hm, ⟨q, wd, hf, fun b hb => ?_⟩, fun b hb => ?_, by omega, by omega, whoB_iff.1 hw⟩
     · rcases List.mem_append.1 hb with hb | hb
       · exact (elsB_iff hf).1 hd b hb
       · exact (elsB_iff hf).1 hp b hb
     · rcases List.mem_append.1 hb with hb | hb
       · have := a1 b hb; omega
       · have := b1 b hb; omega
   · cases h
 · cases h
theorem bk_none {p : Pn} {dl pl : List (List Int)} : bkE p dl pl [] = if mayP p && elsB p.f dl && elsB p.f pl then (if blkB p.w p.k dl && blkB p.w p.t pl then 0 else 3) else 2 := by
 unfold bkE whoB
 rw [List.all_nil, Bool.and_true]
def trn (bl : List (List Int)) (n : Nat) : List (List Int) := (List.range n).map (fun t => col bl t)
theorem inn_facts {p : Pn} (hm : mayP p = true) {q : Int} {wd : Bool} (hf : Fi p.f q wd) : Els q (innL p) ∧ (innL p).Nodup ∧ (innL p).length = (p.k + p.t).toNat ∧ Els q (outL p) ∧ (outL p).Nodup ∧ (outL p).length = p.n.toNat := by
 obtain ⟨⟨n0, n1⟩, ⟨k0, k1⟩, ⟨t0, t1⟩, _⟩ := may_facts hm
 exact ⟨pts_els hf (by omega) (by omega), pts_nodup _ _, pts_len _ _, pts_els hf (by omega) (by omega), pts_nodup _ _, pts_len _ _⟩
theorem all_false {α : Type} {f : α -> Bool} {l : List α} {x : α} (hx : x ∈ l) (h : f x = false) : l.all f = false := by
 cases hb : l.all f with
 | false => rfl
 | true => rw [List.all_eq_true] at hb; rw [hb x hx] at h; cases h
theorem getD_memA {α : Type} {l : List α} {k : Nat} (d : α) (hk : k < l.length) : l.getD k d ∈ l := by
 rw [List.getD_eq_getElem?_getD, List.getElem?_eq_getElem hk]; exact List.getElem_mem hk
theorem all_true {α : Type} {f : α -> Bool} {l : List α} (d : α) (h : ∀ i, i < l.length -> f (l.getD i d) = true) : l.all f = true := by
 rw [List.all_eq_true]
 intro x hx
 obtain ⟨i, hi, rfl⟩ := List.mem_iff_getElem.1 hx
 have := h i hi
 rw [List.getD_eq_getElem?_getD, List.getElem?_eq_getElem hi] at this
 exact this
theorem elsB_no {f : Int} {l : List (List Int)} {k : Nat} (hk : k < l.length) (hf : inF f (l.getD k []) = false) : elsB f l = false := all_false (f := fun xs => inF f xs) (getD_memA [] hk) hf
theorem elsB_yes {f : Int} {l : List (List Int)} (hy : ∀ i, i < l.length -> inF f (l.getD i []) = true) : elsB f l = true := all_true (f := fun xs => inF f xs) [] hy
theorem blkB_no {w n : Int} {l : List (List Int)} {k : Nat} (hk : k < l.length) (hf : ¬ (((l.getD k []).length : Int) = w)) : blkB w n l = false := by
 unfold blkB
 rw [show lenB w l = false from all_false (f := fun xs : List Int => decide ((xs.length : Int) = w)) (getD_memA [] hk) (decide_eq_false hf)]; rfl
theorem blkB_yes {w n : Int} {l : List (List Int)} (hy : ∀ i, i < l.length -> (((l.getD i []).length : Int) = w)) : blkB w n l = decide ((l.length : Int) = n) := by
 unfold blkB
 rw [show lenB w l = true from all_true (f := fun xs : List Int => decide ((xs.length : Int) = w)) [] (fun i hi => decide_eq_true (hy i hi)), Bool.true_and]
theorem lmi_cell {w W : World} {b off n cap : Nat} {l : List Int} (h : Lm iw 1 w (.slice (some ⟨b, off, none⟩) n cap) l) (hB : Below w.heap.size w W) {k : Nat} (hk : k < l.length) : b < w.heap.size ∧ W.cell? ⟨b, off + k, none⟩ = some (.int .i64 (l.getD k 0)) := by
 have e : l[k]? = some (l.getD k 0) := by rw [List.getD_eq_getElem?_getD, List.getElem?_eq_getElem hk]; rfl
 have := h.at_ (i := k) (j := 0) (u := .int .i64 (l.getD k 0)) e rfl
 rw [show off + (k * 1 + 0) = off + k by omega] at this
 exact ⟨this.1, (hB.cell (p := ⟨b, off + k, none⟩) this.1).trans this.2⟩
end Go.Proofs.YtjhididlcdepdaaGreat
