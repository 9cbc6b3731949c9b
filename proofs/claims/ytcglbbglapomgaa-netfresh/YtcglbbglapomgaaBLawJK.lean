import Derived.Test.YtcglbbglapomgaaBLawJG
import Derived.Test.YtcglbbglapomgaaBLawJH
import Derived.Test.YtcglbbglapomgaaBNdtI
set_option linter.unusedVariables false
set_option linter.unusedSimpArgs false
set_option maxRecDepth 100000
set_option maxHeartbeats 4000000
namespace Go.Proofs.Ytcglbbglapomgaa
open Go.RowKit Fld
def K8 (w : World) (r : Option Nat) : Prop := ∀ j, r = some j -> ∃ cs fz, w.heap[j]? = some (.cells cs 5 fz)
theorem k8_own {w : World} {b n : Nat} {x : Value} {xs : List Value} (h : w.ownsRow b 5 1 x n xs) : K8 w x.ownBlock := fun j hj => by
 rcases h.2 with ⟨rfl, _⟩ | ⟨r, cap, cur, rfl, _, hr, _⟩
 · simp [Value.ownBlock] at hj
 · have e1 : r = j := by simpa [Value.ownBlock] using hj
   subst e1
   exact ⟨_, _, hr⟩
theorem k8_yb {w : World} {q cap : Nat} {bs : List Int} (h : Yb w q cap bs) : K8 w (some q) := fun j hj => by
 injection hj with hj
 subst hj
 exact h.typ
theorem K8.not {w : World} {r : Option Nat} (h : K8 w r) {b : Nat} {cs : Array Value} {T : TypeId} {fz : Nat × Nat} (hb : w.heap[b]? = some (.cells cs T fz)) (hT : T ≠ 5) : r ≠ some b := fun e => by
 obtain ⟨cs', fz', h'⟩ := h b e
 have := hb.symm.trans h'
 simp at this
 exact hT this.2.1
theorem K8.row {w : World} {r : Option Nat} (h : K8 w r) {base s n : Nat} {x : Value} {xs : List Value} {T : TypeId} (ho : w.ownsRow base T s x n xs) (hT : T ≠ 5) : ∀ g, x.ownBlock = some g -> r ≠ some g := fun g hg e => by
 obtain ⟨cs', fz', h'⟩ := h g e
 exact own_notO ho h' (fun e2 => hT e2.symm) hg
theorem Np.grown8 {w w' : World} {base g : Nat} {v : Value} {N : Nt} {r : Option Nat} (h : Np w base g v N) (hg : w.grownBy w' r) (hr : K8 w r) : Np w' base g v N :=
 ⟨⟨(hg.block g h.m.lt (fun e => hr.not h.m.net (by decide) e.symm)).trans h.m.net, own_kept h.m.row hg (hr.row h.m.row (by decide)), h.m.low⟩, h.o⟩
theorem Nd.grown8 {w w' : World} {base g : Nat} {v : Value} {N : Nt} {es : List Dk} {r : Option Nat} (h : Nd w base g v N es) (hg : w.grownBy w' r) (hr : K8 w r) (ha : ∀ e ∈ es, ∀ j, e.2.ownBlock = some j -> r ≠ some j) : Nd w' base g v N es :=
 ⟨(hg.block g h.lt (fun e => hr.not h.net (by decide) e.symm)).trans h.net, ⟨own_kept h.pks.row hg (hr.row h.pks.row (by decide)), fun e he => ⟨own_kept (h.pks.each e he).1 hg (ha e he), (h.pks.each e he).2⟩⟩, h.eq, h.low⟩
def Lo21 (n : Nat) (es : List Dk) : Prop := ∀ e ∈ es, ∀ j, e.2.ownBlock = some j -> j < n
theorem Nd.lo {w : World} {base g : Nat} {v : Value} {N : Nt} {es : List Dk} (h : Nd w base g v N es) : Lo21 w.heap.size es := fun e he j hj => ((h.pks.each e he).1.lt j hj).2
theorem own8_mv {w w' : World} {b n base g : Nat} {x v v' : Value} {xs : List Value} {N : Nt} (ho : w.ownsRow b 5 1 x n xs) (hn : Np w base g v N) (m : Mv w w' g v v') : w'.ownsRow b 5 1 x n xs := by
 refine m.kq.own ho (fun j hj => ⟨(ho.lt j hj).2, fun e => ?_, fun e => ?_⟩)
 · subst e; exact own_notO ho hn.m.net (by decide) hj
 · exact own_kindO ho hn.m.row (by decide) j hj e
theorem own8_mvd {w w' : World} {b n base g : Nat} {x v v' : Value} {xs : List Value} {N : Nt} {es : List Dk} (ho : w.ownsRow b 5 1 x n xs) (hn : Nd w base g v N es) (m : Mv w w' g v v') : w'.ownsRow b 5 1 x n xs := by
 refine m.kq.own ho (fun j hj => ⟨(ho.lt j hj).2, fun e => ?_, fun e => ?_⟩)
 · subst e; exact own_notO ho hn.net (by decide) hj
 · exact own_kindO ho hn.pks.row (by decide) j hj e
theorem Np.apart {w w' : World} {base2 g2 base g : Nat} {v2 v v' : Value} {M N : Nt} (h : Np w base2 g2 v2 M) (hn : Np w base g v N) (hg : g < base2) (hv : ∀ j, v.ownBlock = some j -> j < base2) (m : Mv w w' g v v') : Np w' base2 g2 v2 M := by
 have key : ∀ j, base2 <= j -> j < w.heap.size -> Bv w g v.ownBlock j := fun j h1 h2 => ⟨h2, by omega, fun e => by have := hv j e; omega⟩
 exact h.kept m.kq (key g2 h.m.low h.m.lt) (fun j hj => key j (h.m.own_lt j hj).1 (h.m.own_lt j hj).2)
theorem Pq.wiped {w w' : World} {lo gl n cap k q c : Nat} {p : Pk} {es : List (Option Tkp)} (h : Pq w lo (.slice (some ⟨gl, 0, none⟩) n cap) es) (hn : n = es.length) (hk : es[k]? = some (some (p, q, c))) (hg : w.grownBy w' (some q)) :
 (w'.cell? ⟨gl, k * 3, none⟩ = some (.int .i64 p.f) ∧ w'.cell? ⟨gl, k * 3 + 1, none⟩ = some (.int .i64 p.t) ∧ w'.cell? ⟨gl, k * 3 + 2, none⟩ = some (.slice (some ⟨q, 0, none⟩) p.b.length c) ∧ ∀ j, w'.frozen? ⟨gl, j, none⟩ = false) ∧
 Pq (((w'.setCell ⟨gl, k * 3, none⟩ (.int .i64 0)).setCell ⟨gl, k * 3 + 1, none⟩ (.int .i64 0)).setCell ⟨gl, k * 3 + 2, none⟩ (.slice none 0 0)) lo (.slice (some ⟨gl, 0, none⟩) n cap) (es.set k none) := by
 subst hn
 have hkl : k < es.length := (List.getElem?_eq_some_iff.1 hk).1
 obtain ⟨hlo, hgq, hyq⟩ := h.each k p q c hk
 have hgq' : gl ≠ q := fun e => hgq (by simp [Value.ownBlock, e])
 have hrow : w'.ownsRow lo 40 3 (.slice (some ⟨gl, 0, none⟩) es.length cap) es.length (es.flatMap tkc) := own_kept h.row hg (fun g hg2 e => by
  have e1 : gl = g := by simpa [Value.ownBlock] using hg2
  injection e with e
  omega)
 have hf := fun j (hj : j < 3) => flat_get tkc 3 tkc_len es k _ j hk hj
 have hfar : ∀ j, j ≠ gl -> (((w'.setCell ⟨gl, k * 3, none⟩ (.int .i64 0)).setCell ⟨gl, k * 3 + 1, none⟩ (.int .i64 0)).setCell ⟨gl, k * 3 + 2, none⟩ (.slice none 0 0)).heap[j]? = w'.heap[j]? := fun j hj => by
  rw [Below.heap_setCell _ _ _ j hj, Below.heap_setCell _ _ _ j hj, Below.heap_setCell _ _ _ j hj]
 have old : ∀ (i : Nat) (p' : Pk) (q' c' : Nat), (es.set k none)[i]? = some (some (p', q', c')) -> i ≠ k ∧ es[i]? = some (some (p', q', c')) := fun i p' q' c' hi => by
  rw [List.getElem?_set] at hi
  by_cases e : k = i
  · rw [if_pos e, if_pos hkl] at hi; cases hi
  · rw [if_neg e] at hi; exact ⟨fun e2 => e e2.symm, hi⟩
 refine ⟨⟨own_atO hrow (hf 0 (by omega)), own_atO hrow (hf 1 (by omega)), own_atO hrow (hf 2 (by omega)), fun j => own_frz hrow j⟩, ?_, fun i p' q' c' hi => ?_, fun i j p1 q1 c1 p2 q2 c2 h1 h2 hne => ?_⟩
 · rw [List.length_set]
   exact own_put3 tkc_len hrow hkl rfl
 · obtain ⟨hne, hi2⟩ := old i p' q' c' hi
   obtain ⟨a1, a2, a3⟩ := h.each i p' q' c' hi2
   refine ⟨a1, a2, a3.kept (by have := hg.size; simp; omega) ((hfar q' (fun e2 => ?_)).trans (hg.block q' a3.lt (fun e2 => ?_)))⟩
   · subst e2; exact a2 rfl
   · injection e2 with e2
     exact h.dif i k _ _ _ _ _ _ hi2 hk hne e2
 · exact h.dif i j _ _ _ _ _ _ (old i _ _ _ h1).2 (old j _ _ _ h2).2 hne
theorem set_wipe {ls : List Tkp} {k : Nat} (hk : k < ls.length) : ((List.replicate k (none : Option Tkp)) ++ (ls.drop k).map some).set k none = List.replicate (k + 1) none ++ (ls.drop (k + 1)).map some := by
 rw [List.set_append_right _ _ (by rw [List.length_replicate]; exact Nat.le_refl _), List.length_replicate, Nat.sub_self, List.drop_eq_getElem_cons hk, List.map_cons, List.set_cons_zero, List.replicate_succ', List.append_assoc]
 rfl
theorem wipe_at {ls : List Tkp} {k : Nat} (hk : k < ls.length) : ((List.replicate k (none : Option Tkp)) ++ (ls.drop k).map some)[k]? = some (some ls[k]) := by
 rw [List.getElem?_append_right (by rw [List.length_replicate]; exact Nat.le_refl _), List.length_replicate, Nat.sub_self, List.drop_eq_getElem_cons hk]
 rfl
theorem wipe_len {ls : List Tkp} {k n : Nat} (hn : ls.length = n) (hk : k <= n) : ((List.replicate k (none : Option Tkp)) ++ (ls.drop k).map some).length = n := by
 rw [List.length_append, List.length_replicate, List.length_map, List.length_drop]; omega
end Go.Proofs.Ytcglbbglapomgaa
