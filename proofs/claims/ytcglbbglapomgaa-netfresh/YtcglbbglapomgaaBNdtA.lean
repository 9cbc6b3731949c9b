import Derived.Test.YtcglbbglapomgaaBNetK
import Derived.Test.YtcglbbglapomgaaBWirM
set_option linter.unusedVariables false
set_option linter.unusedSimpArgs false
set_option maxRecDepth 100000
set_option maxHeartbeats 4000000
namespace Go.Proofs.Ytcglbbglapomgaa
open Go.RowKit Fld
theorem own_kindO {w : World} {b1 b2 s1 s2 n1 n2 : Nat} {T1 T2 : TypeId} {v1 v2 : Value} {x1 x2 : List Value} (h1 : w.ownsRow b1 T1 s1 v1 n1 x1) (h2 : w.ownsRow b2 T2 s2 v2 n2 x2) (hT : T1 ≠ T2) (g : Nat) (hg : v1.ownBlock = some g) : v2.ownBlock ≠ some g := by
 intro hc
 rcases h1.2 with ⟨rfl, _⟩ | ⟨g1, c1, u1, rfl, _, k1, _⟩
 · simp [Value.ownBlock] at hg
 · rcases h2.2 with ⟨rfl, _⟩ | ⟨g2, c2, u2, rfl, _, k2, _⟩
   · simp [Value.ownBlock] at hc
   · simp [Value.ownBlock] at hg hc
     subst hg hc
     rw [k1] at k2
     simp at k2
     exact hT k2.2
theorem own_notO {W : World} {base s n b : Nat} {T T' : TypeId} {v : Value} {xs : List Value} {cs : Array Value} {fz : Nat × Nat} (h : W.ownsRow base T s v n xs) (hb : W.heap[b]? = some (.cells cs T' fz)) (hT : T' ≠ T) : v.ownBlock ≠ some b := by
 rcases h.2 with ⟨rfl, _⟩ | ⟨g, cap, cur, rfl, _, hgb, _⟩
 · simp [Value.ownBlock]
 · intro e
   have e1 : g = b := by simpa [Value.ownBlock] using e
   rw [e1] at hgb
   have := hb.symm.trans hgb
   simp at this
   exact hT this.2.1
abbrev Dk := Pk × Value
def dkc (e : Dk) : List Value := [.int .i64 e.1.f, .int .i64 e.1.t, e.2]
theorem dkc_len (e : Dk) : (dkc e).length = 3 := rfl
structure Dl (w : World) (base : Nat) (v : Value) (es : List Dk) : Prop where
 row : w.ownsRow base 40 3 v es.length (es.flatMap dkc)
 each : ∀ e ∈ es, w.ownsRow base 5 1 e.2 e.1.b.length (valb e.1.b) ∧ By e.1.b ∧ e.1.b.length <= 1048576
theorem Dl.kept {S : Nat -> Prop} {w w' : World} {base : Nat} {v : Value} {es : List Dk} (h : Dl w base v es) (k : Kq S w w') (hv : ∀ j, v.ownBlock = some j -> S j) (hu : ∀ e ∈ es, ∀ j, e.2.ownBlock = some j -> S j) : Dl w' base v es :=
 ⟨k.own h.row hv, fun e he => ⟨k.own (h.each e he).1 (hu e he), (h.each e he).2⟩⟩
theorem Dl.lt {w : World} {base : Nat} {v : Value} {es : List Dk} (h : Dl w base v es) : ∀ j, v.ownBlock = some j -> base <= j ∧ j < w.heap.size := h.row.lt
theorem Dl.below {w w' : World} {base : Nat} {v : Value} {es : List Dk} (h : Dl w base v es) (hb : Below w.heap.size w w') : Dl w' base v es :=
 h.kept (Below.kq hb (S := fun j => j < w.heap.size) (fun j hj => hj)) (fun j hj => (h.lt j hj).2) (fun e he j hj => ((h.each e he).1.lt j hj).2)
theorem Dl.mv {w w' : World} {base g : Nat} {u u' v : Value} {es : List Dk} (h : Dl w base v es) (m : Mv w w' g u u') (hg : ∃ cs T fz, w.heap[g]? = some (.cells cs T fz) ∧ T ≠ 40 ∧ T ≠ 5) (hu : ∀ j, u.ownBlock = some j -> ∃ cs T fz, w.heap[j]? = some (.cells cs T fz) ∧ T ≠ 40 ∧ T ≠ 5) : Dl w' base v es := by
 have key : ∀ (T : TypeId) s n x xs, (T = 40 ∨ T = 5) -> w.ownsRow base T s x n xs -> ∀ j, x.ownBlock = some j -> Bv w g u.ownBlock j := fun T s n x xs hT ho j hj => by
  refine ⟨(ho.lt j hj).2, fun e => ?_, fun e => ?_⟩
  · subst e
    obtain ⟨cs, T', fz, h1, h2, h3⟩ := hg
    exact own_notO ho h1 (by rcases hT with rfl | rfl <;> assumption) hj
  · obtain ⟨cs, T', fz, h1, h2, h3⟩ := hu j e
    exact own_notO ho h1 (by rcases hT with rfl | rfl <;> assumption) hj
 exact h.kept m.kq (key _ _ _ _ _ (.inl rfl) h.row) (fun e he => key _ _ _ _ _ (.inr rfl) (h.each e he).1)
theorem Np.kinds {w : World} {base g : Nat} {v : Value} {N : Nt} (h : Np w base g v N) : (∃ cs T fz, w.heap[g]? = some (.cells cs T fz) ∧ T ≠ 40 ∧ T ≠ 5) ∧ (∀ j, v.ownBlock = some j -> ∃ cs T fz, w.heap[j]? = some (.cells cs T fz) ∧ T ≠ 40 ∧ T ≠ 5) := by
 refine ⟨⟨_, _, _, h.m.net, by decide, by decide⟩, fun j hj => ?_⟩
 rcases h.m.row.2 with ⟨rfl, _⟩ | ⟨r, cap, cur, rfl, _, hr, _⟩
 · simp [Value.ownBlock] at hj
 · have e1 : r = j := by simpa [Value.ownBlock] using hj
   subst e1
   exact ⟨_, _, _, hr, by decide, by decide⟩
theorem dkc_one {w : World} {base : Nat} {v : Value} {es : List Dk} (h : Dl w base v es) : ∀ e ∈ es, ∀ x ∈ dkc e, x.oneCell' = true := fun e he x hx => by
 simp only [dkc, List.mem_cons, List.not_mem_nil, or_false] at hx
 rcases hx with rfl | rfl | rfl
 · rfl
 · rfl
 · obtain ⟨ao, cap, hv, _⟩ := own_spellO (h.each e he).1
   rw [hv]; rfl
theorem Dl.rb {w : World} {base : Nat} {v : Value} {es : List Dk} (h : Dl w base v es) {e : Dk} (he : e ∈ es) : Rb w e.2 e.1.b := by
 obtain ⟨h1, h2, h3⟩ := h.each e he
 exact rb_of_own h1 h2 (by omega)
theorem Dl.pk {w : World} {base r n cap : Nat} {es : List Dk} (h : Dl w base (.slice (some ⟨r, 0, none⟩) n cap) es) {i : Nat} {e : Dk} (he : es[i]? = some e) : w.cell? ⟨r, i * 3, none⟩ = some (.int .i64 e.1.f) ∧ w.cell? ⟨r, i * 3 + 1, none⟩ = some (.int .i64 e.1.t) ∧ w.cell? ⟨r, i * 3 + 2, none⟩ = some e.2 := by
 have hO := h.row
 have hl : n = es.length := by rcases hO.2 with ⟨e, _⟩ | ⟨_, _, _, e, _⟩ <;> cases e; rfl
 subst hl
 have hf := fun j (hj : j < 3) => flat_get dkc 3 dkc_len es i e j he hj
 exact ⟨own_atO hO (hf 0 (by omega)), own_atO hO (hf 1 (by omega)), own_atO hO (hf 2 (by omega))⟩
def ndc (N : Nt) (v : Value) : Array Value := #[.int .i64 N.n, v, .int .i64 (N.s : Int), .int .i64 (N.d : Int), .int .i64 (N.c : Int)]
structure Nd (w : World) (base g : Nat) (v : Value) (N : Nt) (es : List Dk) : Prop where
 net : w.heap[g]? = some (.cells (ndc N v) 29 (0, 0))
 pks : Dl w base v es
 eq : es.map (·.1) = N.l
 low : base <= g
theorem Nd.lt {w : World} {base g : Nat} {v : Value} {N : Nt} {es : List Dk} (h : Nd w base g v N es) : g < w.heap.size := (Array.getElem?_eq_some_iff.1 h.net).1
theorem Nd.len {w : World} {base g : Nat} {v : Value} {N : Nt} {es : List Dk} (h : Nd w base g v N es) : es.length = N.l.length := by rw [<- h.eq, List.length_map]
theorem Nd.cells {w : World} {base g : Nat} {v : Value} {N : Nt} {es : List Dk} (h : Nd w base g v N es) : w.cell? ⟨g, 0, none⟩ = some (.int .i64 N.n) ∧ w.cell? ⟨g, 1, none⟩ = some v ∧ w.cell? ⟨g, 2, none⟩ = some (.int .i64 (N.s : Int)) ∧ w.cell? ⟨g, 3, none⟩ = some (.int .i64 (N.d : Int)) ∧ w.cell? ⟨g, 4, none⟩ = some (.int .i64 (N.c : Int)) := by
 have h' := h.net
 refine ⟨?_, ?_, ?_, ?_, ?_⟩ <;> simp [World.cell?, h', ndc]
theorem Nd.free {w : World} {base g : Nat} {v : Value} {N : Nt} {es : List Dk} (h : Nd w base g v N es) (k : Nat) : w.frozen? ⟨g, k, none⟩ = false := by
 have h' := h.net
 simp [World.frozen?, h']
theorem Nd.spell {w : World} {base g : Nat} {v : Value} {N : Nt} {es : List Dk} (h : Nd w base g v N es) : ∃ ao cap, v = .slice ao es.length cap ∧ es.length <= cap ∧ (0 < es.length -> ∃ r, ao = some ⟨r, 0, none⟩ ∧ base <= r ∧ r < w.heap.size) := own_spellO h.pks.row
theorem Nd.ne {w : World} {base g : Nat} {v : Value} {N : Nt} {es : List Dk} (h : Nd w base g v N es) : v.ownBlock ≠ some g := own_notO h.pks.row h.net (by decide)
theorem Nd.une {w : World} {base g : Nat} {v : Value} {N : Nt} {es : List Dk} (h : Nd w base g v N es) {e : Dk} (he : e ∈ es) : e.2.ownBlock ≠ some g := own_notO (h.pks.each e he).1 h.net (by decide)
theorem Nd.kept {S : Nat -> Prop} {w w' : World} {base g : Nat} {v : Value} {N : Nt} {es : List Dk} (h : Nd w base g v N es) (k : Kq S w w') (hg : S g) (hv : ∀ j, v.ownBlock = some j -> S j) (hu : ∀ e ∈ es, ∀ j, e.2.ownBlock = some j -> S j) : Nd w' base g v N es :=
 ⟨(k.block g hg).trans h.net, h.pks.kept k hv hu, h.eq, h.low⟩
theorem Nd.below {w w' : World} {base g : Nat} {v : Value} {N : Nt} {es : List Dk} (h : Nd w base g v N es) (hb : Below w.heap.size w w') : Nd w' base g v N es :=
 ⟨(hb.block g h.lt).trans h.net, h.pks.below hb, h.eq, h.low⟩
theorem Nd.mv {w w' : World} {base base' g g' : Nat} {u u' v : Value} {N M : Nt} {es : List Dk} (h : Nd w base g v N es) (hn : Np w base' g' u M) (m : Mv w w' g' u u') : Nd w' base g v N es := by
 refine ⟨?_, h.pks.mv m hn.kinds.1 hn.kinds.2, h.eq, h.low⟩
 rw [m.block h.lt (fun e => ?_) (fun e => ?_)]
 · exact h.net
 · subst e
   have := h.net.symm.trans hn.m.net
   simp at this
 · exact own_notO hn.m.row h.net (by decide) e
theorem Np.mvd {w w' : World} {base base' g g' : Nat} {u u' v : Value} {N M : Nt} {es : List Dk} (h : Np w base g v N) (hn : Nd w base' g' u M es) (m : Mv w w' g' u u') : Np w' base g v N := by
 refine ⟨⟨?_, ?_, h.m.low⟩, h.o⟩
 · rw [m.block h.m.lt (fun e => ?_) (fun e => ?_)]
   · exact h.m.net
   · subst e
     have := hn.net.symm.trans h.m.net
     simp at this
   · exact own_notO hn.pks.row h.m.net (by decide) e
 · refine m.kq.own h.m.row (fun j hj => ⟨(h.m.own_lt j hj).2, fun e => ?_, fun e => ?_⟩)
   · subst e; exact own_notO h.m.row hn.net (by decide) hj
   · exact own_kindO h.m.row hn.pks.row (by decide) j hj e
theorem Nd.has {w : World} {base g : Nat} {v : Value} {N : Nt} {es : List Dk} (h : Nd w base g v N es) {i : Nat} (hi : i < N.l.length) : ∃ e, es[i]? = some e ∧ N.l[i]? = some e.1 := by
 have hl := h.len
 have h1 : es[i]? = some (es[i]'(by omega)) := List.getElem?_eq_getElem (by omega)
 refine ⟨_, h1, ?_⟩
 rw [<- h.eq, List.getElem?_map, h1]; rfl
theorem dHas21 {w : World} {base g : Nat} {v : Value} {N : Nt} {es : List Dk} (h : Nd w base g v N es) (i : Int) : Calls Try.prog 42 #[.pointer (some ⟨g, 0, none⟩), .int .i64 i] w fun e w' => e = .returned (.bool (hasI N.l i)) ∧ w' = w := by
 obtain ⟨_, c1, _, _⟩ := h.cells
 obtain ⟨ao, cap, rfl, _⟩ := h.spell
 rw [h.len] at c1
 unfold hasI
 by_cases h1 : 0 <= i <;> by_cases h2 : i < (N.l.length : Int)
 all_goals
  go_enter Try.func42, Try.ntmps42
  go_wp2
  go_ret
  refine ⟨?_, rfl⟩
  simp_all
  try omega
end Go.Proofs.Ytcglbbglapomgaa
