/-
  Layer 9: SlpFresh: one of two answers written over, in memory.
-/
import Derived.Test.YtjkialmhajbcfaaDoorBSlxN
namespace Go.Proofs.YtjkialmhajbcfaaDoor
open Go.RowKit Fld Slp
set_option linter.unusedVariables false
set_option linter.unusedSimpArgs false

theorem flat_set1 (x : Int) : ∀ (us : List Int) (k : Nat), k < us.length → (us.flatMap iw).set k (.int .i64 x) = (us.set k x).flatMap iw
  | [], k, h => by simp at h
  | u :: us, 0, h => by simp [iw]
  | u :: us, k + 1, h => by
    have ih := flat_set1 x us k (by simpa using h)
    show ([Value.int .i64 u] ++ us.flatMap iw).set (k + 1) _ = [Value.int .i64 u] ++ (us.set k x).flatMap iw
    rw [← ih]; rfl
theorem own_set1 {W : World} {base g n cap : Nat} {us : List Int} {k : Nat} (h : W.ownsRow base 3 1 (.slice (some ⟨g, 0, none⟩) n cap) n (us.flatMap iw)) (hk : k < us.length) (x : Int) : (W.setCell ⟨g, k, none⟩ (.int .i64 x)).ownsRow base 3 1 (.slice (some ⟨g, 0, none⟩) n cap) n ((us.set k x).flatMap iw) := by
  have hn : us.length = n := by
    have := h.1
    rw [flat_len iw 1 iw_len] at this; omega
  rcases h.2 with ⟨e, _⟩ | ⟨g', cap', cur, e, hb, hgb, hnc, hcm, hcs, htake⟩
  · cases e
  · cases e
    have hs := set_blk hgb k (.int .i64 x)
    refine ⟨by rw [flat_len iw 1 iw_len, List.length_set, hn], .inr ⟨g, cap, _, rfl, hb, hs, hnc, hcm, by simpa using hcs, ?_⟩⟩
    simp only [Array.toList_setIfInBounds, List.take_set, htake]
    exact flat_set1 x us k hk
theorem aftP_len (p q : Pr) : (aftP p q).ops.length ≤ 256 ∧ (aftP p q).outs.length ≤ 64 := by
  by_cases hE : aftE p q = 0
  · have eP : aftP p q = aftF p q := by unfold aftP; rw [if_pos hE]
    obtain ⟨hm, hm2, hl, hlen⟩ := aftE_zero hE
    obtain ⟨⟨i0, i1, l1, l3⟩, _, _⟩ := mayB_iff.1 hm
    rw [eP]
    unfold aftF
    constructor <;> simp <;> omega
  · have eP : aftP p q = pz := by unfold aftP; rw [if_neg hE]
    rw [eP]; decide
/-- Two answers: the one at b7 may be written over, the other one stays. -/
structure Fx (V W : World) (r : Pr) (b7 b9 : Nat) (xo xu yo yu : Value) (os : List O4) (us : List Int) : Prop where
  bl : Below V.heap.size V W
  bx : W.heap[b7]? = some (.cells #[.int .i64 r.inp, xo, xu] 25 (0, 0))
  bz : W.heap[b9]? = some (.cells #[.int .i64 r.inp, yo, yu] 25 (0, 0))
  rx : W.ownsRow V.heap.size 47 4 xo os.length (os.flatMap opw)
  sx : W.ownsRow V.heap.size 3 1 xu us.length (us.flatMap iw)
  ry : W.ownsRow V.heap.size 47 4 yo r.ops.length (r.ops.flatMap opw)
  sy : W.ownsRow V.heap.size 3 1 yu r.outs.length (r.outs.flatMap iw)
  no : ∀ g, xo.ownBlock = some g → yo.ownBlock ≠ some g
  nu : ∀ g, xu.ownBlock = some g → yu.ownBlock ≠ some g
theorem fx_of {V w3 w5 : World} {r : Pr} {xo xu yo yu : Value} {B2 : Nat} (hb3 : Below V.heap.size V w3) (ho3 : w3.ownsRow V.heap.size 47 4 xo r.ops.length (r.ops.flatMap opw)) (hu3 : w3.ownsRow V.heap.size 3 1 xu r.outs.length (r.outs.flatMap iw)) (hB : B2 = (w3.alloc (.cells #[.int .i64 r.inp, xo, xu] 25)).heap.size)
    (hb5 : Below B2 (w3.alloc (.cells #[.int .i64 r.inp, xo, xu] 25)) w5) (ho5 : w5.ownsRow B2 47 4 yo r.ops.length (r.ops.flatMap opw)) (hu5 : w5.ownsRow B2 3 1 yu r.outs.length (r.outs.flatMap iw)) :
    Fx V (w5.alloc (.cells #[.int .i64 r.inp, yo, yu] 25)) r w3.heap.size w5.heap.size xo xu yo yu r.ops r.outs := by
  subst hB
  have hA3 := alloc_below w3 (.cells #[.int .i64 r.inp, xo, xu] 25)
  have hN3 := heap_alloc_new w3 (.cells #[.int .i64 r.inp, xo, xu] 25)
  have hA5 := alloc_below w5 (.cells #[.int .i64 r.inp, yo, yu] 25)
  have hb := (Below.next hA3 hb5)
  have hb2 : Below w3.heap.size w3 (w5.alloc (.cells #[.int .i64 r.inp, yo, yu] 25)) := Below.next hb hA5
  have hN := (hb5.block _ (Array.getElem?_eq_some_iff.1 hN3).1).trans hN3
  have hle : V.heap.size ≤ (w3.alloc (.cells #[.int .i64 r.inp, xo, xu] 25)).heap.size := Nat.le_trans hb3.size hA3.size
  refine ⟨Below.next hb3 hb2, (hA5.block _ (Array.getElem?_eq_some_iff.1 hN).1).trans hN, heap_alloc_new w5 _, own_kept ho3 (below_own hb2) (fun g _ => by simp), own_kept hu3 (below_own hb2) (fun g _ => by simp), own_mono (own_kept ho5 (below_own hA5) (fun g _ => by simp)) hle, own_mono (own_kept hu5 (below_own hA5) (fun g _ => by simp)) hle, fun g h1 h2 => ?_, fun g h1 h2 => ?_⟩
  · have := own_top ho3 g h1
    have := own_base ho5 g h2
    have := hA3.size
    omega
  · have := own_top hu3 g h1
    have := own_base hu5 g h2
    have := hA3.size
    omega
theorem Fx.putO {V W : World} {r : Pr} {b7 b9 g n cap : Nat} {xu yo yu : Value} {os : List O4} {us : List Int} (h : Fx V W r b7 b9 (.slice (some ⟨g, 0, none⟩) n cap) xu yo yu os us) {k : Nat} (hk : k < os.length) (o : O4) : Fx V (set4 W g (k * 4) o) r b7 b9 (.slice (some ⟨g, 0, none⟩) n cap) xu yo yu (os.set k o) us := by
  have hn : os.length = n := by
    obtain ⟨a, c, e⟩ := own_slice h.rx
    cases e; rfl
  subst hn
  have hg := set4_grown W g (k * 4) o
  obtain ⟨cs, hcs⟩ := own_blk h.rx (g := g) rfl
  have hd : ∀ {b : Nat} {T : TypeId} {c2 : Array Value} {fz : Nat × Nat}, W.heap[b]? = some (.cells c2 T fz) → T ≠ 47 → b ≠ g := fun hb hT e => by rw [e, hcs] at hb; cases hb; exact hT rfl
  refine ⟨h.bl.grown hg h.bl.size (fun j e => by cases e; exact own_base h.rx g rfl), (hg.block _ (Array.getElem?_eq_some_iff.1 h.bx).1 (fun e => hd h.bx (by decide) (Option.some.inj e))).trans h.bx, (hg.block _ (Array.getElem?_eq_some_iff.1 h.bz).1 (fun e => hd h.bz (by decide) (Option.some.inj e))).trans h.bz, ?_, own_kept h.sx hg (fun j hj e => ?_), own_kept h.ry hg (fun j hj e => h.no j e hj), own_kept h.sy hg (fun j hj e => ?_), h.no, h.nu⟩
  · rw [List.length_set]; exact own_set4 h.rx hk o
  · obtain ⟨c2, h2⟩ := own_blk h.sx hj
    exact hd h2 (by decide) (Option.some.inj e).symm
  · obtain ⟨c2, h2⟩ := own_blk h.sy hj
    exact hd h2 (by decide) (Option.some.inj e).symm
theorem Fx.putU {V W : World} {r : Pr} {b7 b9 g n cap : Nat} {xo yo yu : Value} {os : List O4} {us : List Int} (h : Fx V W r b7 b9 xo (.slice (some ⟨g, 0, none⟩) n cap) yo yu os us) {k : Nat} (hk : k < us.length) (x : Int) : Fx V (W.setCell ⟨g, k, none⟩ (.int .i64 x)) r b7 b9 xo (.slice (some ⟨g, 0, none⟩) n cap) yo yu os (us.set k x) := by
  have hn : us.length = n := by
    obtain ⟨a, c, e⟩ := own_slice h.sx
    cases e; rfl
  subst hn
  have hg := set1_grown W g k (.int .i64 x)
  obtain ⟨cs, hcs⟩ := own_blk h.sx (g := g) rfl
  have hd : ∀ {b : Nat} {T : TypeId} {c2 : Array Value} {fz : Nat × Nat}, W.heap[b]? = some (.cells c2 T fz) → T ≠ 3 → b ≠ g := fun hb hT e => by rw [e, hcs] at hb; cases hb; exact hT rfl
  refine ⟨h.bl.grown hg h.bl.size (fun j e => by cases e; exact own_base h.sx g rfl), (hg.block _ (Array.getElem?_eq_some_iff.1 h.bx).1 (fun e => hd h.bx (by decide) (Option.some.inj e))).trans h.bx, (hg.block _ (Array.getElem?_eq_some_iff.1 h.bz).1 (fun e => hd h.bz (by decide) (Option.some.inj e))).trans h.bz, own_kept h.rx hg (fun j hj e => ?_), ?_, own_kept h.ry hg (fun j hj e => ?_), own_kept h.sy hg (fun j hj e => h.nu j e hj), h.no, h.nu⟩
  · obtain ⟨c2, h2⟩ := own_blk h.rx hj
    exact hd h2 (by decide) (Option.some.inj e).symm
  · rw [List.length_set]; exact own_set1 h.sx hk x
  · obtain ⟨c2, h2⟩ := own_blk h.ry hj
    exact hd h2 (by decide) (Option.some.inj e).symm

end Go.Proofs.YtjkialmhajbcfaaDoor
