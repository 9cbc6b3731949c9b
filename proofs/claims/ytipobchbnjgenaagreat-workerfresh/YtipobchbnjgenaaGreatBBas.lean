import Derived.Test.YtipobchbnjgenaaGreatRows
import Derived.WalkSpells
import Derived.WalkLawsBesides
set_option linter.unusedVariables false
set_option linter.unusedSimpArgs false
set_option maxRecDepth 100000
set_option maxHeartbeats 4000000
namespace Go.Proofs.YtipobchbnjgenaaGreat
open Go.RowKit
theorem hide {p : Prop} (h : p) : Hid p := h
def Ans (k : FuncId) (args : Array Value) (v : Value) : Prop := ∀ W, Calls Tryz.prog k args W fun e w' => e = .returned v ∧ Below W.heap.size W w'
theorem Below.next {w W w1 : World} (h : Below w.heap.size w W) (hb : Below W.heap.size W w1) : Below w.heap.size w w1 := h.trans (hb.mono h.size)
theorem alloc_below (w : World) (o : Obj) : Below w.heap.size w (w.alloc o) := (Below.refl w.heap.size w).alloc (Nat.le_refl _) o
theorem set_blk {W : World} {rb : Nat} {cs : Array Value} {T : TypeId} (h : W.heap[rb]? = some (.cells cs T (0, 0))) (k : Nat) (v : Value) : (W.setCell ⟨rb, k, none⟩ v).heap[rb]? = some (.cells (cs.setIfInBounds k v) T (0, 0)) := by
 obtain ⟨hlt, hk⟩ := Array.getElem?_eq_some_iff.1 h
 show (W.heap.modify rb _)[rb]? = _
 rw [Array.getElem?_eq_getElem (by rw [Array.size_modify]; exact hlt), Array.getElem_modify_self, hk]
 rfl
theorem res_ct {P : Program} {fn : Func} {tmps : Array Value} {w : World} {a b : Nat} {t : TypeId} {ad : Addr} {v u : Value} (hr : fn.results = #[.cell a t, .tmp b]) (ha : tmps.getD a undef = .pointer (some ad)) (hb : tmps.getD b undef = u) (hl : (loadVar t ad).run P w = .ok v w) :
 (results fn tmps).run P w = .ok (.tuple #[v, u]) w := by
 have ha2 : tmps[a]?.getD undef = .pointer (some ad) := by rw [<- ha]; simp
 have hb2 : tmps[b]?.getD undef = u := by rw [<- hb]; simp
 simp [results, hr, ha2, hb2, asAddr, hl]
theorem resCell1 {P : Program} {fn : Func} {tmps : Array Value} {w : World} {a : Nat} {t : TypeId} {ad : Addr} {v : Value} (hr : fn.results = #[.cell a t]) (ha : tmps.getD a undef = .pointer (some ad)) (hl : (loadVar t ad).run P w = .ok v w) :
 (results fn tmps).run P w = .ok v w := by
 have ha2 : tmps[a]?.getD undef = .pointer (some ad) := by rw [<- ha]; simp
 simp [results, hr, ha2, asAddr, hl]
end Go.Proofs.YtipobchbnjgenaaGreat
