import Derived.Test.YtjhididlcdepdaaGreatBLodB
import Derived.Test.YtjhididlcdepdaaGreatBunYJ
set_option linter.unusedVariables false
set_option linter.unusedSimpArgs false
set_option maxRecDepth 100000
set_option maxHeartbeats 4000000
namespace Go.Proofs.YtjhididlcdepdaaGreat
open Go.RowKit Fld Rnk
def rwl (p : Int) (n w : Nat) (xs ys : List Int) (i : Nat) : List Int := mk (n + w + 1) (wrow p n w (co xs i) (co ys i))
def rwsl (p : Int) (n w : Nat) (xs ys : List Int) (k : Nat) : List (List Int) := (List.range k).map (rwl p n w xs ys)
theorem rwl_len (p : Int) (n w : Nat) (xs ys : List Int) (i : Nat) : (rwl p n w xs ys i).length = n + w + 1 := mk_len _ _
theorem rwsl_len (p : Int) (n w : Nat) (xs ys : List Int) (k : Nat) : (rwsl p n w xs ys k).length = k := by simp [rwsl]
theorem rwsl_snoc (p : Int) (n w : Nat) (xs ys : List Int) (k : Nat) : rwsl p n w xs ys k ++ [rwl p n w xs ys k] = rwsl p n w xs ys (k + 1) := by simp [rwsl, List.range_succ]
theorem rwsl_at (p : Int) (n w : Nat) (xs ys : List Int) {k i : Nat} (hi : i < k) : (rwsl p n w xs ys k).getD i [] = rwl p n w xs ys i := by
 simp [rwsl, List.getD_eq_getElem?_getD, hi]
theorem wrow_el {p : Int} (hp : 0 < p) (n w : Nat) (x y : Int) (m : Nat) : El p (wrow p n w x y m) := by
 unfold wrow
 split
 · exact px_el hp _ _
 · split
   · exact sub_el hp
   · exact mul_el hp
theorem rwl_els {p : Int} (hp : 0 < p) (n w : Nat) (xs ys : List Int) (i : Nat) : Els p (rwl p n w xs ys i) := Els.mk _ (fun m _ => wrow_el hp n w _ _ m)
theorem rwsl_mx (p : Int) (n w : Nat) (xs ys : List Int) {k i m : Nat} (hi : i < k) (hm : m ≤ n + w) : mx (rwsl p n w xs ys k) i m = wrow p n w (co xs i) (co ys i) m := by
 unfold mx
 rw [rwsl_at _ _ _ _ _ hi]
 unfold rwl
 rw [co_mk, if_pos (by omega)]
theorem sl_info17 : (Tryz.prog.info? 36).map (fun i => (i.zero, i.size, i.bytes)) = some (some (.slice none 0 0), 1, 24) := by kernel_rfl
theorem appS1 (W : World) (base : Nat) (u : Value) (n : Nat) (us : List Value) (a : Addr) (ao : Option Addr) (m c : Nat) (hO : W.ownsRow base 36 1 u n us) (hc : W.cell? a = some (.slice ao m c)) (hl : n ≤ 100000) (hb : base ≤ W.heap.size) :
 ∃ (au' : Option Addr) (cu' : Nat) (W' : World), (Builtin.append_ #[26, 26] 26 #[u, .slice (some a) 1 1]).run Tryz.prog W = .ok (.slice au' (n + 1) cu') W' ∧ W'.ownsRow base 36 1 (.slice au' (n + 1) cu') (n + 1) (us ++ [.slice ao m c]) ∧ Below base W W' ∧ W.grownBy W' u.ownBlock := by
 obtain ⟨i0, hi0, hz0, hz1, hz2⟩ := info_parts sl_info17
 obtain ⟨v', W', hr, ho, hg, _, hbk⟩ := run_append_own_at (P := Tryz.prog) (w := W) base 26 26 36 i0 (.slice none 0 0) 1 24 Tryz.underlying26 hi0 hz0 hz1 hz2 rfl (by decide) u n us hO a 1 1 [.slice ao m c] rfl (fun j u hj => by
  cases j with
  | zero => simp at hj; rw [← hj]; exact hc
  | succ j => simp at hj) (by simp [Value.oneCell']) (by unfold maxLen; omega) (by omega) hb
 obtain ⟨au', cu', rfl⟩ := own_form ho
 exact ⟨au', cu', W', hr, ho, (Below.refl base W).grown hg hb (fun k hk => own_base hO k hk), hg⟩
theorem appV (W : World) (base : Nat) (u : Value) (l : List Int) (x : Int) (hO : W.ownsRow base 64 1 u l.length (vals l)) (hl : l.length ≤ 100000) (hb : base ≤ W.heap.size) :
 ∃ (au' : Option Addr) (cu' : Nat) (W' : World), (Builtin.append_ #[36, 36] 36 #[u, .slice (some ⟨W.heap.size, 0, none⟩) 1 1]).run Tryz.prog (W.alloc (.cells #[.int .u64 x] 64)) = .ok (.slice au' (l.length + 1) cu') W' ∧ W'.ownsRow base 64 1 (.slice au' (l.length + 1) cu') (l.length + 1) (vals (l ++ [x])) ∧ Below base W W' := by
 have hab := alloc_below W (.cells #[.int .u64 x] 64)
 obtain ⟨au, cu, W', h1, h2, h3, _⟩ := appW1 (W.alloc (.cells #[.int .u64 x] 64)) base u l ⟨W.heap.size, 0, none⟩ x (own_below hO hab) (box_cell (heap_alloc_new W _)).1 hl (Nat.le_trans hb hab.size)
 rw [List.length_append, List.length_singleton] at h2
 exact ⟨au, cu, W', h1, h2, ((Below.refl base W).trans (hab.mono hb)).trans h3⟩
end Go.Proofs.YtjhididlcdepdaaGreat
