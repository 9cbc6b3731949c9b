/-
  Layer 6: slopes, the program's and the document's.
-/
import Derived.Test.YtfbipnhhnmlhfabBTreD
import Derived.Test.YtfbipnhhnmlhfabBPolP
namespace Go.Proofs.Ytfbipnhhnmlhfab
open Go.RowKit Fld
set_option linter.unusedVariables false

/-- A list at the block g, made by the call. -/
def Ow (w : World) (g n : Nat) (ys : List Int) : Prop := w.ownsRow g 36 1 (.slice (some ⟨g, 0, none⟩) n n) n (vals ys)
theorem Ow.cell {wr : World} {g n : Nat} {ys : List Int} (h : Ow wr g n ys) (k : Nat) (hk : k < n) : wr.cell? ⟨g, k, none⟩ = some (.int .u64 (ys.getD k 0)) := by
  have := own_len h
  rw [h.cellAt k (by omega), vals_at ys k (by omega)]
theorem Ow.free {wr : World} {g n : Nat} {ys : List Int} (h : Ow wr g n ys) (k : Nat) : wr.frozen? ⟨g, k, none⟩ = false := h.frozenAt k
theorem Ow.set {wr : World} {g n : Nat} {ys : List Int} (h : Ow wr g n ys) (k : Nat) (x : Int) : Ow (wr.setCell ⟨g, k, none⟩ (.int .u64 x)) g n (ys.set k x) := by
  have := (h.stored k (.int .u64 x)).1
  rw [vals_set] at this; exact this
theorem Ow.below {w w' : World} {g n : Nat} {ys : List Int} (h : Ow w g n ys) (hb : Below w.heap.size w w') : Ow w' g n ys := own_below h hb
theorem Ow.made {W w1 : World} {n : Nat} (h : w1.ownsRow W.heap.size 36 1 (.slice (some ⟨W.heap.size, 0, none⟩) n n) n (madeCells (Value.int .u64 0).cells (n * 1)).toList) : Ow w1 W.heap.size n (List.replicate n 0) := own_made h

/-- How far a list is filled. -/
theorem fill_step {F : Nat → Int} {ys : List Int} {k : Nat} {x : Int} (h : ∀ j, j < k → co ys j = F j) (hk : k < ys.length) (hx : F k = x) : ∀ j, j < k + 1 → co (ys.set k x) j = F j := by
  intro j hj
  rw [co_set _ _ _ _ hk]
  by_cases he : j = k
  · rw [if_pos he, he, hx]
  · rw [if_neg he]; exact h j (by omega)
theorem fill_end {F : Nat → Int} {ys : List Int} {n : Nat} (h : ∀ j, j < n → co ys j = F j) (hl : ys.length = n) : ys = mk n F :=
  ext_co (by rw [mk_len, hl]) (fun i hi => by rw [co_mk, if_pos (by omega), h i (by omega)])

def slpL (f : Int) (xs : List Int) : List Int := if chk f [xs] = 0 then slp (pOf f) xs else []
theorem chk_one {f : Int} {xs : List Int} (h : chk f [xs] = 0) : ∃ p wd, Fi f p wd ∧ allIn p xs = true ∧ xs.length ≤ 2048 := by
  obtain ⟨h1, h2⟩ := chk_zero h (List.mem_singleton.2 rfl)
  obtain ⟨p, wd, hf, hi⟩ := inF_fi h1
  exact ⟨p, wd, hf, hi, h2⟩
theorem Fi.big {f p : Int} {wd : Bool} (h : Fi f p wd) : 2048 < p := by rcases h with ⟨_, rfl, _⟩ | ⟨_, rfl, _⟩ <;> decide
/-- The slope out of the trimmed list: its last element is not 0. -/
theorem slp_tr {p : Int} {wd : Bool} (hm : Md p wd) (hbig : 2048 < p) {xs : List Int} (hx : Els p xs) (hl : xs.length ≤ 2048) : mk ((tr xs).length - 1) (fun i => (((i : Int) + 1) * co (tr xs) (i + 1)) % p) = slp p xs := by
  have hp : 0 < p := by omega
  have hl2 := tr_len xs
  have e1 : mk ((tr xs).length - 1) (fun i => (((i : Int) + 1) * co (tr xs) (i + 1)) % p) = slp p (tr xs) := by
    refine (tr_full ?_).symm
    by_cases h2 : (tr xs).length ≤ 1
    · left
      apply List.eq_nil_of_length_eq_zero
      rw [mk_len]; omega
    · right
      rw [mk_len, co_mk, if_pos (by omega)]
      have hne : tr xs ≠ [] := by intro h; rw [h] at h2; simp at h2
      have hlast := tr_last xs hne
      rw [← co_tr] at hlast
      have hel : El p (co (tr xs) ((tr xs).length - 1)) := (hx.tr hp).co hp _
      intro hc
      have e : (tr xs).length - 1 - 1 + 1 = (tr xs).length - 1 := by omega
      have e' : (((tr xs).length - 1 - 1 : Nat) : Int) + 1 = (((tr xs).length - 1 : Nat) : Int) := by omega
      rw [e, e'] at hc
      have h0 := no_div hm _ _ (by rw [hel.mod]; exact hlast) hc
      rw [Int.emod_eq_of_lt (by omega) (by omega)] at h0
      omega
  rw [e1]
  have h1 := is_slp hp (tr xs)
  have h2 := is_slp hp xs
  exact (h1.al (fun i => by unfold sf; rw [co_tr])).only hp h2

/-- What one step reckons. -/
theorem val_two {f p c t : Int} {wd : Bool} (h : Fi f p wd) (hc : El p c) (ht : El p t) : er f [0, c] [t] = 0 ∧ valE f t [0, c] = (t * c) % p := by
  have hp := h.pos
  have he : er f [0, c] [t] = 0 := er_yes h (allIn_of (fun x hx => by
    have : x = 0 ∨ x = c := by simpa using hx
    rcases this with rfl | rfl
    · exact ⟨by decide, hp⟩
    · exact hc)) (allIn_of (fun x hx => by rw [List.mem_singleton.1 hx]; exact ht)) (by simp) (by simp)
  refine ⟨he, ?_⟩
  unfold valE
  rw [if_pos he, pOf_eq h]
  show (0 + t * (c + t * 0)) % p = _
  rw [Int.mul_zero, Int.add_zero, Int.zero_add]

theorem app_drew {w wr w1 : World} {v v1 : Value} {k : Nat} {F : Nat → Int} {y : Int} {T : TypeId} (hB : Below w.heap.size w wr) (hown : wr.ownsRow w.heap.size T 1 v k (vals (mk k F)))
    (h1 : w1.ownsRow w.heap.size T 1 v1 (k + 1) (vals (mk k F) ++ [.int .u64 y])) (hg : (wr.alloc (.cells #[.int .u64 y] T)).drew.grownBy w1 v.ownBlock) (hy : F k = y) :
    w1.ownsRow w.heap.size T 1 v1 (k + 1) (vals (mk (k + 1) F)) ∧ Below w.heap.size w w1 := by
  refine ⟨?_, ?_⟩
  · rw [← mk_snoc, hy, ← vals_snoc]; exact h1
  · exact ((hB.alloc hB.size _).drew).grown hg (by have := hB.size; simp; omega) (own_base hown)

end Go.Proofs.Ytfbipnhhnmlhfab
