/- Texts laid together: LawQA, LawHA, LawHB. -/
import Derived.Test.YtpbfgcepmbpkdaaGreatBunAU
import Derived.Test.YtpbfgcepmbpkdaaGreatBLawIA
import Derived.Test.YtpbfgcepmbpkdaaGreatBunHC
import Derived.Test.YtpbfgcepmbpkdaaGreatBunHD
import Derived.Test.YtpbfgcepmbpkdaaGreatBunHF
namespace Go.Proofs.YtpbfgcepmbpkdaaGreat
open Go.RowKit Fld Pln
set_option linter.unusedVariables false
set_option linter.unusedSimpArgs false

theorem fi_one : Fi 1 2013265921 false := .inl ⟨rfl, rfl, rfl⟩
/-- The plan of the document's examples. -/
def fourP : Pn := { f := 1, n := 4, k := 2, t := 1, s := 0, e := 0, d := 1, w := 1 }
theorem four_ok : Ok8p fourP ∧ mayP fourP = true ∧ erP fourP = 0 ∧ wrkL fourP = [3, 4, 5, 6] ∧ innL fourP = [0, 1, 2] ∧ outL fourP = [3, 4, 5, 6] := by unfold Ok8p I64; decide +kernel
theorem bs_by {p x a b d : Int} {wd : Bool} {xs : List Int} {i : Nat} (hm : Md p wd) (h1 : dp p (co xs i) (xs.eraseIdx i) = a) (h2 : dp p x (xs.eraseIdx i) = b) (ha : Un p a) (hd : El p d) (h3 : mul p a d = 1) : bs p xs x i = mul p d b := by
  unfold bs wt
  rw [h1, h2, ← inv_eq hm ha hd h3]
theorem four_row : bsl 2013265921 [0, 1, 2] 3 = [1, 2013265918, 3] := by
  have hm := fi_one.md
  have b0 : bs 2013265921 [0, 1, 2] 3 0 = 1 := bs_by (a := 2) (b := 2) (d := 1006632961) hm (by decide +kernel) (by decide +kernel) (by unfold Un El; decide) (by unfold El; decide) (by decide +kernel)
  have b1 : bs 2013265921 [0, 1, 2] 3 1 = 2013265918 := bs_by (a := 2013265920) (b := 3) (d := 2013265920) hm (by decide +kernel) (by decide +kernel) (by unfold Un El; decide) (by unfold El; decide) (by decide +kernel)
  have b2 : bs 2013265921 [0, 1, 2] 3 2 = 3 := bs_by (a := 2) (b := 6) (d := 1006632961) hm (by decide +kernel) (by decide +kernel) (by unfold Un El; decide) (by unfold El; decide) (by decide +kernel)
  unfold bsl
  apply ext_co
  · rw [mk_len]; rfl
  · intro i hi
    rw [mk_len] at hi
    have : i = 0 ∨ i = 1 ∨ i = 2 := by simp at hi; omega
    rw [co_mk, if_pos hi]
    rcases this with rfl | rfl | rfl
    · exact b0
    · exact b1
    · exact b2
theorem four_rows : ∃ r1 r2 r3, rwsL fourP = [[1, 2013265918, 3], r1, r2, r3] := by
  have e : rwsL fourP = chgL 1 [0, 1, 2] [3, 4, 5, 6] := by
    have := four_ok
    unfold rwsL
    rw [if_pos this.2.1, this.2.2.2.2.1, this.2.2.2.2.2]; rfl
  have hb : bac 1 [0, 1, 2] [3, 4, 5, 6] = 0 := by
    have := row_bac four_ok.2.1
    rw [four_ok.2.2.2.2.1, four_ok.2.2.2.2.2] at this
    exact this
  rw [e]
  unfold chgL
  rw [if_pos hb, pOf_eq fi_one]
  exact ⟨bsl 2013265921 [0, 1, 2] 4, bsl 2013265921 [0, 1, 2] 5, bsl 2013265921 [0, 1, 2] 6, by simp only [List.map]; rw [four_row]⟩

theorem row_three (w : World) (a b c : Int) (ha : 0 ≤ a ∧ a ≤ 18446744073709551615) (hb : 0 ≤ b ∧ b ≤ 18446744073709551615) (hc : 0 ≤ c ∧ c ≤ 18446744073709551615) (T : TypeId) :
    Row (w.alloc (.cells #[.int .u64 a, .int .u64 b, .int .u64 c] T)) (.slice (some ⟨w.heap.size, 0, none⟩) 3 3) [a, b, c] :=
  ⟨_, _, rfl, by simp, by simp [ha, hb, hc], fun _ => ⟨_, _, rfl, by simp, fun i hi => by
    have : i = 0 ∨ i = 1 ∨ i = 2 := by simp at hi; omega
    rcases this with rfl | rfl | rfl <;> simp [go_sem]⟩⟩
theorem row_four (w : World) (a b c d : Int) (ha : 0 ≤ a ∧ a ≤ 18446744073709551615) (hb : 0 ≤ b ∧ b ≤ 18446744073709551615) (hc : 0 ≤ c ∧ c ≤ 18446744073709551615) (hd : 0 ≤ d ∧ d ≤ 18446744073709551615) (T : TypeId) :
    Row (w.alloc (.cells #[.int .u64 a, .int .u64 b, .int .u64 c, .int .u64 d] T)) (.slice (some ⟨w.heap.size, 0, none⟩) 4 4) [a, b, c, d] :=
  ⟨_, _, rfl, by simp, by simp [ha, hb, hc, hd], fun _ => ⟨_, _, rfl, by simp, fun i hi => by
    have : i = 0 ∨ i = 1 ∨ i = 2 ∨ i = 3 := by simp at hi; omega
    rcases this with rfl | rfl | rfl | rfl <;> simp [go_sem]⟩⟩
theorem pts_wd {a : Int} {n : Nat} (ha : 0 ≤ a) (hn : a + n ≤ 1000) : Wd (pts a n) := ⟨by rw [pts_len]; omega, pts_words ha hn⟩
theorem dat_wd (p : Pn) : Wd (datL p) ∧ Wd (padL p) ∧ Wd (wrkL p) := by
  unfold datL padL wrkL
  cases hm : mayP p with
  | false => exact ⟨wd_nil, wd_nil, wd_nil⟩
  | true =>
    obtain ⟨⟨n0, n1⟩, ⟨k0, k1⟩, ⟨t0, t1⟩, _⟩ := may_facts hm
    rw [if_pos rfl, if_pos rfl, if_pos rfl]
    exact ⟨pts_wd (by omega) (by omega), pts_wd (by omega) (by omega), pts_wd (by omega) (by omega)⟩
theorem rws_wd (p : Pn) : (∀ i, Wd ((rwsL p).getD i [])) ∧ (rwsL p).length ≤ 512 := by
  unfold rwsL
  cases hm : mayP p with
  | false => exact ⟨fun i => wd_nil, by simp⟩
  | true => rw [if_pos rfl]; exact ⟨fun i => chgL_wd _ i, chgL_len _⟩

end Go.Proofs.YtpbfgcepmbpkdaaGreat

namespace Go.Proofs.YtpbfgcepmbpkdaaGreat
open Go.RowKit Fld Pln Shr
set_option linter.unusedVariables false
set_option linter.unusedSimpArgs false

theorem Rows_h (v1 v2 : Value) (xss : List (List Int)) (w : World) (h1 : Rws w v1 xss) (h2 : Rws w v2 xss) : Calls Tryz.prog 10 #[v1, v2] w fun e w' => e = .returned (.bool true) ∧ Below w.heap.size w w' :=
  (Rows_quiet v1 v2 xss w h1 h2).mono fun e w' ⟨he, m, hw⟩ => ⟨he, by rw [hw]; exact drewN_below w m⟩
/-- Lists written out. -/
theorem rw_lit {W : World} {n : Nat} (hn : W.heap.size = n) (x : Int) (hx : 0 ≤ x ∧ x ≤ 18446744073709551615) (T : TypeId) : Rw (W.alloc (.cells #[.int .u64 x] T)) (.slice (some ⟨n, 0, none⟩) 1 1) [x] := by
  subst hn
  exact ⟨⟨_, _, rfl, by simp, by simp [hx], fun _ => ⟨_, _, rfl, by simp, fun i hi => by
    have : i = 0 := by simp at hi; omega
    subst this; simp [go_sem]⟩⟩, _, _, _, rfl, Nat.le_refl _⟩
theorem rws_lit1 {W : World} {n : Nat} (hn : W.heap.size = n) {u : Value} {xs : List Int} (h : Rw W u xs) (T : TypeId) : Rws (W.alloc (.cells #[u] T)) (.slice (some ⟨n, 0, none⟩) 1 1) [xs] := by
  subst hn
  refine ⟨_, _, rfl, by simp, by simp, fun _ => ⟨_, _, rfl, by simp, fun i hi => ?_⟩⟩
  have : i = 0 := by simp at hi; omega
  subst this
  exact ⟨u, by simp [go_sem], h.below (alloc_below _ _)⟩
theorem rws_lit2 {W : World} {n : Nat} (hn : W.heap.size = n) {u1 u2 : Value} {xs ys : List Int} (h1 : Rw W u1 xs) (h2 : Rw W u2 ys) (T : TypeId) : Rws (W.alloc (.cells #[u1, u2] T)) (.slice (some ⟨n, 0, none⟩) 2 2) [xs, ys] := by
  subst hn
  refine ⟨_, _, rfl, by simp, by simp, fun _ => ⟨_, _, rfl, by simp, fun i hi => ?_⟩⟩
  have : i = 0 ∨ i = 1 := by simp at hi; omega
  rcases this with rfl | rfl
  · exact ⟨u1, by simp [go_sem], h1.below (alloc_below _ _)⟩
  · exact ⟨u2, by simp [go_sem], h2.below (alloc_below _ _)⟩
theorem rws_lit4 {W : World} {n : Nat} (hn : W.heap.size = n) {u1 u2 u3 u4 : Value} {xs ys zs ts : List Int} (h1 : Rw W u1 xs) (h2 : Rw W u2 ys) (h3 : Rw W u3 zs) (h4 : Rw W u4 ts) (T : TypeId) : Rws (W.alloc (.cells #[u1, u2, u3, u4] T)) (.slice (some ⟨n, 0, none⟩) 4 4) [xs, ys, zs, ts] := by
  subst hn
  refine ⟨_, _, rfl, by simp, by simp, fun _ => ⟨_, _, rfl, by simp, fun i hi => ?_⟩⟩
  have : i = 0 ∨ i = 1 ∨ i = 2 ∨ i = 3 := by simp at hi; omega
  rcases this with rfl | rfl | rfl | rfl
  · exact ⟨u1, by simp [go_sem], h1.below (alloc_below _ _)⟩
  · exact ⟨u2, by simp [go_sem], h2.below (alloc_below _ _)⟩
  · exact ⟨u3, by simp [go_sem], h3.below (alloc_below _ _)⟩
  · exact ⟨u4, by simp [go_sem], h4.below (alloc_below _ _)⟩
theorem size_alloc {W : World} {n : Nat} (h : W.heap.size = n) (o : Obj) : (W.alloc o).heap.size = n + 1 := by subst h; simp
/-- What is shared in the document's example. -/
theorem lit_data (w : World) (o : Obj) (T S : TypeId) : Rws ((((((w.alloc o).alloc (.cells #[.int .u64 5] T)).alloc (.cells #[.int .u64 7] T)).alloc (.cells #[.slice (some ⟨w.heap.size + 1, 0, none⟩) 1 1, .slice (some ⟨w.heap.size + 1 + 1, 0, none⟩) 1 1] S)).alloc (.cells #[.int .u64 9] T)).alloc (.cells #[.slice (some ⟨w.heap.size + 1 + 1 + 1 + 1, 0, none⟩) 1 1] S)) (.slice (some ⟨w.heap.size + 1 + 1 + 1, 0, none⟩) 2 2) [[5], [7]] ∧
    Rws ((((((w.alloc o).alloc (.cells #[.int .u64 5] T)).alloc (.cells #[.int .u64 7] T)).alloc (.cells #[.slice (some ⟨w.heap.size + 1, 0, none⟩) 1 1, .slice (some ⟨w.heap.size + 1 + 1, 0, none⟩) 1 1] S)).alloc (.cells #[.int .u64 9] T)).alloc (.cells #[.slice (some ⟨w.heap.size + 1 + 1 + 1 + 1, 0, none⟩) 1 1] S)) (.slice (some ⟨w.heap.size + 1 + 1 + 1 + 1 + 1, 0, none⟩) 1 1) [[9]] ∧
    Below w.heap.size w ((((((w.alloc o).alloc (.cells #[.int .u64 5] T)).alloc (.cells #[.int .u64 7] T)).alloc (.cells #[.slice (some ⟨w.heap.size + 1, 0, none⟩) 1 1, .slice (some ⟨w.heap.size + 1 + 1, 0, none⟩) 1 1] S)).alloc (.cells #[.int .u64 9] T)).alloc (.cells #[.slice (some ⟨w.heap.size + 1 + 1 + 1 + 1, 0, none⟩) 1 1] S)) := by
  have s1 := size_alloc (W := w) rfl o
  have s2 := size_alloc s1 (.cells #[.int .u64 5] T)
  have s3 := size_alloc s2 (.cells #[.int .u64 7] T)
  have s4 := size_alloc s3 (.cells #[.slice (some ⟨w.heap.size + 1, 0, none⟩) 1 1, .slice (some ⟨w.heap.size + 1 + 1, 0, none⟩) 1 1] S)
  have s5 := size_alloc s4 (.cells #[.int .u64 9] T)
  have r1 := rw_lit s1 5 (by decide) T
  have r2 := rw_lit s2 7 (by decide) T
  have r3 := rws_lit2 s3 (r1.below (alloc_below _ _)) r2 S
  have r4 := rw_lit s4 9 (by decide) T
  have r5 := rws_lit1 s5 r4 S
  exact ⟨(r3.below (alloc_below _ _)).below (alloc_below _ _), r5, Below.next (Below.next (Below.next (Below.next (Below.next (alloc_below _ _) (alloc_below _ _)) (alloc_below _ _)) (alloc_below _ _)) (alloc_below _ _)) (alloc_below _ _)⟩
theorem lit_shares (w : World) (T S : TypeId) : Rws (((((w.alloc (.cells #[.int .u64 11] T)).alloc (.cells #[.int .u64 13] T)).alloc (.cells #[.int .u64 15] T)).alloc (.cells #[.int .u64 17] T)).alloc (.cells #[.slice (some ⟨w.heap.size, 0, none⟩) 1 1, .slice (some ⟨w.heap.size + 1, 0, none⟩) 1 1, .slice (some ⟨w.heap.size + 1 + 1, 0, none⟩) 1 1, .slice (some ⟨w.heap.size + 1 + 1 + 1, 0, none⟩) 1 1] S)) (.slice (some ⟨w.heap.size + 1 + 1 + 1 + 1, 0, none⟩) 4 4) [[11], [13], [15], [17]] ∧
    Below w.heap.size w (((((w.alloc (.cells #[.int .u64 11] T)).alloc (.cells #[.int .u64 13] T)).alloc (.cells #[.int .u64 15] T)).alloc (.cells #[.int .u64 17] T)).alloc (.cells #[.slice (some ⟨w.heap.size, 0, none⟩) 1 1, .slice (some ⟨w.heap.size + 1, 0, none⟩) 1 1, .slice (some ⟨w.heap.size + 1 + 1, 0, none⟩) 1 1, .slice (some ⟨w.heap.size + 1 + 1 + 1, 0, none⟩) 1 1] S)) := by
  have s1 := size_alloc (W := w) rfl (.cells #[.int .u64 11] T)
  have s2 := size_alloc s1 (.cells #[.int .u64 13] T)
  have s3 := size_alloc s2 (.cells #[.int .u64 15] T)
  have s4 := size_alloc s3 (.cells #[.int .u64 17] T)
  have r1 := rw_lit (W := w) rfl 11 (by decide) T
  have r2 := rw_lit s1 13 (by decide) T
  have r3 := rw_lit s2 15 (by decide) T
  have r4 := rw_lit s3 17 (by decide) T
  exact ⟨rws_lit4 s4 (((r1.below (alloc_below _ _)).below (alloc_below _ _)).below (alloc_below _ _)) ((r2.below (alloc_below _ _)).below (alloc_below _ _)) (r3.below (alloc_below _ _)) r4 S, Below.next (Below.next (Below.next (Below.next (alloc_below _ _) (alloc_below _ _)) (alloc_below _ _)) (alloc_below _ _)) (alloc_below _ _)⟩
theorem four_bk : bkE fourP [[5], [7]] [[9]] [] = 0 := by decide +kernel
theorem four_py : py 2013265921 [0, 1, 2] [[5], [7], [9]] 0 = [5, 2] := by
  have hm := fi_one.md
  refine Thr.only hm (xs := [0, 1, 2]) (ys := col [[5], [7], [9]] 0) (by unfold Els El; decide) (by decide) (py_thr hm (by unfold Els El; decide) (by decide) (by unfold Els El; decide) 0) ⟨⟨by unfold Els El; decide, by decide +kernel⟩, by decide, fun i hi => ?_⟩
  have : i = 0 ∨ i = 1 ∨ i = 2 := by simp at hi; omega
  rcases this with rfl | rfl | rfl <;> decide +kernel
theorem four_all : allL fourP [[5], [7]] [[9]] = [[11], [13], [15], [17]] := by
  unfold allL
  rw [if_pos four_bk, four_ok.2.2.2.2.1, four_ok.2.2.2.2.2]
  have e : ∀ x, shr (pOf fourP.f) [0, 1, 2] fourP.w.toNat ([[5], [7]] ++ [[9]]) x = [vl 2013265921 x [5, 2]] := fun x => by
    show mk 1 (fun t => vl 2013265921 x (py 2013265921 [0, 1, 2] [[5], [7], [9]] t)) = _
    show [vl 2013265921 x (py 2013265921 [0, 1, 2] [[5], [7], [9]] 0)] = _
    rw [four_py]
  simp only [List.map]
  rw [e, e, e, e]
  decide +kernel

/-- A plan and what is shared, boxed one behind the other. -/
theorem sec_box (w : World) (p : Pn) (v1 v2 : Value) (T : TypeId) : ∃ W1, (w.alloc (.cells #[.int .u8 p.f, .int .i64 p.n, .int .i64 p.k, .int .i64 p.t, .int .i64 p.s, .int .i64 p.e, .int .i64 p.d, .int .i64 p.w] 24)).alloc (.cells #[v1, v2] T) = W1 ∧ Below w.heap.size w W1 ∧ ∀ W, Below W1.heap.size W1 W → (W.cell? ⟨w.heap.size, 0, none⟩ = some (.int .u8 p.f) ∧ W.cell? ⟨w.heap.size, 1, none⟩ = some (.int .i64 p.n) ∧ W.cell? ⟨w.heap.size, 2, none⟩ = some (.int .i64 p.k) ∧ W.cell? ⟨w.heap.size, 3, none⟩ = some (.int .i64 p.t) ∧ W.cell? ⟨w.heap.size, 4, none⟩ = some (.int .i64 p.s) ∧ W.cell? ⟨w.heap.size, 5, none⟩ = some (.int .i64 p.e) ∧ W.cell? ⟨w.heap.size, 6, none⟩ = some (.int .i64 p.d) ∧ W.cell? ⟨w.heap.size, 7, none⟩ = some (.int .i64 p.w)) ∧ W.cell? ⟨w.heap.size + 1, 0, none⟩ = some v1 ∧ W.cell? ⟨w.heap.size + 1, 1, none⟩ = some v2 := by
  obtain ⟨pb, hA⟩ := pb_box (w := w) p
  refine ⟨_, rfl, Below.next hA (alloc_below _ _), fun W hb => ⟨((pb.below (alloc_below _ _)).below hb).cells, ?_, ?_⟩⟩
  · exact (hb.cell (p := ⟨w.heap.size + 1, 0, none⟩) (by simp)).trans (by simp [go_sem])
  · exact (hb.cell (p := ⟨w.heap.size + 1, 1, none⟩) (by simp)).trans (by simp [go_sem])

end Go.Proofs.YtpbfgcepmbpkdaaGreat

namespace Go.Proofs.YtpbfgcepmbpkdaaGreat
open Go.RowKit Fld Pln Shr
set_option linter.unusedVariables false
set_option linter.unusedSimpArgs false

theorem shr_wd {q : Int} {wd : Bool} {f : Int} (hf : Fi f q wd) (xs : List Int) {n : Nat} (hn : n ≤ 1000) (bl : List (List Int)) (x : Int) : Wd (shr q xs n bl x) := wd_els (shr_els hf.pos _ _ _ _) hf.top (by rw [shr_len]; omega)
/-- What is answered are words, and not too many. -/
theorem ans_wd {p : Pn} {dl pl : List (List Int)} (w1 : ∀ b ∈ dl, Wd b) (w2 : ∀ b ∈ pl, Wd b) : ((∀ b ∈ polL p dl pl, Wd b) ∧ (polL p dl pl).length ≤ 1000) ∧ ((∀ b ∈ allL p dl pl, Wd b) ∧ (allL p dl pl).length ≤ 1000) ∧ ∀ i, Wd (shaL p dl pl i) := by
  refine ⟨?_, ?_, fun i => ?_⟩
  · unfold polL
    by_cases hz : bkE p dl pl [] = 0
    · obtain ⟨q, wd, hm, hf, hbe, hbw, hdl, hpl, hbl, ie, inn, i64', oe, on, o64, d0, _⟩ := bk_facts hz w1 w2
      obtain ⟨_, _, _, _, _, _, w0, w1'⟩ := may_facts hm
      rw [if_pos hz, pOf_eq hf]
      refine ⟨fun b hb => ?_, by rw [pys_len]; omega⟩
      obtain ⟨e1, e2⟩ := pys_facts hf.md ie inn hbe p.w.toNat b hb
      exact wd_els e1 hf.top (by omega)
    · rw [if_neg hz]; exact ⟨fun b hb => (by cases hb), by simp⟩
  · unfold allL
    by_cases hz : bkE p dl pl [] = 0
    · obtain ⟨q, wd, hm, hf, hbe, hbw, hdl, hpl, hbl, ie, inn, i64', oe, on, o64, d0, _⟩ := bk_facts hz w1 w2
      obtain ⟨_, _, _, _, _, _, w0, w1'⟩ := may_facts hm
      rw [if_pos hz, pOf_eq hf]
      refine ⟨fun b hb => ?_, by rw [List.length_map]; omega⟩
      obtain ⟨x, _, rfl⟩ := List.mem_map.1 hb
      exact shr_wd hf _ (by omega) _ _
    · rw [if_neg hz]; exact ⟨fun b hb => (by cases hb), by simp⟩
  · unfold shaL
    by_cases hz : bkE p dl pl [i] = 0
    · obtain ⟨q, wd, hm, hf, _⟩ := bk_facts hz w1 w2
      obtain ⟨_, _, _, _, _, _, w0, w1'⟩ := may_facts hm
      rw [if_pos hz, pOf_eq hf]
      exact shr_wd hf _ (by omega) _ _
    · rw [if_neg hz]; exact wd_nil

end Go.Proofs.YtpbfgcepmbpkdaaGreat

