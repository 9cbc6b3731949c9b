import Derived.Test.YtnapbdoalfbgnaaGreatBLocH
import Derived.Test.YtnapbdoalfbgnaaGreatBLocE
import Derived.Test.YtnapbdoalfbgnaaGreatBunM
import Derived.Test.YtnapbdoalfbgnaaGreatBunJ
set_option linter.unusedVariables false
set_option linter.unusedSimpArgs false
set_option maxRecDepth 100000
set_option maxHeartbeats 4000000
namespace Go.Proofs.YtnapbdoalfbgnaaGreat
open Go.RowKit Fld
theorem iw_nms (l : List Nat) : (l.map (fun (i : Nat) => (i : Int))).flatMap iw = nms l := by
 induction l with
 | nil => rfl
 | cons a l ih => simp [iw, nms] at ih ⊢; exact ih
theorem appN (W : World) (base : Nat) (u : Value) (l : List Nat) (k : Nat) (hO : W.ownsRow base 3 1 u l.length (nms l)) (hl : l.length ≤ 100000) (hb : base ≤ W.heap.size) :
 ∃ (au' : Option Addr) (cu' : Nat) (W' : World), (Builtin.append_ #[25, 25] 25 #[u, .slice (some ⟨W.heap.size, 0, none⟩) 1 1]).run Tryz.prog (W.alloc (.cells #[.int .i64 (k : Int)] 3)) = .ok (.slice au' (l.length + 1) cu') W' ∧ W'.ownsRow base 3 1 (.slice au' (l.length + 1) cu') (l ++ [k]).length (nms (l ++ [k])) ∧ Below base W W' := by
 have hab := alloc_below W (.cells #[.int .i64 (k : Int)] 3)
 have h0 := own_below hO hab
 obtain ⟨au, cu, W', h1, h2, h3, _⟩ := appI1 (W.alloc (.cells #[.int .i64 (k : Int)] 3)) base u (l.map (fun (i : Nat) => (i : Int))) ⟨W.heap.size, 0, none⟩ (k : Int) (by rw [iw_nms, List.length_map]; exact h0) (box_cell (heap_alloc_new W _)).1 (by rw [List.length_map]; exact hl) (Nat.le_trans hb hab.size)
 rw [List.length_map] at h1 h2
 refine ⟨au, cu, W', h1, ?_, ((Below.refl base W).trans (hab.mono hb)).trans h3⟩
 have e : l.map (fun (i : Nat) => (i : Int)) ++ [(k : Int)] = (l ++ [k]).map (fun (i : Nat) => (i : Int)) := by simp
 rw [e, iw_nms, List.length_map] at h2
 exact h2
theorem offp_offs (p : Int) (P xs ys : List Int) : offp p P xs ys = offs (fun i => decide (vl p (co xs i) P = co ys i)) xs.length := by
 unfold offp offs
 refine List.filter_congr (fun i _ => ?_)
 show _ = !(decide _)
 simp
theorem dEv (f p t : Int) (wd : Bool) (v : Value) (V : List Int) (W : World) (h : Fi f p wd) (hr : Rw W v V) (hV : Els p V) (hl : V.length ≤ 4096) (ht : El p t) : Calls Tryz.prog 44 #[.int .u8 f, v, .int .u64 t] W fun e w' => e = .returned (.tuple #[.int .u64 (vl p t V), .int .i64 0]) ∧ Below W.heap.size W w' := by
 have := dEval_any f t v V W (by have := ht.1; have := ht.2; have := h.top; omega) hr
 have h1 : er f V [t] = 0 := er_yes h (allIn_of hV) (allIn_of (fun x hx => by rw [List.mem_singleton.1 hx]; exact ht)) hl (by simp)
 have h2 : valE f t V = vl p t V := by unfold valE; rw [h1, if_pos rfl, pOf_eq h]
 rw [h1, h2] at this
 exact this
theorem Rw.cellAt {w : World} {ao : Option Addr} {n cap : Nat} {xs : List Int} (h : Rw w (.slice ao n cap) xs) (h0 : 0 < xs.length) : ∃ b off, ao = some ⟨b, off, none⟩ ∧ ∀ W, Below w.heap.size w W → ∀ i, i < xs.length → W.cell? ⟨b, off + i, none⟩ = some (.int .u64 (co xs i)) := by
 obtain ⟨⟨ao', cap', h1, h2, h3, h4⟩, h5⟩ := h
 cases h1
 obtain ⟨b, off, h6, h7, h8⟩ := h4 (List.length_pos_iff.1 h0)
 exact ⟨b, off, h6, fun W hb i hi => (hb.cell (p := ⟨b, off + i, none⟩) h7).trans (h8 i hi)⟩
theorem dOff (f p : Int) (wd : Bool) (vP vx vy : Value) (P xs ys : List Int) (w : World) (h : Fi f p wd) (h1 : Rw w vP P) (h2 : Rw w vx xs) (h3 : Rw w vy ys) (hP : Els p P) (lP : P.length ≤ 4096) (hx : Els p xs) (hl : xs.length = ys.length) (l5 : xs.length ≤ 512) :
 Calls Tryz.prog 21 #[.int .u8 f, vP, vx, vy] w fun e w' => ∃ v', e = .returned v' ∧ w'.ownsRow w.heap.size 3 1 v' (offp p P xs ys).length (nms (offp p P xs ys)) ∧ Below w.heap.size w w' := by
 rw [offp_offs]
 have HE := hide (fun W i (hb : Below w.heap.size w W) => dEv f p (co xs i) wd vP P W h (h1.below hb) hP lP (hx.co h.pos i))
 have HY := hide (fun i => elWord (vl_el h.pos (co xs i) P) h.top)
 have hwy := h3.words
 have HYw : Hid (∀ i, 0 ≤ co ys i ∧ co ys i ≤ 18446744073709551615) := fun i => by
  by_cases e : i < ys.length
  · rw [co_at e]; exact hwy _ (List.getElem_mem e)
  · rw [co_out _ _ (by omega)]; decide
 have HXw := hide (fun i => elWord (hx.co h.pos i) h.top)
 obtain ⟨ax, cx, rfl, _⟩ := h2.spell
 obtain ⟨ay, cy, rfl, _⟩ := h3.spell
 obtain ⟨aP, cP, rfl, _⟩ := h1.spell
 have H2 := hide h2
 have H3 := hide h3
 obtain ⟨Bf, HBf⟩ : ∃ Bf, Hid ((fun i => decide (vl p (co xs i) P = co ys i)) = Bf) := ⟨_, rfl⟩
 rw [HBf.out]
 have HB : Hid (∀ i, Bf i = decide (vl p (co xs i) P = co ys i)) := fun i => by rw [← HBf.out]
 clear h1 h2 h3 hP lP hx h hwy HBf
 obtain ⟨n, Hn⟩ : ∃ n, Hid (xs.length = n) := ⟨_, rfl⟩
 obtain ⟨lp, Hlp⟩ : ∃ n, Hid (P.length = n) := ⟨_, rfl⟩
 have Hn2 : Hid (ys.length = n) := by show _ = _; rw [← hl]; exact Hn.out
 rw [Hlp.out] at HE ⊢
 rw [Hn.out] at H2 ⊢
 rw [Hn2.out] at H3 ⊢
 have hn5 : n ≤ 512 := by rw [← Hn.out]; exact l5
 clear hl l5
 go_enter Tryz.func21, Tryz.ntmps21
 go_wp2_with fail
 go_loopw [9, 10] (fun va vi wr => ∃ (k : Nat) (a : Option Addr) (c : Nat), k ≤ n ∧ vi = .int .i64 k ∧ va = .slice a (offs Bf k).length c ∧ Hid (wr.ownsRow w.heap.size 3 1 (.slice a (offs Bf k).length c) (offs Bf k).length (nms (offs Bf k))) ∧ Below w.heap.size w wr) (fun _ vi _ => n - (intOf vi).toNat)
 case atStart => exact ⟨0, none, 0, Nat.zero_le _, rfl, rfl, World.ownsRow_nil _ _ _ _, Below.refl _ _⟩
 case round =>
  obtain ⟨k, a, c, hk, rfl, rfl, HO, hB⟩ := hrel
  by_cases hkn : k < n
  · obtain ⟨b, off, rfl, hcx⟩ := H2.out.cellAt (by rw [Hn.out]; omega)
    obtain ⟨b', off', rfl, hcy⟩ := H3.out.cellAt (by rw [Hn2.out]; omega)
    have c1 := hcx wr hB k (by rw [Hn.out]; exact hkn)
    have HCY := hide (fun W hb => hcy W hb k (by rw [Hn2.out]; exact hkn))
    have HEk := hide (HE.out wr k hB)
    have hk0 : (0 : Int) ≤ (k : Int) := Int.natCast_nonneg _
    have hk1 : (k : Int) < (n : Int) := by omega
    have hlen := offs_len Bf k
    have HBk := hide (HB.out k)
    have hy1 := HYw.out k
    clear hcx hcy HE
    obtain ⟨x, Hx⟩ : ∃ x, Hid (vl p (co xs k) P = x) := ⟨_, rfl⟩
    obtain ⟨y, Hy⟩ : ∃ y, Hid (co ys k = y) := ⟨_, rfl⟩
    rw [Hx.out] at HEk HBk
    rw [Hy.out] at HCY HBk hy1
    obtain ⟨t, Ht⟩ : ∃ t, Hid (co xs k = t) := ⟨_, rfl⟩
    rw [Ht.out] at HEk c1
    by_cases hxy : x = y
    · have HBt : Hid (offs Bf (k + 1) = offs Bf k) := offs_yes (by rw [HBk.out]; exact decide_eq_true hxy)
      subst hxy
      clear HBk
      go_wp2_with (go_at_call 44; refine HEk.out.mono ?_; rintro e w1 ⟨rfl, hb1⟩; have hB1 := Below.next hB hb1; have c2 := HCY.out _ hB1)
      go_roundw
      case rel => exact ⟨k + 1, a, c, by omega, by go_num, by rw [HBt.out], by rw [HBt.out]; exact own_below HO.out hb1, hB1⟩
      case measure => simp [intOf]; omega
    · have HBt : Hid (offs Bf (k + 1) = offs Bf k ++ [k]) := offs_no (by rw [HBk.out]; exact decide_eq_false hxy)
      have hne : (x != y) = true := bne_iff_ne.2 hxy
      clear HBk
      generalize offs Bf k = l at *
      obtain ⟨m, Hm⟩ : ∃ m, Hid (l.length = m) := ⟨_, rfl⟩
      rw [Hm.out] at HO hlen ⊢
      go_wp2_with (first
       | (at_builtin; refine Lib.wpList_append_run _ rfl _ _ _ _ rfl _ _ rfl rfl _ _ hr5 ?_)
       | (go_at_call 44; refine HEk.out.mono ?_; rintro e w1 ⟨rfl, hb1⟩; have hB1 := Below.next hB hb1; have c2 := HCY.out _ hB1; obtain ⟨au, cu, W5, hr5, ho5, hb5⟩ := appN w1 w.heap.size (.slice a m c) l k (by rw [Hm.out]; exact own_below HO.out hb1) (by have := Hm.out; omega) (Nat.le_trans hB.size hb1.size); rw [Hm.out] at hr5 ho5; have HO5 := hide ho5; clear ho5; have hB5 := hB1.trans hb5))
      have e9 : (l ++ [k]).length = m + 1 := by rw [List.length_append, List.length_singleton, Hm.out]
      have HO6 := HO5.out
      rw [e9] at HO6
      go_roundw
      case rel => exact ⟨k + 1, au, cu, by omega, by go_num, by rw [HBt.out, e9], by rw [HBt.out, e9]; exact HO6, hB5⟩
      case measure => simp [intOf]; omega
  · obtain rfl : k = n := by omega
    go_wp2_with fail
    go_ret
    exact ⟨_, rfl, HO.out, hB⟩
end Go.Proofs.YtnapbdoalfbgnaaGreat
