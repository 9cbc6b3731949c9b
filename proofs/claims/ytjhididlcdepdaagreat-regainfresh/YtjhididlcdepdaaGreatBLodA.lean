import Derived.Test.YtjhididlcdepdaaGreatBLocH
import Derived.Test.YtjhididlcdepdaaGreatBunM
set_option linter.unusedVariables false
set_option linter.unusedSimpArgs false
set_option maxRecDepth 100000
set_option maxHeartbeats 4000000
namespace Go.Proofs.YtjhididlcdepdaaGreat
open Go.RowKit Fld
theorem iw_nms (l : List Nat) : (l.map (fun (i : Nat) => (i : Int))).flatMap iw = nms l := by
 induction l with
 | nil => rfl
 | cons a l ih => simp [iw, nms] at ih ⊢; exact ih
theorem appN (W : World) (base : Nat) (u : Value) (l : List Nat) (k : Nat) (hO : W.ownsRow base 3 1 u l.length (nms l)) (hl : l.length <= 100000) (hb : base <= W.heap.size) :
 ∃ (au' : Option Addr) (cu' : Nat) (W' : World), (Builtin.append_ #[27, 27] 27 #[u, .slice (some ⟨W.heap.size, 0, none⟩) 1 1]).run Tryz.prog (W.alloc (.cells #[.int .i64 (k : Int)] 3)) = .ok (.slice au' (l.length + 1) cu') W' ∧ W'.ownsRow base 3 1 (.slice au' (l.length + 1) cu') (l ++ [k]).length (nms (l ++ [k])) ∧ Below base W W' := by
 have hab := alloc_below W (.cells #[.int .i64 (k : Int)] 3)
 have h0 := own_below hO hab
 obtain ⟨au, cu, W', h1, h2, h3, _⟩ := appI1 (W.alloc (.cells #[.int .i64 (k : Int)] 3)) base u (l.map (fun (i : Nat) => (i : Int))) ⟨W.heap.size, 0, none⟩ (k : Int) (by rw [iw_nms, List.length_map]; exact h0) (box_cell (heap_alloc_new W _)).1 (by rw [List.length_map]; exact hl) (Nat.le_trans hb hab.size)
 rw [List.length_map] at h1 h2
 refine ⟨au, cu, W', h1, ?_, ((Below.refl base W).trans (hab.mono hb)).trans h3⟩
 have e : l.map (fun (i : Nat) => (i : Int)) ++ [(k : Int)] = (l ++ [k]).map (fun (i : Nat) => (i : Int)) := by simp
 rw [e, iw_nms, List.length_map] at h2
 exact h2
theorem offp_offs (p : Int) (P xs ys : List Int) : offp p P xs ys = offs (fun i => decide (vl p (co xs i) P = co ys i)) xs.length := by
 unfold offp offs
 refine List.filter_congr (fun i _ => ?_)
 show _ = !(decide _)
 simp
theorem dEv (f p t : Int) (wd : Bool) (v : Value) (V : List Int) (W : World) (h : Fi f p wd) (hr : Rw W v V) (hV : Els p V) (hl : V.length <= 4096) (ht : El p t) : Calls Tryz.prog 35 #[.int .u8 f, v, .int .u64 t] W fun e w' => e = .returned (.tuple #[.int .u64 (vl p t V), .int .i64 0]) ∧ Below W.heap.size W w' := by
 have := dEval_any f t v V W (by have := ht.1; have := ht.2; have := h.top; omega) hr
 have h1 : er f V [t] = 0 := er_yes h (allIn_of hV) (allIn_of (fun x hx => by rw [List.mem_singleton.1 hx]; exact ht)) hl (by simp)
 have h2 : valE f t V = vl p t V := by unfold valE; rw [h1, if_pos rfl, pOf_eq h]
 rw [h1, h2] at this
 exact this
theorem Rw.cellAt {w : World} {ao : Option Addr} {n cap : Nat} {xs : List Int} (h : Rw w (.slice ao n cap) xs) (h0 : 0 < xs.length) : ∃ b off, ao = some ⟨b, off, none⟩ ∧ ∀ W, Below w.heap.size w W -> ∀ i, i < xs.length -> W.cell? ⟨b, off + i, none⟩ = some (.int .u64 (co xs i)) := by
 obtain ⟨⟨ao', cap', h1, h2, h3, h4⟩, h5⟩ := h
 cases h1
 obtain ⟨b, off, h6, h7, h8⟩ := h4 (List.length_pos_iff.1 h0)
 exact ⟨b, off, h6, fun W hb i hi => (hb.cell (p := ⟨b, off + i, none⟩) h7).trans (h8 i hi)⟩
theorem dOff (f p : Int) (wd : Bool) (vP vx vy : Value) (P xs ys : List Int) (w : World) (h : Fi f p wd) (h1 : Rw w vP P) (h2 : Rw w vx xs) (h3 : Rw w vy ys) (hP : Els p P) (lP : P.length <= 4096) (hx : Els p xs) (hl : xs.length = ys.length) (l5 : xs.length <= 512) :
 Calls Tryz.prog 68 #[.int .u8 f, vP, vx, vy] w fun e w' => ∃ v', e = .returned v' ∧ w'.ownsRow w.heap.size 3 1 v' (offp p P xs ys).length (nms (offp p P xs ys)) ∧ Below w.heap.size w w' := by
 rw [offp_offs]
 have HE := hide (fun W i (hb : Below w.heap.size w W) => dEv f p (co xs i) wd vP P W h (h1.below hb) hP lP (hx.co h.pos i))
 have HY := hide (fun i => elWord (vl_el h.pos (co xs i) P) h.top)
 have hwy := h3.words
 have HYw : Hid (∀ i, 0 <= co ys i ∧ co ys i <= 18446744073709551615) := fun i => by
  by_cases e : i < ys.length
  · rw [co_at e]; exact hwy _ (List.getElem_mem e)
  · rw [co_out _ _ (by omega)]; decide
 have HXw := hide (fun i => elWord (hx.co h.pos i) h.top)
 obtain ⟨ax, cx, rfl, _⟩ := h2.spell
 obtain ⟨ay, cy, rfl, _⟩ := h3.spell
 obtain ⟨aP, cP, rfl, _⟩ := h1.spell
 have H2 := hide h2
 have H3 := hide h3
 obtain ⟨Bf, HBf⟩ : ∃ Bf, Hid ((fun i => decide (vl p (co xs i) P = co ys i)) = Bf) := ⟨_, rfl⟩
 rw [HBf.out]
 have HB : Hid (∀ i, Bf i = decide (vl p (co xs i) P = co ys i)) := fun i => by rw [<- HBf.out]
 clear h1 h2 h3 hP lP hx h hwy HBf
 obtain ⟨n, Hn⟩ : ∃ n, Hid (xs.length = n) := ⟨_, rfl⟩
 obtain ⟨lp, Hlp⟩ : ∃ n, Hid (P.length = n) := ⟨_, rfl⟩
 have Hn2 : Hid (ys.length = n) := by show _ = _; rw [<- hl]; exact Hn.out
 rw [Hlp.out] at HE ⊢
 rw [Hn.out] at H2 ⊢
 rw [Hn2.out] at H3 ⊢
 have hn5 : n <= 512 := by rw [<- Hn.out]; exact l5
 clear hl l5
 go_enter Tryz.func68, Tryz.ntmps68
 go_wp2_with fail
 go_loopw [9, 10] (fun va vi wr => ∃ (k : Nat) (a : Option Addr) (c : Nat), k <= n ∧ vi = .int .i64 k ∧ va = .slice a (offs Bf k).length c ∧ Hid (wr.ownsRow w.heap.size 3 1 (.slice a (offs Bf k).length c) (offs Bf k).length (nms (offs Bf k))) ∧ Below w.heap.size w wr) (fun _ vi _ => n - (intOf vi).toNat)
 case atStart => exact ⟨0, none, 0, Nat.zero_le _, rfl, rfl, World.ownsRow_nil _ _ _ _, Below.refl _ _⟩
 case round =>
  obtain ⟨k, a, c, hk, rfl, rfl, HO, hB⟩ := hrel
  by_cases hkn : k < n
  · obtain ⟨b, off, rfl, hcx⟩ := H2.out.cellAt (by rw [Hn.out]; omega)
    obtain ⟨b', off', rfl, hcy⟩ := H3.out.cellAt (by rw [Hn2.out]; omega)
    have c1 := hcx wr hB k (by rw [Hn.out]; exact hkn)
    have HCY := hide (fun W hb => hcy W hb k (by rw [Hn2.out]; exact hkn))
    have HEk := hide (HE.out wr k hB)
    have hk0 : (0 : Int) <= (k : Int) := Int.natCast_nonneg _
    have hk1 : (k : Int) < (n : Int) := by omega
    have hlen := offs_len Bf k
    have HBk := hide (HB.out k)
    have hy1 := HYw.out k
    clear hcx hcy HE
    obtain ⟨x, Hx⟩ : ∃ x, Hid (vl p (co xs k) P = x) := ⟨_, rfl⟩
    obtain ⟨y, Hy⟩ : ∃ y, Hid (co ys k = y) := ⟨_, rfl⟩
    rw [Hx.out] at HEk HBk
    rw [Hy.out] at HCY HBk hy1
    obtain ⟨t, Ht⟩ : ∃ t, Hid (co xs k = t) := ⟨_, rfl⟩
    rw [Ht.out] at HEk c1
    by_cases hxy : x = y
    · have HBt : Hid (offs Bf (k + 1) = offs Bf k) := offs_yes (by rw [HBk.out]; exact decide_eq_true hxy)
      subst hxy
      clear HBk
      go_wp2_with (go_at_call 35; refine HEk.out.mono ?_; rintro e w1 ⟨rfl, hb1⟩; have hB1 := Below.next hB hb1; have c2 := HCY.out _ hB1)
      go_roundw
      case rel => exact ⟨k + 1, a, c, by omega, by go_num, by rw [HBt.out], by rw [HBt.out]; exact own_below HO.out hb1, hB1⟩
      case measure => simp [intOf]; omega
    · have HBt : Hid (offs Bf (k + 1) = offs Bf k ++ [k]) := offs_no (by rw [HBk.out]; exact decide_eq_false hxy)
      have hne : (x != y) = true := bne_iff_ne.2 hxy
      clear HBk
      generalize offs Bf k = l at *
      obtain ⟨m, Hm⟩ : ∃ m, Hid (l.length = m) := ⟨_, rfl⟩
      rw [Hm.out] at HO hlen ⊢
      go_wp2_with (first
       | (at_builtin; refine Lib.wpList_append_run _ rfl _ _ _ _ rfl _ _ rfl rfl _ _ hr5 ?_)
       | (go_at_call 35; refine HEk.out.mono ?_; rintro e w1 ⟨rfl, hb1⟩; have hB1 := Below.next hB hb1; have c2 := HCY.out _ hB1; obtain ⟨au, cu, W5, hr5, ho5, hb5⟩ := appN w1 w.heap.size (.slice a m c) l k (by rw [Hm.out]; exact own_below HO.out hb1) (by have := Hm.out; omega) (Nat.le_trans hB.size hb1.size); rw [Hm.out] at hr5 ho5; have HO5 := hide ho5; clear ho5; have hB5 := hB1.trans hb5))
      have e9 : (l ++ [k]).length = m + 1 := by rw [List.length_append, List.length_singleton, Hm.out]
      have HO6 := HO5.out
      rw [e9] at HO6
      go_roundw
      case rel => exact ⟨k + 1, au, cu, by omega, by go_num, by rw [HBt.out, e9], by rw [HBt.out, e9]; exact HO6, hB5⟩
      case measure => simp [intOf]; omega
  · obtain rfl : k = n := by omega
    go_wp2_with fail
    go_ret
    exact ⟨_, rfl, HO.out, hB⟩
end Go.Proofs.YtjhididlcdepdaaGreat
namespace Go.Proofs.YtjhididlcdepdaaGreat
open Go.RowKit Go.Shelf Fld
attribute [local go_sem] Oper.semAt_some
def bx4 (W : World) (f : Int) (u v x : Value) : World := (((W.alloc (.cells #[.int .u8 f] 22)).alloc (.cells #[u] 36)).alloc (.cells #[v] 36)).alloc (.cells #[x] 36)
theorem bx4_facts (W : World) (f : Int) (u v x : Value) : (bx4 W f u v x).heap[W.heap.size]? = some (.cells #[.int .u8 f] 22 (0, 0)) ∧ (bx4 W f u v x).heap[W.heap.size + 1]? = some (.cells #[u] 36 (0, 0)) ∧ (bx4 W f u v x).heap[W.heap.size + 1 + 1]? = some (.cells #[v] 36 (0, 0)) ∧ (bx4 W f u v x).heap[W.heap.size + 1 + 1 + 1]? = some (.cells #[x] 36 (0, 0)) ∧ Below W.heap.size W (bx4 W f u v x) := by
 have e1 : (W.alloc (.cells #[.int .u8 f] 22)).heap.size = W.heap.size + 1 := by simp
 have e2 : ((W.alloc (.cells #[.int .u8 f] 22)).alloc (.cells #[u] 36)).heap.size = W.heap.size + 1 + 1 := by simp
 have e3 : (((W.alloc (.cells #[.int .u8 f] 22)).alloc (.cells #[u] 36)).alloc (.cells #[v] 36)).heap.size = W.heap.size + 1 + 1 + 1 := by simp
 have a1 := heap_alloc_new W (.cells #[.int .u8 f] 22)
 have a2 := heap_alloc_new (W.alloc (.cells #[.int .u8 f] 22)) (.cells #[u] 36)
 have a3 := heap_alloc_new ((W.alloc (.cells #[.int .u8 f] 22)).alloc (.cells #[u] 36)) (.cells #[v] 36)
 have a4 := heap_alloc_new (((W.alloc (.cells #[.int .u8 f] 22)).alloc (.cells #[u] 36)).alloc (.cells #[v] 36)) (.cells #[x] 36)
 have b1 := alloc_below W (.cells #[.int .u8 f] 22)
 have b2 := alloc_below (W.alloc (.cells #[.int .u8 f] 22)) (.cells #[u] 36)
 have b3 := alloc_below ((W.alloc (.cells #[.int .u8 f] 22)).alloc (.cells #[u] 36)) (.cells #[v] 36)
 have b4 := alloc_below (((W.alloc (.cells #[.int .u8 f] 22)).alloc (.cells #[u] 36)).alloc (.cells #[v] 36)) (.cells #[x] 36)
 have hB := Below.next (Below.next (Below.next b1 b2) b3) b4
 rw [e1] at a2 b2
 rw [e2] at a3 b3
 rw [e3] at a4 b4
 refine ⟨?_, ?_, ?_, a4, hB⟩
 · exact (b4.block _ (by omega)).trans ((b3.block _ (by omega)).trans ((b2.block _ (by omega)).trans a1))
 · exact (b4.block _ (by omega)).trans ((b3.block _ (by omega)).trans a2)
 · exact (b4.block _ (by omega)).trans a3
structure Cnb (w0 W : World) (B n : Nat) (l : List Nat) : Prop where
 box : W.heap[B]? = some (.cells #[.int .i64 ((n : Int) - (l.length : Int))] 3 (0, 0))
 kq : Kq (Sx w0.heap.size B) w0 W
theorem Cnb.own {w0 : World} {B n L : Nat} (hL : w0.heap.size <= L) : OwnFrom L (fun (l : List Nat) W => Cnb w0 W B n l) := fun s W W' row h hg hr => by
 have hr2 : ∀ r, row = some r -> ∃ o : Obj, W.heap[r]? = some o ∧ o.isCells = false := fun r e => (hr r e).2
 refine ⟨blk_kept h.box hg hr2, h.kq.trans (grown_kq hg (fun j hj => Nat.lt_of_lt_of_le hj.1 h.kq.size) (fun k e hk => ?_))⟩
 have := (hr k e).1
 have := hk.1
 omega
theorem Cnb.less {w0 W : World} {B n x : Nat} {l : List Nat} (h : Cnb w0 W B n l) {m : Int} (hm : m = (n : Int) - (l.length : Int) - 1) : Cnb w0 (W.setCell ⟨B, 0, none⟩ (.int .i64 m)) B n (l ++ [x]) ∧ KeepsFrom w0.heap.size W (W.setCell ⟨B, 0, none⟩ (.int .i64 m)) ∧ Kq (Sx w0.heap.size B) W (W.setCell ⟨B, 0, none⟩ (.int .i64 m)) := by
 have hk : Kq (Sx w0.heap.size B) W (W.setCell ⟨B, 0, none⟩ (.int .i64 m)) := ⟨rfl, rfl, rfl, by simp [World.setCell], fun j hj => Below.heap_setCell _ _ _ j hj.2⟩
 refine ⟨⟨?_, h.kq.trans hk⟩, (KeepsOthers.setCell _ _ _).from _, hk⟩
 have := set_blk h.box 0 (.int .i64 m)
 rw [this, hm, show (n : Int) - ((l ++ [x]).length : Int) = (n : Int) - (l.length : Int) - 1 by rw [List.length_append, List.length_singleton]; omega]
 rfl
theorem one_i (a : Int) : ∀ (i : Nat) (x : Int), (#[Value.int .i64 a] : Array Value)[i]? ≠ some (Value.int .u64 x) := fun i x => by
 rcases i with _ | i <;> simp
theorem offp_beq (p : Int) (P xs ys : List Int) : offp p P xs ys = offs (fun i => vl p (co xs i) P == co ys i) xs.length := by
 unfold offp offs
 refine List.filter_congr (fun i _ => ?_)
 show _ = !(_ == _)
 by_cases e : vl p (co xs i) P = co ys i
 · rw [e]; simp
 · rw [beq_eq_false_iff_ne.2 e, decide_eq_true e]; rfl
theorem agr_no (f : Int) (vP v1 v2 : Value) (P xs ys : List Int) (W : World) (h0 : Rw W vP P) (h1 : Rw W v1 xs) (h2 : Rw W v2 ys) (hne : agE f P xs ys ≠ 0) :
 Calls Tryz.prog 47 #[.int .u8 f, vP, v1, v2] W fun e w' => e = .returned (.tuple #[.int .i64 0, .int .i64 (agE f P xs ys)]) ∧ Below W.heap.size W w' := by
 have HE := hide (fun W' (hb : Below W.heap.size W W') => pEval_any f 0 vP P W' (by decide) (h0.below hb))
 have HV := hide (fun W' (hb : Below W.heap.size W W') => iValue f 0 v1 v2 xs ys W' (by decide) (h1.below hb) (h2.below hb))
 rw [vlu_zero] at HV
 have HF := hide (fun W' => gFirst (bad f xs ys ys.length) (er f P [0]) W')
 rw [show fst2 (bad f xs ys ys.length) (er f P [0]) = agE f P xs ys from rfl] at HF
 have hn2 : (agE f P xs ys != 0) = true := bne_iff_ne.2 hne
 obtain ⟨a0, c0, rfl, _⟩ := h0.spell
 obtain ⟨a1, c1, rfl, _⟩ := h1.spell
 obtain ⟨a2, c2, rfl, _⟩ := h2.spell
 obtain ⟨q1, q2, q3, q4, q5⟩ := bx4_facts W f (.slice a0 P.length c0) (.slice a1 xs.length c1) (.slice a2 ys.length c2)
 have Q1 := hide q1
 have Q3 := hide q3
 have Q4 := hide q4
 have Q5 := hide q5
 have k1 := (box_cell q1).1
 have k2 := (box_cell q2).1
 clear h0 h1 h2 hne q1 q2 q3 q4 q5
 unfold bx4 at *
 generalize agE f P xs ys = e0 at *
 generalize bad f xs ys ys.length = e1 at *
 generalize er f P [0] = e2 at *
 generalize valE f 0 P = z1 at *
 generalize vluV f xs ys 0 = z2 at *
 generalize P.length = n0 at *
 generalize xs.length = n1 at *
 generalize ys.length = n2 at *
 go_enter Tryz.func47, Tryz.ntmps47
 go_wp2_with (first
  | (go_at_call 76; refine (HE.out _ Q5.out).mono ?_; rintro e w1 ⟨rfl, hb1⟩; have hB1 := Below.next Q5.out hb1; have m1 := (box_cell ((hb1.block _ (Array.getElem?_eq_some_iff.1 Q1.out).1).trans Q1.out)).1; have m3 := (box_cell ((hb1.block _ (Array.getElem?_eq_some_iff.1 Q3.out).1).trans Q3.out)).1; have m4 := (box_cell ((hb1.block _ (Array.getElem?_eq_some_iff.1 Q4.out).1).trans Q4.out)).1)
  | (go_at_call 77; refine (HV.out _ hB1).mono ?_; rintro e w2 ⟨rfl, hb2⟩; have hB2 := Below.next hB1 hb2)
  | (go_at_call 78; refine (HF.out _).mono ?_; rintro e w3 ⟨rfl, hw3⟩; rw [hw3]; clear hw3))
 go_ret2
 exact ⟨rfl, Below.next hB2 (alloc_below _ _)⟩
attribute [local go_sem] Oper.semAt_some
theorem agr_yes (f p : Int) (wd : Bool) (vP v1 v2 : Value) (P xs ys : List Int) (W : World) (h0 : Rw W vP P) (h1 : Rw W v1 xs) (h2 : Rw W v2 ys) (hf : Fi f p wd) (hP : Els p P) (lP : P.length <= 4096) (hx : Els p xs) (hxy : xs.length = ys.length) (hl : xs.length <= 512) (hb0 : bad f xs ys ys.length = 0) (he0 : er f P [0] = 0) :
 Calls Tryz.prog 47 #[.int .u8 f, vP, v1, v2] W fun e w' => e = .returned (.tuple #[.int .i64 ((xs.length : Int) - (offp p P xs ys).length), .int .i64 0]) ∧ Below W.heap.size W w' := by
 have HE := hide (fun W' (hb : Below W.heap.size W W') => pEval_any f 0 vP P W' (by decide) (h0.below hb))
 have HV := hide (fun W' (hb : Below W.heap.size W W') => iValue f 0 v1 v2 xs ys W' (by decide) (h1.below hb) (h2.below hb))
 rw [vlu_zero, hb0] at HV
 rw [he0] at HE
 have HF := hide (fun W' => gFirst 0 0 W')
 have HR0 := hide (fun W' (hb : Below W.heap.size W W') => h0.below hb)
 have HR1 := hide (fun W' (hb : Below W.heap.size W W') => h1.below hb)
 have HR2 := hide (fun W' (hb : Below W.heap.size W W') => h2.below hb)
 have HFi := hide hf
 have HPe := hide (And.intro hP lP)
 have HXe := hide hx
 have HXY := hide hxy
 rw [offp_beq]
 obtain ⟨a0, c0, rfl, _⟩ := h0.spell
 obtain ⟨a1, c1, rfl, _⟩ := h1.spell
 obtain ⟨a2, c2, rfl, _⟩ := h2.spell
 obtain ⟨q1, q2, q3, q4, q5⟩ := bx4_facts W f (.slice a0 P.length c0) (.slice a1 xs.length c1) (.slice a2 ys.length c2)
 have Q1 := hide q1
 have Q2 := hide q2
 have Q3 := hide q3
 have Q4 := hide q4
 have Q5 := hide q5
 have k1 := (box_cell q1).1
 have k2 := (box_cell q2).1
 clear h0 h1 h2 q1 q2 q3 q4 q5 hf hP lP hx hb0 he0
 unfold bx4 at *
 obtain ⟨n, Hn⟩ : ∃ n, Hid (xs.length = n) := ⟨_, rfl⟩
 have Hn2 : Hid (ys.length = n) := by show _ = _; rw [<- hxy]; exact Hn.out
 obtain ⟨n0, Hn0⟩ : ∃ n0, Hid (P.length = n0) := ⟨_, rfl⟩
 clear hxy
 rw [Hn.out] at HV HR1 Q1 Q2 Q3 Q4 Q5 k1 k2 hl ⊢
 rw [Hn2.out] at HV HR2 Q1 Q2 Q3 Q4 Q5 k1 k2 ⊢
 rw [Hn0.out] at HE HR0 Q1 Q2 Q3 Q4 Q5 k1 k2 ⊢
 generalize valE f 0 P = z1 at *
 generalize vluV f xs ys 0 = z2 at *
 refine (callsIn_wide (n := 5)).1 ?_
 refine callsIn_of_wp_marks Tryz.func47 rfl trivial ?_ rfl
 simp only [Tryz.ntmps47, List.size_toArray, List.length_cons, List.length_nil, Nat.reduceAdd, Nat.reduceSub, Array.replicate_succ, Array.replicate_zero, List.push_toArray, List.append_toArray, List.nil_append, List.cons_append]
 refine wpIn_wide.2 ?_
 go_wp2_with (first
  | (go_at_call 76; refine (HE.out _ Q5.out).mono ?_; rintro e w1 ⟨rfl, hb1⟩; have hB1 := Below.next Q5.out hb1; have E1 := hide ((hb1.block _ (Array.getElem?_eq_some_iff.1 Q1.out).1).trans Q1.out); have E2 := hide ((hb1.block _ (Array.getElem?_eq_some_iff.1 Q2.out).1).trans Q2.out); have E3 := hide ((hb1.block _ (Array.getElem?_eq_some_iff.1 Q3.out).1).trans Q3.out); have E4 := hide ((hb1.block _ (Array.getElem?_eq_some_iff.1 Q4.out).1).trans Q4.out); have m1 := (box_cell E1.out).1; have m3 := (box_cell E3.out).1; have m4 := (box_cell E4.out).1)
  | (go_at_call 77; refine (HV.out _ hB1).mono ?_; rintro e w2 ⟨rfl, hb2⟩; have hb2' := Below.next hb2 (alloc_below w2 (.cells #[.int .i64 0, .int .i64 0] 30)); have hB2 := Below.next hB1 hb2'; have F1 := hide ((hb2'.block _ (Array.getElem?_eq_some_iff.1 E1.out).1).trans E1.out); have F2 := hide ((hb2'.block _ (Array.getElem?_eq_some_iff.1 E2.out).1).trans E2.out); have F3 := hide ((hb2'.block _ (Array.getElem?_eq_some_iff.1 E3.out).1).trans E3.out); have F4 := hide ((hb2'.block _ (Array.getElem?_eq_some_iff.1 E4.out).1).trans E4.out); have p3 := (box_cell F3.out).1; clear E1 E2 E3 E4 m1 m3 m4))
 refine (HF.out _).mono ?_
 rintro e w3 ⟨rfl, hw3⟩
 rw [hw3]
 clear hw3 w3
 rw [show fst2 0 0 = 0 from rfl]
 generalize w2.alloc (.cells #[.int .i64 0, .int .i64 0] 30) = w3 at *
 have E0 := heap_alloc_new w3 (.cells #[.int .i64 (n : Int)] 3)
 have ab := alloc_below w3 (.cells #[.int .i64 (n : Int)] 3)
 have G0 := hide E0
 have G1 := hide ((ab.block _ (Array.getElem?_eq_some_iff.1 F1.out).1).trans F1.out)
 have G2 := hide ((ab.block _ (Array.getElem?_eq_some_iff.1 F2.out).1).trans F2.out)
 have G3 := hide ((ab.block _ (Array.getElem?_eq_some_iff.1 F3.out).1).trans F3.out)
 have G4 := hide ((ab.block _ (Array.getElem?_eq_some_iff.1 F4.out).1).trans F4.out)
 have hB4 := hide (Below.next hB2 ab)
 have r3 := (box_cell G3.out).1
 have HG := hide (fun g lb W' => gOff (n : Int) g lb W')
 have hsB := hB2.size
 clear F1 F2 F3 F4 E0 ab HE HV HF Q1 Q2 Q3 Q4 Q5 hB2 hb2 hb2' hB1 hb1 k1 k2
 go_wp2_with fail
 generalize w3.alloc (.cells #[.int .i64 (n : Int)] 3) = w4 at *
 refine (HG.out _ _ _).mono ?_
 rintro e w6 ⟨bn, bl, rfl, j1, j2, j3, j4, j5, j6, hb6⟩
 have hB6 := Below.next hB4.out hb6
 have K0 := (hb6.block _ (Array.getElem?_eq_some_iff.1 G0.out).1).trans G0.out
 have K1 := (hb6.block _ (Array.getElem?_eq_some_iff.1 G1.out).1).trans G1.out
 have K2 := (hb6.block _ (Array.getElem?_eq_some_iff.1 G2.out).1).trans G2.out
 have K3 := (hb6.block _ (Array.getElem?_eq_some_iff.1 G3.out).1).trans G3.out
 have K4 := (hb6.block _ (Array.getElem?_eq_some_iff.1 G4.out).1).trans G4.out
 have R0 := HR0.out _ hB6
 have R1 := HR1.out _ hB6
 have R2 := HR2.out _ hB6
 have l0 := (Array.getElem?_eq_some_iff.1 K0).1
 have l1 := (Array.getElem?_eq_some_iff.1 K1).1
 have l2 := (Array.getElem?_eq_some_iff.1 K2).1
 have l3 := (Array.getElem?_eq_some_iff.1 K3).1
 have l4 := (Array.getElem?_eq_some_iff.1 K4).1
 have g0 := (Array.getElem?_eq_some_iff.1 G0.out).1
 have n1 : W.heap.size ≠ w3.heap.size := fun e => by rw [<- e, K1] at K0; simp at K0
 have n2 : W.heap.size + 1 ≠ w3.heap.size := fun e => by rw [<- e, K2] at K0; simp at K0
 have n3 : W.heap.size + 1 + 1 ≠ w3.heap.size := fun e => by rw [<- e, K3] at K0; simp at K0
 have n4 : W.heap.size + 1 + 1 + 1 ≠ w3.heap.size := fun e => by rw [<- e, K4] at K0; simp at K0
 have hLi : Lies (Sx w6.heap.size w3.heap.size) 79 #[.pointer (some ⟨W.heap.size, 0, none⟩), .pointer (some ⟨W.heap.size + 1, 0, none⟩), .pointer (some ⟨W.heap.size + 1 + 1, 0, none⟩), .pointer (some ⟨W.heap.size + 1 + 1 + 1, 0, none⟩)] (fun i => vl p (co xs i) P == co ys i) n w6 := ⟨enters_of Tryz.func79 (by kernel_rfl) rfl, fun W' i hk hi => gLies2 f p wd W.heap.size (W.heap.size + 1) (W.heap.size + 1 + 1) (W.heap.size + 1 + 1 + 1) _ _ _ P xs ys i W' HFi.out ((hk.cell (a := ⟨W.heap.size, 0, none⟩) ⟨l1, n1⟩).trans (box_cell K1).1) ((hk.cell (a := ⟨W.heap.size + 1, 0, none⟩) ⟨l2, n2⟩).trans (box_cell K2).1) ((hk.cell (a := ⟨W.heap.size + 1 + 1, 0, none⟩) ⟨l3, n3⟩).trans (box_cell K3).1) ((hk.cell (a := ⟨W.heap.size + 1 + 1 + 1, 0, none⟩) ⟨l4, n4⟩).trans (box_cell K4).1) (R0.kq K0 (one_i _) hk) (R1.kq K0 (one_i _) hk) (R2.kq K0 (one_i _) hk) HPe.out.1 HPe.out.2 HXe.out (by rw [Hn.out]; exact hi) HXY.out⟩
 have hseq := off_stops 4 (by omega) bn bl _ _ n (by omega) _ (Sx w6.heap.size w3.heap.size) w6 ⟨j6, by omega⟩ (fun j hj => hj.1) hLi j1 j2
 have hA0 : Cnb w6 w6 w3.heap.size n [] := ⟨by rw [K0]; simp, Kq.refl _ _⟩
 have HSQ := hide hseq
 have HA0 := hide hA0
 have hB2 : w3.heap.size < w6.heap.size := l0
 clear hLi hseq hA0 K0 K1 K2 K3 K4 R0 R1 R2 l0 l1 l2 l3 l4 n1 n2 n3 n4 G0 G1 G2 G3 G4 HG HR0 HR1 HR2 HXe HFi HPe HXY j1 j2 j3 j4 j5 j6 hb6 hB4 r3 p3 g0
 go_wp2_with fail
 refine (wpIn_wide (n := 5)).1 ?_
 refine wpIn_rangeFunc_ownG rfl (by omega) (gf := 107) (lb := #[.pointer (some ⟨bn, 0, none⟩), .pointer (some ⟨bl, 0, none⟩)]) rfl trivial (enters_of Tryz.func107 (by kernel_rfl) rfl)
  HSQ.out (fun h k => Kq.trans h k) (fun W' l o o' hl _ _ _ => Kq.put W' l o o' hl) (Below.refl _ _) (fun _ => rfl)
  (fun pre W' => Cnb w6 W' w3.heap.size n pre)
  (fun _ _ _ => False)
  (Cnb.own (Nat.le_refl _))
  (fun _ _ _ _ _ hs _ _ => hs)
  HA0.out
  (fun x => { tmps := #[.int .u8 f, .slice a0 n0 c0, .slice a1 n c1, .slice a2 n c2, .pointer (some ⟨W.heap.size, 0, none⟩), .pointer (some ⟨W.heap.size + 1, 0, none⟩), .pointer (some ⟨W.heap.size + 1 + 1, 0, none⟩), .pointer (some ⟨W.heap.size + 1 + 1 + 1, 0, none⟩), .int .i64 0, .int .i64 0, .int .u64 z1, .int .i64 0, .int .u64 z2, .int .i64 0, .func (.func 79) #[] #[.pointer (some ⟨W.heap.size, 0, none⟩), .pointer (some ⟨W.heap.size + 1, 0, none⟩), .pointer (some ⟨W.heap.size + 1 + 1, 0, none⟩), .pointer (some ⟨W.heap.size + 1 + 1 + 1, 0, none⟩)], .pointer (some ⟨w3.heap.size, 0, none⟩), .tuple #[.int .u64 z1, .int .i64 0], .int .u8 f, .slice a0 n0 c0, .tuple #[.int .u64 z1, .int .i64 0], .int .u64 z1, .int .i64 0, .tuple #[.int .u64 z2, .int .i64 0], .int .u8 f, .slice a1 n c1, .slice a2 n c2, .tuple #[.int .u64 z2, .int .i64 0], .int .u64 z2, .int .i64 0, .int .i64 0, .int .i64 0, .slice (some ⟨w2.heap.size, 0, none⟩) 2 2, .int .i64 0, .int .i64 0, .bool false, undef, .func (.func 79) #[] #[.pointer (some ⟨W.heap.size, 0, none⟩), .pointer (some ⟨W.heap.size + 1, 0, none⟩), .pointer (some ⟨W.heap.size + 1 + 1, 0, none⟩), .pointer (some ⟨W.heap.size + 1 + 1 + 1, 0, none⟩)], .slice a1 n c1, .int .i64 (n : Int), .slice a1 n c1, .int .i64 (n : Int), .func (.func 79) #[] #[.pointer (some ⟨W.heap.size, 0, none⟩), .pointer (some ⟨W.heap.size + 1, 0, none⟩), .pointer (some ⟨W.heap.size + 1 + 1, 0, none⟩), .pointer (some ⟨W.heap.size + 1 + 1 + 1, 0, none⟩)], .func (.func 107) #[] #[.pointer (some ⟨bn, 0, none⟩), .pointer (some ⟨bl, 0, none⟩)], .int .i64 (x : Int), undef, undef, undef], defers := [] }) ?assign ?body ?done ?stop
 case assign =>
  intro L x W' K hK
  unfold nmv
  gi_wp2
  exact hK
 case body =>
  intro L pre x W' hI hlt
  have HQ : Hid (∀ W8, KeepsFrom w6.heap.size W' W8 -> Kq (Sx w6.heap.size w3.heap.size) W' W8 -> Cnb w6 W8 w3.heap.size n (pre ++ [x]) -> ∀ a', ownPostG w6.heap.size (Kq (Sx w6.heap.size w3.heap.size)) (fun pre W' => Cnb w6 W' w3.heap.size n pre) (fun _ _ _ => False) (pre ++ [x]) W' .normal a' W8) := fun W8 k1 k2 k3 a' => ⟨k1, k2, k3⟩
  change (_ : Code).wpIn _ _ _ _ _ _
  generalize ownPostG w6.heap.size (Kq (Sx w6.heap.size w3.heap.size)) (fun pre W' => Cnb w6 W' w3.heap.size n pre) (fun _ _ _ => False) (pre ++ [x]) W' = QQ at HQ ⊢
  obtain ⟨c1, c2⟩ := box_cell hI.box
  have hpl : pre.length <= 512 := by omega
  have HI := hide (fun m hm => hI.less (x := x) (m := m) hm)
  generalize hy : pre.length = ly at *
  clear hI HA0 HSQ
  gi_wp2
  obtain ⟨h3, h4, h5⟩ := HI.out ((n : Int) - (ly : Int) - 1) rfl
  exact HQ.out _ h4 h5 h3 _
 case done =>
  rintro D zs W7 hD rfl hI hK
  obtain ⟨c1, c2⟩ := box_cell hI.box
  have hkq := hI.kq
  have hB7 : Below W.heap.size W W7 := hB6.trans (hkq.below (fun j hj => ⟨by have := hB6.size; omega, by omega⟩))
  have HB7 := hide hB7
  clear hI HA0 HSQ hB6 hkq hB7
  obtain ⟨m, HM⟩ : ∃ m, Hid ((n : Int) - ((offs (fun i => vl p (co xs i) P == co ys i) n).length : Int) = m) := ⟨_, rfl⟩
  rw [HM.out] at c1
  go_wp2
  refine ⟨by simp, .inl ⟨_, _, rfl, run_takeDeferred hK, ?_⟩⟩
  exact ⟨_, results_tmp2 rfl _ _ _, by rw [HM.out]; rfl, HB7.out.trans (belowK_b (w := W) (Nat.le_refl _) W7 D _ _ (by omega) hK rfl rfl)⟩
 case stop =>
  rintro D c pre W _ _ hx _
  exact hx.elim
theorem gAgree (f : Int) (vP v1 v2 : Value) (P xs ys : List Int) (W : World) (h0 : Rw W vP P) (h1 : Rw W v1 xs) (h2 : Rw W v2 ys) :
 Calls Tryz.prog 47 #[.int .u8 f, vP, v1, v2] W fun e w' => e = .returned (.tuple #[.int .i64 (agV f P xs ys), .int .i64 (agE f P xs ys)]) ∧ Below W.heap.size W w' := by
 by_cases he : agE f P xs ys = 0
 · have hv : agV f P xs ys = (xs.length : Int) - (offp (pOf f) P xs ys).length := by unfold agV; rw [if_pos he]
   obtain ⟨hb, hr⟩ := fst2_zero he
   obtain ⟨p, wd, hf, i1, i2, l1, l2, hn⟩ := bad_zero hb
   rw [hv, he, pOf_eq hf]
   obtain ⟨p', wd', hf', j1, _, lP, _⟩ := er_zero hr
   have e : p' = p := (pOf_eq hf').symm.trans (pOf_eq hf)
   rw [e] at j1
   exact agr_yes f p wd vP v1 v2 P xs ys W h0 h1 h2 hf (els_of j1 h0.words) lP (els_of i1 h1.words) l1 l2 hb hr
 · have hv : agV f P xs ys = 0 := by unfold agV; rw [if_neg he]
   rw [hv]
   exact agr_no f vP v1 v2 P xs ys W h0 h1 h2 he
end Go.Proofs.YtjhididlcdepdaaGreat
