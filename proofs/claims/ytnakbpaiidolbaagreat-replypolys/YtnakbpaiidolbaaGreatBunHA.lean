import Derived.Test.YtnakbpaiidolbaaGreatBunW
import Derived.Test.YtnakbpaiidolbaaGreatBunAT
import Derived.Test.YtnakbpaiidolbaaGreatBunM
import Derived.Test.YtnakbpaiidolbaaGreatBRowA
import Derived.Test.YtnakbpaiidolbaaGreatBunQ
namespace Go.Proofs.YtnakbpaiidolbaaGreat
open Go.RowKit Fld Pln Shr
set_option linter.unusedVariables false
set_option linter.unusedSimpArgs false
def elsB (f : Int) (l : List (List Int)) : Bool := l.all (fun xs => inF f xs)
def lenB (w : Int) (l : List (List Int)) : Bool := l.all (fun xs => decide ((xs.length : Int) = w))
def blkB (w n : Int) (l : List (List Int)) : Bool := lenB w l && decide ((l.length : Int) = n)
def whoB (n : Int) (l : List Int) : Bool := l.all (fun x => decide (0 ≤ x ∧ x < n))
def bkE (p : Pn) (dl pl : List (List Int)) (who : List Int) : Int := if mayP p && elsB p.f dl && elsB p.f pl && whoB p.n who then (if blkB p.w p.k dl && blkB p.w p.t pl then 0 else 3) else 2
def polL (p : Pn) (dl pl : List (List Int)) : List (List Int) := if bkE p dl pl [] = 0 then pys (pOf p.f) (innL p) p.w.toNat (dl ++ pl) else []
def allL (p : Pn) (dl pl : List (List Int)) : List (List Int) := if bkE p dl pl [] = 0 then (outL p).map (shr (pOf p.f) (innL p) p.w.toNat (dl ++ pl)) else []
def shaL (p : Pn) (dl pl : List (List Int)) (i : Int) : List Int := if bkE p dl pl [i] = 0 then shr (pOf p.f) (innL p) p.w.toNat (dl ++ pl) (co (outL p) i.toNat) else []
def nmd (p : Pn) (who : List Int) : List Int := who.map (fun i => co (outL p) i.toNat)
theorem elsB_iff {f q : Int} {wd : Bool} (h : Fi f q wd) {l : List (List Int)} : elsB f l = true ↔ ∀ b ∈ l, allIn q b = true := by
 unfold elsB
 rw [List.all_eq_true]
 constructor
 · intro hl b hb; rw [← inF_yes h]; exact hl b hb
 · intro hl b hb; rw [inF_yes h]; exact hl b hb
theorem blkB_iff {w n : Int} {l : List (List Int)} : blkB w n l = true ↔ (∀ b ∈ l, (b.length : Int) = w) ∧ (l.length : Int) = n := by
 unfold blkB lenB
 rw [Bool.and_eq_true, List.all_eq_true, decide_eq_true_iff]
 constructor
 · rintro ⟨h1, h2⟩; exact ⟨fun b hb => of_decide_eq_true (h1 b hb), h2⟩
 · rintro ⟨h1, h2⟩; exact ⟨fun b hb => decide_eq_true (h1 b hb), h2⟩
theorem whoB_iff {n : Int} {l : List Int} : whoB n l = true ↔ ∀ x ∈ l, 0 ≤ x ∧ x < n := by
 unfold whoB
 rw [List.all_eq_true]
 exact ⟨fun h x hx => of_decide_eq_true (h x hx), fun h x hx => decide_eq_true (h x hx)⟩
theorem bk_zero {p : Pn} {dl pl : List (List Int)} {who : List Int} (h : bkE p dl pl who = 0) : mayP p = true ∧ (∃ q wd, Fi p.f q wd ∧ ∀ b ∈ dl ++ pl, allIn q b = true) ∧ (∀ b ∈ dl ++ pl, b.length = p.w.toNat) ∧ dl.length = p.k.toNat ∧ pl.length = p.t.toNat ∧ ∀ x ∈ who, 0 ≤ x ∧ x < p.n := by
 unfold bkE at h
 split at h
 · rename_i h1
   rw [Bool.and_eq_true, Bool.and_eq_true, Bool.and_eq_true] at h1
   obtain ⟨⟨⟨hm, hd⟩, hp⟩, hw⟩ := h1
   split at h
   · rename_i h2
     rw [Bool.and_eq_true, blkB_iff, blkB_iff] at h2
     obtain ⟨⟨a1, a2⟩, b1, b2⟩ := h2
     obtain ⟨q, wd, hf⟩ := may_field hm
     refine ⟨hm, ⟨q, wd, hf, fun b hb => ?_⟩, fun b hb => ?_, by omega, by omega, whoB_iff.1 hw⟩
     · rcases List.mem_append.1 hb with hb | hb
       · exact (elsB_iff hf).1 hd b hb
       · exact (elsB_iff hf).1 hp b hb
     · rcases List.mem_append.1 hb with hb | hb
       · have := a1 b hb; omega
       · have := b1 b hb; omega
   · cases h
 · cases h
theorem bk_none {p : Pn} {dl pl : List (List Int)} : bkE p dl pl [] = if mayP p && elsB p.f dl && elsB p.f pl then (if blkB p.w p.k dl && blkB p.w p.t pl then 0 else 3) else 2 := by
 unfold bkE whoB
 rw [List.all_nil, Bool.and_true]
def trn (bl : List (List Int)) (n : Nat) : List (List Int) := (List.range n).map (fun t => col bl t)
theorem trn_len (bl : List (List Int)) (n : Nat) : (trn bl n).length = n := by simp [trn]
def vls (q : Int) (xs zs ys : List Int) : List Int := zs.map (fun z => ds q (bs q xs z) (co ys) xs.length)
theorem vls_len (q : Int) (xs zs ys : List Int) : (vls q xs zs ys).length = zs.length := List.length_map ..
theorem moved_eq {q : Int} {wd : Bool} (hm : Md q wd) {xs zs : List Int} {bl : List (List Int)} (hx : Els q xs) (hn : xs.Nodup) (hb : ∀ b ∈ bl, Els q b) (w : Nat) : trn ((List.range w).map (fun t => vls q xs zs (col bl t))) zs.length = zs.map (shr q xs w bl) := by
 unfold trn
 refine List.ext_getElem (by simp) (fun j h1 h2 => ?_)
 have hj : j < zs.length := by simpa using h2
 rw [List.getElem_map, List.getElem_map, List.getElem_range]
 refine ext_co (by rw [col_len, List.length_map, List.length_range, shr_len]) (fun t ht => ?_)
 rw [col_len, List.length_map, List.length_range] at ht
 rw [shr_row hm hx hn hb _ ht, col_at (by simpa using ht), List.getElem_map, List.getElem_range]
 unfold vls
 rw [co_at (by simpa using hj), List.getElem_map]
theorem vl_two (q b a y : Int) : vl q b [a, y] = add q a (mul q b y) := by
 unfold vl add mul
 show (a + b * (y + b * 0)) % q = _
 rw [Int.mul_zero, Int.add_zero, Int.add_emod_emod]
theorem vls_els {q : Int} (hq : 0 < q) (xs zs ys : List Int) : Els q (vls q xs zs ys) := fun x hx => by
 obtain ⟨z, _, rfl⟩ := List.mem_map.1 hx
 exact ds_el hq _ _ _
theorem nmd_len (p : Pn) (who : List Int) : (nmd p who).length = who.length := List.length_map ..
theorem inn_facts {p : Pn} (hm : mayP p = true) {q : Int} {wd : Bool} (hf : Fi p.f q wd) : Els q (innL p) ∧ (innL p).Nodup ∧ (innL p).length = (p.k + p.t).toNat ∧ Els q (outL p) ∧ (outL p).Nodup ∧ (outL p).length = p.n.toNat := by
 obtain ⟨⟨n0, n1⟩, ⟨k0, k1⟩, ⟨t0, t1⟩, _⟩ := may_facts hm
 exact ⟨pts_els hf (by omega) (by omega), pts_nodup _ _, pts_len _ _, pts_els hf (by omega) (by omega), pts_nodup _ _, pts_len _ _⟩
end Go.Proofs.YtnakbpaiidolbaaGreat
namespace Go.Proofs.YtnakbpaiidolbaaGreat
open Go.RowKit Fld Pln Shr
set_option linter.unusedVariables false
set_option linter.unusedSimpArgs false
theorem all_false {α : Type} {f : α → Bool} {l : List α} {x : α} (hx : x ∈ l) (h : f x = false) : l.all f = false := by
 cases hb : l.all f with
 | false => rfl
 | true => rw [List.all_eq_true] at hb; rw [hb x hx] at h; cases h
theorem getD_memA {α : Type} {l : List α} {k : Nat} (d : α) (hk : k < l.length) : l.getD k d ∈ l := by
 rw [List.getD_eq_getElem?_getD, List.getElem?_eq_getElem hk]; exact List.getElem_mem hk
theorem all_true {α : Type} {f : α → Bool} {l : List α} (d : α) (h : ∀ i, i < l.length → f (l.getD i d) = true) : l.all f = true := by
 rw [List.all_eq_true]
 intro x hx
 obtain ⟨i, hi, rfl⟩ := List.mem_iff_getElem.1 hx
 have := h i hi
 rw [List.getD_eq_getElem?_getD, List.getElem?_eq_getElem hi] at this
 exact this
theorem elsB_no {f : Int} {l : List (List Int)} {k : Nat} (hk : k < l.length) (hf : inF f (l.getD k []) = false) : elsB f l = false := all_false (f := fun xs => inF f xs) (getD_memA [] hk) hf
theorem elsB_yes {f : Int} {l : List (List Int)} (hy : ∀ i, i < l.length → inF f (l.getD i []) = true) : elsB f l = true := all_true (f := fun xs => inF f xs) [] hy
theorem whoB_no {n : Int} {l : List Int} {k : Nat} (hk : k < l.length) (hf : ¬ (0 ≤ l.getD k 0 ∧ l.getD k 0 < n)) : whoB n l = false := all_false (f := fun x => decide (0 ≤ x ∧ x < n)) (getD_memA 0 hk) (decide_eq_false hf)
theorem whoB_yes {n : Int} {l : List Int} (hy : ∀ i, i < l.length → 0 ≤ l.getD i 0 ∧ l.getD i 0 < n) : whoB n l = true := all_true (f := fun x => decide (0 ≤ x ∧ x < n)) 0 (fun i hi => decide_eq_true (hy i hi))
theorem blkB_no {w n : Int} {l : List (List Int)} {k : Nat} (hk : k < l.length) (hf : ¬ (((l.getD k []).length : Int) = w)) : blkB w n l = false := by
 unfold blkB
 rw [show lenB w l = false from all_false (f := fun xs : List Int => decide ((xs.length : Int) = w)) (getD_memA [] hk) (decide_eq_false hf)]; rfl
theorem blkB_yes {w n : Int} {l : List (List Int)} (hy : ∀ i, i < l.length → (((l.getD i []).length : Int) = w)) : blkB w n l = decide ((l.length : Int) = n) := by
 unfold blkB
 rw [show lenB w l = true from all_true (f := fun xs : List Int => decide ((xs.length : Int) = w)) [] (fun i hi => decide_eq_true (hy i hi)), Bool.true_and]
theorem er_two {f : Int} {xs : List Int} (h : inF f xs = false) : er f xs [0] = 2 := by
 unfold er erb
 rw [h]; rfl
theorem er_not {f : Int} {xs : List Int} (h : inF f xs = true) : er f xs [0] ≠ 2 := by
 unfold er erb
 have h0 : inF f [0] = true := by
  rcases Fi_or f with ⟨p, wd, hf⟩ | ⟨h1, h2⟩
  · rw [inF_yes hf]; exact allIn_of (fun x hx => by rw [List.mem_singleton.1 hx]; exact ⟨Int.le_refl _, hf.pos⟩)
  · rw [inF_no h1 h2] at h; cases h
 rw [h, h0, if_pos (by decide)]
 split <;> decide
set_option maxRecDepth 100000 in
set_option maxHeartbeats 400000 in
theorem gElements (f : Int) (v : Value) (l : List (List Int)) (w : World) (h : Rws w v l) : Calls Tryz.prog 95 #[.int .u8 f, v] w fun e w' => e = .returned (.bool (elsB f l)) ∧ Below w.heap.size w w' := by
 have HE := hide (fun W u xs (hr : Rw W u xs) => pEval_any f 0 u xs W (by decide) hr)
 have HN := hide (fun k hk hf => elsB_no (f := f) (l := l) (k := k) hk hf)
 have HY := hide (fun hy => elsB_yes (f := f) (l := l) hy)
 obtain ⟨ao, cap, rfl, hlen, hcap, hc⟩ := h
 generalize elsB f l = res at *
 go_enter Tryz.func95, Tryz.ntmps95
 go_wp2
 go_loopw [11] (fun vi wr => ∃ k : Nat, k ≤ l.length ∧ vi = .int .i64 k ∧ Hid (∀ i, i < k → inF f (l.getD i []) = true) ∧ Below w.heap.size w wr) (fun vi _ => l.length - (intOf vi).toNat)
 case atStart => exact ⟨0, Nat.zero_le _, rfl, fun i hi => by omega, Below.refl _ _⟩
 case round =>
  obtain ⟨k, hk, rfl, HA, hB⟩ := hrel
  by_cases hlt : k < l.length
  · obtain ⟨b, off, rfl, hbl, hcell⟩ := hc (by intro h; rw [h] at hlt; simp at hlt)
    obtain ⟨u, hu, hR⟩ := hcell k hlt
    have hck := (hB.cell (p := ⟨b, off + k, none⟩) hbl).trans hu
    have hev := hide (HE.out wr u _ (hR.below hB))
    obtain ⟨au, cu, rfl, _⟩ := hR.spell
    have k0 : (0 : Int) ≤ (k : Int) := by omega
    have k1 : (k : Int) < (l.length : Int) := by omega
    clear hcell hc hR hu HE
    cases hi : inF f (l.getD k []) with
    | false =>
     have HR := hide (HN.out k hlt hi)
     rw [er_two hi] at hev
     clear HN HY HA hi
     generalize l.getD k [] = xs at *
     generalize valE f 0 xs = val at *
     go_wp2_with (go_at_call 120; refine hev.out.mono ?_; rintro e w1 ⟨rfl, hb1⟩)
     go_ret
     exact ⟨by have hr := HR.out; subst hr; rfl, Below.next hB hb1⟩
    | true =>
     have ht : (er f (l.getD k []) [0] == 2) = false := by simpa using er_not hi
     have HA2 : Hid (∀ i, i < k + 1 → inF f (l.getD i []) = true) := fun i h' => by
      rcases Nat.lt_or_eq_of_le (Nat.le_of_lt_succ h') with h1 | h1
      · exact HA.out i h1
      · rw [h1]; exact hi
     clear HN HY HA hi
     generalize er f (l.getD k []) [0] = er0 at *
     generalize l.getD k [] = xs at *
     generalize valE f 0 xs = val at *
     go_wp2_with (go_at_call 120; refine hev.out.mono ?_; rintro e w1 ⟨rfl, hb1⟩)
     have hB2 := Below.next hB hb1
     go_roundw
     case rel => exact ⟨k + 1, by omega, by go_num, HA2, hB2⟩
     case measure => simp [intOf]; omega
  · obtain rfl : k = l.length := by omega
    have HR := hide (HY.out HA.out)
    clear HN HY HA hc HE
    go_wp2
    go_ret
    exact ⟨by have hr := HR.out; subst hr; rfl, hB⟩
theorem lmi_cell {w W : World} {b off n cap : Nat} {l : List Int} (h : Lm iw 1 w (.slice (some ⟨b, off, none⟩) n cap) l) (hB : Below w.heap.size w W) {k : Nat} (hk : k < l.length) : b < w.heap.size ∧ W.cell? ⟨b, off + k, none⟩ = some (.int .i64 (l.getD k 0)) := by
 have e : l[k]? = some (l.getD k 0) := by rw [List.getD_eq_getElem?_getD, List.getElem?_eq_getElem hk]; rfl
 have := h.at_ (i := k) (j := 0) (u := .int .i64 (l.getD k 0)) e rfl
 rw [show off + (k * 1 + 0) = off + k by omega] at this
 exact ⟨this.1, (hB.cell (p := ⟨b, off + k, none⟩) this.1).trans this.2⟩
set_option maxRecDepth 100000 in
set_option maxHeartbeats 400000 in
theorem gAreWorkers (p : Pn) (v : Value) (l : List Int) (w : World) (h : Lm iw 1 w v l) : Calls Tryz.prog 96 #[plv p, v] w fun e w' => e = .returned (.bool (whoB p.n l)) ∧ Below w.heap.size w w' := by
 have HN := hide (fun k hk hf => whoB_no (n := p.n) (l := l) (k := k) hk hf)
 have HY := hide (fun hy => whoB_yes (n := p.n) (l := l) hy)
 obtain ⟨pb, hA⟩ := pb_box (w := w) p
 have HL := hide h
 have hlen := h.len
 obtain ⟨ao, cap, rfl, hcap⟩ := h.spell
 clear h
 generalize whoB p.n l = res at *
 unfold plv plw at *
 go_enter Tryz.func96, Tryz.ntmps96
 go_wp2
 obtain ⟨c0, c1, c2, c3, c4, c5, c6, c7⟩ := pb.cells
 generalize w.alloc _ = W0 at *
 clear pb
 go_loop [9] (fun vi => ∃ k : Nat, k ≤ l.length ∧ vi = .int .i64 k ∧ Hid (∀ i, i < k → 0 ≤ l.getD i 0 ∧ l.getD i 0 < p.n)) (fun vi => l.length - (intOf vi).toNat)
 case atStart => exact ⟨0, Nat.zero_le _, rfl, fun i hi => by omega⟩
 case round =>
  obtain ⟨k, hk, rfl, HQ⟩ := hrel
  by_cases hlt : k < l.length
  · obtain ⟨b, off, cp, heq, _, _⟩ := HL.out.form (by omega)
    cases heq
    have hck := (lmi_cell HL.out hA hlt).2
    have k0 : (0 : Int) ≤ (k : Int) := by omega
    have k1 : (k : Int) < (l.length : Int) := by omega
    by_cases hi : 0 ≤ l.getD k 0 ∧ l.getD k 0 < p.n
    · have HA2 : Hid (∀ i, i < k + 1 → 0 ≤ l.getD i 0 ∧ l.getD i 0 < p.n) := fun i h' => by
       rcases Nat.lt_or_eq_of_le (Nat.le_of_lt_succ h') with h1 | h1
       · exact HQ.out i h1
       · rw [h1]; exact hi
      obtain ⟨q1, q2⟩ := hi
      clear HN HY HQ HL
      generalize l.getD k 0 = x at *
      go_wp2
      go_round
      case rel => exact ⟨k + 1, by omega, by go_num, HA2⟩
      case measure => simp [intOf]; omega
    · have HR := hide (HN.out k hlt hi)
      clear HN HY HQ HL
      generalize l.getD k 0 = x at *
      by_cases hx : x < 0
      · clear hi
        go_wp2
        go_ret
        exact ⟨by have hr := HR.out; subst hr; rfl, hA⟩
      · have hx2 : p.n ≤ x := by omega
        clear hi
        go_wp2
        go_ret
        exact ⟨by have hr := HR.out; subst hr; rfl, hA⟩
  · obtain rfl : k = l.length := by omega
    have HR := hide (HY.out HQ.out)
    clear HN HY HQ HL
    go_wp2
    go_ret
    exact ⟨by have hr := HR.out; subst hr; rfl, hA⟩
set_option maxRecDepth 100000 in
set_option maxHeartbeats 400000 in
theorem gAreBlocks (p : Pn) (n : Int) (v : Value) (l : List (List Int)) (w : World) (h : Rws w v l) : Calls Tryz.prog 97 #[plv p, v, .int .i64 n] w fun e w' => e = .returned (.bool (blkB p.w n l)) ∧ Below w.heap.size w w' := by
 have HN := hide (fun k hk hf => blkB_no (w := p.w) (n := n) (l := l) (k := k) hk hf)
 have HY := hide (fun hy => blkB_yes (w := p.w) (n := n) (l := l) hy)
 obtain ⟨pb, hA⟩ := pb_box (w := w) p
 obtain ⟨ao, cap, rfl, hlen, hcap, hc⟩ := h
 generalize blkB p.w n l = res at *
 unfold plv plw at *
 go_enter Tryz.func97, Tryz.ntmps97
 go_wp2
 obtain ⟨c0, c1, c2, c3, c4, c5, c6, c7⟩ := pb.cells
 generalize w.alloc _ = W0 at *
 clear pb
 go_loop [11] (fun vi => ∃ k : Nat, k ≤ l.length ∧ vi = .int .i64 k ∧ Hid (∀ i, i < k → ((l.getD i []).length : Int) = p.w)) (fun vi => l.length - (intOf vi).toNat)
 case atStart => exact ⟨0, Nat.zero_le _, rfl, fun i hi => by omega⟩
 case round =>
  obtain ⟨k, hk, rfl, HQ⟩ := hrel
  by_cases hlt : k < l.length
  · obtain ⟨b, off, rfl, hbl, hcell⟩ := hc (by intro h; rw [h] at hlt; simp at hlt)
    obtain ⟨u, hu, hR⟩ := hcell k hlt
    have hck := (hA.cell (p := ⟨b, off + k, none⟩) hbl).trans hu
    obtain ⟨au, cu, rfl, _⟩ := hR.spell
    have k0 : (0 : Int) ≤ (k : Int) := by omega
    have k1 : (k : Int) < (l.length : Int) := by omega
    have hll := hR.len
    clear hcell hc hR hu
    by_cases hi : ((l.getD k []).length : Int) = p.w
    · have HA2 : Hid (∀ i, i < k + 1 → ((l.getD i []).length : Int) = p.w) := fun i h' => by
       rcases Nat.lt_or_eq_of_le (Nat.le_of_lt_succ h') with h1 | h1
       · exact HQ.out i h1
       · rw [h1]; exact hi
      clear HN HY HQ
      generalize (l.getD k []).length = m at *
      rw [← hi] at c7
      clear hi
      go_wp2
      go_round
      case rel => exact ⟨k + 1, by omega, by go_num, HA2⟩
      case measure => simp [intOf]; omega
    · have HR := hide (HN.out k hlt hi)
      clear HN HY HQ
      generalize (l.getD k []).length = m at *
      have ht : (((m : Int)) != p.w) = true := bne_iff_ne.2 hi
      clear hi
      go_wp2
      go_ret
      exact ⟨by have hr := HR.out; subst hr; rfl, hA⟩
  · obtain rfl : k = l.length := by omega
    have HR := hide (HY.out HQ.out)
    clear HN HY HQ hc
    generalize l.length = m at *
    by_cases hi : (m : Int) = n
    · rw [decide_eq_true hi] at HR
      subst hi
      go_wp2
      go_ret
      exact ⟨by have hr := HR.out; subst hr; rfl, hA⟩
    · rw [decide_eq_false hi] at HR
      have ht : ((m : Int) == n) = false := by simpa using hi
      clear hi
      go_wp2
      go_ret
      exact ⟨by have hr := HR.out; subst hr; rfl, hA⟩
end Go.Proofs.YtnakbpaiidolbaaGreat
namespace Go.Proofs.YtnakbpaiidolbaaGreat
open Go.RowKit Fld Pln Shr
set_option linter.unusedVariables false
set_option linter.unusedSimpArgs false
set_option maxRecDepth 100000 in
set_option maxHeartbeats 400000 in
theorem gCheckBlocks (p : Pn) (vd vp vw : Value) (dl pl : List (List Int)) (who : List Int) (w : World) (hp : Ok8p p) (h1 : Rws w vd dl) (h2 : Rws w vp pl) (h3 : Lm iw 1 w vw who) :
 Calls Tryz.prog 66 #[plv p, vd, vp, vw] w fun e w' => e = .returned (.int .i64 (bkE p dl pl who)) ∧ Below w.heap.size w w' := by
 have HM := hide (gMay p hp)
 have H1 := hide (fun W (hb : Below w.heap.size w W) => gElements p.f vd dl W (h1.below hb))
 have H2 := hide (fun W (hb : Below w.heap.size w W) => gElements p.f vp pl W (h2.below hb))
 have H3 := hide (fun W (hb : Below w.heap.size w W) => gAreWorkers p vw who W (h3.below hb))
 have H4 := hide (fun W (hb : Below w.heap.size w W) => gAreBlocks p p.k vd dl W (h1.below hb))
 have H5 := hide (fun W (hb : Below w.heap.size w W) => gAreBlocks p p.t vp pl W (h2.below hb))
 obtain ⟨pb, hA⟩ := pb_box (w := w) p
 have HS := hide (fun W (hb : Below (w.alloc (.cells #[.int .u8 p.f, .int .i64 p.n, .int .i64 p.k, .int .i64 p.t, .int .i64 p.s, .int .i64 p.e, .int .i64 p.d, .int .i64 p.w] 24)).heap.size _ W) => (pb.below hb).cells)
 obtain ⟨c0, c1, c2, c3, c4, c5, c6, c7⟩ := pb.cells
 obtain ⟨a1, k1, rfl, _, _, _⟩ := h1
 obtain ⟨a2, k2, rfl, _, _, _⟩ := h2
 obtain ⟨a3, k3, rfl, _⟩ := h3.spell
 clear h3 hp pb
 unfold bkE
 generalize mayP p = b0 at *
 generalize elsB p.f dl = b1 at *
 generalize elsB p.f pl = b2 at *
 generalize whoB p.n who = b3 at *
 generalize blkB p.w p.k dl = b4 at *
 generalize blkB p.w p.t pl = b5 at *
 generalize dl.length = n1 at *
 generalize pl.length = n2 at *
 generalize who.length = n3 at *
 unfold plv plw at *
 generalize hW : w.alloc (.cells #[.int .u8 p.f, .int .i64 p.n, .int .i64 p.k, .int .i64 p.t, .int .i64 p.s, .int .i64 p.e, .int .i64 p.d, .int .i64 p.w] 24) = W0 at *
 have HW := hide hW
 clear hW
 have hcs : b0 = false ∨ (b0 = true ∧ b1 = false) ∨ (b0 = true ∧ b1 = true ∧ b2 = false) ∨ (b0 = true ∧ b1 = true ∧ b2 = true ∧ b3 = false) ∨ (b0 = true ∧ b1 = true ∧ b2 = true ∧ b3 = true ∧ b4 = false) ∨ (b0 = true ∧ b1 = true ∧ b2 = true ∧ b3 = true ∧ b4 = true ∧ b5 = false) ∨ (b0 = true ∧ b1 = true ∧ b2 = true ∧ b3 = true ∧ b4 = true ∧ b5 = true) := by
  cases b0 <;> cases b1 <;> cases b2 <;> cases b3 <;> cases b4 <;> cases b5 <;> decide
 rcases hcs with rfl | ⟨rfl, rfl⟩ | ⟨rfl, rfl, rfl⟩ | ⟨rfl, rfl, rfl, rfl⟩ | ⟨rfl, rfl, rfl, rfl, rfl⟩ | ⟨rfl, rfl, rfl, rfl, rfl, rfl⟩ | ⟨rfl, rfl, rfl, rfl, rfl, rfl⟩
 all_goals
  go_enter Tryz.func66, Tryz.ntmps66
  go_upto_region 1 with fail
  rw [HW.out]
  go_wp2_with (first
   | (go_at_call 55; refine (HM.out _).mono ?_; rintro e w1 ⟨rfl, hb1⟩; have hC1 := hb1; have hB1 := Below.next hA hC1; clear c0 c1 c2 c3 c4 c5 c6 c7; obtain ⟨c0, c1, c2, c3, c4, c5, c6, c7⟩ := HS.out _ hC1)
   | (go_at_call 97; with_reducible refine (H5.out _ hB5).mono ?_; rintro e w6 ⟨rfl, hb6⟩; have hC6 := Below.next hC5 hb6; have hB6 := Below.next hA hC6)
   | (go_at_call 97; with_reducible refine (H4.out _ hB4).mono ?_; rintro e w5 ⟨rfl, hb5⟩; have hC5 := Below.next hC4 hb5; have hB5 := Below.next hA hC5; clear c0 c1 c2 c3 c4 c5 c6 c7; obtain ⟨c0, c1, c2, c3, c4, c5, c6, c7⟩ := HS.out _ hC5)
   | (go_at_call 96; with_reducible refine (H3.out _ hB3).mono ?_; rintro e w4 ⟨rfl, hb4⟩; have hC4 := Below.next hC3 hb4; have hB4 := Below.next hA hC4; clear c0 c1 c2 c3 c4 c5 c6 c7; obtain ⟨c0, c1, c2, c3, c4, c5, c6, c7⟩ := HS.out _ hC4)
   | (go_at_call 95; with_reducible refine (H2.out _ hB2).mono ?_; rintro e w3 ⟨rfl, hb3⟩; have hC3 := Below.next hC2 hb3; have hB3 := Below.next hA hC3; clear c0 c1 c2 c3 c4 c5 c6 c7; obtain ⟨c0, c1, c2, c3, c4, c5, c6, c7⟩ := HS.out _ hC3)
   | (go_at_call 95; with_reducible refine (H1.out _ hB1).mono ?_; rintro e w2 ⟨rfl, hb2⟩; have hC2 := Below.next hC1 hb2; have hB2 := Below.next hA hC2; clear c0 c1 c2 c3 c4 c5 c6 c7; obtain ⟨c0, c1, c2, c3, c4, c5, c6, c7⟩ := HS.out _ hC2))
  go_ret
  refine ⟨rfl, ?_⟩
  first | exact hB6 | exact hB5 | exact hB4 | exact hB3 | exact hB2 | exact hB1
end Go.Proofs.YtnakbpaiidolbaaGreat
