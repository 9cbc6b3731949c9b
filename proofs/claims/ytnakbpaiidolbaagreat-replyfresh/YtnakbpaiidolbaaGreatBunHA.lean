import Derived.Test.YtnakbpaiidolbaaGreatBunW
import Derived.Test.YtnakbpaiidolbaaGreatBunAT
import Derived.Test.YtnakbpaiidolbaaGreatBunM
import Derived.Test.YtnakbpaiidolbaaGreatBRowA
import Derived.Test.YtnakbpaiidolbaaGreatBunQ
import Derived.Test.YtnakbpaiidolbaaGreatBunO
import Derived.Test.YtnakbpaiidolbaaGreatBunYQ
namespace Go.Proofs.YtnakbpaiidolbaaGreat
open Go.RowKit Fld Pln Shr
set_option linter.unusedVariables false
set_option linter.unusedSimpArgs false
def elsB (f : Int) (l : List (List Int)) : Bool := l.all (fun xs => inF f xs)
def lenB (w : Int) (l : List (List Int)) : Bool := l.all (fun xs => decide ((xs.length : Int) = w))
def blkB (w n : Int) (l : List (List Int)) : Bool := lenB w l && decide ((l.length : Int) = n)
def whoB (n : Int) (l : List Int) : Bool := l.all (fun x => decide (0 ≤ x ∧ x < n))
def bkE (p : Pn) (dl pl : List (List Int)) (who : List Int) : Int := if mayP p && elsB p.f dl && elsB p.f pl && whoB p.n who then (if blkB p.w p.k dl && blkB p.w p.t pl then 0 else 3) else 2
def polL (p : Pn) (dl pl : List (List Int)) : List (List Int) := if bkE p dl pl [] = 0 then pys (pOf p.f) (innL p) p.w.toNat (dl ++ pl) else []
def allL (p : Pn) (dl pl : List (List Int)) : List (List Int) := if bkE p dl pl [] = 0 then (outL p).map (shr (pOf p.f) (innL p) p.w.toNat (dl ++ pl)) else []
def shaL (p : Pn) (dl pl : List (List Int)) (i : Int) : List Int := if bkE p dl pl [i] = 0 then shr (pOf p.f) (innL p) p.w.toNat (dl ++ pl) (co (outL p) i.toNat) else []
def nmd (p : Pn) (who : List Int) : List Int := who.map (fun i => co (outL p) i.toNat)
theorem elsB_iff {f q : Int} {wd : Bool} (h : Fi f q wd) {l : List (List Int)} : elsB f l = true ↔ ∀ b ∈ l, allIn q b = true := by
 unfold elsB
 rw [List.all_eq_true]
 constructor
 · intro hl b hb; rw [← inF_yes h]; exact hl b hb
 · intro hl b hb; rw [inF_yes h]; exact hl b hb
theorem blkB_iff {w n : Int} {l : List (List Int)} : blkB w n l = true ↔ (∀ b ∈ l, (b.length : Int) = w) ∧ (l.length : Int) = n := by
 unfold blkB lenB
 rw [Bool.and_eq_true, List.all_eq_true, decide_eq_true_iff]
 constructor
 · rintro ⟨h1, h2⟩; exact ⟨fun b hb => of_decide_eq_true (h1 b hb), h2⟩
 · rintro ⟨h1, h2⟩; exact ⟨fun b hb => decide_eq_true (h1 b hb), h2⟩
theorem whoB_iff {n : Int} {l : List Int} : whoB n l = true ↔ ∀ x ∈ l, 0 ≤ x ∧ x < n := by
 unfold whoB
 rw [List.all_eq_true]
 exact ⟨fun h x hx => of_decide_eq_true (h x hx), fun h x hx => decide_eq_true (h x hx)⟩
theorem bk_zero {p : Pn} {dl pl : List (List Int)} {who : List Int} (h : bkE p dl pl who = 0) : mayP p = true ∧ (∃ q wd, Fi p.f q wd ∧ ∀ b ∈ dl ++ pl, allIn q b = true) ∧ (∀ b ∈ dl ++ pl, b.length = p.w.toNat) ∧ dl.length = p.k.toNat ∧ pl.length = p.t.toNat ∧ ∀ x ∈ who, 0 ≤ x ∧ x < p.n := by
 unfold bkE at h
 split at h
 · rename_i h1
   rw [Bool.and_eq_true, Bool.and_eq_true, Bool.and_eq_true] at h1
   obtain ⟨⟨⟨hm, hd⟩, hp⟩, hw⟩ := h1
   split at h
   · rename_i h2
     rw [Bool.and_eq_true, blkB_iff, blkB_iff] at h2
     obtain ⟨⟨a1, a2⟩, b1, b2⟩ := h2
     obtain ⟨q, wd, hf⟩ := may_field hm
     refine ⟨hm, ⟨q, wd, hf, fun b hb => ?_⟩, fun b hb => ?_, by omega, by omega, whoB_iff.1 hw⟩
     · rcases List.mem_append.1 hb with hb | hb
       · exact (elsB_iff hf).1 hd b hb
       · exact (elsB_iff hf).1 hp b hb
     · rcases List.mem_append.1 hb with hb | hb
       · have := a1 b hb; omega
       · have := b1 b hb; omega
   · cases h
 · cases h
theorem bk_none {p : Pn} {dl pl : List (List Int)} : bkE p dl pl [] = if mayP p && elsB p.f dl && elsB p.f pl then (if blkB p.w p.k dl && blkB p.w p.t pl then 0 else 3) else 2 := by
 unfold bkE whoB
 rw [List.all_nil, Bool.and_true]
def trn (bl : List (List Int)) (n : Nat) : List (List Int) := (List.range n).map (fun t => col bl t)
theorem trn_len (bl : List (List Int)) (n : Nat) : (trn bl n).length = n := by simp [trn]
def vls (q : Int) (xs zs ys : List Int) : List Int := zs.map (fun z => ds q (bs q xs z) (co ys) xs.length)
theorem vls_len (q : Int) (xs zs ys : List Int) : (vls q xs zs ys).length = zs.length := List.length_map ..
theorem moved_eq {q : Int} {wd : Bool} (hm : Md q wd) {xs zs : List Int} {bl : List (List Int)} (hx : Els q xs) (hn : xs.Nodup) (hb : ∀ b ∈ bl, Els q b) (w : Nat) : trn ((List.range w).map (fun t => vls q xs zs (col bl t))) zs.length = zs.map (shr q xs w bl) := by
 unfold trn
 refine List.ext_getElem (by simp) (fun j h1 h2 => ?_)
 have hj : j < zs.length := by simpa using h2
 rw [List.getElem_map, List.getElem_map, List.getElem_range]
 refine ext_co (by rw [col_len, List.length_map, List.length_range, shr_len]) (fun t ht => ?_)
 rw [col_len, List.length_map, List.length_range] at ht
 rw [shr_row hm hx hn hb _ ht, col_at (by simpa using ht), List.getElem_map, List.getElem_range]
 unfold vls
 rw [co_at (by simpa using hj), List.getElem_map]
theorem vl_two (q b a y : Int) : vl q b [a, y] = add q a (mul q b y) := by
 unfold vl add mul
 show (a + b * (y + b * 0)) % q = _
 rw [Int.mul_zero, Int.add_zero, Int.add_emod_emod]
theorem vls_els {q : Int} (hq : 0 < q) (xs zs ys : List Int) : Els q (vls q xs zs ys) := fun x hx => by
 obtain ⟨z, _, rfl⟩ := List.mem_map.1 hx
 exact ds_el hq _ _ _
theorem nmd_len (p : Pn) (who : List Int) : (nmd p who).length = who.length := List.length_map ..
theorem inn_facts {p : Pn} (hm : mayP p = true) {q : Int} {wd : Bool} (hf : Fi p.f q wd) : Els q (innL p) ∧ (innL p).Nodup ∧ (innL p).length = (p.k + p.t).toNat ∧ Els q (outL p) ∧ (outL p).Nodup ∧ (outL p).length = p.n.toNat := by
 obtain ⟨⟨n0, n1⟩, ⟨k0, k1⟩, ⟨t0, t1⟩, _⟩ := may_facts hm
 exact ⟨pts_els hf (by omega) (by omega), pts_nodup _ _, pts_len _ _, pts_els hf (by omega) (by omega), pts_nodup _ _, pts_len _ _⟩
end Go.Proofs.YtnakbpaiidolbaaGreat
namespace Go.Proofs.YtnakbpaiidolbaaGreat
open Go.RowKit Fld Pln Shr
set_option linter.unusedVariables false
set_option linter.unusedSimpArgs false
theorem all_false {α : Type} {f : α → Bool} {l : List α} {x : α} (hx : x ∈ l) (h : f x = false) : l.all f = false := by
 cases hb : l.all f with
 | false => rfl
 | true => rw [List.all_eq_true] at hb; rw [hb x hx] at h; cases h
theorem getD_memA {α : Type} {l : List α} {k : Nat} (d : α) (hk : k < l.length) : l.getD k d ∈ l := by
 rw [List.getD_eq_getElem?_getD, List.getElem?_eq_getElem hk]; exact List.getElem_mem hk
theorem all_true {α : Type} {f : α → Bool} {l : List α} (d : α) (h : ∀ i, i < l.length → f (l.getD i d) = true) : l.all f = true := by
 rw [List.all_eq_true]
 intro x hx
 obtain ⟨i, hi, rfl⟩ := List.mem_iff_getElem.1 hx
 have := h i hi
 rw [List.getD_eq_getElem?_getD, List.getElem?_eq_getElem hi] at this
 exact this
theorem elsB_no {f : Int} {l : List (List Int)} {k : Nat} (hk : k < l.length) (hf : inF f (l.getD k []) = false) : elsB f l = false := all_false (f := fun xs => inF f xs) (getD_memA [] hk) hf
theorem elsB_yes {f : Int} {l : List (List Int)} (hy : ∀ i, i < l.length → inF f (l.getD i []) = true) : elsB f l = true := all_true (f := fun xs => inF f xs) [] hy
theorem whoB_no {n : Int} {l : List Int} {k : Nat} (hk : k < l.length) (hf : ¬ (0 ≤ l.getD k 0 ∧ l.getD k 0 < n)) : whoB n l = false := all_false (f := fun x => decide (0 ≤ x ∧ x < n)) (getD_memA 0 hk) (decide_eq_false hf)
theorem whoB_yes {n : Int} {l : List Int} (hy : ∀ i, i < l.length → 0 ≤ l.getD i 0 ∧ l.getD i 0 < n) : whoB n l = true := all_true (f := fun x => decide (0 ≤ x ∧ x < n)) 0 (fun i hi => decide_eq_true (hy i hi))
theorem blkB_no {w n : Int} {l : List (List Int)} {k : Nat} (hk : k < l.length) (hf : ¬ (((l.getD k []).length : Int) = w)) : blkB w n l = false := by
 unfold blkB
 rw [show lenB w l = false from all_false (f := fun xs : List Int => decide ((xs.length : Int) = w)) (getD_memA [] hk) (decide_eq_false hf)]; rfl
theorem blkB_yes {w n : Int} {l : List (List Int)} (hy : ∀ i, i < l.length → (((l.getD i []).length : Int) = w)) : blkB w n l = decide ((l.length : Int) = n) := by
 unfold blkB
 rw [show lenB w l = true from all_true (f := fun xs : List Int => decide ((xs.length : Int) = w)) [] (fun i hi => decide_eq_true (hy i hi)), Bool.true_and]
theorem er_two {f : Int} {xs : List Int} (h : inF f xs = false) : er f xs [0] = 2 := by
 unfold er erb
 rw [h]; rfl
theorem er_not {f : Int} {xs : List Int} (h : inF f xs = true) : er f xs [0] ≠ 2 := by
 unfold er erb
 have h0 : inF f [0] = true := by
  rcases Fi_or f with ⟨p, wd, hf⟩ | ⟨h1, h2⟩
  · rw [inF_yes hf]; exact allIn_of (fun x hx => by rw [List.mem_singleton.1 hx]; exact ⟨Int.le_refl _, hf.pos⟩)
  · rw [inF_no h1 h2] at h; cases h
 rw [h, h0, if_pos (by decide)]
 split <;> decide
set_option maxRecDepth 100000 in
set_option maxHeartbeats 400000 in
theorem gElements (f : Int) (v : Value) (l : List (List Int)) (w : World) (h : Rws w v l) : Calls Tryz.prog 95 #[.int .u8 f, v] w fun e w' => e = .returned (.bool (elsB f l)) ∧ Below w.heap.size w w' := by
 have HE := hide (fun W u xs (hr : Rw W u xs) => pEval_any f 0 u xs W (by decide) hr)
 have HN := hide (fun k hk hf => elsB_no (f := f) (l := l) (k := k) hk hf)
 have HY := hide (fun hy => elsB_yes (f := f) (l := l) hy)
 obtain ⟨ao, cap, rfl, hlen, hcap, hc⟩ := h
 generalize elsB f l = res at *
 go_enter Tryz.func95, Tryz.ntmps95
 go_wp2
 go_loopw [11] (fun vi wr => ∃ k : Nat, k ≤ l.length ∧ vi = .int .i64 k ∧ Hid (∀ i, i < k → inF f (l.getD i []) = true) ∧ Below w.heap.size w wr) (fun vi _ => l.length - (intOf vi).toNat)
 case atStart => exact ⟨0, Nat.zero_le _, rfl, fun i hi => by omega, Below.refl _ _⟩
 case round =>
  obtain ⟨k, hk, rfl, HA, hB⟩ := hrel
  by_cases hlt : k < l.length
  · obtain ⟨b, off, rfl, hbl, hcell⟩ := hc (by intro h; rw [h] at hlt; simp at hlt)
    obtain ⟨u, hu, hR⟩ := hcell k hlt
    have hck := (hB.cell (p := ⟨b, off + k, none⟩) hbl).trans hu
    have hev := hide (HE.out wr u _ (hR.below hB))
    obtain ⟨au, cu, rfl, _⟩ := hR.spell
    have k0 : (0 : Int) ≤ (k : Int) := by omega
    have k1 : (k : Int) < (l.length : Int) := by omega
    clear hcell hc hR hu HE
    cases hi : inF f (l.getD k []) with
    | false =>
     have HR := hide (HN.out k hlt hi)
     rw [er_two hi] at hev
     clear HN HY HA hi
     generalize l.getD k [] = xs at *
     generalize valE f 0 xs = val at *
     go_wp2_with (go_at_call 120; refine hev.out.mono ?_; rintro e w1 ⟨rfl, hb1⟩)
     go_ret
     exact ⟨by have hr := HR.out; subst hr; rfl, Below.next hB hb1⟩
    | true =>
     have ht : (er f (l.getD k []) [0] == 2) = false := by simpa using er_not hi
     have HA2 : Hid (∀ i, i < k + 1 → inF f (l.getD i []) = true) := fun i h' => by
      rcases Nat.lt_or_eq_of_le (Nat.le_of_lt_succ h') with h1 | h1
      · exact HA.out i h1
      · rw [h1]; exact hi
     clear HN HY HA hi
     generalize er f (l.getD k []) [0] = er0 at *
     generalize l.getD k [] = xs at *
     generalize valE f 0 xs = val at *
     go_wp2_with (go_at_call 120; refine hev.out.mono ?_; rintro e w1 ⟨rfl, hb1⟩)
     have hB2 := Below.next hB hb1
     go_roundw
     case rel => exact ⟨k + 1, by omega, by go_num, HA2, hB2⟩
     case measure => simp [intOf]; omega
  · obtain rfl : k = l.length := by omega
    have HR := hide (HY.out HA.out)
    clear HN HY HA hc HE
    go_wp2
    go_ret
    exact ⟨by have hr := HR.out; subst hr; rfl, hB⟩
theorem lmi_cell {w W : World} {b off n cap : Nat} {l : List Int} (h : Lm iw 1 w (.slice (some ⟨b, off, none⟩) n cap) l) (hB : Below w.heap.size w W) {k : Nat} (hk : k < l.length) : b < w.heap.size ∧ W.cell? ⟨b, off + k, none⟩ = some (.int .i64 (l.getD k 0)) := by
 have e : l[k]? = some (l.getD k 0) := by rw [List.getD_eq_getElem?_getD, List.getElem?_eq_getElem hk]; rfl
 have := h.at_ (i := k) (j := 0) (u := .int .i64 (l.getD k 0)) e rfl
 rw [show off + (k * 1 + 0) = off + k by omega] at this
 exact ⟨this.1, (hB.cell (p := ⟨b, off + k, none⟩) this.1).trans this.2⟩
set_option maxRecDepth 100000 in
set_option maxHeartbeats 400000 in
theorem gAreWorkers (p : Pn) (v : Value) (l : List Int) (w : World) (h : Lm iw 1 w v l) : Calls Tryz.prog 96 #[plv p, v] w fun e w' => e = .returned (.bool (whoB p.n l)) ∧ Below w.heap.size w w' := by
 have HN := hide (fun k hk hf => whoB_no (n := p.n) (l := l) (k := k) hk hf)
 have HY := hide (fun hy => whoB_yes (n := p.n) (l := l) hy)
 obtain ⟨pb, hA⟩ := pb_box (w := w) p
 have HL := hide h
 have hlen := h.len
 obtain ⟨ao, cap, rfl, hcap⟩ := h.spell
 clear h
 generalize whoB p.n l = res at *
 unfold plv plw at *
 go_enter Tryz.func96, Tryz.ntmps96
 go_wp2
 obtain ⟨c0, c1, c2, c3, c4, c5, c6, c7⟩ := pb.cells
 generalize w.alloc _ = W0 at *
 clear pb
 go_loop [9] (fun vi => ∃ k : Nat, k ≤ l.length ∧ vi = .int .i64 k ∧ Hid (∀ i, i < k → 0 ≤ l.getD i 0 ∧ l.getD i 0 < p.n)) (fun vi => l.length - (intOf vi).toNat)
 case atStart => exact ⟨0, Nat.zero_le _, rfl, fun i hi => by omega⟩
 case round =>
  obtain ⟨k, hk, rfl, HQ⟩ := hrel
  by_cases hlt : k < l.length
  · obtain ⟨b, off, cp, heq, _, _⟩ := HL.out.form (by omega)
    cases heq
    have hck := (lmi_cell HL.out hA hlt).2
    have k0 : (0 : Int) ≤ (k : Int) := by omega
    have k1 : (k : Int) < (l.length : Int) := by omega
    by_cases hi : 0 ≤ l.getD k 0 ∧ l.getD k 0 < p.n
    · have HA2 : Hid (∀ i, i < k + 1 → 0 ≤ l.getD i 0 ∧ l.getD i 0 < p.n) := fun i h' => by
       rcases Nat.lt_or_eq_of_le (Nat.le_of_lt_succ h') with h1 | h1
       · exact HQ.out i h1
       · rw [h1]; exact hi
      obtain ⟨q1, q2⟩ := hi
      clear HN HY HQ HL
      generalize l.getD k 0 = x at *
      go_wp2
      go_round
      case rel => exact ⟨k + 1, by omega, by go_num, HA2⟩
      case measure => simp [intOf]; omega
    · have HR := hide (HN.out k hlt hi)
      clear HN HY HQ HL
      generalize l.getD k 0 = x at *
      by_cases hx : x < 0
      · clear hi
        go_wp2
        go_ret
        exact ⟨by have hr := HR.out; subst hr; rfl, hA⟩
      · have hx2 : p.n ≤ x := by omega
        clear hi
        go_wp2
        go_ret
        exact ⟨by have hr := HR.out; subst hr; rfl, hA⟩
  · obtain rfl : k = l.length := by omega
    have HR := hide (HY.out HQ.out)
    clear HN HY HQ HL
    go_wp2
    go_ret
    exact ⟨by have hr := HR.out; subst hr; rfl, hA⟩
set_option maxRecDepth 100000 in
set_option maxHeartbeats 400000 in
theorem gAreBlocks (p : Pn) (n : Int) (v : Value) (l : List (List Int)) (w : World) (h : Rws w v l) : Calls Tryz.prog 97 #[plv p, v, .int .i64 n] w fun e w' => e = .returned (.bool (blkB p.w n l)) ∧ Below w.heap.size w w' := by
 have HN := hide (fun k hk hf => blkB_no (w := p.w) (n := n) (l := l) (k := k) hk hf)
 have HY := hide (fun hy => blkB_yes (w := p.w) (n := n) (l := l) hy)
 obtain ⟨pb, hA⟩ := pb_box (w := w) p
 obtain ⟨ao, cap, rfl, hlen, hcap, hc⟩ := h
 generalize blkB p.w n l = res at *
 unfold plv plw at *
 go_enter Tryz.func97, Tryz.ntmps97
 go_wp2
 obtain ⟨c0, c1, c2, c3, c4, c5, c6, c7⟩ := pb.cells
 generalize w.alloc _ = W0 at *
 clear pb
 go_loop [11] (fun vi => ∃ k : Nat, k ≤ l.length ∧ vi = .int .i64 k ∧ Hid (∀ i, i < k → ((l.getD i []).length : Int) = p.w)) (fun vi => l.length - (intOf vi).toNat)
 case atStart => exact ⟨0, Nat.zero_le _, rfl, fun i hi => by omega⟩
 case round =>
  obtain ⟨k, hk, rfl, HQ⟩ := hrel
  by_cases hlt : k < l.length
  · obtain ⟨b, off, rfl, hbl, hcell⟩ := hc (by intro h; rw [h] at hlt; simp at hlt)
    obtain ⟨u, hu, hR⟩ := hcell k hlt
    have hck := (hA.cell (p := ⟨b, off + k, none⟩) hbl).trans hu
    obtain ⟨au, cu, rfl, _⟩ := hR.spell
    have k0 : (0 : Int) ≤ (k : Int) := by omega
    have k1 : (k : Int) < (l.length : Int) := by omega
    have hll := hR.len
    clear hcell hc hR hu
    by_cases hi : ((l.getD k []).length : Int) = p.w
    · have HA2 : Hid (∀ i, i < k + 1 → ((l.getD i []).length : Int) = p.w) := fun i h' => by
       rcases Nat.lt_or_eq_of_le (Nat.le_of_lt_succ h') with h1 | h1
       · exact HQ.out i h1
       · rw [h1]; exact hi
      clear HN HY HQ
      generalize (l.getD k []).length = m at *
      rw [← hi] at c7
      clear hi
      go_wp2
      go_round
      case rel => exact ⟨k + 1, by omega, by go_num, HA2⟩
      case measure => simp [intOf]; omega
    · have HR := hide (HN.out k hlt hi)
      clear HN HY HQ
      generalize (l.getD k []).length = m at *
      have ht : (((m : Int)) != p.w) = true := bne_iff_ne.2 hi
      clear hi
      go_wp2
      go_ret
      exact ⟨by have hr := HR.out; subst hr; rfl, hA⟩
  · obtain rfl : k = l.length := by omega
    have HR := hide (HY.out HQ.out)
    clear HN HY HQ hc
    generalize l.length = m at *
    by_cases hi : (m : Int) = n
    · rw [decide_eq_true hi] at HR
      subst hi
      go_wp2
      go_ret
      exact ⟨by have hr := HR.out; subst hr; rfl, hA⟩
    · rw [decide_eq_false hi] at HR
      have ht : ((m : Int) == n) = false := by simpa using hi
      clear hi
      go_wp2
      go_ret
      exact ⟨by have hr := HR.out; subst hr; rfl, hA⟩
end Go.Proofs.YtnakbpaiidolbaaGreat
namespace Go.Proofs.YtnakbpaiidolbaaGreat
open Go.RowKit Fld Pln Shr
set_option linter.unusedVariables false
set_option linter.unusedSimpArgs false
set_option maxRecDepth 100000 in
set_option maxHeartbeats 400000 in
theorem gCheckBlocks (p : Pn) (vd vp vw : Value) (dl pl : List (List Int)) (who : List Int) (w : World) (hp : Ok8p p) (h1 : Rws w vd dl) (h2 : Rws w vp pl) (h3 : Lm iw 1 w vw who) :
 Calls Tryz.prog 66 #[plv p, vd, vp, vw] w fun e w' => e = .returned (.int .i64 (bkE p dl pl who)) ∧ Below w.heap.size w w' := by
 have HM := hide (gMay p hp)
 have H1 := hide (fun W (hb : Below w.heap.size w W) => gElements p.f vd dl W (h1.below hb))
 have H2 := hide (fun W (hb : Below w.heap.size w W) => gElements p.f vp pl W (h2.below hb))
 have H3 := hide (fun W (hb : Below w.heap.size w W) => gAreWorkers p vw who W (h3.below hb))
 have H4 := hide (fun W (hb : Below w.heap.size w W) => gAreBlocks p p.k vd dl W (h1.below hb))
 have H5 := hide (fun W (hb : Below w.heap.size w W) => gAreBlocks p p.t vp pl W (h2.below hb))
 obtain ⟨pb, hA⟩ := pb_box (w := w) p
 have HS := hide (fun W (hb : Below (w.alloc (.cells #[.int .u8 p.f, .int .i64 p.n, .int .i64 p.k, .int .i64 p.t, .int .i64 p.s, .int .i64 p.e, .int .i64 p.d, .int .i64 p.w] 24)).heap.size _ W) => (pb.below hb).cells)
 obtain ⟨c0, c1, c2, c3, c4, c5, c6, c7⟩ := pb.cells
 obtain ⟨a1, k1, rfl, _, _, _⟩ := h1
 obtain ⟨a2, k2, rfl, _, _, _⟩ := h2
 obtain ⟨a3, k3, rfl, _⟩ := h3.spell
 clear h3 hp pb
 unfold bkE
 generalize mayP p = b0 at *
 generalize elsB p.f dl = b1 at *
 generalize elsB p.f pl = b2 at *
 generalize whoB p.n who = b3 at *
 generalize blkB p.w p.k dl = b4 at *
 generalize blkB p.w p.t pl = b5 at *
 generalize dl.length = n1 at *
 generalize pl.length = n2 at *
 generalize who.length = n3 at *
 unfold plv plw at *
 generalize hW : w.alloc (.cells #[.int .u8 p.f, .int .i64 p.n, .int .i64 p.k, .int .i64 p.t, .int .i64 p.s, .int .i64 p.e, .int .i64 p.d, .int .i64 p.w] 24) = W0 at *
 have HW := hide hW
 clear hW
 have hcs : b0 = false ∨ (b0 = true ∧ b1 = false) ∨ (b0 = true ∧ b1 = true ∧ b2 = false) ∨ (b0 = true ∧ b1 = true ∧ b2 = true ∧ b3 = false) ∨ (b0 = true ∧ b1 = true ∧ b2 = true ∧ b3 = true ∧ b4 = false) ∨ (b0 = true ∧ b1 = true ∧ b2 = true ∧ b3 = true ∧ b4 = true ∧ b5 = false) ∨ (b0 = true ∧ b1 = true ∧ b2 = true ∧ b3 = true ∧ b4 = true ∧ b5 = true) := by
  cases b0 <;> cases b1 <;> cases b2 <;> cases b3 <;> cases b4 <;> cases b5 <;> decide
 rcases hcs with rfl | ⟨rfl, rfl⟩ | ⟨rfl, rfl, rfl⟩ | ⟨rfl, rfl, rfl, rfl⟩ | ⟨rfl, rfl, rfl, rfl, rfl⟩ | ⟨rfl, rfl, rfl, rfl, rfl, rfl⟩ | ⟨rfl, rfl, rfl, rfl, rfl, rfl⟩
 all_goals
  go_enter Tryz.func66, Tryz.ntmps66
  go_upto_region 1 with fail
  rw [HW.out]
  go_wp2_with (first
   | (go_at_call 55; refine (HM.out _).mono ?_; rintro e w1 ⟨rfl, hb1⟩; have hC1 := hb1; have hB1 := Below.next hA hC1; clear c0 c1 c2 c3 c4 c5 c6 c7; obtain ⟨c0, c1, c2, c3, c4, c5, c6, c7⟩ := HS.out _ hC1)
   | (go_at_call 97; with_reducible refine (H5.out _ hB5).mono ?_; rintro e w6 ⟨rfl, hb6⟩; have hC6 := Below.next hC5 hb6; have hB6 := Below.next hA hC6)
   | (go_at_call 97; with_reducible refine (H4.out _ hB4).mono ?_; rintro e w5 ⟨rfl, hb5⟩; have hC5 := Below.next hC4 hb5; have hB5 := Below.next hA hC5; clear c0 c1 c2 c3 c4 c5 c6 c7; obtain ⟨c0, c1, c2, c3, c4, c5, c6, c7⟩ := HS.out _ hC5)
   | (go_at_call 96; with_reducible refine (H3.out _ hB3).mono ?_; rintro e w4 ⟨rfl, hb4⟩; have hC4 := Below.next hC3 hb4; have hB4 := Below.next hA hC4; clear c0 c1 c2 c3 c4 c5 c6 c7; obtain ⟨c0, c1, c2, c3, c4, c5, c6, c7⟩ := HS.out _ hC4)
   | (go_at_call 95; with_reducible refine (H2.out _ hB2).mono ?_; rintro e w3 ⟨rfl, hb3⟩; have hC3 := Below.next hC2 hb3; have hB3 := Below.next hA hC3; clear c0 c1 c2 c3 c4 c5 c6 c7; obtain ⟨c0, c1, c2, c3, c4, c5, c6, c7⟩ := HS.out _ hC3)
   | (go_at_call 95; with_reducible refine (H1.out _ hB1).mono ?_; rintro e w2 ⟨rfl, hb2⟩; have hC2 := Below.next hC1 hb2; have hB2 := Below.next hA hC2; clear c0 c1 c2 c3 c4 c5 c6 c7; obtain ⟨c0, c1, c2, c3, c4, c5, c6, c7⟩ := HS.out _ hC2))
  go_ret
  refine ⟨rfl, ?_⟩
  first | exact hB6 | exact hB5 | exact hB4 | exact hB3 | exact hB2 | exact hB1
end Go.Proofs.YtnakbpaiidolbaaGreat
namespace Go.Proofs.YtnakbpaiidolbaaGreat
open Go.RowKit Fld Pln Shr
set_option linter.unusedVariables false
set_option linter.unusedSimpArgs false
theorem Mtx.lay {w : World} {lo G r cap : Nat} {us : List Value} {l : List (List Int)} (h : Mtx w lo (.slice (some ⟨G, 0, none⟩) r cap) us l) (hr : r = l.length) {k : Nat} (hk : k < l.length) {u : Value} {ys : List Int} (hu : w.ownsRow lo 58 1 u ys.length (vals ys)) (hd : ∀ i g, i < l.length → i ≠ k → (us.getD i nov).ownBlock = some g → u.ownBlock ≠ some g) :
 Mtx (w.setCell ⟨G, k, none⟩ u) lo (.slice (some ⟨G, 0, none⟩) r cap) (us.set k u) (l.set k ys) := by
 subst hr
 have hl := h.len
 refine ⟨?_, fun i hi => ?_, fun i j g hi hj hne e1 e2 => ?_⟩
 · rw [List.length_set]; exact own_setv h.row u hk
 · rw [List.length_set] at hi
   rw [Rnk.getD_set _ _ _ (by omega), Rnk.getD_set _ _ _ hk]
   by_cases e : i = k
   · rw [if_pos e, if_pos e]
     exact own_other hu (fun e2 => own_kind hu h.row (Ne.symm ne_kinds) G e2 rfl)
   · rw [if_neg e, if_neg e]
     exact own_other (h.each i hi) (fun e2 => own_kind (h.each i hi) h.row (Ne.symm ne_kinds) G e2 rfl)
 · rw [List.length_set] at hi hj
   rw [Rnk.getD_set _ _ _ (by omega)] at e1 e2
   by_cases ei : i = k
   · rw [if_pos ei] at e1
     rw [if_neg (fun ej => hne (ei.trans ej.symm))] at e2
     exact hd j g hj (fun ej => hne (ei.trans ej.symm)) e2 e1
   · rw [if_neg ei] at e1
     by_cases ej : j = k
     · rw [if_pos ej] at e2
       exact hd i g hi ei e1 e2
     · rw [if_neg ej] at e2
       exact h.dif i j g hi hj hne e1 e2
theorem Mtx.tops {w : World} {lo : Nat} {v : Value} {us : List Value} {l : List (List Int)} (h : Mtx w lo v us l) {i g : Nat} (hi : i < l.length) (hg : (us.getD i nov).ownBlock = some g) : g < w.heap.size := own_top (h.each i hi) g hg
def mkl (n : Nat) (f : Nat → List Int) : List (List Int) := (List.range n).map f
theorem mkl_len (n : Nat) (f : Nat → List Int) : (mkl n f).length = n := by simp [mkl]
theorem mkl_at {n : Nat} (f : Nat → List Int) {t : Nat} (h : t < n) : (mkl n f).getD t [] = f t := by
 simp [mkl, List.getD_eq_getElem?_getD, h]
theorem ext_l {a b : List (List Int)} (hl : a.length = b.length) (h : ∀ i, i < a.length → a.getD i [] = b.getD i []) : a = b := by
 refine List.ext_getElem hl (fun i h1 h2 => ?_)
 have := h i h1
 rw [List.getD_eq_getElem?_getD, List.getD_eq_getElem?_getD, List.getElem?_eq_getElem h1, List.getElem?_eq_getElem h2] at this
 exact this
theorem mkl_congr {n : Nat} {f g : Nat → List Int} (h : ∀ t, t < n → f t = g t) : mkl n f = mkl n g :=
 ext_l (by rw [mkl_len, mkl_len]) (fun i hi => by rw [mkl_len] at hi; rw [mkl_at f hi, mkl_at g hi, h i hi])
theorem mkl_set {n : Nat} (f : Nat → List Int) {k : Nat} (hk : k < n) (ys : List Int) : (mkl n f).set k ys = mkl n (fun t => if t = k then ys else f t) :=
 ext_l (by rw [List.length_set, mkl_len, mkl_len]) (fun i hi => by
  rw [List.length_set, mkl_len] at hi
  rw [Rnk.getD_set _ _ _ (by rw [mkl_len]; exact hk), mkl_at f hi, mkl_at _ hi])
def pcol (bl : List (List Int)) (t j : Nat) : List Int := mk bl.length (fun i => if i < j then co (bl.getD i []) t else 0)
theorem pcol_len (bl : List (List Int)) (t j : Nat) : (pcol bl t j).length = bl.length := mk_len _ _
theorem pcol_zero (bl : List (List Int)) (t : Nat) : pcol bl t 0 = List.replicate bl.length 0 := by
 unfold pcol mk
 refine List.ext_getElem (by simp) (fun i h1 h2 => by simp)
theorem pcol_all (bl : List (List Int)) (t : Nat) : pcol bl t bl.length = col bl t := by
 refine ext_co (by rw [pcol_len, col_len]) (fun i hi => ?_)
 rw [pcol_len] at hi
 unfold pcol
 rw [co_mk, if_pos hi, if_pos hi, col_at hi, List.getD_eq_getElem?_getD, List.getElem?_eq_getElem hi]; rfl
theorem pcol_set {bl : List (List Int)} {t j : Nat} (hj : j < bl.length) : (pcol bl t j).set j (co (bl.getD j []) t) = pcol bl t (j + 1) := by
 refine ext_co (by rw [List.length_set, pcol_len, pcol_len]) (fun i hi => ?_)
 rw [List.length_set, pcol_len] at hi
 show ((pcol bl t j).set j _).getD i 0 = _
 rw [Rnk.getD_set _ _ _ (by rw [pcol_len]; exact hj)]
 unfold pcol
 show (if i = j then _ else co (mk _ _) i) = _
 rw [co_mk, co_mk, if_pos hi, if_pos hi]
 by_cases e : i = j
 · rw [if_pos e, if_pos (by omega), e]
 · rw [if_neg e]
   by_cases e2 : i < j
   · rw [if_pos e2, if_pos (by omega)]
   · rw [if_neg e2, if_neg (by omega)]
def trj (bl : List (List Int)) (n k j : Nat) : List (List Int) := mkl n (fun t => if t < k then col bl t else if t = k then pcol bl k j else [])
def trk (bl : List (List Int)) (n k : Nat) : List (List Int) := mkl n (fun t => if t < k then col bl t else [])
theorem trk_len (bl : List (List Int)) (n k : Nat) : (trk bl n k).length = n := mkl_len _ _
theorem trj_len (bl : List (List Int)) (n k j : Nat) : (trj bl n k j).length = n := mkl_len _ _
theorem trj_here (bl : List (List Int)) {n k j : Nat} (h : k < n) : (trj bl n k j).getD k [] = pcol bl k j := by
 unfold trj
 rw [mkl_at _ h, if_neg (by omega), if_pos rfl]
theorem trk_all (bl : List (List Int)) (n : Nat) : trk bl n n = trn bl n := mkl_congr (fun t ht => by rw [if_pos ht])
theorem trk_lay (bl : List (List Int)) {n k : Nat} (hk : k < n) : (trk bl n k).set k (List.replicate bl.length 0) = trj bl n k 0 := by
 unfold trk trj
 rw [mkl_set _ hk]
 refine mkl_congr (fun t ht => ?_)
 by_cases e : t = k
 · rw [if_pos e, if_neg (by omega), if_pos e, pcol_zero]
 · rw [if_neg e, if_neg e]
theorem trj_set (bl : List (List Int)) {n k j : Nat} (hk : k < n) (hj : j < bl.length) : (trj bl n k j).set k ((pcol bl k j).set j (co (bl.getD j []) k)) = trj bl n k (j + 1) := by
 unfold trj
 rw [mkl_set _ hk, pcol_set hj]
 refine mkl_congr (fun t ht => ?_)
 by_cases e : t = k
 · rw [if_pos e, if_neg (by omega), if_pos e]
 · rw [if_neg e, if_neg e, if_neg e]
theorem trj_end (bl : List (List Int)) {n k : Nat} (hk : k < n) : trj bl n k bl.length = trk bl n (k + 1) := by
 unfold trj trk
 refine mkl_congr (fun t ht => ?_)
 by_cases e : t < k
 · rw [if_pos e, if_pos (by omega)]
 · by_cases e2 : t = k
   · rw [if_neg e, if_pos e2, if_pos (by omega), pcol_all, e2]
   · rw [if_neg e, if_neg e2, if_neg (by omega)]
def ech (F : List Int → List Int) (bl : List (List Int)) (n k : Nat) : List (List Int) := mkl n (fun t => if t < k then F (col bl t) else col bl t)
theorem ech_len (F : List Int → List Int) (bl : List (List Int)) (n k : Nat) : (ech F bl n k).length = n := mkl_len _ _
theorem ech_zero (F : List Int → List Int) (bl : List (List Int)) (n : Nat) : ech F bl n 0 = trn bl n := mkl_congr (fun t _ => by rw [if_neg (by omega)])
theorem ech_all (F : List Int → List Int) (bl : List (List Int)) (n : Nat) : ech F bl n n = (List.range n).map (fun t => F (col bl t)) := mkl_congr (fun t ht => by rw [if_pos ht])
theorem ech_here (F : List Int → List Int) (bl : List (List Int)) {n k : Nat} (h : k < n) : (ech F bl n k).getD k [] = col bl k := by
 unfold ech
 rw [mkl_at _ h, if_neg (by omega)]
theorem ech_set (F : List Int → List Int) (bl : List (List Int)) {n k : Nat} (hk : k < n) : (ech F bl n k).set k (F (col bl k)) = ech F bl n (k + 1) := by
 unfold ech
 rw [mkl_set _ hk]
 refine mkl_congr (fun t ht => ?_)
 by_cases e : t = k
 · rw [if_pos e, if_pos (by omega), e]
 · rw [if_neg e]
   by_cases e2 : t < k
   · rw [if_pos e2, if_pos (by omega)]
   · rw [if_neg e2, if_neg (by omega)]
end Go.Proofs.YtnakbpaiidolbaaGreat
namespace Go.Proofs.YtnakbpaiidolbaaGreat
open Go.RowKit Fld
set_option linter.unusedVariables false
set_option linter.unusedSimpArgs false
structure Srl (w : World) (v : Value) (us : List Value) : Prop where
 one : ∀ u ∈ us, u.oneCell' = true
 form : ∃ ao cap, v = .slice ao us.length cap ∧ us.length ≤ cap ∧ (ao = none → us = []) ∧ ∀ j u, us[j]? = some u → ∃ b off, ao = some ⟨b, off, none⟩ ∧ b < w.heap.size ∧ w.cell? ⟨b, off + j, none⟩ = some u
theorem rws_srl {w : World} {v : Value} {xss : List (List Int)} (h : Rws w v xss) : ∃ us : List Value, us.length = xss.length ∧ Srl w v us ∧ ∀ i, i < xss.length → Rw w (us.getD i nov) (xss.getD i []) := by
 obtain ⟨us, ul, hu, hone, ao, cap, e, hcell⟩ := h.values
 obtain ⟨ao', cap', e', _, hcap, _⟩ := h
 rw [e] at e'
 cases e'
 refine ⟨us, ul, ⟨hone, ao, cap, by rw [ul]; exact e, by rw [ul]; exact hcap, fun h0 => ?_, hcell⟩, hu⟩
 cases us with
 | nil => rfl
 | cons u us => obtain ⟨_, _, e2, _⟩ := hcell 0 u rfl; rw [h0] at e2; cases e2
theorem rw_srl {w : World} {v : Value} {xs : List Int} (h : Rw w v xs) : Srl w v (vals xs) := by
 obtain ⟨ao', cap', hv, hcap⟩ := h.spell
 obtain ⟨⟨ao, cap, h1, _, _, h4⟩, _⟩ := h
 rw [hv] at h1
 cases h1
 refine ⟨fun u hu => ?_, ao', cap', by rw [vals_length]; exact hv, by rw [vals_length]; exact hcap, fun h0 => ?_, fun j u hj => ?_⟩
 · obtain ⟨x, _, rfl⟩ := List.mem_map.1 hu; rfl
 · cases xs with
   | nil => rfl
   | cons x xs => obtain ⟨_, _, e, _⟩ := h4 (by simp); rw [h0] at e; cases e
 · have hj2 : j < xs.length := by
    have := (List.getElem?_eq_some_iff.1 hj).1
    rw [vals_length] at this; exact this
   obtain ⟨b, off, e, hl, hc⟩ := h4 (by intro e; rw [e] at hj2; simp at hj2)
   refine ⟨b, off, e, hl, ?_⟩
   rw [hc j hj2]
   unfold vals at hj
   rw [List.getElem?_map, List.getElem?_eq_getElem hj2] at hj
   rw [List.getD_eq_getElem?_getD, List.getElem?_eq_getElem hj2]
   exact hj
theorem w64_info : (Tryz.prog.info? 58).map (fun i => (i.zero, i.size, i.bytes)) = some (some (.int .u64 0), 1, 8) := by kernel_rfl
theorem zeros_L (w : World) (k : Nat) (h0 : 0 < k) (hk : k ≤ 1000) :
 ∃ cap w', (Builtin.append_ #[29, 3] 29 #[.slice none 0 0, .int .i64 (k : Int)]).run Tryz.prog w = .ok (.slice (some ⟨w.heap.size, 0, none⟩) k cap) w' ∧ w'.ownsRow w.heap.size 30 1 (.slice (some ⟨w.heap.size, 0, none⟩) 0 cap) 0 [] ∧ w.grownBy w' none := by
 obtain ⟨i0, hi0, hz0, hz1, hz2⟩ := info_parts sl_info
 have hr := Lib.run_append_nil_zeros (P := Tryz.prog) w 29 3 29 30 i0 (.slice none 0 0) .i64 .i64 Tryz.underlying29 Tryz.underlying3 hi0 hz0 k h0 (by omega) (by omega) (by rw [hz2]; omega)
 have hge := grownCap_ge w k 0 30
 have hcm : grownCap w k 0 30 ≤ maxLen := grownCap_le_maxLen w k 0 30 (by unfold maxLen; omega)
 refine ⟨_, _, hr, ⟨rfl, .inr ⟨w.heap.size, _, _, rfl, Nat.le_refl _, heap_alloc_new w.drew _, Nat.zero_le _, hcm, ?_, rfl⟩⟩, ⟨rfl, rfl, rfl, by simp, fun j hj _ => heap_alloc_old w.drew _ hj⟩⟩
 simp only [Array.size_append, size_zeroCells]
 simp [Value.cells]
 omega
set_option maxRecDepth 100000 in
set_option maxHeartbeats 200000 in
theorem Grow_L (k : Nat) (w : World) (h0 : 0 < k) (hk : k ≤ 1000) :
 Calls Tryz.prog 99 #[.slice none 0 0, .int .i64 (k : Int)] w fun e w' => ∃ cap, e = .returned (.slice (some ⟨w.heap.size, 0, none⟩) 0 cap) ∧ w'.ownsRow w.heap.size 30 1 (.slice (some ⟨w.heap.size, 0, none⟩) 0 cap) 0 [] ∧ Below w.heap.size w w' := by
 obtain ⟨cap, w1, hr, hO, hg⟩ := zeros_L w k h0 hk
 have HO := hide hO
 have hB := below_grown_none hg
 clear hO hg
 go_enter Tryz.func99, Tryz.ntmps99
 go_wp2_with (at_builtin; refine Lib.wpList_append_run _ rfl _ _ _ _ rfl _ _ rfl rfl _ _ hr ?_)
 go_ret
 exact ⟨_, rfl, HO.out, hB⟩
set_option maxRecDepth 100000 in
set_option maxHeartbeats 400000 in
theorem Cat_L (v1 v2 : Value) (us1 us2 : List Value) (w : World) (b : Nat) (h1 : Srl w v1 us1) (h2 : Srl w v2 us2) (h0 : 0 < us1.length) (hl : us1.length + us2.length ≤ 1000) (hT : Two b v1 v2 w) :
 Calls Tryz.prog 68 #[.slice (some ⟨b, 0, none⟩) 2 2] w fun e w' => ∃ v', e = .returned v' ∧ w'.ownsRow w.heap.size 30 1 v' (us1.length + us2.length) (us1 ++ us2) ∧ Below w.heap.size w w' := by
 obtain ⟨i0, hi0, hz0, hz1, hz2⟩ := info_parts sl_info
 obtain ⟨ao1, cap1, rfl, hcap1, hn1, hc1⟩ := h1.form
 obtain ⟨ao2, cap2, rfl, hcap2, hn2, hc2⟩ := h2.form
 obtain ⟨t1, t2, _, _, tl⟩ := hT
 have ha1 : ∃ ad, ao1 = some ad := by
  cases ao1 with
  | none => have := hn1 rfl; rw [this] at h0; simp at h0
  | some ad => exact ⟨ad, rfl⟩
 obtain ⟨ad1, rfl⟩ := ha1
 have HG : Hid (∀ W, Calls Tryz.prog 99 #[.slice none 0 0, .int .i64 ((us1.length : Int) + (us2.length : Int))] W fun e w' => ∃ cap, e = .returned (.slice (some ⟨W.heap.size, 0, none⟩) 0 cap) ∧ w'.ownsRow W.heap.size 30 1 (.slice (some ⟨W.heap.size, 0, none⟩) 0 cap) 0 [] ∧ Below W.heap.size W w') := fun W => by
  have := Grow_L (us1.length + us2.length) W (by omega) (by omega)
  rw [Int.natCast_add] at this; exact this
 have W1 : Hid (∀ W, Below w.heap.size w W → W.cell? ⟨b, 0, none⟩ = some (.slice (some ad1) us1.length cap1)) := fun W hb => (hb.cell (p := ⟨b, 0, none⟩) tl).trans t1
 have W2 : Hid (∀ W, Below w.heap.size w W → W.cell? ⟨b, 1, none⟩ = some (.slice ao2 us2.length cap2)) := fun W hb => (hb.cell (p := ⟨b, 1, none⟩) tl).trans t2
 have N1 : Hid (∀ W, Below w.heap.size w W → ∀ j u, us1[j]? = some u → W.cell? (ad1.add j) = some u) := fun W hb j u hj => by
  obtain ⟨b2, off, e2, hb2, hc⟩ := hc1 j u hj
  cases e2
  rw [add_at, (hb.cell (p := ⟨b2, off + j, none⟩) hb2)]; exact hc
 have N2 : Hid (∀ W, Below w.heap.size w W → ∀ ad, ao2 = some ad → ∀ j u, us2[j]? = some u → W.cell? (ad.add j) = some u) := fun W hb ad e j u hj => by
  obtain ⟨b2, off, e2, hb2, hc⟩ := hc2 j u hj
  rw [e] at e2; cases e2
  rw [add_at, (hb.cell (p := ⟨b2, off + j, none⟩) hb2)]; exact hc
 have O1 := hide h1.one
 have O2 := hide h2.one
 have d1 := W1.out w (Below.refl _ _)
 have d2 := W2.out w (Below.refl _ _)
 have HN2 := hide hn2
 obtain ⟨n1, E1⟩ : ∃ n1, Hid (us1.length = n1) := ⟨_, rfl⟩
 obtain ⟨n2, E2⟩ : ∃ n2, Hid (us2.length = n2) := ⟨_, rfl⟩
 rw [E1.out] at HG W1 d1 h0 hl hcap1 ⊢
 rw [E2.out] at HG W2 d2 hl hcap2 ⊢
 clear h1 h2 hc1 hc2 hn1 hn2 t1 t2
 go_enter Tryz.func68, Tryz.ntmps68
 go_wp2
 refine wp_loop_rounds 3 ?_
 rw [rounds_succ]
 go_wp2
 rw [rounds_succ]
 go_wp2
 rw [rounds_succ]
 go_wp2_with fail
 refine (HG.out _).mono ?_
 rintro e w1 ⟨cp, rfl, hO, hB⟩
 have e1 := W1.out _ hB
 have e2 := W2.out _ hB
 have hbs := hB.size
 go_wp2_with fail
 refine wp_loop_rounds 3 ?_
 rw [rounds_succ]
 go_wp2_with (at_builtin; refine wpList_append_own _ rfl _ _ _ rfl w.heap.size 30 i0 _ 1 24 Tryz.underlying29 hi0 hz0 hz1 hz2 rfl (by omega) _ 0 [] rfl hO ad1 n1 cap1 us1 rfl (by rw [E1.out]; omega) (N1.out _ hB) O1.out (by unfold maxLen; omega) (by omega) (by omega) ?_; intro v2 w2 hO2 hg2 _)
 have hB2 := hB.grown hg2 hbs (own_base hO)
 have f2 := W2.out _ hB2
 have hbs2 := hB2.size
 rw [Nat.zero_add, List.nil_append] at hO2
 have hv2 : ∃ g c, v2 = .slice (some ⟨g, 0, none⟩) n1 c := by
  obtain ⟨g, c, h, _⟩ := hO2.form (by omega); exact ⟨g, c, h⟩
 obtain ⟨g2, c2, rfl⟩ := hv2
 have hc2 : n1 ≤ c2 := by
  rcases hO2.2 with ⟨h, _⟩ | ⟨_, _, _, h, _, _, h4, _⟩
  · cases h
  · cases h; exact h4
 rw [rounds_succ]
 cases ao2 with
 | none =>
  have hu2 : us2 = [] := HN2.out rfl
  subst hu2
  have hn0 : n2 = 0 := by have := E2.out; simpa using this.symm
  subst hn0
  have HO2 := hide hO2
  clear hO2
  go_wp2
  rw [rounds_succ]
  go_wp2
  go_ret
  exact ⟨_, rfl, by rw [List.append_nil]; exact HO2.out, hB2⟩
 | some ad =>
  go_wp2_with (at_builtin; refine wpList_append_own _ rfl _ _ _ rfl w.heap.size 30 i0 _ 1 24 Tryz.underlying29 hi0 hz0 hz1 hz2 rfl (by omega) _ n1 us1 rfl hO2 ad n2 cap2 us2 rfl (by rw [E2.out]; omega) (N2.out _ hB2 ad rfl) O2.out (by unfold maxLen; omega) (by omega) (by omega) ?_; intro v3 w3 hO3 hg3 _)
  have hB3 := hB2.grown hg3 hbs2 (own_base hO2)
  have HO3 := hide hO3
  clear hO3 hO2
  rw [rounds_succ]
  go_wp2
  go_ret
  exact ⟨_, rfl, HO3.out, hB3⟩
theorem zeros_W (w : World) (k : Nat) (h0 : 0 < k) (hk : k ≤ 1000) :
 ∃ cap w', (Builtin.append_ #[30, 3] 30 #[.slice none 0 0, .int .i64 (k : Int)]).run Tryz.prog w = .ok (.slice (some ⟨w.heap.size, 0, none⟩) k cap) w' ∧ w'.ownsRow w.heap.size 58 1 (.slice (some ⟨w.heap.size, 0, none⟩) 0 cap) 0 [] ∧ w.grownBy w' none := by
 obtain ⟨i0, hi0, hz0, hz1, hz2⟩ := info_parts w64_info
 have hr := Lib.run_append_nil_zeros (P := Tryz.prog) w 30 3 30 58 i0 (.int .u64 0) .i64 .i64 Tryz.underlying30 Tryz.underlying3 hi0 hz0 k h0 (by omega) (by omega) (by rw [hz2]; omega)
 have hge := grownCap_ge w k 0 58
 have hcm : grownCap w k 0 58 ≤ maxLen := grownCap_le_maxLen w k 0 58 (by unfold maxLen; omega)
 refine ⟨_, _, hr, ⟨rfl, .inr ⟨w.heap.size, _, _, rfl, Nat.le_refl _, heap_alloc_new w.drew _, Nat.zero_le _, hcm, ?_, rfl⟩⟩, ⟨rfl, rfl, rfl, by simp, fun j hj _ => heap_alloc_old w.drew _ hj⟩⟩
 simp only [Array.size_append, size_zeroCells]
 simp [Value.cells]
 omega
set_option maxRecDepth 100000 in
set_option maxHeartbeats 200000 in
theorem Grow_W (k : Nat) (w : World) (h0 : 0 < k) (hk : k ≤ 1000) :
 Calls Tryz.prog 131 #[.slice none 0 0, .int .i64 (k : Int)] w fun e w' => ∃ cap, e = .returned (.slice (some ⟨w.heap.size, 0, none⟩) 0 cap) ∧ w'.ownsRow w.heap.size 58 1 (.slice (some ⟨w.heap.size, 0, none⟩) 0 cap) 0 [] ∧ Below w.heap.size w w' := by
 obtain ⟨cap, w1, hr, hO, hg⟩ := zeros_W w k h0 hk
 have HO := hide hO
 have hB := below_grown_none hg
 clear hO hg
 go_enter Tryz.func131, Tryz.ntmps131
 go_wp2_with (at_builtin; refine Lib.wpList_append_run _ rfl _ _ _ _ rfl _ _ rfl rfl _ _ hr ?_)
 go_ret
 exact ⟨_, rfl, HO.out, hB⟩
set_option maxRecDepth 100000 in
set_option maxHeartbeats 400000 in
theorem Cat_W (v1 v2 : Value) (us1 us2 : List Value) (w : World) (b : Nat) (h1 : Srl w v1 us1) (h2 : Srl w v2 us2) (h0 : 0 < us1.length) (hl : us1.length + us2.length ≤ 1000) (hT : Two b v1 v2 w) :
 Calls Tryz.prog 104 #[.slice (some ⟨b, 0, none⟩) 2 2] w fun e w' => ∃ v', e = .returned v' ∧ w'.ownsRow w.heap.size 58 1 v' (us1.length + us2.length) (us1 ++ us2) ∧ Below w.heap.size w w' := by
 obtain ⟨i0, hi0, hz0, hz1, hz2⟩ := info_parts w64_info
 obtain ⟨ao1, cap1, rfl, hcap1, hn1, hc1⟩ := h1.form
 obtain ⟨ao2, cap2, rfl, hcap2, hn2, hc2⟩ := h2.form
 obtain ⟨t1, t2, _, _, tl⟩ := hT
 have ha1 : ∃ ad, ao1 = some ad := by
  cases ao1 with
  | none => have := hn1 rfl; rw [this] at h0; simp at h0
  | some ad => exact ⟨ad, rfl⟩
 obtain ⟨ad1, rfl⟩ := ha1
 have HG : Hid (∀ W, Calls Tryz.prog 131 #[.slice none 0 0, .int .i64 ((us1.length : Int) + (us2.length : Int))] W fun e w' => ∃ cap, e = .returned (.slice (some ⟨W.heap.size, 0, none⟩) 0 cap) ∧ w'.ownsRow W.heap.size 58 1 (.slice (some ⟨W.heap.size, 0, none⟩) 0 cap) 0 [] ∧ Below W.heap.size W w') := fun W => by
  have := Grow_W (us1.length + us2.length) W (by omega) (by omega)
  rw [Int.natCast_add] at this; exact this
 have W1 : Hid (∀ W, Below w.heap.size w W → W.cell? ⟨b, 0, none⟩ = some (.slice (some ad1) us1.length cap1)) := fun W hb => (hb.cell (p := ⟨b, 0, none⟩) tl).trans t1
 have W2 : Hid (∀ W, Below w.heap.size w W → W.cell? ⟨b, 1, none⟩ = some (.slice ao2 us2.length cap2)) := fun W hb => (hb.cell (p := ⟨b, 1, none⟩) tl).trans t2
 have N1 : Hid (∀ W, Below w.heap.size w W → ∀ j u, us1[j]? = some u → W.cell? (ad1.add j) = some u) := fun W hb j u hj => by
  obtain ⟨b2, off, e2, hb2, hc⟩ := hc1 j u hj
  cases e2
  rw [add_at, (hb.cell (p := ⟨b2, off + j, none⟩) hb2)]; exact hc
 have N2 : Hid (∀ W, Below w.heap.size w W → ∀ ad, ao2 = some ad → ∀ j u, us2[j]? = some u → W.cell? (ad.add j) = some u) := fun W hb ad e j u hj => by
  obtain ⟨b2, off, e2, hb2, hc⟩ := hc2 j u hj
  rw [e] at e2; cases e2
  rw [add_at, (hb.cell (p := ⟨b2, off + j, none⟩) hb2)]; exact hc
 have O1 := hide h1.one
 have O2 := hide h2.one
 have d1 := W1.out w (Below.refl _ _)
 have d2 := W2.out w (Below.refl _ _)
 have HN2 := hide hn2
 obtain ⟨n1, E1⟩ : ∃ n1, Hid (us1.length = n1) := ⟨_, rfl⟩
 obtain ⟨n2, E2⟩ : ∃ n2, Hid (us2.length = n2) := ⟨_, rfl⟩
 rw [E1.out] at HG W1 d1 h0 hl hcap1 ⊢
 rw [E2.out] at HG W2 d2 hl hcap2 ⊢
 clear h1 h2 hc1 hc2 hn1 hn2 t1 t2
 go_enter Tryz.func104, Tryz.ntmps104
 go_wp2
 refine wp_loop_rounds 3 ?_
 rw [rounds_succ]
 go_wp2
 rw [rounds_succ]
 go_wp2
 rw [rounds_succ]
 go_wp2_with fail
 refine (HG.out _).mono ?_
 rintro e w1 ⟨cp, rfl, hO, hB⟩
 have e1 := W1.out _ hB
 have e2 := W2.out _ hB
 have hbs := hB.size
 go_wp2_with fail
 refine wp_loop_rounds 3 ?_
 rw [rounds_succ]
 go_wp2_with (at_builtin; refine wpList_append_own _ rfl _ _ _ rfl w.heap.size 58 i0 _ 1 8 Tryz.underlying30 hi0 hz0 hz1 hz2 rfl (by omega) _ 0 [] rfl hO ad1 n1 cap1 us1 rfl (by rw [E1.out]; omega) (N1.out _ hB) O1.out (by unfold maxLen; omega) (by omega) (by omega) ?_; intro v2 w2 hO2 hg2 _)
 have hB2 := hB.grown hg2 hbs (own_base hO)
 have f2 := W2.out _ hB2
 have hbs2 := hB2.size
 rw [Nat.zero_add, List.nil_append] at hO2
 have hv2 : ∃ g c, v2 = .slice (some ⟨g, 0, none⟩) n1 c := by
  obtain ⟨g, c, h, _⟩ := hO2.form (by omega); exact ⟨g, c, h⟩
 obtain ⟨g2, c2, rfl⟩ := hv2
 have hc2 : n1 ≤ c2 := by
  rcases hO2.2 with ⟨h, _⟩ | ⟨_, _, _, h, _, _, h4, _⟩
  · cases h
  · cases h; exact h4
 rw [rounds_succ]
 cases ao2 with
 | none =>
  have hu2 : us2 = [] := HN2.out rfl
  subst hu2
  have hn0 : n2 = 0 := by have := E2.out; simpa using this.symm
  subst hn0
  have HO2 := hide hO2
  clear hO2
  go_wp2
  rw [rounds_succ]
  go_wp2
  go_ret
  exact ⟨_, rfl, by rw [List.append_nil]; exact HO2.out, hB2⟩
 | some ad =>
  go_wp2_with (at_builtin; refine wpList_append_own _ rfl _ _ _ rfl w.heap.size 58 i0 _ 1 8 Tryz.underlying30 hi0 hz0 hz1 hz2 rfl (by omega) _ n1 us1 rfl hO2 ad n2 cap2 us2 rfl (by rw [E2.out]; omega) (N2.out _ hB2 ad rfl) O2.out (by unfold maxLen; omega) (by omega) (by omega) ?_; intro v3 w3 hO3 hg3 _)
  have hB3 := hB2.grown hg3 hbs2 (own_base hO2)
  have HO3 := hide hO3
  clear hO3 hO2
  rw [rounds_succ]
  go_wp2
  go_ret
  exact ⟨_, rfl, HO3.out, hB3⟩
end Go.Proofs.YtnakbpaiidolbaaGreat
namespace Go.Proofs.YtnakbpaiidolbaaGreat
open Go.RowKit Fld Pln Shr
set_option linter.unusedVariables false
set_option linter.unusedSimpArgs false
theorem two_new (W : World) (a c : Option Addr) (n m b d : Nat) (T : TypeId) : Two W.heap.size (.slice a n b) (.slice c m d) (W.alloc (.cells #[.slice a n b, .slice c m d] T)) := by
 refine ⟨?_, ?_, ?_, ?_, ?_⟩ <;> simp [go_sem]
theorem made_listH (z : Value) (n : Nat) : madeCells #[z] (n * 1) = (List.replicate n z).toArray := by
 apply Array.ext'
 rw [toList_madeCells_one, Nat.mul_one]
def zrs (n : Nat) : List Value := vals (List.replicate n 0)
def nvs (n : Nat) : List Value := List.replicate n nov
theorem makeW (n : Nat) (hm : n ≤ 1000) (W : World) : (Instr.makeSlice 30 (.int .i64 (n : Int)) (.int .i64 (n : Int))).run Tryz.prog W = .ok (.slice (some ⟨W.heap.size, 0, none⟩) n n) (W.alloc (.cells (zrs n).toArray 58)) := by
 obtain ⟨i, hi, hz, hs, hb⟩ := info_parts w64_info
 have := run_make (P := Tryz.prog) W 30 58 i (.int .u64 0) Tryz.underlying30 hi hz .i64 .i64 (n : Int) (n : Int) (by omega) (by omega) (by rw [hb]; omega) (by omega)
 rw [this, hs, Int.toNat_natCast]
 show Result.ok _ (W.alloc (.cells (madeCells #[.int .u64 0] (n * 1)) 58)) = _
 rw [made_listH]
 unfold zrs vals
 rw [List.map_replicate]
theorem makeN (n : Nat) (hm : n ≤ 1000) (W : World) : (Instr.makeSlice 29 (.int .i64 (n : Int)) (.int .i64 (n : Int))).run Tryz.prog W = .ok (.slice (some ⟨W.heap.size, 0, none⟩) n n) (W.alloc (.cells (nvs n).toArray 30)) := by
 obtain ⟨i, hi, hz, hs, hb⟩ := info_parts sl_info
 have := run_make (P := Tryz.prog) W 29 30 i (.slice none 0 0) Tryz.underlying29 hi hz .i64 .i64 (n : Int) (n : Int) (by omega) (by omega) (by rw [hb]; omega) (by omega)
 rw [this, hs, Int.toNat_natCast]
 show Result.ok _ (W.alloc (.cells (madeCells #[.slice none 0 0] (n * 1)) 30)) = _
 rw [made_listH]
 rfl
theorem own_new {W : World} {base n : Nat} {T : TypeId} {cs : List Value} (hb : base ≤ W.heap.size) (hl : cs.length = n) (hn : n ≤ 1000) : (W.alloc (.cells cs.toArray T)).ownsRow base T 1 (.slice (some ⟨W.heap.size, 0, none⟩) n n) n cs :=
 ⟨by rw [hl, Nat.mul_one], .inr ⟨W.heap.size, n, cs.toArray, rfl, hb, heap_alloc_last W _, Nat.le_refl _, by unfold maxLen; omega, by rw [List.size_toArray, hl, Nat.mul_one], by rw [Nat.mul_one, ← hl]; exact List.take_length⟩⟩
theorem zrs_len (n : Nat) : (zrs n).length = n := by unfold zrs; rw [vals_length]; simp
theorem nvs_len (n : Nat) : (nvs n).length = n := by simp [nvs]
set_option maxRecDepth 100000 in
set_option maxHeartbeats 400000 in
theorem gInner (p : Pn) (w : World) (hp : Ok8p p) (hm : mayP p = true) : Calls Tryz.prog 70 #[plv p] w fun e w' => ∃ v', e = .returned v' ∧ w'.ownsRow w.heap.size 58 1 v' (innL p).length (vals (innL p)) ∧ Below w.heap.size w w' := by
 have H1 := hide (fun W => gData p W hp)
 have H2 := hide (fun W => gPads p W hp)
 unfold Gives at H1 H2
 rw [erP_yes hm] at H1 H2
 rw [show datL p = pts 0 p.k.toNat from if_pos hm] at H1
 rw [show padL p = pts p.k p.t.toNat from if_pos hm] at H2
 obtain ⟨_, ⟨k0, k1⟩, ⟨t0, t1⟩, _⟩ := may_facts hm
 have R1 := hide (fun W v base n (hO : World.ownsRow W base 58 1 v n (vals (pts 0 p.k.toNat))) => rw_of_own hO (by rw [pts_len]; omega) (pts_words (by omega) (by omega)))
 have R2 := hide (fun W v base n (hO : World.ownsRow W base 58 1 v n (vals (pts p.k p.t.toNat))) => rw_of_own hO (by rw [pts_len]; omega) (pts_words (by omega) (by omega)))
 have HC : Hid (∀ W v1 v2 b, Rw W v1 (pts 0 p.k.toNat) → Rw W v2 (pts p.k p.t.toNat) → Two b v1 v2 W → Calls Tryz.prog 104 #[.slice (some ⟨b, 0, none⟩) 2 2] W fun e w' => ∃ v', e = .returned v' ∧ w'.ownsRow W.heap.size 58 1 v' (innL p).length (vals (innL p)) ∧ Below W.heap.size W w') := fun W v1 v2 b h1 h2 hT => by
  have := Cat_W v1 v2 _ _ W b (rw_srl h1) (rw_srl h2) (by rw [vals_length, pts_len]; omega) (by rw [vals_length, vals_length, pts_len, pts_len]; omega) hT
  rw [vals_length, vals_length, ← List.length_append, show vals (pts 0 p.k.toNat) ++ vals (pts p.k p.t.toNat) = vals (innL p) by rw [← inn_app hm]; unfold vals; rw [List.map_append], inn_app hm] at this
  exact this
 obtain ⟨pb, hA⟩ := pb_box (w := w) p
 have HPb := hide pb
 obtain ⟨c0, c1, c2, c3, c4, c5, c6, c7⟩ := pb.cells
 clear pb hm hp
 generalize pts 0 p.k.toNat = xs at *
 generalize pts p.k p.t.toNat = ys at *
 generalize innL p = zs at *
 unfold plv plw at *
 go_enter Tryz.func70, Tryz.ntmps70
 go_wp2_with (first
  | (go_at_call 102; refine (H1.out _).mono ?_; rintro e w1 ⟨v1, rfl, hO1, hb1⟩; have hr1 := R1.out _ _ _ _ hO1; obtain ⟨a1, q1, rfl⟩ := own_form hO1; clear c0 c1 c2 c3 c4 c5 c6 c7; obtain ⟨c0, c1, c2, c3, c4, c5, c6, c7⟩ := (HPb.out.below hb1).cells; have hB1 := Below.next hA hb1; clear hO1)
  | (go_at_call 103; refine (H2.out _).mono ?_; rintro e w2 ⟨v2, rfl, hO2, hb2⟩; have hr2 := R2.out _ _ _ _ hO2; obtain ⟨a2, q2, rfl⟩ := own_form hO2; have hr1b := hr1.below hb2; have hB2 := Below.next hB1 hb2; clear hO2 hr1)
  | (go_at_call 104; refine (HC.out _ _ _ _ (hr1b.below (alloc_below _ _)) (hr2.below (alloc_below _ _)) (two_new _ _ _ _ _ _ _ _)).mono ?_; rintro e w3 ⟨v3, rfl, hO3, hb3⟩))
 go_ret
 have hB3 := Below.next hB2 (alloc_below w2 (.cells #[.slice a1 xs.length q1, .slice a2 ys.length q2] 30))
 exact ⟨_, rfl, own_mono hO3 hB3.size, Below.next hB3 hb3⟩
def pfil (xs : List Int) (k : Nat) : List Int := mk xs.length (fun i => if i < k then co xs i else 0)
theorem pfil_len (xs : List Int) (k : Nat) : (pfil xs k).length = xs.length := mk_len _ _
theorem pfil_zero (xs : List Int) : pfil xs 0 = List.replicate xs.length 0 := by
 unfold pfil mk
 refine List.ext_getElem (by simp) (fun i h1 h2 => by simp)
theorem pfil_all (xs : List Int) : pfil xs xs.length = xs := by
 refine ext_co (pfil_len _ _) (fun i hi => ?_)
 rw [pfil_len] at hi
 unfold pfil
 rw [co_mk, if_pos hi, if_pos hi]
theorem pfil_set {xs : List Int} {k : Nat} (hk : k < xs.length) : (pfil xs k).set k (co xs k) = pfil xs (k + 1) := by
 refine ext_co (by rw [List.length_set, pfil_len, pfil_len]) (fun i hi => ?_)
 rw [List.length_set, pfil_len] at hi
 show ((pfil xs k).set k _).getD i 0 = _
 rw [Rnk.getD_set _ _ _ (by rw [pfil_len]; exact hk)]
 unfold pfil
 show (if i = k then _ else co (mk _ _) i) = _
 rw [co_mk, co_mk, if_pos hi, if_pos hi]
 by_cases e : i = k
 · rw [if_pos e, if_pos (by omega), e]
 · rw [if_neg e]
   by_cases e2 : i < k
   · rw [if_pos e2, if_pos (by omega)]
   · rw [if_neg e2, if_neg (by omega)]
set_option maxRecDepth 100000 in
set_option maxHeartbeats 400000 in
theorem gNamed (p : Pn) (vw : Value) (who : List Int) (w : World) (hp : Ok8p p) (hm : mayP p = true) (h : Lm iw 1 w vw who) (hw : ∀ x ∈ who, 0 ≤ x ∧ x < p.n) (hl : who.length ≤ 1000) :
 Calls Tryz.prog 80 #[plv p, vw] w fun e w' => ∃ v', e = .returned v' ∧ w'.ownsRow w.heap.size 58 1 v' (nmd p who).length (vals (nmd p who)) ∧ Below w.heap.size w w' := by
 have H1 := hide (fun W => gWorkers p W hp)
 unfold Gives at H1
 rw [erP_yes hm] at H1
 rw [show wrkL p = outL p from if_pos hm] at H1
 obtain ⟨⟨n0, n1⟩, ⟨k0, k1⟩, ⟨t0, t1⟩, _⟩ := may_facts hm
 have hol : (outL p).length = p.n.toNat := pts_len _ _
 have HX : Hid (∀ k, k < who.length → ∃ J : Nat, who.getD k 0 = (J : Int) ∧ J < (outL p).length ∧ (outL p).getD J 0 = co (nmd p who) k) := fun k hk => by
  have h1 := hw _ (getD_memA 0 hk)
  refine ⟨(who.getD k 0).toNat, by omega, by omega, ?_⟩
  have h2 : who.getD k 0 = who[k] := by rw [List.getD_eq_getElem?_getD, List.getElem?_eq_getElem hk]; rfl
  unfold nmd
  rw [co_at (by rw [List.length_map]; exact hk), List.getElem_map, ← h2]; rfl
 have HZ := hide (pfil_zero (nmd p who))
 have HA := hide (pfil_all (nmd p who))
 have HS := hide (fun k hk => pfil_set (xs := nmd p who) (k := k) hk)
 have HN := hide (nmd_len p who)
 obtain ⟨pb, hA⟩ := pb_box (w := w) p
 obtain ⟨c0, c1, c2, c3, c4, c5, c6, c7⟩ := pb.cells
 have HL := hide h
 obtain ⟨ao, cap, rfl, hcap⟩ := h.spell
 have hmk := makeW who.length hl
 clear pb h hm hp hw hol
 generalize nmd p who = ns at *
 generalize outL p = os at *
 unfold plv plw at *
 go_enter Tryz.func80, Tryz.ntmps80
 go_upto_region 2 with (go_at_call 113; refine (H1.out _).mono ?_; rintro e w1 ⟨v1, rfl, hO1, hb1⟩)
 have hB1 := Below.next hA hb1
 obtain ⟨a1, q1, rfl⟩ := own_form hO1
 have HO1 := hide hO1
 clear hO1 c0 c1 c2 c3 c4 c5 c6 c7 hA hb1
 have HO2 := hide (own_new (W := w1) (base := w1.heap.size) (T := 58) (Nat.le_refl _) (zrs_len who.length) hl)
 have hB2 := alloc_below w1 (.cells (zrs who.length).toArray 58)
 go_wp2_with fail
 generalize w1.alloc (.cells (zrs who.length).toArray 58) = W2 at *
 clear hmk
 rw [show zrs who.length = vals (pfil ns 0) by rw [HZ.out, HN.out]; rfl] at HO2
 go_loopw [20] (fun vi wr => ∃ (k : Nat), k ≤ who.length ∧ vi = .int .i64 k ∧ Hid (wr.ownsRow w1.heap.size 58 1 (.slice (some ⟨w1.heap.size, 0, none⟩) who.length who.length) who.length (vals (pfil ns k))) ∧ Below w1.heap.size w1 wr) (fun vi _ => who.length - (intOf vi).toNat)
 case atStart => exact ⟨0, Nat.zero_le _, rfl, HO2, hB2⟩
 case round =>
  clear HO2 hB2
  obtain ⟨k, hk, rfl, HO, hB⟩ := hrel
  by_cases hlt : k < who.length
  · obtain ⟨b, off, cp, heq, _, _⟩ := HL.out.form (by omega)
    cases heq
    have hck := (lmi_cell HL.out (Below.next hB1 hB) hlt).2
    have k0 : (0 : Int) ≤ (k : Int) := by omega
    have k1 : (k : Int) < (who.length : Int) := by omega
    obtain ⟨J, hJ, hJl, hJe⟩ := HX.out k hlt
    rw [hJ] at hck
    obtain ⟨g1, cg, hvg, _, _⟩ := HO1.out.form (by omega)
    injection hvg with hvg _ hcg
    subst hvg hcg
    have hcJ := own_cell (own_below HO1.out hB) rfl hJl
    rw [hJe] at hcJ
    have hfr := free_own HO.out k
    have hcx := own_cell HO.out (by rw [pfil_len, HN.out]) hlt
    have HO3 := hide (own_here (k := k) (z := co ns k) HO.out)
    rw [HS.out k (by rw [HN.out]; exact hlt)] at HO3
    have hB3 : Below w1.heap.size w1 (wr.setCell ⟨w1.heap.size, k, none⟩ (.int .u64 (co ns k))) := hB.setCell (p := ⟨w1.heap.size, k, none⟩) (Nat.le_refl _) _
    have j0 : (0 : Int) ≤ (J : Int) := by omega
    have j1 : (J : Int) < (os.length : Int) := by omega
    clear HX HZ HA HS HL HO hJ hJe H1
    generalize co ns k = x at *
    generalize (pfil ns k).getD k 0 = y at *
    go_wp2
    go_roundw
    case rel => exact ⟨k + 1, by omega, by go_num, HO3, hB3⟩
    case measure => simp [intOf]; omega
  · obtain rfl : k = who.length := by omega
    have HO3 : Hid (wr.ownsRow w1.heap.size 58 1 (.slice (some ⟨w1.heap.size, 0, none⟩) who.length who.length) ns.length (vals ns)) := by
     have := HO.out
     rw [← HN.out, HA.out] at this
     rw [HN.out] at this ⊢
     exact this
    clear HX HZ HA HS HL HO H1
    go_wp2
    go_ret
    exact ⟨_, rfl, own_mono HO3.out hB1.size, Below.next hB1 hB⟩
end Go.Proofs.YtnakbpaiidolbaaGreat
namespace Go.Proofs.YtnakbpaiidolbaaGreat
open Go.RowKit Fld Pln Shr
set_option linter.unusedVariables false
set_option linter.unusedSimpArgs false
theorem nvs_at (n i : Nat) : (nvs n).getD i nov = nov := by
 unfold nvs
 rw [List.getD_eq_getElem?_getD, List.getElem?_replicate]
 split <;> rfl
theorem mtx_new (W : World) {lo n : Nat} (hlo : lo ≤ W.heap.size) (hn : n ≤ 1000) (f : Nat → List Int) (hf : ∀ t, t < n → f t = []) : Mtx (W.alloc (.cells (nvs n).toArray 30)) lo (.slice (some ⟨W.heap.size, 0, none⟩) n n) (nvs n) (mkl n f) := by
 refine ⟨?_, fun i hi => ?_, fun i j g hi hj hne e1 e2 => ?_⟩
 · rw [mkl_len]; exact own_new hlo (nvs_len n) hn
 · rw [mkl_len] at hi
   rw [nvs_at, mkl_at f hi, hf i hi]
   exact World.ownsRow_nil _ _ _ _
 · rw [nvs_at] at e1
   simp [nov, Value.ownBlock] at e1
theorem Rws.elem {w W : World} {b off n cap : Nat} {l : List (List Int)} (h : Rws w (.slice (some ⟨b, off, none⟩) n cap) l) (hB : Below w.heap.size w W) {j k : Nat} (hj : j < l.length) (hk : k < (l.getD j []).length) :
 ∃ b2 off2 c2, W.cell? ⟨b, off + j, none⟩ = some (.slice (some ⟨b2, off2, none⟩) (l.getD j []).length c2) ∧ W.cell? ⟨b2, off2 + k, none⟩ = some (.int .u64 (co (l.getD j []) k)) := by
 obtain ⟨ao, cap', e, _, _, hc⟩ := h
 cases e
 obtain ⟨b', off', e', hbl, hcell⟩ := hc (by intro h; rw [h] at hj; simp at hj)
 cases e'
 obtain ⟨u, hu, hR⟩ := hcell j hj
 obtain ⟨⟨au, cu, rfl, _, _, hx⟩, _⟩ := hR
 obtain ⟨b2, off2, rfl, hb2, hcx⟩ := hx (by intro h; rw [h] at hk; simp at hk)
 exact ⟨b2, off2, cu, (hB.cell (p := ⟨b, off + j, none⟩) hbl).trans hu, (hB.cell (p := ⟨b2, off2 + k, none⟩) hb2).trans (hcx k hk)⟩
theorem Rws.some_ {w : World} {v : Value} {l : List (List Int)} (h : Rws w v l) (h0 : 0 < l.length) : ∃ b off cap, v = .slice (some ⟨b, off, none⟩) l.length cap ∧ l.length ≤ cap := by
 obtain ⟨ao, cap, rfl, _, hcap, hc⟩ := h
 obtain ⟨b, off, rfl, _⟩ := hc (by intro h; rw [h] at h0; simp at h0)
 exact ⟨b, off, cap, rfl, hcap⟩
set_option maxRecDepth 100000 in
set_option maxHeartbeats 800000 in
theorem gTurned (v : Value) (bl : List (List Int)) (n : Nat) (w : World) (h : Rws w v bl) (hw : ∀ b ∈ bl, n ≤ b.length) (hbn : bl.length ≤ 1000) (hn : n ≤ 1000) :
 Calls Tryz.prog 98 #[v, .int .i64 n] w fun e w' => ∃ v' us, e = .returned v' ∧ Mtx w' w.heap.size v' us (trn bl n) ∧ Below w.heap.size w w' := by
 have HW : Hid (∀ j, j < bl.length → n ≤ (bl.getD j []).length) := fun j hj => hw _ (getD_memA [] hj)
 have hmk1 := makeN n hn
 have HMW := hide (makeW bl.length hbn)
 have HM0 := hide (mtx_new w (lo := w.heap.size) (n := n) (Nat.le_refl _) hn (fun t => if t < 0 then col bl t else []) (fun t ht => if_neg (by omega)))
 rw [show mkl n (fun t => if t < 0 then col bl t else []) = trk bl n 0 from rfl] at HM0
 have hA := alloc_below w (.cells (nvs n).toArray 30)
 have HR := hide h
 obtain ⟨ao, cap, rfl, _, hcap, _⟩ := h
 clear hw
 go_enter Tryz.func98, Tryz.ntmps98
 go_wp2_with fail
 generalize w.alloc (.cells (nvs n).toArray 30) = W0 at *
 clear hmk1
 go_loopw [11] (fun vi wr => ∃ (k : Nat) (us : List Value), k ≤ n ∧ vi = .int .i64 k ∧ Hid (Mtx wr w.heap.size (.slice (some ⟨w.heap.size, 0, none⟩) n n) us (trk bl n k)) ∧ Below w.heap.size w wr) (fun vi _ => n - (intOf vi).toNat)
 case atStart => exact ⟨0, _, Nat.zero_le _, rfl, HM0, hA⟩
 case round =>
  clear HM0 hA
  obtain ⟨k, us, hk, rfl, HM, hB⟩ := hrel
  by_cases hlt : k < n
  · have hcG := HM.out.cell (i := k) (by rw [trk_len]; exact hlt)
    have hGt := cell_in hcG
    have hfG := free_own (by have := HM.out.row; rw [trk_len] at this; exact this) k
    have k0 : (0 : Int) ≤ (k : Int) := by omega
    have k1 : (k : Int) < (n : Int) := by omega
    have hal := alloc_below wr (.cells (zrs bl.length).toArray 58)
    have hmk := HMW.out
    have hZ : World.ownsRow (wr.alloc (.cells (zrs bl.length).toArray 58)) w.heap.size 58 1 (.slice (some ⟨wr.heap.size, 0, none⟩) bl.length bl.length) (List.replicate bl.length (0 : Int)).length (vals (List.replicate bl.length 0)) := by
     rw [List.length_replicate]
     exact own_new (cs := vals (List.replicate bl.length 0)) hB.size (by rw [vals_length]; simp) hbn
    have HM1 := hide ((HM.out.below hal).lay (by rw [trk_len]) (k := k) (by rw [trk_len]; exact hlt) hZ (fun i g hi hne hg e => by
     have := HM.out.tops hi hg
     have e2 : g = wr.heap.size := by simpa [Value.ownBlock] using e.symm
     omega))
    rw [trk_lay bl hlt] at HM1
    have hus : us.length = n := by have := HM.out.len; rw [trk_len] at this; exact this
    have hB1 : Below w.heap.size w ((wr.alloc (.cells (zrs bl.length).toArray 58)).setCell ⟨w.heap.size, k, none⟩ (.slice (some ⟨wr.heap.size, 0, none⟩) bl.length bl.length)) := (Below.next hB hal).setCell (p := ⟨w.heap.size, k, none⟩) (Nat.le_refl _) _
    have Hu : Hid ((us.set k (.slice (some ⟨wr.heap.size, 0, none⟩) bl.length bl.length)).getD k nov = .slice (some ⟨wr.heap.size, 0, none⟩) bl.length bl.length) := by
     show _ = _
     rw [Rnk.getD_set _ _ _ (by omega), if_pos rfl]
    have hcG1 : (wr.alloc (.cells (zrs bl.length).toArray 58)).cell? ⟨w.heap.size, k, none⟩ = some (us.getD k nov) := (hal.cell (p := ⟨w.heap.size, k, none⟩) hGt).trans hcG
    rw [World.setCell_alloc_past _ _ _ _ hGt] at HM1 hB1
    clear HM hZ hal hus
    generalize us.getD k nov = u0 at *
    go_wp2_with fail
    clear hmk hcG hcG1 hfG
    generalize (wr.setCell ⟨w.heap.size, k, none⟩ (.slice (some ⟨wr.heap.size, 0, none⟩) bl.length bl.length)).alloc (.cells (zrs bl.length).toArray 58) = W1 at *
    generalize us.set k (.slice (some ⟨wr.heap.size, 0, none⟩) bl.length bl.length) = us1 at *
    generalize wr.heap.size = g at *
    go_loopw [22] (fun vj wq => ∃ (j : Nat), j ≤ bl.length ∧ vj = .int .i64 j ∧ Hid (Mtx wq w.heap.size (.slice (some ⟨w.heap.size, 0, none⟩) n n) us1 (trj bl n k j)) ∧ Below w.heap.size w wq) (fun vj _ => bl.length - (intOf vj).toNat)
    case atStart => exact ⟨0, Nat.zero_le _, rfl, HM1, hB1⟩
    case round =>
     clear HM1 hB1 hB hGt
     obtain ⟨j, hj, rfl, HM, hB⟩ := hrel
     by_cases hjl : j < bl.length
     · obtain ⟨b, off, cp, hv, _⟩ := HR.out.some_ (by omega)
       injection hv with hv _ hcv
       subst hv hcv
       have hWj := HW.out j hjl
       obtain ⟨b2, off2, c2, d1, d2⟩ := HR.out.elem hB hjl (k := k) (by omega)
       have d3 := HM.out.cell (i := k) (by rw [trj_len]; exact hlt)
       rw [Hu.out] at d3
       obtain ⟨d4, f4⟩ := HM.out.at (i := k) (by rw [trj_len]; exact hlt) Hu.out (by rw [trj_here bl hlt, pcol_len]) (m := j) hjl
       have HP := hide (HM.out.put (k := k) (by rw [trj_len]; exact hlt) Hu.out (by rw [trj_here bl hlt, pcol_len]) j (co (bl.getD j []) k))
       rw [trj_here bl hlt, trj_set bl hlt hjl] at HP
       have hgt : w.heap.size ≤ g := by
        have := own_base (HM.out.each k (by rw [trj_len]; exact hlt)) g (by rw [Hu.out]; rfl)
        exact this
       have j0 : (0 : Int) ≤ (j : Int) := by omega
       have j1 : (j : Int) < (bl.length : Int) := by omega
       have kl : (k : Int) < ((bl.getD j []).length : Int) := by omega
       clear HW HR HM HMW
       generalize co (bl.getD j []) k = x at *
       generalize (bl.getD j []).length = m at *
       generalize Rnk.mx (trj bl n k j) k j = y at *
       go_upto_region 9 with fail
       refine wp_region_last (by kernel_rfl) (by kernel_rfl) (by kernel_rfl) ?_
       simp only [List.dropLast]
       repeat (go_big_quiet_step (fail))
       refine wpQuiet_nil ?_
       intro _ hw'
       obtain ⟨nq, hw''⟩ := hw'
       subst hw''
       simp only [lastL]
       have HP2 : Hid (Mtx ((wr.drewN nq).setCell ⟨g, j, none⟩ (.int .u64 x)) w.heap.size (.slice (some ⟨w.heap.size, 0, none⟩) n n) us1 (trj bl n k (j + 1))) := HP.out.below (below_drewN (Below.refl _ _) nq)
       have hB2 : Below w.heap.size w ((wr.drewN nq).setCell ⟨g, j, none⟩ (.int .u64 x)) := (below_drewN hB nq).setCell (p := ⟨g, j, none⟩) hgt _
       clear HP
       go_wp2
       go_roundw
       case rel => exact ⟨j + 1, by omega, by go_num, HP2, hB2⟩
       case measure => simp [intOf]; omega
     · obtain rfl : j = bl.length := by omega
       have HM2 := HM
       rw [trj_end bl hlt] at HM2
       clear HM HW HR HMW
       go_wp2
       go_roundw
       case rel => exact ⟨k + 1, _, by omega, by go_num, HM2, hB⟩
       case measure => simp [intOf]; omega
  · obtain rfl : k = n := by omega
    have HM2 := HM
    rw [trk_all] at HM2
    clear HM HW HR HMW
    go_wp2
    go_ret
    exact ⟨_, us, rfl, HM2.out, hB⟩
end Go.Proofs.YtnakbpaiidolbaaGreat
