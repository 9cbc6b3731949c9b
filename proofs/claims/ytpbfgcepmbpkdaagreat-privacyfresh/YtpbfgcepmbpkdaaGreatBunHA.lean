/- Texts laid together: ShaA, ShaB, ShaC. -/
import Derived.Test.YtpbfgcepmbpkdaaGreatBShrA
import Derived.Test.YtpbfgcepmbpkdaaGreatBunAT
import Derived.Test.YtpbfgcepmbpkdaaGreatBunM
import Derived.Test.YtpbfgcepmbpkdaaGreatBRowA
import Derived.Test.YtpbfgcepmbpkdaaGreatBunQ
namespace Go.Proofs.YtpbfgcepmbpkdaaGreat
open Go.RowKit Fld Pln Shr
set_option linter.unusedVariables false
set_option linter.unusedSimpArgs false

def elsB (f : Int) (l : List (List Int)) : Bool := l.all (fun xs => inF f xs)
def lenB (w : Int) (l : List (List Int)) : Bool := l.all (fun xs => decide ((xs.length : Int) = w))
def blkB (w n : Int) (l : List (List Int)) : Bool := lenB w l && decide ((l.length : Int) = n)
def whoB (n : Int) (l : List Int) : Bool := l.all (fun x => decide (0 ≤ x ∧ x < n))
/-- Which error data, pads and workers have. -/
def bkE (p : Pn) (dl pl : List (List Int)) (who : List Int) : Int := if mayP p && elsB p.f dl && elsB p.f pl && whoB p.n who then (if blkB p.w p.k dl && blkB p.w p.t pl then 0 else 3) else 2
/-- Which error shares have. -/
def opE (p : Pn) (who : List Int) (l : List (List Int)) : Int := if mayP p && elsB p.f l && whoB p.n who then (if decide ((who.length : Int) = p.k + p.t) && blkB p.w (p.k + p.t) l then (if who.Nodup then 0 else 6) else 3) else 2
/-- What is answered. -/
def polL (p : Pn) (dl pl : List (List Int)) : List (List Int) := if bkE p dl pl [] = 0 then pys (pOf p.f) (innL p) p.w.toNat (dl ++ pl) else []
def allL (p : Pn) (dl pl : List (List Int)) : List (List Int) := if bkE p dl pl [] = 0 then (outL p).map (shr (pOf p.f) (innL p) p.w.toNat (dl ++ pl)) else []
def shaL (p : Pn) (dl pl : List (List Int)) (i : Int) : List Int := if bkE p dl pl [i] = 0 then shr (pOf p.f) (innL p) p.w.toNat (dl ++ pl) (co (outL p) i.toNat) else []
/-- The points of workers that are named. -/
def nmd (p : Pn) (who : List Int) : List Int := who.map (fun i => co (outL p) i.toNat)
def opdL (p : Pn) (who : List Int) (l : List (List Int)) : List (List Int) := if opE p who l = 0 then (pts 0 p.k.toNat).map (shr (pOf p.f) (nmd p who) p.w.toNat l) else []
def oppL (p : Pn) (who : List Int) (l : List (List Int)) : List (List Int) := if opE p who l = 0 then (pts p.k p.t.toNat).map (shr (pOf p.f) (nmd p who) p.w.toNat l) else []

theorem elsB_iff {f q : Int} {wd : Bool} (h : Fi f q wd) {l : List (List Int)} : elsB f l = true ↔ ∀ b ∈ l, allIn q b = true := by
  unfold elsB
  rw [List.all_eq_true]
  constructor
  · intro hl b hb; rw [← inF_yes h]; exact hl b hb
  · intro hl b hb; rw [inF_yes h]; exact hl b hb
theorem blkB_iff {w n : Int} {l : List (List Int)} : blkB w n l = true ↔ (∀ b ∈ l, (b.length : Int) = w) ∧ (l.length : Int) = n := by
  unfold blkB lenB
  rw [Bool.and_eq_true, List.all_eq_true, decide_eq_true_iff]
  constructor
  · rintro ⟨h1, h2⟩; exact ⟨fun b hb => of_decide_eq_true (h1 b hb), h2⟩
  · rintro ⟨h1, h2⟩; exact ⟨fun b hb => decide_eq_true (h1 b hb), h2⟩
theorem whoB_iff {n : Int} {l : List Int} : whoB n l = true ↔ ∀ x ∈ l, 0 ≤ x ∧ x < n := by
  unfold whoB
  rw [List.all_eq_true]
  exact ⟨fun h x hx => of_decide_eq_true (h x hx), fun h x hx => decide_eq_true (h x hx)⟩
/-- What is known where there is no error. -/
theorem bk_zero {p : Pn} {dl pl : List (List Int)} {who : List Int} (h : bkE p dl pl who = 0) : mayP p = true ∧ (∃ q wd, Fi p.f q wd ∧ ∀ b ∈ dl ++ pl, allIn q b = true) ∧ (∀ b ∈ dl ++ pl, b.length = p.w.toNat) ∧ dl.length = p.k.toNat ∧ pl.length = p.t.toNat ∧ ∀ x ∈ who, 0 ≤ x ∧ x < p.n := by
  unfold bkE at h
  split at h
  · rename_i h1
    rw [Bool.and_eq_true, Bool.and_eq_true, Bool.and_eq_true] at h1
    obtain ⟨⟨⟨hm, hd⟩, hp⟩, hw⟩ := h1
    split at h
    · rename_i h2
      rw [Bool.and_eq_true, blkB_iff, blkB_iff] at h2
      obtain ⟨⟨a1, a2⟩, b1, b2⟩ := h2
      obtain ⟨q, wd, hf⟩ := may_field hm
      refine ⟨hm, ⟨q, wd, hf, fun b hb => ?_⟩, fun b hb => ?_, by omega, by omega, whoB_iff.1 hw⟩
      · rcases List.mem_append.1 hb with hb | hb
        · exact (elsB_iff hf).1 hd b hb
        · exact (elsB_iff hf).1 hp b hb
      · rcases List.mem_append.1 hb with hb | hb
        · have := a1 b hb; omega
        · have := b1 b hb; omega
    · cases h
  · cases h
theorem op_zero {p : Pn} {who : List Int} {l : List (List Int)} (h : opE p who l = 0) : mayP p = true ∧ (∃ q wd, Fi p.f q wd ∧ ∀ b ∈ l, allIn q b = true) ∧ (∀ b ∈ l, b.length = p.w.toNat) ∧ l.length = (p.k + p.t).toNat ∧ who.length = (p.k + p.t).toNat ∧ who.Nodup ∧ ∀ x ∈ who, 0 ≤ x ∧ x < p.n := by
  unfold opE at h
  split at h
  · rename_i h1
    rw [Bool.and_eq_true, Bool.and_eq_true] at h1
    obtain ⟨⟨hm, hd⟩, hw⟩ := h1
    split at h
    · rename_i h2
      rw [Bool.and_eq_true, blkB_iff, decide_eq_true_iff] at h2
      obtain ⟨c, a1, a2⟩ := h2
      split at h
      · rename_i h3
        obtain ⟨q, wd, hf⟩ := may_field hm
        exact ⟨hm, ⟨q, wd, hf, (elsB_iff hf).1 hd⟩, fun b hb => by have := a1 b hb; omega, by omega, by omega, h3, whoB_iff.1 hw⟩
      · cases h
    · cases h
  · cases h
theorem bk_none {p : Pn} {dl pl : List (List Int)} : bkE p dl pl [] = if mayP p && elsB p.f dl && elsB p.f pl then (if blkB p.w p.k dl && blkB p.w p.t pl then 0 else 3) else 2 := by
  unfold bkE whoB
  rw [List.all_nil, Bool.and_true]

/-- Blocks turned round. -/
def trn (bl : List (List Int)) (n : Nat) : List (List Int) := (List.range n).map (fun t => col bl t)
theorem trn_len (bl : List (List Int)) (n : Nat) : (trn bl n).length = n := by simp [trn]
/-- What a place's polynomial has at other elements. -/
def vls (q : Int) (xs zs ys : List Int) : List Int := zs.map (fun z => ds q (bs q xs z) (co ys) xs.length)
theorem vls_len (q : Int) (xs zs ys : List Int) : (vls q xs zs ys).length = zs.length := List.length_map ..
/-- The blocks that belong to other points. -/
theorem moved_eq {q : Int} {wd : Bool} (hm : Md q wd) {xs zs : List Int} {bl : List (List Int)} (hx : Els q xs) (hn : xs.Nodup) (hb : ∀ b ∈ bl, Els q b) (w : Nat) : trn ((List.range w).map (fun t => vls q xs zs (col bl t))) zs.length = zs.map (shr q xs w bl) := by
  unfold trn
  refine List.ext_getElem (by simp) (fun j h1 h2 => ?_)
  have hj : j < zs.length := by simpa using h2
  rw [List.getElem_map, List.getElem_map, List.getElem_range]
  refine ext_co (by rw [col_len, List.length_map, List.length_range, shr_len]) (fun t ht => ?_)
  rw [col_len, List.length_map, List.length_range] at ht
  rw [shr_row hm hx hn hb _ ht, col_at (by simpa using ht), List.getElem_map, List.getElem_range]
  unfold vls
  rw [co_at (by simpa using hj), List.getElem_map]
theorem vl_two (q b a y : Int) : vl q b [a, y] = add q a (mul q b y) := by
  unfold vl add mul
  show (a + b * (y + b * 0)) % q = _
  rw [Int.mul_zero, Int.add_zero, Int.add_emod_emod]
theorem vls_els {q : Int} (hq : 0 < q) (xs zs ys : List Int) : Els q (vls q xs zs ys) := fun x hx => by
  obtain ⟨z, _, rfl⟩ := List.mem_map.1 hx
  exact ds_el hq _ _ _
/-- The named points. -/
theorem nmd_len (p : Pn) (who : List Int) : (nmd p who).length = who.length := List.length_map ..
theorem nmd_facts {p : Pn} {who : List Int} (hm : mayP p = true) (hw : ∀ x ∈ who, 0 ≤ x ∧ x < p.n) (hn : who.Nodup) : (nmd p who).Nodup ∧ ∀ x ∈ nmd p who, p.k + p.t ≤ x ∧ x < p.k + p.t + p.n := by
  obtain ⟨⟨n0, n1⟩, ⟨k0, k1⟩, ⟨t0, t1⟩, _⟩ := may_facts hm
  have e : ∀ x, 0 ≤ x ∧ x < p.n → co (outL p) x.toNat = p.k + p.t + x := fun x hx => by
    have := pts_at (p.k + p.t) (n := p.n.toNat) (i := x.toNat) (by omega)
    show (pts _ _).getD _ _ = _
    rw [this]; omega
  unfold nmd
  refine ⟨?_, fun x hx => ?_⟩
  · unfold List.Nodup
    rw [List.pairwise_map]
    refine List.Pairwise.imp_of_mem (fun {a b} ha hb hne h => ?_) hn
    rw [e a (hw a ha), e b (hw b hb)] at h
    omega
  · obtain ⟨y, hy, rfl⟩ := List.mem_map.1 hx
    have := hw y hy
    rw [e y this]; omega
theorem inn_facts {p : Pn} (hm : mayP p = true) {q : Int} {wd : Bool} (hf : Fi p.f q wd) : Els q (innL p) ∧ (innL p).Nodup ∧ (innL p).length = (p.k + p.t).toNat ∧ Els q (outL p) ∧ (outL p).Nodup ∧ (outL p).length = p.n.toNat := by
  obtain ⟨⟨n0, n1⟩, ⟨k0, k1⟩, ⟨t0, t1⟩, _⟩ := may_facts hm
  exact ⟨pts_els hf (by omega) (by omega), pts_nodup _ _, pts_len _ _, pts_els hf (by omega) (by omega), pts_nodup _ _, pts_len _ _⟩

end Go.Proofs.YtpbfgcepmbpkdaaGreat

namespace Go.Proofs.YtpbfgcepmbpkdaaGreat
open Go.RowKit Fld Pln Shr
set_option linter.unusedVariables false
set_option linter.unusedSimpArgs false

theorem all_false {α : Type} {f : α → Bool} {l : List α} {x : α} (hx : x ∈ l) (h : f x = false) : l.all f = false := by
  cases hb : l.all f with
  | false => rfl
  | true => rw [List.all_eq_true] at hb; rw [hb x hx] at h; cases h
theorem getD_memA {α : Type} {l : List α} {k : Nat} (d : α) (hk : k < l.length) : l.getD k d ∈ l := by
  rw [List.getD_eq_getElem?_getD, List.getElem?_eq_getElem hk]; exact List.getElem_mem hk
theorem all_true {α : Type} {f : α → Bool} {l : List α} (d : α) (h : ∀ i, i < l.length → f (l.getD i d) = true) : l.all f = true := by
  rw [List.all_eq_true]
  intro x hx
  obtain ⟨i, hi, rfl⟩ := List.mem_iff_getElem.1 hx
  have := h i hi
  rw [List.getD_eq_getElem?_getD, List.getElem?_eq_getElem hi] at this
  exact this
theorem elsB_no {f : Int} {l : List (List Int)} {k : Nat} (hk : k < l.length) (hf : inF f (l.getD k []) = false) : elsB f l = false := all_false (f := fun xs => inF f xs) (getD_memA [] hk) hf
theorem elsB_yes {f : Int} {l : List (List Int)} (hy : ∀ i, i < l.length → inF f (l.getD i []) = true) : elsB f l = true := all_true (f := fun xs => inF f xs) [] hy
theorem whoB_no {n : Int} {l : List Int} {k : Nat} (hk : k < l.length) (hf : ¬ (0 ≤ l.getD k 0 ∧ l.getD k 0 < n)) : whoB n l = false := all_false (f := fun x => decide (0 ≤ x ∧ x < n)) (getD_memA 0 hk) (decide_eq_false hf)
theorem whoB_yes {n : Int} {l : List Int} (hy : ∀ i, i < l.length → 0 ≤ l.getD i 0 ∧ l.getD i 0 < n) : whoB n l = true := all_true (f := fun x => decide (0 ≤ x ∧ x < n)) 0 (fun i hi => decide_eq_true (hy i hi))
theorem blkB_no {w n : Int} {l : List (List Int)} {k : Nat} (hk : k < l.length) (hf : ¬ (((l.getD k []).length : Int) = w)) : blkB w n l = false := by
  unfold blkB
  rw [show lenB w l = false from all_false (f := fun xs : List Int => decide ((xs.length : Int) = w)) (getD_memA [] hk) (decide_eq_false hf)]; rfl
theorem blkB_yes {w n : Int} {l : List (List Int)} (hy : ∀ i, i < l.length → (((l.getD i []).length : Int) = w)) : blkB w n l = decide ((l.length : Int) = n) := by
  unfold blkB
  rw [show lenB w l = true from all_true (f := fun xs : List Int => decide ((xs.length : Int) = w)) [] (fun i hi => decide_eq_true (hy i hi)), Bool.true_and]
theorem er_two {f : Int} {xs : List Int} (h : inF f xs = false) : er f xs [0] = 2 := by
  unfold er erb
  rw [h]; rfl
theorem er_not {f : Int} {xs : List Int} (h : inF f xs = true) : er f xs [0] ≠ 2 := by
  unfold er erb
  have h0 : inF f [0] = true := by
    rcases Fi_or f with ⟨p, wd, hf⟩ | ⟨h1, h2⟩
    · rw [inF_yes hf]; exact allIn_of (fun x hx => by rw [List.mem_singleton.1 hx]; exact ⟨Int.le_refl _, hf.pos⟩)
    · rw [inF_no h1 h2] at h; cases h
  rw [h, h0, if_pos (by decide)]
  split <;> decide

set_option maxRecDepth 100000 in
set_option maxHeartbeats 400000 in
theorem gElements (f : Int) (v : Value) (l : List (List Int)) (w : World) (h : Rws w v l) : Calls Tryz.prog 103 #[.int .u8 f, v] w fun e w' => e = .returned (.bool (elsB f l)) ∧ Below w.heap.size w w' := by
  have HE := hide (fun W u xs (hr : Rw W u xs) => pEval_any f 0 u xs W (by decide) hr)
  have HN := hide (fun k hk hf => elsB_no (f := f) (l := l) (k := k) hk hf)
  have HY := hide (fun hy => elsB_yes (f := f) (l := l) hy)
  obtain ⟨ao, cap, rfl, hlen, hcap, hc⟩ := h
  generalize elsB f l = res at *
  go_enter Tryz.func103, Tryz.ntmps103
  go_wp2
  go_loopw [11] (fun vi wr => ∃ k : Nat, k ≤ l.length ∧ vi = .int .i64 k ∧ Hid (∀ i, i < k → inF f (l.getD i []) = true) ∧ Below w.heap.size w wr) (fun vi _ => l.length - (intOf vi).toNat)
  case atStart => exact ⟨0, Nat.zero_le _, rfl, fun i hi => by omega, Below.refl _ _⟩
  case round =>
    obtain ⟨k, hk, rfl, HA, hB⟩ := hrel
    by_cases hlt : k < l.length
    · obtain ⟨b, off, rfl, hbl, hcell⟩ := hc (by intro h; rw [h] at hlt; simp at hlt)
      obtain ⟨u, hu, hR⟩ := hcell k hlt
      have hck := (hB.cell (p := ⟨b, off + k, none⟩) hbl).trans hu
      have hev := hide (HE.out wr u _ (hR.below hB))
      obtain ⟨au, cu, rfl, _⟩ := hR.spell
      have k0 : (0 : Int) ≤ (k : Int) := by omega
      have k1 : (k : Int) < (l.length : Int) := by omega
      clear hcell hc hR hu HE
      cases hi : inF f (l.getD k []) with
      | false =>
        have HR := hide (HN.out k hlt hi)
        rw [er_two hi] at hev
        clear HN HY HA hi
        generalize l.getD k [] = xs at *
        generalize valE f 0 xs = val at *
        go_wp2_with (go_at_call 122; refine hev.out.mono ?_; rintro e w1 ⟨rfl, hb1⟩)
        go_ret
        exact ⟨by have hr := HR.out; subst hr; rfl, Below.next hB hb1⟩
      | true =>
        have ht : (er f (l.getD k []) [0] == 2) = false := by simpa using er_not hi
        have HA2 : Hid (∀ i, i < k + 1 → inF f (l.getD i []) = true) := fun i h' => by
          rcases Nat.lt_or_eq_of_le (Nat.le_of_lt_succ h') with h1 | h1
          · exact HA.out i h1
          · rw [h1]; exact hi
        clear HN HY HA hi
        generalize er f (l.getD k []) [0] = er0 at *
        generalize l.getD k [] = xs at *
        generalize valE f 0 xs = val at *
        go_wp2_with (go_at_call 122; refine hev.out.mono ?_; rintro e w1 ⟨rfl, hb1⟩)
        have hB2 := Below.next hB hb1
        go_roundw
        case rel => exact ⟨k + 1, by omega, by go_num, HA2, hB2⟩
        case measure => simp [intOf]; omega
    · obtain rfl : k = l.length := by omega
      have HR := hide (HY.out HA.out)
      clear HN HY HA hc HE
      go_wp2
      go_ret
      exact ⟨by have hr := HR.out; subst hr; rfl, hB⟩

/-- One of a list of ints. -/
theorem lmi_cell {w W : World} {b off n cap : Nat} {l : List Int} (h : Lm iw 1 w (.slice (some ⟨b, off, none⟩) n cap) l) (hB : Below w.heap.size w W) {k : Nat} (hk : k < l.length) : b < w.heap.size ∧ W.cell? ⟨b, off + k, none⟩ = some (.int .i64 (l.getD k 0)) := by
  have e : l[k]? = some (l.getD k 0) := by rw [List.getD_eq_getElem?_getD, List.getElem?_eq_getElem hk]; rfl
  have := h.at_ (i := k) (j := 0) (u := .int .i64 (l.getD k 0)) e rfl
  rw [show off + (k * 1 + 0) = off + k by omega] at this
  exact ⟨this.1, (hB.cell (p := ⟨b, off + k, none⟩) this.1).trans this.2⟩

set_option maxRecDepth 100000 in
set_option maxHeartbeats 400000 in
theorem gAreWorkers (p : Pn) (v : Value) (l : List Int) (w : World) (h : Lm iw 1 w v l) : Calls Tryz.prog 104 #[plv p, v] w fun e w' => e = .returned (.bool (whoB p.n l)) ∧ Below w.heap.size w w' := by
  have HN := hide (fun k hk hf => whoB_no (n := p.n) (l := l) (k := k) hk hf)
  have HY := hide (fun hy => whoB_yes (n := p.n) (l := l) hy)
  obtain ⟨pb, hA⟩ := pb_box (w := w) p
  have HL := hide h
  have hlen := h.len
  obtain ⟨ao, cap, rfl, hcap⟩ := h.spell
  clear h
  generalize whoB p.n l = res at *
  unfold plv plw at *
  go_enter Tryz.func104, Tryz.ntmps104
  go_wp2
  obtain ⟨c0, c1, c2, c3, c4, c5, c6, c7⟩ := pb.cells
  generalize w.alloc _ = W0 at *
  clear pb
  go_loop [9] (fun vi => ∃ k : Nat, k ≤ l.length ∧ vi = .int .i64 k ∧ Hid (∀ i, i < k → 0 ≤ l.getD i 0 ∧ l.getD i 0 < p.n)) (fun vi => l.length - (intOf vi).toNat)
  case atStart => exact ⟨0, Nat.zero_le _, rfl, fun i hi => by omega⟩
  case round =>
    obtain ⟨k, hk, rfl, HQ⟩ := hrel
    by_cases hlt : k < l.length
    · obtain ⟨b, off, cp, heq, _, _⟩ := HL.out.form (by omega)
      cases heq
      have hck := (lmi_cell HL.out hA hlt).2
      have k0 : (0 : Int) ≤ (k : Int) := by omega
      have k1 : (k : Int) < (l.length : Int) := by omega
      by_cases hi : 0 ≤ l.getD k 0 ∧ l.getD k 0 < p.n
      · have HA2 : Hid (∀ i, i < k + 1 → 0 ≤ l.getD i 0 ∧ l.getD i 0 < p.n) := fun i h' => by
          rcases Nat.lt_or_eq_of_le (Nat.le_of_lt_succ h') with h1 | h1
          · exact HQ.out i h1
          · rw [h1]; exact hi
        obtain ⟨q1, q2⟩ := hi
        clear HN HY HQ HL
        generalize l.getD k 0 = x at *
        go_wp2
        go_round
        case rel => exact ⟨k + 1, by omega, by go_num, HA2⟩
        case measure => simp [intOf]; omega
      · have HR := hide (HN.out k hlt hi)
        clear HN HY HQ HL
        generalize l.getD k 0 = x at *
        by_cases hx : x < 0
        · clear hi
          go_wp2
          go_ret
          exact ⟨by have hr := HR.out; subst hr; rfl, hA⟩
        · have hx2 : p.n ≤ x := by omega
          clear hi
          go_wp2
          go_ret
          exact ⟨by have hr := HR.out; subst hr; rfl, hA⟩
    · obtain rfl : k = l.length := by omega
      have HR := hide (HY.out HQ.out)
      clear HN HY HQ HL
      go_wp2
      go_ret
      exact ⟨by have hr := HR.out; subst hr; rfl, hA⟩

set_option maxRecDepth 100000 in
set_option maxHeartbeats 400000 in
theorem gAreBlocks (p : Pn) (n : Int) (v : Value) (l : List (List Int)) (w : World) (h : Rws w v l) : Calls Tryz.prog 105 #[plv p, v, .int .i64 n] w fun e w' => e = .returned (.bool (blkB p.w n l)) ∧ Below w.heap.size w w' := by
  have HN := hide (fun k hk hf => blkB_no (w := p.w) (n := n) (l := l) (k := k) hk hf)
  have HY := hide (fun hy => blkB_yes (w := p.w) (n := n) (l := l) hy)
  obtain ⟨pb, hA⟩ := pb_box (w := w) p
  obtain ⟨ao, cap, rfl, hlen, hcap, hc⟩ := h
  generalize blkB p.w n l = res at *
  unfold plv plw at *
  go_enter Tryz.func105, Tryz.ntmps105
  go_wp2
  obtain ⟨c0, c1, c2, c3, c4, c5, c6, c7⟩ := pb.cells
  generalize w.alloc _ = W0 at *
  clear pb
  go_loop [11] (fun vi => ∃ k : Nat, k ≤ l.length ∧ vi = .int .i64 k ∧ Hid (∀ i, i < k → ((l.getD i []).length : Int) = p.w)) (fun vi => l.length - (intOf vi).toNat)
  case atStart => exact ⟨0, Nat.zero_le _, rfl, fun i hi => by omega⟩
  case round =>
    obtain ⟨k, hk, rfl, HQ⟩ := hrel
    by_cases hlt : k < l.length
    · obtain ⟨b, off, rfl, hbl, hcell⟩ := hc (by intro h; rw [h] at hlt; simp at hlt)
      obtain ⟨u, hu, hR⟩ := hcell k hlt
      have hck := (hA.cell (p := ⟨b, off + k, none⟩) hbl).trans hu
      obtain ⟨au, cu, rfl, _⟩ := hR.spell
      have k0 : (0 : Int) ≤ (k : Int) := by omega
      have k1 : (k : Int) < (l.length : Int) := by omega
      have hll := hR.len
      clear hcell hc hR hu
      by_cases hi : ((l.getD k []).length : Int) = p.w
      · have HA2 : Hid (∀ i, i < k + 1 → ((l.getD i []).length : Int) = p.w) := fun i h' => by
          rcases Nat.lt_or_eq_of_le (Nat.le_of_lt_succ h') with h1 | h1
          · exact HQ.out i h1
          · rw [h1]; exact hi
        clear HN HY HQ
        generalize (l.getD k []).length = m at *
        rw [← hi] at c7
        clear hi
        go_wp2
        go_round
        case rel => exact ⟨k + 1, by omega, by go_num, HA2⟩
        case measure => simp [intOf]; omega
      · have HR := hide (HN.out k hlt hi)
        clear HN HY HQ
        generalize (l.getD k []).length = m at *
        have ht : (((m : Int)) != p.w) = true := bne_iff_ne.2 hi
        clear hi
        go_wp2
        go_ret
        exact ⟨by have hr := HR.out; subst hr; rfl, hA⟩
    · obtain rfl : k = l.length := by omega
      have HR := hide (HY.out HQ.out)
      clear HN HY HQ hc
      generalize l.length = m at *
      by_cases hi : (m : Int) = n
      · rw [decide_eq_true hi] at HR
        subst hi
        go_wp2
        go_ret
        exact ⟨by have hr := HR.out; subst hr; rfl, hA⟩
      · rw [decide_eq_false hi] at HR
        have ht : ((m : Int) == n) = false := by simpa using hi
        clear hi
        go_wp2
        go_ret
        exact ⟨by have hr := HR.out; subst hr; rfl, hA⟩

end Go.Proofs.YtpbfgcepmbpkdaaGreat

namespace Go.Proofs.YtpbfgcepmbpkdaaGreat
open Go.RowKit Fld Pln Shr
set_option linter.unusedVariables false
set_option linter.unusedSimpArgs false

theorem marks_zero : ((Tryz.prog.info? 78).bind (·.zero)) = some (.agg ((List.replicate 64 false).map Value.bool).toArray) := by kernel_rfl
/-- The marks of those that were named. -/
structure Mrk (w : World) (g : Nat) (bs : List Bool) (l : List Int) : Prop where
  len : bs.length = 64
  blk : w.heap[g]? = some (.cells (bs.map Value.bool).toArray 78 (0, 0))
  mem : ∀ j : Nat, j < 64 → (bs.getD j false = true ↔ (j : Int) ∈ l)
  dif : l.Nodup
theorem Mrk.cell {w : World} {g : Nat} {bs : List Bool} {l : List Int} (h : Mrk w g bs l) {j : Nat} (hj : j < 64) : w.cell? ⟨g, j, none⟩ = some (.bool (bs.getD j false)) := by
  have hl : j < bs.length := by rw [h.len]; exact hj
  rw [cell_of_row w g j _ _ _ h.blk, List.getD_eq_getElem?_getD]
  simp [hl]
theorem Mrk.free {w : World} {g : Nat} {bs : List Bool} {l : List Int} (h : Mrk w g bs l) (k : Nat) : w.frozen? ⟨g, k, none⟩ = false := by
  simp [World.frozen?, h.blk]
theorem Mrk.put {w : World} {g : Nat} {bs : List Bool} {l : List Int} (h : Mrk w g bs l) {j : Nat} (hj : j < 64) (hn : bs.getD j false = false) : Mrk (w.setCell ⟨g, j, none⟩ (.bool true)) g (bs.set j true) (l ++ [(j : Int)]) := by
  refine ⟨by rw [List.length_set]; exact h.len, ?_, fun i hi => ?_, ?_⟩
  · rw [set_blk h.blk]
    simp [List.map_set]
  · rw [List.getD_eq_getElem?_getD, List.getElem?_set, List.mem_append, List.mem_singleton]
    by_cases e : j = i
    · subst e
      rw [if_pos rfl, if_pos (by rw [h.len]; exact hj)]
      simp
    · rw [if_neg e, ← List.getD_eq_getElem?_getD, h.mem i hi]
      constructor
      · exact .inl
      · rintro (h1 | h1)
        · exact h1
        · omega
  · refine List.nodup_append.2 ⟨h.dif, by simp, fun a ha b hb hab => ?_⟩
    have hb := List.mem_singleton.1 hb
    subst hb
    subst hab
    rw [(h.mem j hj).2 ha] at hn
    cases hn
theorem mrk_new (w : World) : Mrk (w.alloc (.cells ((List.replicate 64 false).map Value.bool).toArray 78)) w.heap.size (List.replicate 64 false) [] := by
  refine ⟨by simp, heap_alloc_last w _, fun j hj => ?_, by simp⟩
  rw [List.getD_eq_getElem?_getD, List.getElem?_replicate, if_pos hj]; simp
theorem take_snocI {l : List Int} {k : Nat} (hk : k < l.length) : l.take k ++ [l.getD k 0] = l.take (k + 1) := by
  rw [List.take_succ_eq_append_getElem hk, List.getD_eq_getElem?_getD, List.getElem?_eq_getElem hk]; rfl

set_option maxRecDepth 100000 in
set_option maxHeartbeats 400000 in
theorem gTwice (v : Value) (l : List Int) (w : World) (h : Lm iw 1 w v l) (hw : ∀ x ∈ l, 0 ≤ x ∧ x < 64) : Calls Tryz.prog 112 #[v] w fun e w' => e = .returned (.bool (!decide l.Nodup)) ∧ Below w.heap.size w w' := by
  have HX : Hid (∀ k, k < l.length → ∃ J : Nat, l.getD k 0 = (J : Int) ∧ J < 64) := fun k hk => by
    have := hw _ (getD_memA 0 hk)
    exact ⟨(l.getD k 0).toNat, by omega, by omega⟩
  have HY : Hid (∀ k, k < l.length → l.getD k 0 ∈ l.take k → (!decide l.Nodup) = true) := fun k hk hm => by
    rw [decide_eq_false]; · rfl
    intro hn
    obtain ⟨i, hi, he⟩ := List.mem_iff_getElem.1 hm
    rw [List.length_take] at hi
    rw [List.getElem_take] at he
    have h2 : l.getD k 0 = l[k] := by rw [List.getD_eq_getElem?_getD, List.getElem?_eq_getElem hk]; rfl
    rw [h2] at he
    have := nodup_inj hn (by omega) hk he
    omega
  have HZ : Hid (l.Nodup → (!decide l.Nodup) = false) := fun hn => by rw [decide_eq_true hn]; rfl
  have HS := hide (fun k hk => take_snocI (l := l) (k := k) hk)
  have HL := hide h
  have hlen := h.len
  obtain ⟨ao, cap, rfl, hcap⟩ := h.spell
  clear h hw
  have hA := alloc_below w (.cells ((List.replicate 64 false).map Value.bool).toArray 78)
  have HM := hide (mrk_new w)
  generalize (!decide l.Nodup) = res at *
  go_enter Tryz.func112, Tryz.ntmps112
  go_upto_region 1 with fail
  refine wp_region_lit ?_
  refine wpList_alloc_row rfl _ rfl _ marks_zero ?_
  generalize w.alloc (.cells ((List.replicate 64 false).map Value.bool).toArray 78) = W0 at *
  go_wp2_with fail
  go_loopw [8] (fun vi wr => ∃ (k : Nat) (bs : List Bool), k ≤ l.length ∧ vi = .int .i64 k ∧ Hid (Mrk wr w.heap.size bs (l.take k)) ∧ Below w.heap.size w wr) (fun vi _ => l.length - (intOf vi).toNat)
  case atStart => exact ⟨0, _, Nat.zero_le _, rfl, HM, hA⟩
  case round =>
    clear HM hA
    obtain ⟨k, bs, hk, rfl, HM, hB⟩ := hrel
    by_cases hlt : k < l.length
    · obtain ⟨b, off, cp, heq, _, _⟩ := HL.out.form (by omega)
      cases heq
      have hck := (lmi_cell HL.out hB hlt).2
      have k0 : (0 : Int) ≤ (k : Int) := by omega
      have k1 : (k : Int) < (l.length : Int) := by omega
      obtain ⟨J, hJ, hJ64⟩ := HX.out k hlt
      have hS := HS.out k hlt
      have hY := HY.out k hlt
      rw [hJ] at hck hS hY
      have hcm := HM.out.cell hJ64
      have hfr := HM.out.free J
      cases hb : bs.getD J false with
      | true =>
        have HR := hide (hY ((HM.out.mem J hJ64).1 hb))
        rw [hb] at hcm
        clear HX HY HZ HS HL HM hS hY hJ hb
        go_wp2
        go_ret
        exact ⟨by have hr := HR.out; subst hr; rfl, hB⟩
      | false =>
        have HM2 := hide (HM.out.put hJ64 hb)
        rw [hS] at HM2
        rw [hb] at hcm
        have hB2 : Below w.heap.size w (wr.setCell ⟨w.heap.size, J, none⟩ (.bool true)) := hB.setCell (p := ⟨w.heap.size, J, none⟩) (Nat.le_refl _) _
        clear HX HY HZ HS HL HM hS hY hJ hb
        go_wp2
        go_roundw
        case rel => exact ⟨k + 1, _, by omega, by go_num, HM2, hB2⟩
        case measure => simp [intOf]; omega
    · obtain rfl : k = l.length := by omega
      have HR := hide (HZ.out (by have := HM.out.dif; rw [List.take_length] at this; exact this))
      clear HX HY HZ HS HL HM
      go_wp2
      go_ret
      exact ⟨by have hr := HR.out; subst hr; rfl, hB⟩

set_option maxRecDepth 100000 in
set_option maxHeartbeats 400000 in
theorem gCheckBlocks (p : Pn) (vd vp vw : Value) (dl pl : List (List Int)) (who : List Int) (w : World) (hp : Ok8p p) (h1 : Rws w vd dl) (h2 : Rws w vp pl) (h3 : Lm iw 1 w vw who) :
    Calls Tryz.prog 86 #[plv p, vd, vp, vw] w fun e w' => e = .returned (.int .i64 (bkE p dl pl who)) ∧ Below w.heap.size w w' := by
  have HM := hide (gMay p hp)
  have H1 := hide (fun W (hb : Below w.heap.size w W) => gElements p.f vd dl W (h1.below hb))
  have H2 := hide (fun W (hb : Below w.heap.size w W) => gElements p.f vp pl W (h2.below hb))
  have H3 := hide (fun W (hb : Below w.heap.size w W) => gAreWorkers p vw who W (h3.below hb))
  have H4 := hide (fun W (hb : Below w.heap.size w W) => gAreBlocks p p.k vd dl W (h1.below hb))
  have H5 := hide (fun W (hb : Below w.heap.size w W) => gAreBlocks p p.t vp pl W (h2.below hb))
  obtain ⟨pb, hA⟩ := pb_box (w := w) p
  have HS := hide (fun W (hb : Below (w.alloc (.cells #[.int .u8 p.f, .int .i64 p.n, .int .i64 p.k, .int .i64 p.t, .int .i64 p.s, .int .i64 p.e, .int .i64 p.d, .int .i64 p.w] 24)).heap.size _ W) => (pb.below hb).cells)
  obtain ⟨c0, c1, c2, c3, c4, c5, c6, c7⟩ := pb.cells
  obtain ⟨a1, k1, rfl, _, _, _⟩ := h1
  obtain ⟨a2, k2, rfl, _, _, _⟩ := h2
  obtain ⟨a3, k3, rfl, _⟩ := h3.spell
  clear h3 hp pb
  unfold bkE
  generalize mayP p = b0 at *
  generalize elsB p.f dl = b1 at *
  generalize elsB p.f pl = b2 at *
  generalize whoB p.n who = b3 at *
  generalize blkB p.w p.k dl = b4 at *
  generalize blkB p.w p.t pl = b5 at *
  generalize dl.length = n1 at *
  generalize pl.length = n2 at *
  generalize who.length = n3 at *
  unfold plv plw at *
  generalize hW : w.alloc (.cells #[.int .u8 p.f, .int .i64 p.n, .int .i64 p.k, .int .i64 p.t, .int .i64 p.s, .int .i64 p.e, .int .i64 p.d, .int .i64 p.w] 24) = W0 at *
  have HW := hide hW
  clear hW
  have hcs : b0 = false ∨ (b0 = true ∧ b1 = false) ∨ (b0 = true ∧ b1 = true ∧ b2 = false) ∨ (b0 = true ∧ b1 = true ∧ b2 = true ∧ b3 = false) ∨ (b0 = true ∧ b1 = true ∧ b2 = true ∧ b3 = true ∧ b4 = false) ∨ (b0 = true ∧ b1 = true ∧ b2 = true ∧ b3 = true ∧ b4 = true ∧ b5 = false) ∨ (b0 = true ∧ b1 = true ∧ b2 = true ∧ b3 = true ∧ b4 = true ∧ b5 = true) := by
    cases b0 <;> cases b1 <;> cases b2 <;> cases b3 <;> cases b4 <;> cases b5 <;> decide
  rcases hcs with rfl | ⟨rfl, rfl⟩ | ⟨rfl, rfl, rfl⟩ | ⟨rfl, rfl, rfl, rfl⟩ | ⟨rfl, rfl, rfl, rfl, rfl⟩ | ⟨rfl, rfl, rfl, rfl, rfl, rfl⟩ | ⟨rfl, rfl, rfl, rfl, rfl, rfl⟩
  all_goals
    go_enter Tryz.func86, Tryz.ntmps86
    go_upto_region 1 with fail
    rw [HW.out]
    go_wp2_with (first
      | (go_at_call 71; refine (HM.out _).mono ?_; rintro e w1 ⟨rfl, hb1⟩; have hC1 := hb1; have hB1 := Below.next hA hC1; clear c0 c1 c2 c3 c4 c5 c6 c7; obtain ⟨c0, c1, c2, c3, c4, c5, c6, c7⟩ := HS.out _ hC1)
      | (go_at_call 105; with_reducible refine (H5.out _ hB5).mono ?_; rintro e w6 ⟨rfl, hb6⟩; have hC6 := Below.next hC5 hb6; have hB6 := Below.next hA hC6)
      | (go_at_call 105; with_reducible refine (H4.out _ hB4).mono ?_; rintro e w5 ⟨rfl, hb5⟩; have hC5 := Below.next hC4 hb5; have hB5 := Below.next hA hC5; clear c0 c1 c2 c3 c4 c5 c6 c7; obtain ⟨c0, c1, c2, c3, c4, c5, c6, c7⟩ := HS.out _ hC5)
      | (go_at_call 104; with_reducible refine (H3.out _ hB3).mono ?_; rintro e w4 ⟨rfl, hb4⟩; have hC4 := Below.next hC3 hb4; have hB4 := Below.next hA hC4; clear c0 c1 c2 c3 c4 c5 c6 c7; obtain ⟨c0, c1, c2, c3, c4, c5, c6, c7⟩ := HS.out _ hC4)
      | (go_at_call 103; with_reducible refine (H2.out _ hB2).mono ?_; rintro e w3 ⟨rfl, hb3⟩; have hC3 := Below.next hC2 hb3; have hB3 := Below.next hA hC3; clear c0 c1 c2 c3 c4 c5 c6 c7; obtain ⟨c0, c1, c2, c3, c4, c5, c6, c7⟩ := HS.out _ hC3)
      | (go_at_call 103; with_reducible refine (H1.out _ hB1).mono ?_; rintro e w2 ⟨rfl, hb2⟩; have hC2 := Below.next hC1 hb2; have hB2 := Below.next hA hC2; clear c0 c1 c2 c3 c4 c5 c6 c7; obtain ⟨c0, c1, c2, c3, c4, c5, c6, c7⟩ := HS.out _ hC2))
    go_ret
    refine ⟨rfl, ?_⟩
    first | exact hB6 | exact hB5 | exact hB4 | exact hB3 | exact hB2 | exact hB1

set_option maxRecDepth 100000 in
set_option maxHeartbeats 400000 in
theorem gCheckShares (p : Pn) (vw vs : Value) (l : List (List Int)) (who : List Int) (w : World) (hp : Ok8p p) (h1 : Rws w vs l) (h3 : Lm iw 1 w vw who) :
    Calls Tryz.prog 92 #[plv p, vw, vs] w fun e w' => e = .returned (.int .i64 (opE p who l)) ∧ Below w.heap.size w w' := by
  have HM := hide (gMay p hp)
  have H1 := hide (fun W (hb : Below w.heap.size w W) => gElements p.f vs l W (h1.below hb))
  have H3 := hide (fun W (hb : Below w.heap.size w W) => gAreWorkers p vw who W (h3.below hb))
  have H4 := hide (fun W (hb : Below w.heap.size w W) => gAreBlocks p (p.k + p.t) vs l W (h1.below hb))
  have HT : Hid (mayP p = true → whoB p.n who = true → ∀ W (hb : Below w.heap.size w W), Calls Tryz.prog 112 #[vw] W fun e w' => e = .returned (.bool (!decide who.Nodup)) ∧ Below W.heap.size W w') := fun hm hwh W hb =>
    gTwice vw who W (h3.below hb) (fun x hx => by
      have := whoB_iff.1 hwh x hx
      have := (may_facts hm).1
      omega)
  have HF := hide (fun hm => may_facts (p := p) hm)
  obtain ⟨pb, hA⟩ := pb_box (w := w) p
  have HS := hide (fun W (hb : Below (w.alloc (.cells #[.int .u8 p.f, .int .i64 p.n, .int .i64 p.k, .int .i64 p.t, .int .i64 p.s, .int .i64 p.e, .int .i64 p.d, .int .i64 p.w] 24)).heap.size _ W) => (pb.below hb).cells)
  obtain ⟨c0, c1, c2, c3, c4, c5, c6, c7⟩ := pb.cells
  obtain ⟨a1, k1, rfl, _, _, _⟩ := h1
  have hln := h3.len
  obtain ⟨a3, k3, rfl, _⟩ := h3.spell
  clear h3 hp pb
  have HO : Hid (opE p who l = if mayP p && elsB p.f l && whoB p.n who then (if decide ((who.length : Int) = p.k + p.t) && blkB p.w (p.k + p.t) l then (if (!decide who.Nodup) = true then 6 else 0) else 3) else 2) := by
    show _ = _
    unfold opE
    by_cases hn : who.Nodup
    · rw [if_pos hn, decide_eq_true hn]; rfl
    · rw [if_neg hn, decide_eq_false hn]; rfl
  rw [HO.out]
  clear HO
  generalize mayP p = b0 at *
  generalize elsB p.f l = b1 at *
  generalize whoB p.n who = b2 at *
  obtain ⟨b3, H3b⟩ : ∃ b3, Hid (decide ((who.length : Int) = p.k + p.t) = b3) := ⟨_, rfl⟩
  rw [H3b.out]
  generalize blkB p.w (p.k + p.t) l = b4 at *
  generalize (!decide who.Nodup) = b5 at *
  generalize l.length = n1 at *
  generalize who.length = n3 at *
  unfold plv plw at *
  generalize hW : w.alloc (.cells #[.int .u8 p.f, .int .i64 p.n, .int .i64 p.k, .int .i64 p.t, .int .i64 p.s, .int .i64 p.e, .int .i64 p.d, .int .i64 p.w] 24) = W0 at *
  have HW := hide hW
  clear hW
  have hcs : b0 = false ∨ (b0 = true ∧ b1 = false) ∨ (b0 = true ∧ b1 = true ∧ b2 = false) ∨ (b0 = true ∧ b1 = true ∧ b2 = true ∧ b3 = false) ∨ (b0 = true ∧ b1 = true ∧ b2 = true ∧ b3 = true ∧ b4 = false) ∨ (b0 = true ∧ b1 = true ∧ b2 = true ∧ b3 = true ∧ b4 = true ∧ b5 = true) ∨ (b0 = true ∧ b1 = true ∧ b2 = true ∧ b3 = true ∧ b4 = true ∧ b5 = false) := by
    cases b0 <;> cases b1 <;> cases b2 <;> cases b3 <;> cases b4 <;> cases b5 <;> decide
  rcases hcs with rfl | ⟨rfl, rfl⟩ | ⟨rfl, rfl, rfl⟩ | ⟨rfl, rfl, rfl, rfl⟩ | ⟨rfl, rfl, rfl, rfl, rfl⟩ | ⟨rfl, rfl, rfl, rfl, rfl, rfl⟩ | ⟨rfl, rfl, rfl, rfl, rfl, rfl⟩
  all_goals
    try obtain ⟨_, ⟨q1, q2⟩, ⟨q3, q4⟩, _⟩ := HF.out rfl
    try have hT := hide (HT.out rfl rfl)
    try have hne : ((n3 : Int) != p.k + p.t) = true := bne_iff_ne.2 (of_decide_eq_false H3b.out)
    try have heq : ((n3 : Int) != p.k + p.t) = false := by rw [of_decide_eq_true H3b.out]; simp
    clear HT HF H3b
    go_enter Tryz.func92, Tryz.ntmps92
    go_upto_region 1 with fail
    rw [HW.out]
    go_wp2_with (first
      | (go_at_call 71; refine (HM.out _).mono ?_; rintro e w1 ⟨rfl, hb1⟩; have hC1 := hb1; have hB1 := Below.next hA hC1; clear c0 c1 c2 c3 c4 c5 c6 c7; obtain ⟨c0, c1, c2, c3, c4, c5, c6, c7⟩ := HS.out _ hC1)
      | (go_at_call 112; with_reducible refine (hT.out _ hB5).mono ?_; rintro e w6 ⟨rfl, hb6⟩; have hC6 := Below.next hC5 hb6; have hB6 := Below.next hA hC6)
      | (go_at_call 105; with_reducible refine (H4.out _ hB4).mono ?_; rintro e w5 ⟨rfl, hb5⟩; have hC5 := Below.next hC4 hb5; have hB5 := Below.next hA hC5; clear c0 c1 c2 c3 c4 c5 c6 c7; obtain ⟨c0, c1, c2, c3, c4, c5, c6, c7⟩ := HS.out _ hC5)
      | (go_at_call 104; with_reducible refine (H3.out _ hB2).mono ?_; rintro e w4 ⟨rfl, hb4⟩; have hC4 := Below.next hC2 hb4; have hB4 := Below.next hA hC4; clear c0 c1 c2 c3 c4 c5 c6 c7; obtain ⟨c0, c1, c2, c3, c4, c5, c6, c7⟩ := HS.out _ hC4)
      | (go_at_call 103; with_reducible refine (H1.out _ hB1).mono ?_; rintro e w2 ⟨rfl, hb2⟩; have hC2 := Below.next hC1 hb2; have hB2 := Below.next hA hC2; clear c0 c1 c2 c3 c4 c5 c6 c7; obtain ⟨c0, c1, c2, c3, c4, c5, c6, c7⟩ := HS.out _ hC2))
    go_ret
    refine ⟨rfl, ?_⟩
    first | exact hB6 | exact hB5 | exact hB4 | exact hB2 | exact hB1

end Go.Proofs.YtpbfgcepmbpkdaaGreat

