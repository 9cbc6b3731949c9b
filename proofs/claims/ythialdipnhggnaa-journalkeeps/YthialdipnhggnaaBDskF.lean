import Derived.Test.YthialdipnhggnaaBDskE
set_option linter.unusedVariables false
set_option linter.unusedSimpArgs false
set_option maxRecDepth 100000
set_option maxHeartbeats 4000000
namespace Go.Proofs.Ythialdipnhggnaa
open Go.RowKit Fld
def nsl (n : Nat) : List Value := List.replicate n (.slice none 0 0)
theorem nsl_len (n : Nat) : (nsl n).length = n := by simp [nsl]
theorem makeY (n : Nat) (hm : n <= 100000) (W : World) : (Instr.makeSlice 22 (.int .i64 (n : Int)) (.int .i64 (n : Int))).run Try.prog W = .ok (.slice (some ⟨W.heap.size, 0, none⟩) n n) (W.alloc (.cells (nsl n).toArray 23)) := by
 obtain ⟨i, hi, hz, hs, hb⟩ := info_parts bsl_info
 have := run_make (P := Try.prog) W 22 23 i (.slice none 0 0) Try.underlying22 hi hz .i64 .i64 (n : Int) (n : Int) (by omega) (by omega) (by rw [hb]; omega) (by omega)
 rw [this, hs, Int.toNat_natCast]
 show Result.ok _ (W.alloc (.cells (madeCells #[.slice none 0 0] (n * 1)) 23)) = _
 rw [made_listO]
 rfl
theorem own_newY {W : World} {base n : Nat} {T : TypeId} {cs : List Value} (hb : base <= W.heap.size) (hl : cs.length = n) (hn : n <= 100000) : (W.alloc (.cells cs.toArray T)).ownsRow base T 1 (.slice (some ⟨W.heap.size, 0, none⟩) n n) n cs :=
 ⟨by rw [hl, Nat.mul_one], .inr ⟨W.heap.size, n, cs.toArray, rfl, hb, heap_alloc_new W _, Nat.le_refl _, by unfold maxLen; omega, by rw [List.size_toArray, hl, Nat.mul_one], by rw [Nat.mul_one, <- hl]; exact List.take_length⟩⟩
def tbl (r k : Nat) : List Value := (List.range k).map fun i => .slice (some ⟨r, i * 32, none⟩) 32 32
theorem tbl_len (r k : Nat) : (tbl r k).length = k := by simp [tbl]
theorem tbl_step (r : Nat) {n k : Nat} (hk : k < n) : (tbl r k ++ nsl (n - k)).set k (.slice (some ⟨r, k * 32, none⟩) 32 32) = tbl r (k + 1) ++ nsl (n - (k + 1)) := by
 have e : n - k = (n - (k + 1)) + 1 := by omega
 unfold nsl
 rw [e, List.replicate_succ, List.set_append_right _ _ (by rw [tbl_len]; exact Nat.le_refl _), tbl_len, Nat.sub_self, List.set_cons_zero]
 unfold tbl
 rw [List.range_succ, List.map_append, List.append_assoc]
 rfl
theorem tbl_at (r : Nat) {n k : Nat} (hk : k < n) : (tbl r k ++ nsl (n - k))[k]? = some (.slice none 0 0) := by
 rw [List.getElem?_append_right (by rw [tbl_len]; exact Nat.le_refl _), tbl_len, Nat.sub_self, nsl, List.getElem?_replicate, if_pos (by omega)]
structure Tol (w : World) (lo : Nat) (v : Value) (r c : Nat) (bs : List (List Int)) : Prop where
 row : w.ownsRow lo 23 1 v bs.length (tbl r bs.length)
 blk : 0 < bs.length -> w.ownsRow lo 71 32 (.slice (some ⟨r, 0, none⟩) bs.length c) bs.length (bs.flatMap k32)
 b32 : ∀ b ∈ bs, b.length = 32 ∧ By b
theorem gBlocks22 {w : World} {base g : Nat} {v : Value} {D : Dsk} (h : Hd w base g v D) :
 Calls Try.prog 26 #[.pointer (some ⟨g, 0, none⟩)] w fun e w' => ∃ v' r c, e = .returned v' ∧ Tol w' w.heap.size v' r c D.l ∧ Below w.heap.size w w' := by
 have H := hide (dIsThere h)
 have c1 := h.cells.2.1
 have HC := hide (lCloneK v D.l.length base (D.l.flatMap k32) w h.row h.o.ok.len (flat_one k32_one D.l))
 have HK : Hid (∀ b ∈ D.l, b.length = 32 ∧ By b) := fun b hb => ⟨h.o.ok.blk b hb, h.o.byt b hb⟩
 have hlen := h.o.ok.len
 obtain ⟨ao, cap, rfl, _⟩ := h.spell
 clear h
 generalize D.l = l at *
 generalize hn : l.length = n at *
 have HN := hide hn
 have hmk := makeY n (by omega)
 have HLn := hide hlen
 clear hn hlen
 go_enter Try.func26, Try.ntmps26
 go_wp2_with (first
  | (go_at_call 37; refine H.out.mono ?_; rintro e w1 ⟨rfl, hw1⟩; rw [hw1]; clear hw1)
  | (go_at_call 42; refine HC.out.mono ?_; rintro e w2 ⟨v2, rfl, ho2, hb2⟩; obtain ⟨a2, k2, hv2, _, hp2⟩ := own_spellO ho2; subst hv2))
 have hmo := own_newY (W := w2) (T := 23) (Nat.le_refl _) (nsl_len n) (by have := HLn.out; omega)
 have hmb := alloc_below w2 (.cells (nsl n).toArray 23)
 have HMo := hide hmo
 have HMb := hide hmb
 have HO2 := hide ho2
 have HB2 := hide hb2
 have HP2 := hide hp2
 clear hmo hmb ho2 hb2 hp2 c1 hmk
 generalize hW3 : w2.alloc (.cells (nsl n).toArray 23) = w3 at *
 clear hW3
 go_loopw [19] (fun vi wr => ∃ (k : Nat), k <= n ∧ vi = .int .i64 k ∧ Hid (∀ r, (0 < n -> a2 = some ⟨r, 0, none⟩) -> wr.ownsRow w2.heap.size 23 1 (.slice (some ⟨w2.heap.size, 0, none⟩) n n) n (tbl r k ++ nsl (n - k))) ∧ Below w2.heap.size w2 wr) (fun vi _ => n - (intOf vi).toNat)
 case atStart => exact ⟨0, Nat.zero_le _, rfl, fun r _ => by simpa [tbl] using HMo.out, HMb.out⟩
 case round =>
  obtain ⟨k, hk, rfl, HR, hB⟩ := hrel
  by_cases hlt : k < n
  · obtain ⟨r, rfl, hr1, hr2⟩ := HP2.out (by omega)
    have hrow := HR.out r (fun _ => rfl)
    have hc := own_atO hrow (tbl_at r hlt)
    have hfz := own_frz hrow k
    have k0 : (0 : Int) <= (k : Int) := by omega
    have k1 : (k : Int) < (n : Int) := by omega
    have hln := HLn.out
    have HRow := hide hrow
    clear hrow
    go_wp2
    go_roundw
    case rel =>
     refine ⟨k + 1, by omega, by go_num, fun r1 h1 => ?_, hB.setCell (p := ⟨w2.heap.size, _, none⟩) (Nat.le_refl _) _⟩
     have e : r = r1 := by have := h1 (by omega); injection this with this; injection this
     subst e
     rw [<- tbl_step r hlt]
     exact own_setn HRow.out _
    case measure => simp [intOf]; omega
  · have : k = n := by omega
    subst this
    go_wp2
    go_ret
    have hsz := HB2.out.size
    rcases Nat.eq_zero_or_pos k with h0 | h0
    · have hr := HR.out 0 (fun h => absurd h (by omega))
      rw [Nat.sub_self] at hr
      simp only [nsl, List.replicate_zero, List.append_nil] at hr
      refine ⟨_, 0, 0, rfl, ⟨by rw [HN.out]; exact own_mono hr hsz, fun h => ?_, HK.out⟩, Below.next HB2.out hB⟩
      rw [HN.out] at h; omega
    · obtain ⟨r, rfl, hr1, hr2⟩ := HP2.out h0
      have hr := HR.out r (fun _ => rfl)
      rw [Nat.sub_self] at hr
      simp only [nsl, List.replicate_zero, List.append_nil] at hr
      refine ⟨_, r, k2, rfl, ⟨by rw [HN.out]; exact own_mono hr hsz, fun _ => ?_, HK.out⟩, Below.next HB2.out hB⟩
      rw [HN.out]
      exact own_below HO2.out hB
end Go.Proofs.Ythialdipnhggnaa
