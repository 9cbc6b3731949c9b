import Derived.Test.YtaikhiodpieghaaBWirD
set_option linter.unusedVariables false
set_option linter.unusedSimpArgs false
set_option maxRecDepth 100000
set_option maxHeartbeats 4000000
namespace Go.Proofs.Ytaikhiodpieghaa
open Go.RowKit Fld
theorem Rb.tight {w : World} {ao : Option Addr} {n cap : Nat} {bs : List Int} (h : Rb w (.slice ao n cap) bs) : Rb w (.slice ao bs.length bs.length) bs := by
 obtain ⟨ao', cap', h1, h2, h3, h4⟩ := h
 cases h1
 refine ⟨ao, _, rfl, ⟨Nat.le_refl _, h2.2.1, fun h => ?_⟩, h3, h4⟩
 have := h2.2.2 h; omega
structure Rdr (w0 W : World) (g : Nat) (bs : List Int) : Prop where
 lo : w0.heap.size <= g
 here : ∃ v, W.cell? ⟨g, 0, none⟩ = some v ∧ Rb w0 v bs
 fz : W.frozen? ⟨g, 0, none⟩ = false
 bel : Below w0.heap.size w0 W
theorem Rdr.kept {w0 W W' : World} {g : Nat} {bs : List Int} {S : Nat -> Prop} (h : Rdr w0 W g bs) (k : Kq S W W') (hg : S g) (hl : ∀ j, j < w0.heap.size -> S j) : Rdr w0 W' g bs := by
 obtain ⟨v, h1, h2⟩ := h.here
 exact ⟨h.lo, ⟨v, (k.cell (a := ⟨g, 0, none⟩) hg).trans h1, h2⟩, (World.frozen?_of_block (a := ⟨g, 0, none⟩) (k.block g hg)).trans h.fz, h.bel.trans (k.below hl)⟩
theorem Rdr.below {w0 W W' : World} {g : Nat} {bs : List Int} (h : Rdr w0 W g bs) (k : Below W.heap.size W W') : Rdr w0 W' g bs := by
 obtain ⟨v, h1, h2⟩ := h.here
 exact h.kept (Below.kq k (S := fun j => j < W.heap.size) (fun j hj => hj)) (cell_in h1) (fun j hj => Nat.lt_of_lt_of_le hj h.bel.size)
theorem wReader (v : Value) (bs : List Int) (w0 w : World) (h : Rb w0 v bs) (hb : Below w0.heap.size w0 w) :
 Calls Try.prog 52 #[v] w fun e w' => ∃ g, e = .returned (.func (.func 58) #[] #[.pointer (some ⟨g, 0, none⟩)]) ∧ Rdr w0 w' g bs ∧ w.heap.size <= g ∧ Below w.heap.size w w' := by
 obtain ⟨ao, cap, rfl, hcp⟩ := h.spell
 have HT := hide h.tight
 have hl := h.len
 clear h
 go_enter Try.func52, Try.ntmps52
 go_wp2
 go_ret
 have hba := alloc_below w (.cells #[.slice ao bs.length bs.length] 27)
 exact ⟨_, rfl, ⟨hb.size, ⟨_, by simp [go_sem], HT.out⟩, by simp [go_sem], hb.trans (hba.mono hb.size)⟩, Nat.le_refl _, hba⟩
theorem wNext_short (k g : Nat) (bs : List Int) (w0 w : World) (hR : Rdr w0 w g bs) (hk : bs.length < k) (hk8 : k <= 8) :
 Calls Try.prog 58 #[.int .i64 k, .pointer (some ⟨g, 0, none⟩)] w fun e w' => e = .returned (.tuple #[.int .u64 0, .bool false]) ∧ w' = w := by
 obtain ⟨_, ⟨v, hc, hv⟩, _, _⟩ := hR
 obtain ⟨ao, cap, rfl, _⟩ := hv.spell
 clear hv
 go_enter Try.func58, Try.ntmps58
 go_wp2
 go_ret2
 exact ⟨rfl, rfl⟩
theorem or_step {s x : Int} (s0 : 0 <= s) (s1 : s <= 72057594037927935) (x0 : 0 <= x) (x1 : x <= 255) : bits .or .u64 (s * 256) x = s * 256 + x := by
 rw [u64_or _ _ (by omega) (by omega) x0 (by omega)]
 obtain ⟨S, rfl⟩ := Int.eq_ofNat_of_zero_le s0
 obtain ⟨X, rfl⟩ := Int.eq_ofNat_of_zero_le x0
 have e1 : ((S : Int) * 256).toNat = S <<< 8 := by rw [Nat.shiftLeft_eq]; omega
 rw [e1, Int.toNat_natCast, <- Nat.shiftLeft_add_eq_or_of_lt (by omega : X < 2 ^ 8), Nat.shiftLeft_eq]
 omega
theorem Rdr.stored {w0 w : World} {g : Nat} {bs : List Int} (h : Rdr w0 w g bs) {v : Value} {cs : List Int} (hr : Rb w0 v cs) :
 Rdr w0 (w.setCell ⟨g, 0, none⟩ v) g cs ∧ Kq (fun j => j < w.heap.size ∧ j ≠ g) w (w.setCell ⟨g, 0, none⟩ v) := by
 obtain ⟨v0, h1, _⟩ := h.here
 refine ⟨⟨h.lo, ⟨v, by simp [go_sem, h1], hr⟩, by rw [World.frozen?_setCell]; exact h.fz, h.bel.setCell (p := ⟨g, 0, none⟩) h.lo v⟩, ⟨rfl, rfl, rfl, by simp, fun j hj => Below.heap_setCell _ _ _ j hj.2⟩⟩
theorem wNext_long (k g : Nat) (bs : List Int) (w0 w : World) (hR : Rdr w0 w g bs) (hk : k <= bs.length) (hk8 : k <= 8) (hk0 : 0 < k) :
 Calls Try.prog 58 #[.int .i64 k, .pointer (some ⟨g, 0, none⟩)] w fun e w' => e = .returned (.tuple #[.int .u64 (tk8 (bs.take k)), .bool true]) ∧ Rdr w0 w' g (bs.drop k) ∧ Kq (fun j => j < w.heap.size ∧ j ≠ g) w w' := by
 have hR' := hide hR
 obtain ⟨hlo, ⟨v, hc, hv⟩, hfz, hbel⟩ := hR
 obtain ⟨b, off, cap, rfl, hcap, hbl⟩ := hv.form (by omega)
 have HV := hide hv
 have HB := hide (fun j (hj : j < bs.length) => hv.byte hj)
 have HY := hide hv.by
 have hl := hv.len
 have HC : Hid (∀ j, j < bs.length -> w.cell? ⟨b, off + j, none⟩ = some (.int .u8 (bs.getD j 0))) := fun j hj => (hbel.cell (p := ⟨b, off + j, none⟩) hbl).trans (hv.at_ hj).2.1
 have hgb : ¬ g = b := by omega
 clear hv
 go_enter Try.func58, Try.ntmps58
 go_wp2
 go_loop [3, 16] (fun vs vi => ∃ j : Nat, j <= k ∧ vi = .int .i64 j ∧ vs = .int .u64 (tk8 (bs.take j))) (fun _ vi => k - (intOf vi).toNat)
 case atStart => exact ⟨0, Nat.zero_le _, rfl, rfl⟩
 case round =>
  obtain ⟨j, hj, rfl, rfl⟩ := hrel
  by_cases hlt : j < k
  · have hck := HC.out j (by omega)
    obtain ⟨x0, x1⟩ := HB.out j (by omega)
    have HS := hide (tk8_step (bs := bs) (k := j) (by omega))
    obtain ⟨s0, s1⟩ := tk8_small HY.out (k := j) (by omega)
    have HO := hide (or_step s0 s1 x0 x1)
    generalize bs.getD j 0 = x at *
    generalize tk8 (bs.take j) = s at *
    go_wp2
    go_round
    case rel => exact ⟨j + 1, by omega, by go_num, by rw [HS.out, <- HO.out]⟩
    case measure => simp [intOf]; omega
  · obtain rfl : j = k := by omega
    by_cases he : bs.length = j
    · have R := hide (hR'.out.stored (rb_empty w0 ⟨b, off, none⟩ 0))
      have ed : bs.drop j = [] := by rw [<- he]; exact List.drop_length
      rw [<- ed] at R
      clear HV HB HY HC hR' ed
      go_wp2
      go_ret2
      exact ⟨rfl, R.out⟩
    · have R := hide (hR'.out.stored (HV.out.cut (o := j) (n := bs.length - j) (c := bs.length - j) (by omega) (Nat.le_refl _)))
      have ed : (bs.drop j).take (bs.length - j) = bs.drop j := List.take_of_length_le (by rw [List.length_drop]; exact Nat.le_refl _)
      rw [ed] at R
      clear HV HB HY HC hR' ed
      go_wp2
      go_ret2
      exact ⟨rfl, R.out⟩
end Go.Proofs.Ytaikhiodpieghaa
