import Derived.Test.YtjhididlcdepdaaGreatBunAT
import Derived.Test.YtjhididlcdepdaaGreatBPlrA
import Derived.Test.YtjhididlcdepdaaGreatBunIC
set_option linter.unusedVariables false
set_option linter.unusedSimpArgs false
set_option maxRecDepth 100000
set_option maxHeartbeats 4000000
namespace Go.Proofs.YtjhididlcdepdaaGreat
open Go.RowKit Fld Pln
theorem dFrom (a n : Int) (w : World) (ha : 0 ≤ a) (hn : 0 ≤ n) (han : a + n ≤ 1000) : Calls Tryz.prog 65 #[.int .i64 a, .int .i64 n] w fun e w' => ∃ v, e = .returned v ∧ w'.ownsRow w.heap.size 64 1 v (pts a n.toNat).length (vals (pts a n.toNat)) ∧ Below w.heap.size w w' := by
 obtain ⟨i0, hi0, hz0, hz1, hz2⟩ := info_parts u64_info
 obtain ⟨N, rfl⟩ : ∃ N : Nat, n = N := ⟨n.toNat, by omega⟩
 rw [Int.toNat_natCast]
 go_enter Tryz.func65, Tryz.ntmps65
 go_wp2_with fail
 go_loopw [5, 6] (fun vl vi wr => ∃ (k : Nat) (ao : Option Addr) (cap : Nat), k ≤ N ∧ vi = .int .i64 k ∧ vl = .slice ao k cap ∧ Hid (wr.ownsRow w.heap.size 64 1 (.slice ao k cap) k (vals (pts a k))) ∧ Below w.heap.size w wr) (fun _ vi _ => N - (intOf vi).toNat)
 case atStart => exact ⟨0, none, 0, Nat.zero_le _, rfl, rfl, World.ownsRow_nil _ _ _ _, Below.refl _ _⟩
 case round =>
  obtain ⟨k, ao, cap, hk, rfl, rfl, HO, hB⟩ := hrel
  by_cases hlt : k < N
  · have hsz := hB.size
    go_wp2_with (at_builtin; refine wpList_append_own _ rfl _ _ 36 rfl w.heap.size 64 i0 (.int .u64 0) 1 8 Tryz.underlying36 hi0 hz0 hz1 hz2 rfl (by decide) _ k (vals (pts a k)) rfl (own_below HO.out (alloc_below wr _)) ⟨wr.heap.size, 0, none⟩ 1 1 [.int .u64 (a + (k : Int))] rfl rfl (cell_one_new _ _ _) (by simp [Value.oneCell']) (by unfold maxLen; omega) (by omega) (by simp; omega) ?_; intro v' w3 hown3 hg3 hnil3; clear hnil3; obtain ⟨a3, k3, rfl⟩ := own_form hown3)
    have HO3 : Hid (w3.ownsRow w.heap.size 64 1 (.slice a3 (k + 1) k3) (k + 1) (vals (pts a (k + 1)))) := by
     show World.ownsRow _ _ _ _ _ _ _
     rw [pts_succ, show vals (pts a k ++ [a + (k : Int)]) = vals (pts a k) ++ [.int .u64 (a + (k : Int))] by simp [vals]]
     exact hown3
    have hB3 : Below w.heap.size w w3 := (Below.next hB (alloc_below wr _)).grown hg3 (by simp; omega) (fun j e => own_base HO.out j e)
    clear hown3 hg3
    go_roundw
    case rel => exact ⟨k + 1, a3, k3, by omega, by go_num, rfl, HO3, hB3⟩
    case measure => simp [intOf]; omega
  · obtain rfl : k = N := by omega
    go_wp2
    go_ret
    exact ⟨_, rfl, by rw [pts_len]; exact HO.out, hB⟩
theorem dInner (p : Pn) (w : World) (h : mayP p = true) : Calls Tryz.prog 110 #[plv p] w fun e w' => ∃ v, e = .returned v ∧ w'.ownsRow w.heap.size 64 1 v (innL p).length (vals (innL p)) ∧ Below w.heap.size w w' := by
 obtain ⟨_, ⟨k0, k1⟩, ⟨t0, t1⟩, _⟩ := may_facts h
 have HR := hide (fun W => dFrom 0 (p.k + p.t) W (by omega) (by omega) (by omega))
 rw [show pts 0 (p.k + p.t).toNat = innL p from rfl] at HR
 obtain ⟨pb, hA⟩ := pb_box (w := w) p
 obtain ⟨c0, c1, c2, c3, c4, c5, c6, c7⟩ := pb.cells
 generalize innL p = xs at *
 unfold plv plw at *
 clear h
 go_enter Tryz.func110, Tryz.ntmps110
 go_wp2_with (go_at_call 65; refine (HR.out _).mono ?_; rintro e w1 ⟨v1, rfl, hO1, hb1⟩)
 go_ret
 exact ⟨_, rfl, own_mono hO1 hA.size, Below.next hA hb1⟩
theorem dOuter (p : Pn) (w : World) (h : mayP p = true) : Calls Tryz.prog 32 #[plv p] w fun e w' => ∃ v, e = .returned v ∧ w'.ownsRow w.heap.size 64 1 v (outL p).length (vals (outL p)) ∧ Below w.heap.size w w' := by
 obtain ⟨⟨n0, n1⟩, ⟨k0, k1⟩, ⟨t0, t1⟩, _⟩ := may_facts h
 have HR := hide (fun W => dFrom (p.k + p.t) p.n W (by omega) (by omega) (by omega))
 rw [show pts (p.k + p.t) p.n.toNat = outL p from rfl] at HR
 obtain ⟨pb, hA⟩ := pb_box (w := w) p
 obtain ⟨c0, c1, c2, c3, c4, c5, c6, c7⟩ := pb.cells
 generalize outL p = xs at *
 unfold plv plw at *
 clear h
 go_enter Tryz.func32, Tryz.ntmps32
 go_wp2_with (go_at_call 65; refine (HR.out _).mono ?_; rintro e w1 ⟨v1, rfl, hO1, hb1⟩)
 go_ret
 exact ⟨_, rfl, own_mono hO1 hA.size, Below.next hA hb1⟩
end Go.Proofs.YtjhididlcdepdaaGreat
