import Derived.Test.YtjhididlcdepdaaGreatBunQ
import Derived.Lib.AppendZerosOnto
set_option linter.unusedVariables false
set_option linter.unusedSimpArgs false
set_option maxRecDepth 100000
set_option maxHeartbeats 4000000
namespace Go.Proofs.YtjhididlcdepdaaGreat
open Go.RowKit Fld
theorem zeros_list (v : Value) (k : Nat) : (Builtin.zeroCells #[v] k).toList = List.replicate k v := by
 rw [List.eq_replicate_iff]
 constructor
 · simp [Builtin.zeroCells]
 · intro b hb
   simp [Builtin.zeroCells, Nat.mod_one] at hb
   exact hb.2.symm
theorem run_room_zeros {P : Program} (w : World) (t tn ty e : TypeId) (i : TypeInfo) (z : Value) (kq kn : IntKind) (ht : P.underlying t = some (.slice e)) (htn : P.underlying tn = some (.int kn)) (hi : P.info? e = some i) (hz : i.zero = some z)
 (g sLen sCap : Nat) (cur : Array Value) (hg : w.heap[g]? = some (.cells cur e (0, 0))) (k : Nat) (h0 : 0 < k) (hs : 0 < i.size) (h1 : ∀ u ∈ (Builtin.zeroCells z.cells k).toList, u.oneCell' = true) (h63 : (k : Int) <= 9223372036854775807) (h48 : k * i.bytes <= 281474976710656)
 (hroom : sLen + k <= sCap) (hfit : sLen * i.size + (Builtin.zeroCells z.cells k).toList.length <= cur.size) :
 (Builtin.append_ #[t, tn] ty #[.slice (some ⟨g, 0, none⟩) sLen sCap, .int kq k]).run P w =
  .ok (.slice (some ⟨g, 0, none⟩) (sLen + k) sCap) (w.setRow g (cur.toList.take (sLen * i.size) ++ (Builtin.zeroCells z.cells k).toList ++ cur.toList.drop (sLen * i.size + (Builtin.zeroCells z.cells k).toList.length)).toArray) := by
 have hk : k ≠ 0 := by omega
 have hw : IntKind.i64.wrap (k : Int) = k := by rw [IntKind.wrap_i64]; omega
 have h48i : ¬ (281474976710656 < (k : Int) * (i.bytes : Int)) := by
  rw [<- Int.natCast_mul]
  omega
 have hneg : ¬ ((k : Int) < 0) := by omega
 have hns : ¬ (k * i.size = 0) := Nat.mul_ne_zero hk (by omega)
 have hst := run_storeCells_at P g (sLen * i.size) e (Builtin.zeroCells z.cells k).toList 0 cur w hg (by simpa using hfit) h1
 simp only [Nat.add_zero] at hst
 simp [Builtin.append_, run_underlying ht, run_underlying htn, sizeOf, typeInfo, zeroValue, hi, hz, asInt, asIntOf, hw, hneg, hns, h48i, hroom, Addr.add_lit]
 rw [hst]
 simp
theorem run_zeros_own {P : Program} (w : World) (base : Nat) (t tn ty e : TypeId) (i : TypeInfo) (z : Value) (bytes : Nat) (kq kn : IntKind) (ht : P.underlying t = some (.slice e)) (htn : P.underlying tn = some (.int kn)) (hi : P.info? e = some i) (hz : i.zero = some z)
 (hsize : i.size = 1) (hby : i.bytes = bytes) (u : Value) (hzu : z.cells = #[u]) (hu1 : u.oneCell' = true)
 (g n cap : Nat) (xs : List Value) (hown : w.ownsRow base e 1 (.slice (some ⟨g, 0, none⟩) n cap) n xs) (k : Nat) (h0 : 0 < k) (h63 : n + k <= maxLen) (hbytes : (n + k) * bytes <= 140737488355328) (hbase : base <= w.heap.size) :
 ∃ g' cap' w', (Builtin.append_ #[t, tn] ty #[.slice (some ⟨g, 0, none⟩) n cap, .int kq k]).run P w = .ok (.slice (some ⟨g', 0, none⟩) (n + k) cap') w' ∧ w'.ownsRow base e 1 (.slice (some ⟨g', 0, none⟩) (n + k) cap') (n + k) (xs ++ List.replicate k u) ∧ w.grownBy w' (some g) := by
 subst hby
 have hl : (Builtin.zeroCells z.cells k).toList = List.replicate k u := by rw [hzu]; exact zeros_list u k
 have hsmall : n + k <= 9223372036854775807 := by simp only [maxLen] at h63; omega
 have hlen : (xs ++ List.replicate k u).length = (n + k) * 1 := by rw [List.length_append, hown.1, List.length_replicate]; omega
 have hkb : k * i.bytes <= 140737488355328 := Nat.le_trans (Nat.mul_le_mul_right _ (by omega)) hbytes
 rcases hown.2 with ⟨h, _⟩ | ⟨g1, cap1, cur, h, hbg, hg, hnc, hcm, hcs, htake⟩
 · cases h
 cases h
 by_cases hroom : n + k <= cap
 · have hfit : n * i.size + (Builtin.zeroCells z.cells k).toList.length <= cur.size := by rw [hl, List.length_replicate, hsize, hcs]; omega
   have hr := run_room_zeros (P := P) w t tn ty e i z kq kn ht htn hi hz g n cap cur hg k h0 (by omega) (by rw [hl]; intro x hx; rw [List.eq_of_mem_replicate hx]; exact hu1) (by omega) (by omega) hroom hfit
   rw [hl, hsize, List.length_replicate] at hr
   refine ⟨g, cap, _, hr, ⟨hlen, .inr ⟨g, cap, _, rfl, hbg, setRow_heap w g cur _ e _ hg, hroom, hcm, ?_, ?_⟩⟩, ⟨rfl, rfl, rfl, by simp, fun j _ hj => setRow_other w g j _ (fun e => hj (by simp [e]))⟩⟩
   · simp only [List.size_toArray, List.length_append, List.length_take, List.length_drop, Array.length_toList, List.length_replicate]
     omega
   · rw [htake, <- hlen]
     exact List.take_left
 · have holds : ∀ j u, xs[j]? = some u -> w.drew.cell? ((⟨g, 0, none⟩ : Addr).add j) = some u := hown.cells (g := g) rfl
   have hold := run_firstCells_some (P := P) w.drew i.size n ⟨g, 0, none⟩ n cap xs (by rw [hsize]; exact hown.1) holds
   have hr := Lib.run_append_grow_zeros (P := P) w t tn ty e i z kq kn ht htn hi hz (some ⟨g, 0, none⟩) n cap xs hold k h0 (by omega) (by omega) (by omega) (by omega) (growslice_fits (by omega) hbytes)
   have hge := grownCap_ge w (n + k) cap e
   have hcm2 : grownCap w (n + k) cap e <= maxLen := grownCap_le_maxLen w (n + k) cap e h63
   refine ⟨w.heap.size, _, _, hr, ⟨hlen, .inr ⟨w.heap.size, _, _, rfl, hbase, heap_alloc_new w.drew _, hge, hcm2, ?_, ?_⟩⟩, ⟨rfl, rfl, rfl, by simp, fun j hj _ => heap_alloc_old w.drew _ hj⟩⟩
   · simp only [Array.size_append, List.size_toArray, size_zeroCells, hzu, hown.1]
     simp
     omega
   · simp only [Array.toList_append, List.append_assoc]
     rw [hl, <- List.append_assoc, <- hlen]
     exact List.take_left
end Go.Proofs.YtjhididlcdepdaaGreat
