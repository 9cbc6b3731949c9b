import Derived.Shelf.Sort.Plain
import Derived.Ground.Names2Prog
import Derived.Shelf.Slices.In.SortNone
import Derived.Test.YtipobchbnjgenaaGreatBWkrC
import Derived.Shelf.SlIterI.Sorted
set_option linter.unusedVariables false
set_option linter.unusedSimpArgs false
set_option maxRecDepth 100000
set_option maxHeartbeats 4000000
namespace Go.Proofs
open Go.Shelf
def Tryz.lays189_ren : Go.Shelf.Ren := ⟨fun | 189 => 87 | 125 => 112 | 257 => 111 | 128 => 154 | 129 => 155 | 294 => 145 | 295 => 146 | 296 => 147 | 297 => 148 | 298 => 149 | 299 => 150 | 216 => 151 | 300 => 152 | 301 => 153 | 328 => 179 | 329 => 180 | 330 => 181 | 331 => 182 | 332 => 183 | 215 => 184 | 343 => 193 | n => n, fun | 28 => 26 | 3 => 3 | 46 => 157 | 0 => 0 | 51 => 217 | 53 => 83 | 4 => 4 | 183 => 210 | 182 => 209 | 131 => 214 | 5 => 5 | 9 => 9 | 218 => 241 | 222 => 245 | 228 => 260 | 229 => 152 | n => n, fun | n => n⟩
theorem Tryz.lays189 : Go.Proofs.Lays.n189 Tryz.prog Tryz.lays189_ren := {
 mixed := by kernel_rfl
 f125 := Tryz.func112.trans (congrArg some (by kernel_rfl))
 f128 := Tryz.func154.trans (congrArg some (by kernel_rfl))
 f129 := Tryz.func155.trans (congrArg some (by kernel_rfl))
 f189 := Tryz.func87.trans (congrArg some (by kernel_rfl))
 f215 := Tryz.func184.trans (congrArg some (by kernel_rfl))
 f216 := Tryz.func151.trans (congrArg some (by kernel_rfl))
 f257 := Tryz.func111.trans (congrArg some (by kernel_rfl))
 f294 := Tryz.func145.trans (congrArg some (by kernel_rfl))
 f295 := Tryz.func146.trans (congrArg some (by kernel_rfl))
 f296 := Tryz.func147.trans (congrArg some (by kernel_rfl))
 f297 := Tryz.func148.trans (congrArg some (by kernel_rfl))
 f298 := Tryz.func149.trans (congrArg some (by kernel_rfl))
 f299 := Tryz.func150.trans (congrArg some (by kernel_rfl))
 f300 := Tryz.func152.trans (congrArg some (by kernel_rfl))
 f301 := Tryz.func153.trans (congrArg some (by kernel_rfl))
 f328 := Tryz.func179.trans (congrArg some (by kernel_rfl))
 f329 := Tryz.func180.trans (congrArg some (by kernel_rfl))
 f330 := Tryz.func181.trans (congrArg some (by kernel_rfl))
 f331 := Tryz.func182.trans (congrArg some (by kernel_rfl))
 f332 := Tryz.func183.trans (congrArg some (by kernel_rfl))
 f343 := Tryz.func193.trans (congrArg some (by kernel_rfl))
 t0 := Tryz.underlying0
 a0 := Tryz.isAgg0
 z0 := Tryz.sizeOf0
 v0 := Tryz.zeroValue0
 t3 := Tryz.underlying3
 a3 := Tryz.isAgg3
 z3 := Tryz.sizeOf3
 v3 := Tryz.zeroValue3
 t4 := Tryz.underlying4
 a4 := Tryz.isAgg4
 z4 := Tryz.sizeOf4
 v4 := Tryz.zeroValue4
 t5 := Tryz.underlying5
 a5 := Tryz.isAgg5
 z5 := Tryz.sizeOf5
 v5 := Tryz.zeroValue5
 t9 := Tryz.underlying9
 a9 := Tryz.isAgg9
 z9 := Tryz.sizeOf9
 v9 := Tryz.zeroValue9
 t28 := Tryz.underlying26
 a28 := Tryz.isAgg26
 z28 := Tryz.sizeOf26
 v28 := Tryz.zeroValue26
 t46 := Tryz.underlying157
 a46 := Tryz.isAgg157
 z46 := Tryz.sizeOf157
 v46 := Tryz.zeroValue157
 t51 := Tryz.underlying217
 a51 := Tryz.isAgg217
 z51 := Tryz.sizeOf217
 v51 := Tryz.zeroValue217
 t53 := Tryz.underlying83
 a53 := Tryz.isAgg83
 z53 := Tryz.sizeOf83
 v53 := Tryz.zeroValue83
 t131 := Tryz.underlying214
 a131 := Tryz.isAgg214
 z131 := Tryz.sizeOf214
 v131 := Tryz.zeroValue214
 t182 := Tryz.underlying209
 a182 := Tryz.isAgg209
 z182 := Tryz.sizeOf209
 v182 := Tryz.zeroValue209
 t183 := Tryz.underlying210
 a183 := Tryz.isAgg210
 z183 := Tryz.sizeOf210
 v183 := Tryz.zeroValue210
 t218 := Tryz.underlying241
 a218 := Tryz.isAgg241
 z218 := Tryz.sizeOf241
 v218 := Tryz.zeroValue241
 t222 := Tryz.underlying245
 a222 := Tryz.isAgg245
 z222 := Tryz.sizeOf245
 v222 := Tryz.zeroValue245
 t228 := Tryz.underlying260
 a228 := Tryz.isAgg260
 z228 := Tryz.sizeOf260
 v228 := Tryz.zeroValue260
 t229 := Tryz.underlying152
 a229 := Tryz.isAgg152
 z229 := Tryz.sizeOf152
 v229 := Tryz.zeroValue152 }
open Go.Sort Go.RowKit in
theorem Tryz.slices_Sort_int (blk off cap : Nat) (zs : List Int) (w : World) (hH : Holds (Value.int .i64) w blk off zs.toArray) (hblk : blk < w.heap.size) (hsz : zs.length < 4611686018427387904) :
 Calls Tryz.prog 87 #[.slice (some ⟨blk, off, none⟩) zs.length cap] w fun e w' =>
  e = .returned (.tuple #[]) ∧ ∃ n os, w' = grow (putRow (Value.int .i64) (Sort.ahead w n) blk off (zs.mergeSort fun x y => decide (x <= y)).toArray) os := Any.slices_Sort_int Tryz.lays189 blk off cap zs w hH hblk hsz
open Go.RowKit Go.Sort in
theorem Tryz.slices_Sort_int_none (p : Option Addr) (cap : Nat) (w : World) :
 Calls Tryz.prog 87 #[.slice p 0 cap] w fun e w' => e = .returned (.tuple #[]) ∧ w' = w := Any.slices_Sort_int_none Tryz.lays189 p cap w
end Go.Proofs
namespace Go.Proofs.YtipobchbnjgenaaGreat
open Go.RowKit Go.Maps Go.Sort Go.Shelf Fld Slp Pln
def keysR : Go.Shelf.Ren := ⟨fun | 7 => 56 | 10 => 88 | n => n, fun | 0 => 0 | 4 => 4 | 23 => 100 | 26 => 3 | 3 => 54 | 27 => 118 | 28 => 119 | 33 => 150 | n => n, fun | n => n⟩
theorem keysL : Go.Proofs.SlLaysZI.n7 Tryz.prog keysR := {
 mixed := by kernel_rfl
 f7 := ⟨Tryz.f56.name, by decide, Tryz.func56.trans (congrArg some (by kernel_rfl))⟩
 f10 := ⟨Tryz.f88.name, by decide, Tryz.func88.trans (congrArg some (by kernel_rfl))⟩
 t0 := Tryz.underlying0
 a0 := Tryz.isAgg0
 z0 := Tryz.sizeOf0
 v0 := Tryz.zeroValue0
 t4 := Tryz.underlying4
 a4 := Tryz.isAgg4
 z4 := Tryz.sizeOf4
 v4 := Tryz.zeroValue4
 t23 := Tryz.underlying100
 a23 := Tryz.isAgg100
 z23 := Tryz.sizeOf100
 v23 := Tryz.zeroValue100
 t26 := Tryz.underlying3
 a26 := Tryz.isAgg3
 z26 := Tryz.sizeOf3
 v26 := Tryz.zeroValue3
 t27 := Tryz.underlying118
 a27 := Tryz.isAgg118
 z27 := Tryz.sizeOf118
 v27 := Tryz.zeroValue118
 t28 := Tryz.underlying119
 a28 := Tryz.isAgg119
 z28 := Tryz.sizeOf119
 v28 := Tryz.zeroValue119
 t33 := Tryz.underlying150
 a33 := Tryz.isAgg150
 z33 := Tryz.sizeOf150
 v33 := Tryz.zeroValue150 }
def sortedR : Go.Shelf.Ren := ⟨fun | 6 => 55 | 8 => 86 | 9 => 87 | 11 => 110 | n => n, fun | 0 => 0 | 24 => 26 | 26 => 3 | 28 => 119 | 33 => 150 | n => n, fun | n => n⟩
theorem sortedL : Go.Proofs.SlLaysZI.n6 Tryz.prog sortedR := {
 mixed := by kernel_rfl
 f6 := ⟨Tryz.f55.name, by decide, Tryz.func55.trans (congrArg some (by kernel_rfl))⟩
 f8 := ⟨Tryz.f86.name, by decide, Tryz.func86.trans (congrArg some (by kernel_rfl))⟩
 f11 := ⟨Tryz.f110.name, by decide, Tryz.func110.trans (congrArg some (by kernel_rfl))⟩
 t0 := Tryz.underlying0
 a0 := Tryz.isAgg0
 z0 := Tryz.sizeOf0
 v0 := Tryz.zeroValue0
 t24 := Tryz.underlying26
 a24 := Tryz.isAgg26
 z24 := Tryz.sizeOf26
 v24 := Tryz.zeroValue26
 t26 := Tryz.underlying3
 a26 := Tryz.isAgg3
 z26 := Tryz.sizeOf3
 v26 := Tryz.zeroValue3
 t28 := Tryz.underlying119
 a28 := Tryz.isAgg119
 z28 := Tryz.sizeOf119
 v28 := Tryz.zeroValue119
 i26 := by kernel_rfl }
theorem sortsL (m : Nat) : AnyZI.SortsIn Tryz.prog sortedR Fence.wide m :=
 ⟨fun blk off cap ss W hH hblk hsz => callsIn_wide.2 (Tryz.slices_Sort_int blk off cap ss W hH hblk hsz), fun p cap W => callsIn_wide.2 (Tryz.slices_Sort_int_none p cap W)⟩
theorem rnd_sorted {w : World} {lo b n : Nat} {L : List (Int × List Int)} {D : DataW Value} (h1 : w.ownsMap Tryz.prog 3 tokR b n D) (h2 : ∀ r, has D (.int .i64 r) = (fndW L r).isSome) (hn : (L.map (·.1)).Nodup) {ss : List Int} (hp : ss.Perm (intKeys D)) : ss.mergeSort (fun x y => decide (x <= y)) = rndW L := by
 obtain ⟨r1, r2⟩ := rnd_facts L [] (by simp) hn (fun h hh hm => by cases hm)
 have r1 : (rndW L).Pairwise (· < ·) := r1
 have r2 : ∀ a, a ∈ rndW L ↔ ∃ h ∈ L, h.1 = a := fun a => (r2 a).trans (by simp)
 obtain ⟨es, eD, hes, _⟩ := h1.entries int_keyedW
 have hki : ∀ q ∈ es, ∃ x, q.1 = .int .i64 x := by
  obtain ⟨es', clock, _, F, _, e⟩ := h1
  rw [eD] at e
  injection e with e
  intro q hq
  rw [e] at hq
  obtain ⟨x, hx, rfl⟩ := List.mem_map.1 (mem_sorted.1 hq)
  obtain ⟨y, hy⟩ := F.reads x hx
  rw [WideElems.rg_of hy]
  obtain ⟨a, _, ha, _⟩ := keyOf_i64 Tryz.underlying3 (WideElems.rd_key hy)
  exact ⟨a, ha⟩
 have hpk : (rndW L).Perm (intKeys D) := by
  rw [eD]
  refine perm_intKeys hes hki (r1.imp (fun {a b} h => by omega)) (fun a => ?_)
  rw [r2, <- eD, h2]
  cases hf : fndW L a with
  | none => exact ⟨fun ⟨h, hh, e⟩ => absurd e (fnd_none.1 hf h hh), fun h => by cases h⟩
  | some v => exact ⟨fun _ => rfl, fun _ => ⟨_, fnd_mem hf, rfl⟩⟩
 have tr : ∀ a b c : Int, leI a b = true -> leI b c = true -> leI a c = true := fun a b c h1 h2 => by simp only [leI, decide_eq_true_eq] at *; exact Int.le_trans h1 h2
 have tot : ∀ a b : Int, (leI a b || leI b a) = true := fun a b => by simp only [leI, Bool.or_eq_true, decide_eq_true_eq]; exact Int.le_total a b
 refine List.Perm.eq_of_pairwise (le := fun a b => leI a b = true) (fun a b _ _ h1 h2 => ?_) (List.pairwise_mergeSort tr tot ss) (r1.imp (fun {a b} h => ?_)) (((List.mergeSort_perm ss leI).trans hp).trans hpk.symm)
 · simp only [leI, decide_eq_true_eq] at h1 h2
   exact Int.le_antisymm h1 h2
 · simp only [leI, decide_eq_true_eq]; omega
section
variable {w : World} {base kb mb g : Nat} {vo vu : Value} {p : Pn} {q : Pr} {id : Int} {st : Wk}
theorem gRounds24 (h : Wp w base kb mb g vo vu p q id st) (hn : (st.L.map (·.1)).Nodup) (hl : st.L.length <= 65536) :
 Calls Tryz.prog 18 #[.pointer (some ⟨kb, 0, none⟩)] w fun e w' => ∃ v, e = .returned v ∧ w'.ownsRow w.heap.size 3 1 v (rndW st.L).length ((rndW st.L).map (Value.int .i64)) ∧ Below w.heap.size w w' := by
 have HM := hide (gMade h)
 obtain ⟨_, _, k13, _⟩ := h.cells
 obtain ⟨D, h1, h2, _⟩ := h.map
 have hsz := h1.size_le
 have hbl := h1.lt
 have hown2 : (w.alloc (.cells #[.map (some mb)] 100)).ownsMap Tryz.prog 3 tokR mb st.L.length D := ownsMap_kq h1 (Below.kq (alloc_below w _) (S := fun j => j < w.heap.size) (fun j hj => hj)) hbl
 have hseq : SeqGives Fence.wide 2 Tryz.prog 88 #[.pointer (some ⟨w.heap.size, 0, none⟩)] encZ (fun ss => ss.Perm (intKeys D)) (Maps.size D) (w.alloc (.cells #[.map (some mb)] 100)) :=
  AnyZI.keys_gives (ρ := keysR) { keysL with } Fence.wide _ trivial rfl (by omega) w.heap.size mb st.L.length D _ (by simp) (by simp) hown2
 have cK : ∀ mb W, CallsIn Fence.wide 5 Tryz.prog 56 #[.map mb] W fun e w' => e = .returned (.func (.func 88) #[] #[.pointer (some ⟨W.heap.size, 0, none⟩)]) ∧ w' = W.alloc (.cells #[.map mb] 100) := fun mb W => AnyZI.keys_in keysL Fence.wide 5 trivial rfl mb W
 have cS := AnyZI.sorted_in sortedL Fence.wide 5 trivial trivial trivial trivial rfl (by omega) (sortsL _) (enters_of Tryz.func87 (by kernel_rfl) rfl) 88 #[.pointer (some ⟨w.heap.size, 0, none⟩)] trivial (enters_of Tryz.func88 (by kernel_rfl) rfl) _ _ (by unfold maxLen; omega) (by omega) _ hseq
 change CallsIn _ _ Tryz.prog 55 _ _ _ at cS
 have HK := hide (callsIn_wide.1 (cK (some mb) w))
 have HS := hide (callsIn_wide.1 cS)
 have HR := hide (fun ss hp => rnd_sorted (lo := 0) h1 h2 hn (ss := ss) hp)
 clear h h1 h2 hsz hbl hown2 hseq cK cS hn hl
 generalize rndW st.L = rs at *
 go_enter Tryz.func18, Tryz.ntmps18
 go_wp2_with (first
  | (go_at_call 49; refine HM.out.mono ?_; rintro e w1 ⟨rfl, hw1⟩; rw [hw1]; clear hw1)
  | (go_at_call 56; refine HK.out.mono ?_; rintro e w2 ⟨rfl, hw2⟩; rw [hw2]; clear hw2)
  | (go_at_call 55; refine HS.out.mono ?_; rintro e w3 ⟨v, ss, rfl, hP, hrow, hnil, hb⟩; have hl3 := List.length_mergeSort ss (le := fun x y : Int => decide (x <= y)); rw [HR.out ss hP] at hrow hl3; rw [<- hl3] at hrow; obtain ⟨a3, c3, rfl⟩ := own_form hrow; clear hnil hl3))
 go_ret
 exact ⟨_, rfl, own_mono hrow (by simp), (alloc_below w _).trans (hb.mono (by simp))⟩
end
end Go.Proofs.YtipobchbnjgenaaGreat
