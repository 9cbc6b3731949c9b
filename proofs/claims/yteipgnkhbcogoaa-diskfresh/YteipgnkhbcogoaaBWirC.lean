import Derived.Test.YteipgnkhbcogoaaBByA
import Derived.Test.YteipgnkhbcogoaaBWirB
set_option linter.unusedVariables false
set_option linter.unusedSimpArgs false
set_option maxRecDepth 100000
set_option maxHeartbeats 4000000
namespace Go.Proofs.Yteipgnkhbcogoaa
open Go.RowKit Fld
theorem u8_info : (Try.prog.info? 5).map (fun i => (i.zero, i.size, i.bytes)) = some (some (.int .u8 0), 1, 1) := by kernel_rfl
theorem nums_inj : ∀ {xs ys : List Int}, By xs -> By ys -> xs.map (fun n => UInt8.ofNat n.toNat) = ys.map (fun n => UInt8.ofNat n.toNat) -> xs = ys
 | [], [], _, _, _ => rfl
 | [], y :: ys, _, _, h => by simp at h
 | x :: xs, [], _, _, h => by simp at h
 | x :: xs, y :: ys, hx, hy, h => by
  simp only [List.map_cons, List.cons.injEq] at h
  have h1 := hx x List.mem_cons_self
  have h2 := hy y List.mem_cons_self
  have e : x = y := by
   have := congrArg UInt8.toNat h.1
   rw [UInt8.toNat_ofNat', UInt8.toNat_ofNat'] at this
   rw [Nat.mod_eq_of_lt (by omega), Nat.mod_eq_of_lt (by omega)] at this
   omega
  rw [e, nums_inj hx.tail hy.tail h.2]
theorem str_same {xs ys : List Int} (hx : By xs) (hy : By ys) : ((strOfNums xs).toList == (strOfNums ys).toList) = decide (xs = ys) := by
 rw [ByteArray.toList_eq, ByteArray.toList_eq, strOfNums_data, strOfNums_data]
 by_cases h : xs = ys
 · subst h; simp
 · rw [decide_eq_false h, beq_eq_false_iff_ne]
   intro h2
   exact h (nums_inj hx hy h2)
theorem rb_str {w : World} {v : Value} {bs : List Int} (h : Rb w v bs) : (convert 43 9 v).run Try.prog w = .ok (.string (strOfNums bs)) w := by
 obtain ⟨ao, cap, rfl, _, _, hc⟩ := h
 by_cases h0 : bs = []
 · subst h0
   rw [run_convert_bytes_string w 43 9 5 ao [].length cap Try.underlying43 Try.underlying5 Try.underlying9]
   cases ao with
   | none => simp [Conv.bytesToString]; rfl
   | some ad =>
    have := run_bytesToString (P := Try.prog) w ad 0 cap [] (by have := run_loadCells_list (P := Try.prog) w ad [] (fun j v hj => by simp at hj); simpa using this)
    show (Conv.bytesToString (.slice (some ad) 0 cap)).run Try.prog w = _
    rw [this]; rfl
 · obtain ⟨b, off, rfl, _, hcell⟩ := hc h0
   exact run_convert_bytes_arg (P := Try.prog) w 43 5 Try.underlying43 Try.underlying5 b off bs.length cap bs rfl hcell 9 Try.underlying9
theorem rSame8 (v u : Value) (xs ys : List Int) (w : World) (h1 : Rb w v xs) (h2 : Rb w u ys) :
 Calls Try.prog 21 #[v, u] w fun e w' => e = .returned (.bool (decide (xs = ys))) ∧ w' = w := by
 have c1 := rb_str h1
 have c2 := rb_str h2
 have HS := hide (str_same h1.by h2.by)
 obtain ⟨a1, k1, rfl, _⟩ := h1.spell
 obtain ⟨a2, k2, rfl, _⟩ := h2.spell
 clear h1 h2
 go_enter Try.func21, Try.ntmps21
 go_wp2
 go_ret
 exact ⟨by rw [<- HS.out]; rfl, rfl⟩
end Go.Proofs.Yteipgnkhbcogoaa
