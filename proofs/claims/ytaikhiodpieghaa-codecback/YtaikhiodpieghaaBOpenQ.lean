import Derived.Test.YtaikhiodpieghaaBunO
import Derived.Test.YtaikhiodpieghaaBCdcB
import Derived.Lib.SmallJoins
set_option linter.unusedVariables false
set_option linter.unusedSimpArgs false
set_option maxRecDepth 100000
set_option maxHeartbeats 4000000
namespace Go.Proofs.Ytaikhiodpieghaa
open Go.ChangeShapes Go.WideShapes Go.ChangeAt Go.RowKit Fld
theorem list_five {α : Type} {cs : List α} (h : cs.length = 5) : ∃ c0 c1 c2 c3 c4, cs = [c0, c1, c2, c3, c4] := by
 match cs, h with
 | [c0, c1, c2, c3, c4], _ => exact ⟨c0, c1, c2, c3, c4, rfl⟩
theorem open_msg {H : Type} {enc : TypeId × Value -> H} {W : World} {v : Value} {d : DataW H} {p : List MemPlace} {r : Reach} {b0 : Nat}
 (hv : Value.okWide Try.prog W r b0 26 v) (h : DataW.Trod enc Try.prog W 0 (fun _ => true) true 26 v d p)
 (hsz : ∀ n ∈ d.weights Try.prog 26, n <= 140737488351232) : ∃ m s, v = mgv m s ∧ Mw W m s := by
 have hC : Try.prog.cellsOf 26 = 5 := by kernel_rfl
 obtain ⟨cs, rfl, hs⟩ := okWide_struct Try.underlying26 hv
 obtain ⟨fuel, hf⟩ := h
 obtain ⟨c0, c1, c2, c3, c4, hcs⟩ := list_five (cs := cs.toList) (by rw [Array.length_toList]; exact hs.trans hC)
 have hcs2 : cs = #[c0, c1, c2, c3, c4] := by rw [<- Array.toList_inj, hcs]
 subst hcs2
 obtain ⟨xs, n, _, hx, _, hlen, hg⟩ := DataW.trod_struct Try.underlying26 hf
 have h5 : xs.length = 5 := hlen
 obtain ⟨y0, y1, y2, y3, y4, rfl⟩ := list_five h5
 have k0 : Try.prog.cellsOf 22 = 1 := by kernel_rfl
 have k1 : Try.prog.cellsOf 3 = 1 := by kernel_rfl
 have k3 : Try.prog.cellsOf 23 = 1 := by kernel_rfl
 have k4 : Try.prog.cellsOf 24 = 1 := by kernel_rfl
 have h0 := hg 0 _ rfl
 have h1 := hg 1 _ rfl
 have h2 := hg 2 _ rfl
 have h3 := hg 3 _ rfl
 have h4 := hg 4 _ rfl
 simp [k0, k1, k3, k4, Value.cells] at h0 h1 h2 h3 h4
 obtain ⟨n0, e0, _, w0⟩ := DataW.trod_int Try.underlying22 h0
 obtain ⟨n1, e1, _, w1⟩ := DataW.trod_int Try.underlying3 h1
 obtain ⟨n2, e2, _, w2⟩ := DataW.trod_int Try.underlying3 h2
 obtain ⟨n3, e3, _, w3⟩ := DataW.trod_int Try.underlying23 h3
 simp at e0 e1 e2 e3
 subst e0 e1 e2 e3
 have hb : Try.prog.bytesOf 48 = 8 := by kernel_rfl
 have hd : d = .agg ([y0, y1, y2, y3, y4].map (·.1)) := congrArg Prod.fst hx
 obtain ⟨zs, r0⟩ := open_part h4 (fun elems spare he => by
  have := hsz ((elems.length + spare.length) * Try.prog.bytesOf 48) (by
   rw [hd]
   simp only [DataW.weights, Try.underlying26]
   simp [DataW.weightsEach]
   rw [he]; simp [DataW.weights, Try.underlying24])
  rw [hb] at this; exact this)
 exact ⟨⟨n0, n1, n2, n3, zs⟩, c4, rfl, ⟨bounds_u8 w0, bounds_i64 w1, bounds_i64 w2, bounds_u8 w3⟩, r0.1⟩
end Go.Proofs.Ytaikhiodpieghaa
