/-
  Lists of lists copied: the document's CopyRows, at any length.
-/
import Derived.Test.YtnjcljnijgkoiaaGreatBTreB
import Derived.Test.YtnjcljnijgkoiaaGreatBunW
namespace Go.Proofs.YtnjcljnijgkoiaaGreat
open Go.RowKit Fld
set_option linter.unusedVariables false
set_option linter.unusedSimpArgs false

theorem sl_infoC : (Tryz.prog.info? 33).map (fun i => (i.zero, i.size, i.bytes)) = some (some (.slice none 0 0), 1, 24) := by kernel_rfl
theorem lss_hereC {w : World} {lo hi : Nat} {v : Value} {us : List Value} {xss : List (List Int)} (h : Lss w lo hi v us xss) : Lss w lo w.heap.size v us xss :=
  ⟨h.row, h.each, h.from_, fun i g hg => by
    by_cases hi' : i < xss.length
    · exact own_top (h.each i hi') g hg
    · have : us.getD i nov = nov := by
        rw [List.getD_eq_getElem?_getD, List.getElem?_eq_none (by have := h.len; omega)]; rfl
      rw [this] at hg; simp [nov, Value.ownBlock] at hg, h.up⟩

set_option maxRecDepth 100000 in
set_option maxHeartbeats 400000 in
theorem CopyRows_all (v : Value) (xss : List (List Int)) (w : World) (h1 : Rws w v xss) (hl : xss.length ≤ 5864062014634) :
    Calls Tryz.prog 20 #[v] w fun e w' => ∃ v' us, e = .returned v' ∧ Lss w' w.heap.size w'.heap.size v' us xss ∧ Below w.heap.size w w' := by
  obtain ⟨i0, hi0, hz0, hz1, hz2⟩ := info_parts sl_infoC
  obtain ⟨ao, cap, rfl, hlen, hcap, hc⟩ := h1
  go_enter Tryz.func20, Tryz.ntmps20
  go_wp2
  go_loopw [3, 4] (fun vo vi wr => ∃ (k : Nat) (us : List Value), k ≤ xss.length ∧ vi = .int .i64 k ∧ Hid (Lss wr w.heap.size wr.heap.size vo us (xss.take k)) ∧ Below w.heap.size w wr) (fun _ vi _ => xss.length - (intOf vi).toNat)
  case atStart => exact ⟨0, [], Nat.zero_le _, rfl, Lss.nil _ _ _, Below.refl _ _⟩
  case round =>
    obtain ⟨k, us, hk, rfl, HL, hB⟩ := hrel
    by_cases hlt : k < xss.length
    · obtain ⟨b, off, rfl, hbl, hcell⟩ := hc (by intro h; rw [h] at hlt; simp at hlt)
      obtain ⟨u, hu, hR⟩ := hcell k hlt
      have hck := (hB.cell (p := ⟨b, off + k, none⟩) hbl).trans hu
      have hcp := hide (Copy_any u _ wr (hR.below hB).1)
      have HS : Hid (xss.take k ++ [xss.getD k []] = xss.take (k + 1)) := by
        show _ = _
        rw [List.take_succ_eq_append_getElem hlt, List.getD_eq_getElem?_getD, List.getElem?_eq_getElem hlt]; rfl
      have hml : (xss.take k).length = k := by simp; omega
      obtain ⟨au, cu, rfl, _⟩ := hR.spell
      generalize xss.getD k [] = fx at *
      generalize xss.take k = lss at *
      have k0 : (0 : Int) ≤ (k : Int) := by omega
      have k1 : (k : Int) < (xss.length : Int) := by omega
      clear hcell hc hR hu
      go_wp2_with (first
        | (go_at_call 44; refine hcp.out.mono ?_; rintro e w3 ⟨vr, rfl, hor, hb3⟩; obtain ⟨ar, cr, rfl⟩ := own_form hor; have HL3 := hide (HL.out.below hb3); have hsz3 := hb3.size; have hbs := hB.size)
        | (at_builtin; refine wpList_append_lies _ rfl _ _ _ rfl w.heap.size 33 i0 _ 1 24 Tryz.underlying25 hi0 hz0 hz1 hz2 rfl (by omega) u3 lss.length us rfl (HL3.out.row.alloc _) ⟨w3.heap.size, 0, none⟩ 1 1 [.slice ar fx.length cr] rfl rfl (World.news_of_block (cs := #[.slice ar fx.length cr]) (t := 33) (fr := (0, 0)) (heap_alloc_new w3 _)) (by simp [Value.oneCell']) (by omega) (by unfold maxLen; omega) (by omega) (by simp; omega) (w3.heap.size + 1) (by simp) ?_; intro gg cap2 w4 hown4 hgrow hat hltg))
      have hB3 := Below.next hB hb3
      have R := hide (HL3.out.push (w := w) (H := wr.heap.size) (Nat.le_refl _) hbs (Nat.le_refl _) hB3 hor hown4 hgrow)
      clear hown4 hgrow hat hltg HL HL3 hor
      rw [HS.out, hml] at R
      go_roundw
      case rel => exact ⟨k + 1, _, by omega, by go_num, lss_hereC R.out.1, R.out.2⟩
      case measure => simp [intOf]; omega
    · obtain rfl : k = xss.length := by omega
      rw [List.take_length] at HL
      clear hc
      go_wp2
      go_ret
      exact ⟨_, us, rfl, HL.out, hB⟩

end Go.Proofs.YtnjcljnijgkoiaaGreat
