import Derived.Test.YteipgnkhbcogoaaBLawWD
set_option linter.unusedVariables false
set_option linter.unusedSimpArgs false
set_option maxRecDepth 100000
set_option maxHeartbeats 4000000
namespace Go.Proofs.Yteipgnkhbcogoaa
open Go.RowKit Fld
def Yr (w : World) (q cap : Nat) : Prop := q < w.heap.size ∧ ∀ j, j < cap -> (∃ x, w.cell? ⟨q, j, none⟩ = some (.int .u8 x)) ∧ w.frozen? ⟨q, j, none⟩ = false
theorem Yr.kept {w w' : World} {q cap : Nat} (h : Yr w q cap) (hs : w.heap.size <= w'.heap.size) (hb : w'.heap[q]? = w.heap[q]?) : Yr w' q cap :=
 ⟨by have := h.1; omega, fun j hj => ⟨by
  obtain ⟨x, hx⟩ := (h.2 j hj).1
  exact ⟨x, (World.cell?_of_block (a := ⟨q, j, none⟩) hb).trans hx⟩, (World.frozen?_of_block (a := ⟨q, j, none⟩) hb).trans (h.2 j hj).2⟩⟩
theorem Yr.alloc {w : World} {q cap : Nat} (h : Yr w q cap) (o : Obj) : Yr (w.alloc o) q cap := h.kept (alloc_below w o).size ((alloc_below w o).block q h.1)
theorem Yr.set {w : World} {q cap : Nat} (h : Yr w q cap) (k : Nat) (x : Int) : Yr (w.setCell ⟨q, k, none⟩ (.int .u8 x)) q cap := by
 refine ⟨by simp; exact h.1, fun j hj => ⟨?_, by rw [World.frozen?_setCell]; exact (h.2 j hj).2⟩⟩
 obtain ⟨y, hy⟩ := (h.2 j hj).1
 by_cases e : k = j
 · subst e; exact ⟨x, World.cell?_setCell_same _ _ _ hy⟩
 · exact ⟨y, (World.cell?_setCell_other _ _ _ _ (by simp [e])).trans hy⟩
theorem grown_set (w : World) (q k : Nat) (x : Value) : w.grownBy (w.setCell ⟨q, k, none⟩ x) (some q) := ⟨rfl, rfl, rfl, by simp, fun j hj hne => Below.heap_setCell _ _ _ j (fun e => hne (by rw [e]))⟩
theorem Yr.vals {w : World} {q cap : Nat} (h : Yr w q cap) : ∀ n, n <= cap -> ∃ ys : List Int, ys.length = n ∧ ∀ j u, (valb ys)[j]? = some u -> w.cell? ⟨q, 0 + j, none⟩ = some u
 | 0, _ => ⟨[], rfl, fun j u hu => by simp [valb] at hu⟩
 | n + 1, hn => by
  obtain ⟨ys, h1, h2⟩ := h.vals n (by omega)
  obtain ⟨x, hx⟩ := (h.2 n (by omega)).1
  refine ⟨ys ++ [x], by simp [h1], fun j u hu => ?_⟩
  have e : valb (ys ++ [x]) = valb ys ++ [.int .u8 x] := by simp [valb]
  rw [e] at hu
  by_cases hj : j < n
  · rw [List.getElem?_append_left (by rw [valb_length]; omega)] at hu
    exact h2 j u hu
  · rw [List.getElem?_append_right (by rw [valb_length]; omega), valb_length, h1] at hu
    have hjn : j = n := by
     have := (List.getElem?_eq_some_iff.1 hu).1
     simp at this; omega
    subst hjn
    rw [Nat.sub_self] at hu
    simp at hu
    rw [Nat.zero_add, hx, hu]
theorem SpoilY {w : World} {q n cap : Nat} (m : Int) (m0 : 0 <= m) (m1 : m <= 255) (hR : Yr w q cap) (hfit : n <= cap) (hn : n <= 2097152) :
 Calls Try.prog 22 #[.slice (some ⟨q, 0, none⟩) n cap, .int .u8 m] w fun e w' => e = .returned (.tuple #[]) ∧ w.grownBy w' (some q) := by
 obtain ⟨i0, hi0, hz0, hz1, hz2⟩ := info_parts u8_info
 have hq := hR.1
 go_enter Try.func22, Try.ntmps22
 go_wp2
 go_loopw [4] (fun vi wr => ∃ (k : Nat), k <= n ∧ vi = .int .i64 k ∧ Yr wr q cap ∧ w.grownBy wr (some q)) (fun vi _ => n - (intOf vi).toNat)
 case atStart => exact ⟨0, Nat.zero_le _, rfl, hR, grown_refl _ _⟩
 case round =>
  clear hR
  obtain ⟨k, hk, rfl, hR, hG⟩ := hrel
  by_cases hlt : k < n
  · obtain ⟨⟨y, hck⟩, hfr⟩ := hR.2 k (by omega)
    go_wp2
    go_roundw
    case rel => exact ⟨k + 1, by omega, by go_num, hR.set _ _, grown_trans hG (grown_set _ _ _ _)⟩
    case measure => simp [intOf]; omega
  · have hGs := hG.size
    have hRa := hR.alloc (.cells #[.int .u8 m, .int .u8 m, .int .u8 m] 5)
    obtain ⟨ys, hy1, hy2⟩ := hRa.vals n hfit
    have hGa := grown_alloc hG (.cells #[.int .u8 m, .int .u8 m, .int .u8 m] 5)
    go_wp2_with (at_builtin; refine wpList_append_arg _ rfl _ _ 43 rfl 5 i0 _ 1 1 Try.underlying43 hi0 hz0 hz1 hz2 rfl (by decide) q 0 n cap (valb ys) rfl ?lo ?olds ⟨wr.heap.size, 0, none⟩ 3 3 [.int .u8 m, .int .u8 m, .int .u8 m] rfl rfl ?c1 ?c2 ?spare ?b1 ?b2 ?room ?grow)
    case lo => rw [valb_length]; omega
    case olds => exact hy2
    case c1 => exact World.news_of_block (cs := #[.int .u8 m, .int .u8 m, .int .u8 m]) (t := 5) (fr := (0, 0)) (heap_alloc_new wr _)
    case c2 => simp [Value.oneCell']
    case spare =>
     intro hle j hj
     simp at hj
     obtain ⟨⟨x, hx⟩, hf⟩ := hRa.2 (n + j) (by omega)
     rw [show 0 + n * 1 + j = n + j by omega]
     exact ⟨by rw [hx]; rfl, hf⟩
    case b1 => unfold maxLen; omega
    case b2 => omega
    case room =>
     intro hle
     try simp only [Nat.mul_one, Nat.zero_add]
     have hRb : Yr ((wr.alloc (.cells #[.int .u8 m, .int .u8 m, .int .u8 m] 5)).setCells q n [.int .u8 m, .int .u8 m, .int .u8 m]) q cap := ((hRa.set _ _).set _ _).set _ _
     have hGb : w.grownBy ((wr.alloc (.cells #[.int .u8 m, .int .u8 m, .int .u8 m] 5)).setCells q n [.int .u8 m, .int .u8 m, .int .u8 m]) (some q) := grown_trans (grown_trans (grown_trans hGa (grown_set _ _ _ _)) (grown_set _ _ _ _)) (grown_set _ _ _ _)
     generalize (wr.alloc (.cells #[.int .u8 m, .int .u8 m, .int .u8 m] 5)).setCells q n [.int .u8 m, .int .u8 m, .int .u8 m] = w2 at *
     clear hRa hGa hy2 hR hG
     go_wp2_with fail
     go_loopw [5] (fun vi wr => ∃ (k : Nat), k <= n + 3 ∧ vi = .int .i64 k ∧ Yr wr q cap ∧ w.grownBy wr (some q)) (fun vi _ => n + 3 - (intOf vi).toNat)
     case atStart => exact ⟨0, Nat.zero_le _, rfl, hRb, hGb⟩
     case round =>
      clear hRb hGb
      obtain ⟨j, hj, rfl, hR, hG⟩ := hrel
      by_cases hlt2 : j < n + 3
      · obtain ⟨⟨y, hck⟩, hfr⟩ := hR.2 j (by omega)
        go_wp2
        go_roundw
        case rel => exact ⟨j + 1, by omega, by go_num, hR.set _ _, grown_trans hG (grown_set _ _ _ _)⟩
        case measure => simp [intOf]; omega
      · go_wp2
        go_end0
        exact ⟨rfl, hG⟩
    case grow =>
     intro hgt v' w2 hown hgrow
     obtain ⟨gg, cap2, rfl, hbase, hltg⟩ := hown.form (by omega)
     have hO2 : w2.ownsRow w.heap.size 5 1 (.slice (some ⟨gg, 0, none⟩) (n + 3) cap2) (n + 3) (valb (ys ++ [m, m, m])) := own_mono (by simpa [valb] using hown) hGa.size
     have hG2 : w.grownBy w2 (some q) := ⟨hgrow.os.trans hGa.os, hgrow.tape.trans hGa.tape, hgrow.output.trans hGa.output, Nat.le_trans hGa.size hgrow.size, fun j hj hne => (hgrow.block j (Nat.lt_of_lt_of_le hj hGa.size) (fun e => by cases e)).trans (hGa.block j hj hne)⟩
     have hgg : w.heap.size <= gg := (own_base hO2 gg rfl)
     clear hRa hGa hy2 hR hG hown hgrow
     go_wp2_with fail
     go_loopw [5] (fun vi wr => ∃ (k : Nat) (zs : List Int), k <= n + 3 ∧ vi = .int .i64 k ∧ wr.ownsRow w.heap.size 5 1 (.slice (some ⟨gg, 0, none⟩) (n + 3) cap2) (n + 3) (valb zs) ∧ w.grownBy wr (some q)) (fun vi _ => n + 3 - (intOf vi).toNat)
     case atStart => exact ⟨0, _, Nat.zero_le _, rfl, hO2, hG2⟩
     case round =>
      clear hO2 hG2
      obtain ⟨j, zs, hj, rfl, hO, hG⟩ := hrel
      have hzl := own_len8 hO
      by_cases hlt2 : j < n + 3
      · have hck := own_cell8 hO hzl hlt2
        have hfr := hO.frozenAt j
        generalize zs.getD j 0 = y at *
        go_wp2
        go_roundw
        case rel => exact ⟨j + 1, _, by omega, by go_num, (spoil_step8 hO hG (.inr hgg)).1, (spoil_step8 hO hG (.inr hgg)).2⟩
        case measure => simp [intOf]; omega
      · go_wp2
        go_end0
        exact ⟨rfl, hG⟩
theorem Yr.valsAt {w : World} {q cap : Nat} (h : Yr w q cap) (o n : Nat) (hn : o + n <= cap) : ∃ ys : List Int, ys.length = n ∧ ∀ j u, (valb ys)[j]? = some u -> w.cell? ⟨q, o + j, none⟩ = some u := by
 obtain ⟨ys, h1, h2⟩ := h.vals (o + n) hn
 refine ⟨ys.drop o, by rw [List.length_drop]; omega, fun j u hu => ?_⟩
 have e : (valb (ys.drop o))[j]? = (valb ys)[o + j]? := by unfold valb; rw [List.map_drop, List.getElem?_drop]
 rw [e] at hu
 have := h2 (o + j) u hu
 rw [Nat.zero_add] at this
 exact this
theorem SpoilT {w : World} {q o n cap : Nat} (m : Int) (m0 : 0 <= m) (m1 : m <= 255) (hR : Yr w q cap) (hfit : o + n <= cap) (hn : n <= 2097152) :
 Calls Try.prog 22 #[.slice (some ⟨q, o, none⟩) n n, .int .u8 m] w fun e w' => e = .returned (.tuple #[]) ∧ w.grownBy w' (some q) ∧ Yr w' q cap := by
 obtain ⟨i0, hi0, hz0, hz1, hz2⟩ := info_parts u8_info
 have hq := hR.1
 go_enter Try.func22, Try.ntmps22
 go_wp2
 go_loopw [4] (fun vi wr => ∃ (k : Nat), k <= n ∧ vi = .int .i64 k ∧ Yr wr q cap ∧ w.grownBy wr (some q)) (fun vi _ => n - (intOf vi).toNat)
 case atStart => exact ⟨0, Nat.zero_le _, rfl, hR, grown_refl _ _⟩
 case round =>
  clear hR
  obtain ⟨k, hk, rfl, hR, hG⟩ := hrel
  by_cases hlt : k < n
  · obtain ⟨⟨y, hck⟩, hfr⟩ := hR.2 (o + k) (by omega)
    go_wp2
    go_roundw
    case rel => exact ⟨k + 1, by omega, by go_num, hR.set _ _, grown_trans hG (grown_set _ _ _ _)⟩
    case measure => simp [intOf]; omega
  · have hGs := hG.size
    have hRa := hR.alloc (.cells #[.int .u8 m, .int .u8 m, .int .u8 m] 5)
    obtain ⟨ys, hy1, hy2⟩ := hRa.valsAt o n hfit
    have hGa := grown_alloc hG (.cells #[.int .u8 m, .int .u8 m, .int .u8 m] 5)
    go_wp2_with (at_builtin; refine wpList_append_arg _ rfl _ _ 43 rfl 5 i0 _ 1 1 Try.underlying43 hi0 hz0 hz1 hz2 rfl (by decide) q o n n (valb ys) rfl ?lo ?olds ⟨wr.heap.size, 0, none⟩ 3 3 [.int .u8 m, .int .u8 m, .int .u8 m] rfl rfl ?c1 ?c2 ?spare ?b1 ?b2 ?room ?grow)
    case lo => rw [valb_length]; omega
    case olds => exact hy2
    case c1 => exact World.news_of_block (cs := #[.int .u8 m, .int .u8 m, .int .u8 m]) (t := 5) (fr := (0, 0)) (heap_alloc_new wr _)
    case c2 => simp [Value.oneCell']
    case spare => intro hle; omega
    case b1 => unfold maxLen; omega
    case b2 => omega
    case room => intro hle; omega
    case grow =>
     intro v' w2 hown hgrow
     obtain ⟨gg, cap2, rfl, hbase, hltg⟩ := hown.form (by omega)
     have hO2 : w2.ownsRow w.heap.size 5 1 (.slice (some ⟨gg, 0, none⟩) (n + 3) cap2) (n + 3) (valb (ys ++ [m, m, m])) := own_mono (by simpa [valb] using hown) hGa.size
     have hG2 : w.grownBy w2 (some q) := ⟨hgrow.os.trans hGa.os, hgrow.tape.trans hGa.tape, hgrow.output.trans hGa.output, Nat.le_trans hGa.size hgrow.size, fun j hj hne => (hgrow.block j (Nat.lt_of_lt_of_le hj hGa.size) (fun e => by cases e)).trans (hGa.block j hj hne)⟩
     have hR2 : Yr w2 q cap := hRa.kept hgrow.size (hgrow.block q hRa.1 (fun e => by cases e))
     have hgg : w.heap.size <= gg := (own_base hO2 gg rfl)
     clear hRa hGa hy2 hR hG hown hgrow
     go_wp2_with fail
     go_loopw [5] (fun vi wr => ∃ (k : Nat) (zs : List Int), k <= n + 3 ∧ vi = .int .i64 k ∧ wr.ownsRow w.heap.size 5 1 (.slice (some ⟨gg, 0, none⟩) (n + 3) cap2) (n + 3) (valb zs) ∧ w.grownBy wr (some q) ∧ Yr wr q cap) (fun vi _ => n + 3 - (intOf vi).toNat)
     case atStart => exact ⟨0, _, Nat.zero_le _, rfl, hO2, hG2, hR2⟩
     case round =>
      clear hO2 hG2 hR2
      obtain ⟨j, zs, hj, rfl, hO, hG, hR⟩ := hrel
      have hzl := own_len8 hO
      by_cases hlt2 : j < n + 3
      · have hck := own_cell8 hO hzl hlt2
        have hfr := hO.frozenAt j
        generalize zs.getD j 0 = y at *
        go_wp2
        go_roundw
        case rel => exact ⟨j + 1, _, by omega, by go_num, (spoil_step8 hO hG (.inr hgg)).1, (spoil_step8 hO hG (.inr hgg)).2, hR.kept (by simp) (Below.heap_setCell _ _ _ q (by show q ≠ gg; omega))⟩
        case measure => simp [intOf]; omega
      · go_wp2
        go_end0
        exact ⟨rfl, hG, hR⟩
end Go.Proofs.Yteipgnkhbcogoaa
