import Derived.Test.YteipgnkhbcogoaaBLawWA
set_option linter.unusedVariables false
set_option linter.unusedSimpArgs false
set_option maxRecDepth 100000
set_option maxHeartbeats 4000000
namespace Go.Proofs.Yteipgnkhbcogoaa
open Go.RowKit Fld
theorem valb_set8 (ys : List Int) (k : Nat) (x : Int) : (valb ys).set k (.int .u8 x) = valb (ys.set k x) := by simp [valb, List.map_set]
theorem own_cell8 {wr : World} {base g n cap k : Nat} {ys : List Int} {T : TypeId} (hO : wr.ownsRow base T 1 (.slice (some ⟨g, 0, none⟩) n cap) n (valb ys)) (hl : ys.length = n) (hk : k < n) : wr.cell? ⟨g, k, none⟩ = some (.int .u8 (ys.getD k 0)) := by
 rw [hO.cellAt k (by omega), valb_at ys k (by omega)]
theorem own_len8 {wr : World} {base n : Nat} {ys : List Int} {T : TypeId} {v : Value} (hO : wr.ownsRow base T 1 v n (valb ys)) : ys.length = n := by
 have := hO.1; rw [valb_length] at this; omega
theorem spoil_step8 {w wr : World} {base g n cap k : Nat} {ys : List Int} {r : Option Nat} {x : Int} {T : TypeId} (hO : wr.ownsRow base T 1 (.slice (some ⟨g, 0, none⟩) n cap) n (valb ys)) (hG : w.grownBy wr r) (hr : r = some g ∨ w.heap.size <= g) :
 (wr.setCell ⟨g, k, none⟩ (.int .u8 x)).ownsRow base T 1 (.slice (some ⟨g, 0, none⟩) n cap) n (valb (ys.set k x)) ∧ w.grownBy (wr.setCell ⟨g, k, none⟩ (.int .u8 x)) r := by
 have := hO.stored k (.int .u8 x)
 rw [valb_set8] at this
 exact ⟨this.1, grown_far hG this.2 hr⟩
theorem Spoil8 (v : Value) (n base : Nat) (xs : List Int) (m : Int) (w : World) (m0 : 0 <= m) (m1 : m <= 255) (hO : w.ownsRow base 5 1 v n (valb xs)) (hn : n <= 2097152) (hb : base <= w.heap.size) :
 Calls Try.prog 22 #[v, .int .u8 m] w fun e w' => e = .returned (.tuple #[]) ∧ w.grownBy w' v.ownBlock := by
 obtain ⟨i0, hi0, hz0, hz1, hz2⟩ := info_parts u8_info
 have hbk := own_base hO
 obtain ⟨ao, cap, r, hv, hvr⟩ : ∃ ao cap r, v = .slice ao n cap ∧ v.ownBlock = r := by
  rcases hO.2 with ⟨rfl, rfl⟩ | ⟨g, cap, _, rfl, _⟩
  · exact ⟨_, _, _, rfl, rfl⟩
  · exact ⟨_, _, _, rfl, rfl⟩
 have hfm : 0 < n -> ∃ g, ao = some ⟨g, 0, none⟩ ∧ r = some g := fun hp => by
  rcases hO.2 with ⟨h1, h2⟩ | ⟨g, c, _, h1, _⟩
  · omega
  · rw [hv] at h1 hvr
    cases h1
    exact ⟨g, rfl, hvr.symm⟩
 rw [hvr]
 rw [hvr] at hbk
 subst hv
 go_enter Try.func22, Try.ntmps22
 go_wp2
 go_loopw [4] (fun vi wr => ∃ (k : Nat) (ys : List Int), k <= n ∧ vi = .int .i64 k ∧ wr.ownsRow base 5 1 (.slice ao n cap) n (valb ys) ∧ w.grownBy wr r) (fun vi _ => n - (intOf vi).toNat)
 case atStart => exact ⟨0, xs, Nat.zero_le _, rfl, hO, grown_refl _ _⟩
 case round =>
  clear hO
  obtain ⟨k, ys, hk, rfl, hO, hG⟩ := hrel
  have hyl := own_len8 hO
  by_cases hlt : k < n
  · obtain ⟨g, rfl, rfl⟩ := hfm (by omega)
    have hck := own_cell8 hO hyl hlt
    have hfr := hO.frozenAt k
    generalize ys.getD k 0 = y at *
    go_wp2
    go_roundw
    case rel => exact ⟨k + 1, _, by omega, by go_num, (spoil_step8 hO hG (.inl rfl)).1, (spoil_step8 hO hG (.inl rfl)).2⟩
    case measure => simp [intOf]; omega
  · have hGs := hG.size
    clear hyl
    go_wp2_with (at_builtin; refine wpList_append_lies _ rfl _ _ _ rfl base 5 i0 _ 1 1 Try.underlying43 hi0 hz0 hz1 hz2 rfl (by omega) (.slice ao n cap) n (valb ys) rfl (hO.alloc _) ⟨wr.heap.size, 0, none⟩ 3 3 [.int .u8 m, .int .u8 m, .int .u8 m] rfl rfl (World.news_of_block (cs := #[.int .u8 m, .int .u8 m, .int .u8 m]) (t := 5) (fr := (0, 0)) (heap_alloc_new wr _)) (by simp [Value.oneCell']) (by omega) (by unfold maxLen; omega) (by omega) (by simp; omega) (wr.heap.size + 1) (by simp) ?_; intro gg cap2 w2 hO2 hgrow hat hltg)
    rw [hvr] at hgrow hat
    have hO2 : w2.ownsRow base 5 1 (.slice (some ⟨gg, 0, none⟩) (n + 3) cap2) (n + 3) (valb (ys ++ [m, m, m])) := by simpa [valb] using hO2
    have hG2 : w.grownBy w2 r := grown_trans (grown_alloc hG _) hgrow
    have hrow : r = some gg ∨ w.heap.size <= gg := by
     rcases hat with h | h
     · exact .inl h
     · right; omega
    clear hO hG hgrow hat hltg
    go_loopw [5] (fun vi wr => ∃ (k : Nat) (zs : List Int), k <= n + 3 ∧ vi = .int .i64 k ∧ wr.ownsRow base 5 1 (.slice (some ⟨gg, 0, none⟩) (n + 3) cap2) (n + 3) (valb zs) ∧ w.grownBy wr r) (fun vi _ => n + 3 - (intOf vi).toNat)
    case atStart => exact ⟨0, _, Nat.zero_le _, rfl, hO2, hG2⟩
    case round =>
     clear hO2 hG2
     obtain ⟨j, zs, hj, rfl, hO, hG⟩ := hrel
     have hzl := own_len8 hO
     by_cases hlt2 : j < n + 3
     · have hck := own_cell8 hO hzl hlt2
       have hfr := hO.frozenAt j
       generalize zs.getD j 0 = y at *
       go_wp2
       go_roundw
       case rel => exact ⟨j + 1, _, by omega, by go_num, (spoil_step8 hO hG hrow).1, (spoil_step8 hO hG hrow).2⟩
       case measure => simp [intOf]; omega
     · go_wp2
       go_end0
       exact ⟨rfl, hG⟩
end Go.Proofs.Yteipgnkhbcogoaa
