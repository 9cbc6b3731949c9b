/-
  Layer 7: the document's Value, Fits, Change.
-/
import Derived.Test.YtifilgmjpflekaaBIntK
namespace Go.Proofs.Ytifilgmjpflekaa
open Go.RowKit Fld
set_option linter.unusedVariables false

theorem thr_val {f p x : Int} {wd : Bool} (h : Fi f p wd) (hx : El p x) (xs ys : List Int) (hl : xs.length ≤ 512) : er f (tp p xs ys xs.length) [x] = 0 ∧ valE f x (tp p xs ys xs.length) = ds p (bs p xs x) (co ys) xs.length := by
  have he : er f (tp p xs ys xs.length) [x] = 0 := er_yes h (allIn_of (tp_tm h.pos xs ys _).1) (allIn_of (fun y hy => by rw [List.mem_singleton.1 hy]; exact hx)) (by have := tp_len h.md xs ys xs.length (Nat.le_refl _); omega) (by simp)
  refine ⟨he, ?_⟩
  unfold valE
  rw [if_pos he, pOf_eq h, vl_tp h.md]

theorem bad_ne {f : Int} {xs ys : List Int} {n : Nat} : bad f xs ys n = 0 ∨ bad f xs ys n = 2 ∨ bad f xs ys n = 3 ∨ bad f xs ys n = 4 ∨ bad f xs ys n = 6 := by
  unfold bad
  split
  · split
    · split
      · exact .inr (.inr (.inr (.inl rfl)))
      · split
        · exact .inl rfl
        · exact .inr (.inr (.inr (.inr rfl)))
    · exact .inr (.inr (.inl rfl))
  · exact .inr (.inl rfl)
theorem bac_zero {f : Int} {xs zs : List Int} (hz : bac f xs zs = 0) : bad f xs zs xs.length = 0 ∧ zs.length ≤ 512 := by
  unfold bac at hz
  by_cases hc : bad f xs zs xs.length ≠ 2 ∧ bad f xs zs xs.length ≠ 3 ∧ 512 < zs.length
  · rw [if_pos hc] at hz; cases hz
  · rw [if_neg hc] at hz
    refine ⟨hz, Nat.le_of_not_lt fun h => hc ⟨?_, ?_, h⟩⟩ <;> rw [hz] <;> decide

set_option maxRecDepth 100000 in
set_option maxHeartbeats 1000000 in
theorem dChange (f : Int) (v1 v2 : Value) (xs zs : List Int) (w : World) (h1 : Rw w v1 xs) (h2 : Rw w v2 zs) : GivesL 33 #[.int .u8 f, v1, v2] w (chgL f xs zs) (bac f xs zs) := by
  obtain ⟨i0, hi0, hz0, hz1, hz2⟩ := info_parts sl_info
  have HP := hide (dBad f v1 v2 xs zs xs.length w h1 h2 h1.len)
  by_cases hz : bac f xs zs = 0
  · obtain ⟨hb0, hlz⟩ := bac_zero hz
    obtain ⟨p, wd, h, i1, i2, _, hl, hn⟩ := bad_zero hb0
    have hex := els_of i1 h1.words
    have hez := els_of i2 h2.words
    have hp0 := h.pos
    have HL : Hid (chgL f xs zs = zs.map (fun z => bsl p xs z)) := by show _ = _; unfold chgL; rw [if_pos hz, pOf_eq h]
    rw [HL.out, hz]
    rw [hb0] at HP
    have HB : Hid (∀ W z, El p z → Below w.heap.size w W → Calls Try.prog 47 #[.int .u8 f, v1, .int .u64 z] W fun e w' => ∃ v', e = .returned (.tuple #[v', .int .i64 0]) ∧ w'.ownsRow W.heap.size 25 1 v' (bsl p xs z).length (vals (bsl p xs z)) ∧ Below W.heap.size W w') := fun W z hz' hb => by
      have e1 : inF f xs = true := by rw [inF_yes h]; exact i1
      have e2 : inF f [z] = true := by rw [inF_yes h]; exact allIn_of (fun y hy => by rw [List.mem_singleton.1 hy]; exact hz')
      have e3 : bad f xs [z] xs.length = 0 := by rw [bad_end e1 e2 rfl (by omega), if_pos hn]
      have := dBasis f z v1 xs W (elWord hz' h.top) (h1.below hb)
      unfold Gives basL at this
      rw [e3, if_pos rfl, pOf_eq h] at this
      exact this
    have HE := hide hez
    obtain ⟨a1, c1, rfl, _⟩ := h1.spell
    obtain ⟨⟨ao, cap, rfl, _, _, hc⟩, _⟩ := h2
    have HCz : Hid (∀ W, Below w.heap.size w W → ∀ j, j < zs.length → ∃ b off, ao = some ⟨b, off, none⟩ ∧ W.cell? ⟨b, off + j, none⟩ = some (.int .u64 (zs.getD j 0))) := fun W hb j hj => by
      obtain ⟨b, off, e, h3, h4⟩ := hc (by intro e; rw [e] at hj; simp at hj)
      exact ⟨b, off, e, (hb.cell (p := ⟨b, off + j, none⟩) h3).trans (h4 j hj)⟩
    clear h1 h i1 i2 hn hz hb0 hex hez HL hc
    show Calls _ _ _ _ _
    go_enter Try.func33, Try.ntmps33
    go_wp2_with (go_at_call 46; refine HP.out.mono ?_; rintro e w2 ⟨rfl, hB2⟩)
    clear HP
    have hs2 := hB2.size
    go_loopw [9, 10] (fun vo vi wr => ∃ (k : Nat) (us : List Value), k ≤ zs.length ∧ vi = .int .i64 k ∧ Hid (Lss wr w2.heap.size wr.heap.size vo us ((zs.take k).map (fun z => bsl p xs z))) ∧ Below w2.heap.size w2 wr) (fun _ vi _ => zs.length - (intOf vi).toNat)
    case atStart => exact ⟨0, [], Nat.zero_le _, rfl, Lss.nil _ _ _, Below.refl _ _⟩
    case round =>
      obtain ⟨k, us, hk, rfl, HL, hB⟩ := hrel
      by_cases hlt : k < zs.length
      · obtain ⟨b, off, rfl, hck⟩ := HCz.out wr (Below.next hB2 hB) k hlt
        have hze : El p (zs.getD k 0) := HE.out.co hp0 k
        have hfc := hide (HB.out wr _ hze (Below.next hB2 hB))
        have HS := hide (take_map_snoc (fun z => bsl p xs z) zs hlt)
        have hml : ((zs.take k).map (fun z => bsl p xs z)).length = k := by simp; omega
        clear hze HB HE HCz
        generalize zs.getD k 0 = z at *
        generalize bsl p xs z = fx at *
        generalize (zs.take k).map (fun z => bsl p xs z) = lss at *
        go_wp2_with (first
          | (go_at_call 47; refine hfc.out.mono ?_; rintro e w3 ⟨vr, rfl, hor, hb3⟩; obtain ⟨ar, cr, rfl⟩ := own_form hor; have HL3 := hide (HL.out.below hb3); have hsz3 := hb3.size; have hbs := hB.size)
          | (at_builtin; refine wpList_append_lies _ rfl _ _ _ rfl w2.heap.size 26 i0 _ 1 24 Try.underlying39 hi0 hz0 hz1 hz2 rfl (by omega) u9 lss.length us rfl (HL3.out.row.alloc _) ⟨w3.heap.size, 0, none⟩ 1 1 [.slice ar fx.length cr] rfl rfl (World.news_of_block (cs := #[.slice ar fx.length cr]) (t := 26) (fr := (0, 0)) (heap_alloc_new w3 _)) (by simp [Value.oneCell']) (by omega) (by unfold maxLen; omega) (by omega) (by simp; omega) (w3.heap.size + 1) (by simp) ?_; intro gg cap2 w4 hown4 hgrow hat hltg))
        have hB3 := Below.next hB hb3
        have R := hide (HL3.out.push (w := w2) (H := wr.heap.size) (Nat.le_refl _) hbs (Nat.le_refl _) hB3 hor hown4 hgrow)
        clear hown4 hgrow hat hltg HL HL3 hor
        rw [HS.out, hml] at R
        go_roundw
        case rel => exact ⟨k + 1, _, by omega, by go_num, R.out.1.here, R.out.2⟩
        case measure => simp [intOf]; omega
      · obtain rfl : k = zs.length := by omega
        rw [List.take_length] at HL
        clear HCz HB HE
        go_wp2
        go_ret2
        exact ⟨_, us, rfl, HL.out.low hs2, Below.next hB2 hB⟩
  · have HL : Hid (chgL f xs zs = []) := by show _ = _; unfold chgL; rw [if_neg hz]
    rw [HL.out]
    have hlz := h2.len
    obtain ⟨a1, c1, rfl, _⟩ := h1.spell
    obtain ⟨a2, c2, rfl, _⟩ := h2.spell
    clear h1 h2 HL
    have key : ∀ e0 e1 : Int, bad f xs zs xs.length = e0 → bac f xs zs = e1 → (e0 = 2 ∧ e1 = 2) ∨ (e0 = 3 ∧ e1 = 3) ∨ (e0 ≠ 2 ∧ e0 ≠ 3 ∧ 512 < zs.length ∧ e1 = 4 ∧ (e0 = 0 ∨ e0 = 4 ∨ e0 = 6)) ∨ (¬ 512 < zs.length ∧ e1 = e0 ∧ (e0 = 4 ∨ e0 = 6)) := fun e0 e1 h0 h1 => by
      unfold bac at h1 hz
      rw [h0] at h1 hz
      have hb := bad_ne (f := f) (xs := xs) (ys := zs) (n := xs.length)
      rw [h0] at hb
      by_cases hc : 512 < zs.length
      · rcases hb with rfl | rfl | rfl | rfl | rfl <;> simp [hc] at h1 hz <;> simp [hc, ← h1]
      · rcases hb with rfl | rfl | rfl | rfl | rfl <;> simp [hc] at h1 hz <;> simp [hc, ← h1]
    have key2 := key _ _ rfl rfl
    clear key hz
    generalize bad f xs zs xs.length = e0 at *
    generalize bac f xs zs = e1 at *
    generalize xs.length = n at *
    generalize zs.length = n2 at *
    show Calls _ _ _ _ _
    rcases key2 with ⟨rfl, rfl⟩ | ⟨rfl, rfl⟩ | ⟨_, _, hc, rfl, rfl | rfl | rfl⟩ | ⟨hc, rfl, rfl | rfl⟩
    all_goals
      go_enter Try.func33, Try.ntmps33
      go_wp2_with (go_at_call 46; refine HP.out.mono ?_; rintro e w1 ⟨rfl, hb1⟩)
      go_ret2
      exact ⟨_, [], rfl, Lss.nil _ _ _, hb1⟩

end Go.Proofs.Ytifilgmjpflekaa
