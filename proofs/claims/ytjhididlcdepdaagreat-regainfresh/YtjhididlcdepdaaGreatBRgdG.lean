import Derived.Test.YtjhididlcdepdaaGreatBRgnP
import Derived.Test.YtjhididlcdepdaaGreatBunYR
set_option linter.unusedVariables false
set_option linter.unusedSimpArgs false
set_option maxRecDepth 100000
set_option maxHeartbeats 4000000
namespace Go.Proofs.YtjhididlcdepdaaGreat
open Go.RowKit Fld Pln
theorem ne_kindsR : (38 : Nat) ≠ 64 := by decide
structure Rown (base : Nat) (w : World) (v : Value) (ws : List Rq) : Prop where
 row : w.ownsRow base 38 2 v ws.length (ws.flatMap rpw)
 each : ∀ x ∈ ws, w.ownsRow base 64 1 x.2.1 x.2.2.length (vals x.2.2)
 wd : ∀ x ∈ ws, Wd x.2.2
 num : ∀ x ∈ ws, -9223372036854775808 <= x.1 ∧ x.1 <= 9223372036854775807
theorem Rown.nil (base : Nat) (w : World) : Rown base w (.slice none 0 0) [] := ⟨World.ownsRow_nil _ _ _ _, (fun x hx => by cases hx), (fun x hx => by cases hx), (fun x hx => by cases hx)⟩
theorem Rown.below {base : Nat} {w w' : World} {v : Value} {ws : List Rq} (h : Rown base w v ws) (hb : Below w.heap.size w w') : Rown base w' v ws := ⟨own_below h.row hb, fun x hx => own_below (h.each x hx) hb, h.wd, h.num⟩
theorem Rown.rpl {base : Nat} {w : World} {v : Value} {ws : List Rq} (h : Rown base w v ws) (h3 : ws.length * 32 <= 140737488351232) : Rpl w v ws :=
 rpl_of_own h.row (fun x hx => rw_of_own (h.each x hx) (h.wd x hx).1 (h.wd x hx).2) h.num h3
theorem Rown.push {base : Nat} {w w' : World} {v v' : Value} {ws : List Rq} {x : Rq} (h : Rown base w v ws) (hn : w.ownsRow base 64 1 x.2.1 x.2.2.length (vals x.2.2)) (hw : Wd x.2.2) (hi : -9223372036854775808 <= x.1 ∧ x.1 <= 9223372036854775807) (ho : w'.ownsRow base 38 2 v' (ws ++ [x]).length ((ws ++ [x]).flatMap rpw)) (hg : w.grownBy w' v.ownBlock) : Rown base w' v' (ws ++ [x]) := by
 refine ⟨ho, fun y hy => ?_, fun y hy => ?_, fun y hy => ?_⟩
 · rcases List.mem_append.1 hy with hy | hy
   · exact own_kept (h.each y hy) hg (fun g hgb hc => own_kind h.row (h.each y hy) ne_kindsR g hc hgb)
   · rw [List.mem_singleton.1 hy]
     exact own_kept hn hg (fun g hgb hc => own_kind h.row hn ne_kindsR g hc hgb)
 · rcases List.mem_append.1 hy with hy | hy
   · exact h.wd y hy
   · rw [List.mem_singleton.1 hy]; exact hw
 · rcases List.mem_append.1 hy with hy | hy
   · exact h.num y hy
   · rw [List.mem_singleton.1 hy]; exact hi
theorem dCopies (v : Value) (us : List Rq) (w : World) (h : Rpl w v us) :
 Calls Tryz.prog 24 #[v] w fun e w' => ∃ v' ws, e = .returned v' ∧ Rown w.heap.size w' v' ws ∧ rps ws = rps us ∧ Below w.heap.size w w' := by
 obtain ⟨i0, hi0, hz0, hz1, hz2⟩ := info_parts rp_info
 have HL := hide h
 have hlen := h.big
 obtain ⟨ao, cap, rfl, hcap⟩ := h.spell
 clear h
 go_enter Tryz.func24, Tryz.ntmps24
 go_wp2_with fail
 go_loopw [3, 4] (fun vl vi wr => ∃ (k : Nat) (la : Option Addr) (lc : Nat) (ws : List Rq), k <= us.length ∧ vi = .int .i64 k ∧ vl = .slice la k lc ∧ ws.length = k ∧ Hid (rps ws = (rps us).take k) ∧ Hid (Rown w.heap.size wr (.slice la k lc) ws) ∧ Below w.heap.size w wr) (fun _ vi _ => us.length - (intOf vi).toNat)
 case atStart => exact ⟨0, none, 0, [], Nat.zero_le _, rfl, rfl, rfl, rfl, Rown.nil _ _, Below.refl _ _⟩
 case round =>
  obtain ⟨k, la, lc, ws, hk, rfl, rfl, hwl, HE, HO, hB⟩ := hrel
  by_cases hlt : k < us.length
  · obtain ⟨b, off, cp', heq, _, _⟩ := HL.out.lm.form (by omega)
    cases heq
    have hRw := HL.out.row _ (getD_inQ hlt)
    have HNm := hide (HL.out.num _ (getD_inQ hlt))
    have HWd : Hid (Wd (us.getD k zRq).2.2) := ⟨hRw.len, hRw.words⟩
    have HCp := hide (fun W (hb : Below w.heap.size w W) => Copy_any (us.getD k zRq).2.1 (us.getD k zRq).2.2 W (hRw.below hb).1)
    have HCl := hide (fun W (hb : Below w.heap.size w W) => HL.out.cell hb hlt)
    obtain ⟨a9, c9, h9⟩ := HL.out.one hlt
    have HEn : Hid ((rps us).take (k + 1) = (rps us).take k ++ [⟨(us.getD k zRq).1, (us.getD k zRq).2.2⟩]) := by
     show _ = _
     have hl : k < (rps us).length := by rw [rps_len]; exact hlt
     have e := rps_at us k
     rw [List.getD_eq_getElem?_getD, List.getElem?_eq_getElem hl] at e
     rw [List.take_succ_eq_append_getElem hl]
     exact congrArg (fun z => (rps us).take k ++ [z]) e
    rw [h9] at HCp HCl
    clear hRw h9 HL
    generalize (us.getD k zRq).1 = i9 at *
    generalize (us.getD k zRq).2.2 = l9 at *
    have hdr : Below wr.heap.size wr wr.drew := (Below.refl _ wr).drew
    have HSs : Hid (∀ V, Below w.heap.size w V -> V.cell? ⟨b, off + k * 2, none⟩ = some (.int .i64 i9) ∧ V.cell? ⟨b, off + k * 2 + 1, none⟩ = some (.slice a9 l9.length c9)) := fun V hb => ⟨(HCl.out V hb).1, (HCl.out V hb).2.1⟩
    have hBd := Below.next hB hdr
    have hS0 := HSs.out _ hBd
    have k0 : (0 : Int) <= (k : Int) := by omega
    have k1 : (k : Int) < (us.length : Int) := by omega
    have hsw := hB.size
    clear HCl
    go_upto_region 5 with fail
    refine wp_region_held_drew (S := (fun V => V.cell? ⟨b, off + k * 2, none⟩ = some (.int .i64 i9) ∧ V.cell? ⟨b, off + k * 2 + 1, none⟩ = some (.slice a9 l9.length c9))) (by kernel_rfl) (by ((try dsimp only) <;> (first | with_reducible exact hS3 | with_reducible exact hS2 _ | with_reducible exact hS1 | with_reducible exact hS0))) (fun hHeld => ?_)
    refine tkY 0 ?_
    refine tkY 1 ?_
    refine tkY 2 ?_
    refine tkY 3 ?_
    refine tkY 4 ?_
    refine tkY 5 ?_
    refine tkY 6 ?_
    refine tkY 7 ?_
    refine tkY 8 ?_
    refine tkY 9 ?_
    refine tkY 10 ?_
    refine rd1 11 (fun K hK => ?_)
    (try simp only [ly0, ly1, ly2, ly3, ly4, ly5, ly6, ly7])
    go_simp
    (first | (go_at_call 20; refine (HCp.out _ hBd).mono ?_; rintro e w4 ⟨v4, rfl, o4, hb4⟩; have hD4 := Below.next hdr hb4; have hB4 := Below.next hB hD4; have hS1 := HSs.out _ hB4; have hS2 := fun ob => HSs.out (w4.alloc ob) (Below.next hB4 (alloc_below w4 ob)); have hsz4 := hD4.size; obtain ⟨a4, c4, rfl⟩ := own_form o4; have HRow : Hid (∀ ob, World.ownsRow (w4.alloc ob) w.heap.size 38 2 (.slice la k lc) k (ws.flatMap rpw)) := fun ob => (by have := (own_below HO.out.row hD4).alloc ob; rw [hwl] at this; exact this); have HN4 := hide (own_mono o4 hBd.size); clear o4) | (refine step_append_lies _ (by rfl) _ _ _ (by rfl) w.heap.size 38 i0 _ 2 32 Tryz.underlying25 hi0 hz0 hz1 hz2 rfl (by omega) (.slice la k lc) k (ws.flatMap rpw) (by rfl) (HRow.out _) ⟨w4.heap.size, 0, none⟩ 1 1 [.int .i64 i9, .slice a4 l9.length c4] (by rfl) (by rfl) (World.news_of_block (cs := #[.int .i64 i9, .slice a4 l9.length c4]) (t := 38) (fr := (0, 0)) (heap_alloc_new w4 _)) (by simp [Value.oneCell']) (by omega) (by unfold maxLen; omega) (by omega) (by simp; omega) (w4.heap.size + 1) (by simp) ?_; intro gg cap2 w5 hown5 hgrow hat hltg; have hB5 : Below w.heap.size w w5 := (hB4.alloc (by omega) _).grown hgrow (by simp; omega) (fun i e => own_base (HRow.out (.cells #[] 0)) i e); have hS3 := HSs.out _ hB5))
    first | refine hK.out _ _ ?k16 (fun hHeld => ?_) | (go_wp2_with fail; refine hK.out _ _ ?k16 (fun hHeld => ?_))
    case k16 => ((try dsimp only) <;> (first | with_reducible exact hS3 | with_reducible exact hS2 _ | with_reducible exact hS1 | with_reducible exact hS0))
    clear hK K
    (try simp only [ly0, ly1, ly2, ly3, ly4, ly5, ly6, ly7])
    refine tkY 12 ?_
    refine rd1 13 (fun K hK => ?_)
    (try simp only [ly0, ly1, ly2, ly3, ly4, ly5, ly6, ly7])
    go_simp
    refine hK.out _ _ (by ((try dsimp only) <;> (first | with_reducible exact hS3 | with_reducible exact hS2 _ | with_reducible exact hS1 | with_reducible exact hS0))) (fun hHeld => ?_)
    clear hK K
    (try simp only [ly0, ly1, ly2, ly3, ly4, ly5, ly6, ly7])
    refine rd1 14 (fun K hK => ?_)
    (refine step_append_lies _ (by rfl) _ _ _ (by rfl) w.heap.size 38 i0 _ 2 32 Tryz.underlying25 hi0 hz0 hz1 hz2 rfl (by omega) (.slice la k lc) k (ws.flatMap rpw) (by rfl) (HRow.out _) ⟨w4.heap.size, 0, none⟩ 1 1 [.int .i64 i9, .slice a4 l9.length c4] (by rfl) (by rfl) (World.news_of_block (cs := #[.int .i64 i9, .slice a4 l9.length c4]) (t := 38) (fr := (0, 0)) (heap_alloc_new w4 _)) (by simp [Value.oneCell']) (by omega) (by unfold maxLen; omega) (by omega) (by simp; omega) (w4.heap.size + 1) (by simp) ?_; intro gg cap2 w5 hown5 hgrow hat hltg; have hB5 : Below w.heap.size w w5 := (hB4.alloc (by omega) _).grown hgrow (by simp; omega) (fun i e => own_base (HRow.out (.cells #[] 0)) i e); have hS3 := HSs.out _ hB5)
    refine hK.out _ _ (by ((try dsimp only) <;> (first | with_reducible exact hS3 | with_reducible exact hS2 _ | with_reducible exact hS1 | with_reducible exact hS0))) (fun hHeld => ?_)
    clear hK K
    (try simp only [ly0, ly1, ly2, ly3, ly4, ly5, ly6, ly7])
    refine tkY 15 ?_
    refine wpAnyH_done (by kernel_rfl) ?_ _
    have HO5 : Hid (Rown w.heap.size w5 (.slice (some ⟨gg, 0, none⟩) (k + 1) cap2) (ws ++ [(i9, .slice a4 l9.length c4, l9)])) := by
     have ha := Below.next hD4 (alloc_below w4 (.cells #[.int .i64 i9, .slice a4 l9.length c4] 38))
     refine (HO.out.below ha).push (own_below HN4.out (alloc_below w4 _)) HWd.out HNm.out ?_ hgrow
     rw [List.length_append, hwl, List.flatMap_append]
     exact hown5
    have HE5 : Hid (rps (ws ++ [(i9, .slice a4 l9.length c4, l9)]) = (rps us).take (k + 1)) := by
     show _ = _
     rw [HEn.out, <- HE.out]
     unfold rps
     rw [List.map_append]; rfl
    have hl5 : (ws ++ [((i9, .slice a4 l9.length c4, l9) : Rq)]).length = k + 1 := by rw [List.length_append, hwl]; rfl
    clear hown5 hgrow hat hltg hS0 hS1 hS2 hS3 HRow HSs HN4 HO HE HEn
    go_wp2
    go_roundw
    case rel => exact ⟨k + 1, some ⟨gg, 0, none⟩, cap2, _, by omega, by go_num, rfl, hl5, HE5, HO5, hB5⟩
    case measure => simp [intOf]; omega
  · obtain rfl : k = us.length := by omega
    have hEE := HE.out
    rw [<- rps_len us, List.take_length] at hEE
    clear HL
    go_wp2_with fail
    go_ret
    exact ⟨_, ws, rfl, HO.out, hEE, hB⟩
end Go.Proofs.YtjhididlcdepdaaGreat
