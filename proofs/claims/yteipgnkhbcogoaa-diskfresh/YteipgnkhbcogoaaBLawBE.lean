import Derived.Test.YteipgnkhbcogoaaBLawBD
set_option linter.unusedVariables false
set_option linter.unusedSimpArgs false
set_option maxRecDepth 100000
set_option maxHeartbeats 4000000
namespace Go.Proofs.Yteipgnkhbcogoaa
open Go.RowKit Fld
theorem TwoD.self {w W : World} {base g gt : Nat} {D : Dsk} (h : TwoD w W base g gt D) : TwoD W W base g gt D := ⟨h.p, h.d, Below.refl _ _, h.sz⟩
theorem TwoD.from_ {w W V : World} {base g gt : Nat} {D E : Dsk} (h : TwoD w W base g gt D) (h2 : TwoD W V base g gt E) : TwoD w V base g gt E := ⟨h2.p, h2.d, h.low.trans h2.low, h2.sz⟩
theorem Scr2.sq {w wr : World} {b off n cap k : Nat} {ss : List Sq2} (h : Scr2 w (.slice (some ⟨b, off, none⟩) n cap) ss) (hb : Below w.heap.size w wr) (hk : k < ss.length) :
 wr.cell? ⟨b, off + k * 4, none⟩ = some (.int .u8 ss[k].c) ∧ wr.cell? ⟨b, off + k * 4 + 1, none⟩ = some (.int .i64 ss[k].n) ∧ wr.cell? ⟨b, off + k * 4 + 2, none⟩ = some (.int .u8 ss[k].m) ∧ wr.cell? ⟨b, off + k * 4 + 3, none⟩ = some (.bool ss[k].o) := by
 have hx : ss[k]? = some ss[k] := List.getElem?_eq_getElem hk
 have key : ∀ i u, (sqc2 ss[k])[i]? = some u -> wr.cell? ⟨b, off + (k * 4 + i), none⟩ = some u := fun i u hu => by
  obtain ⟨hbl, hc⟩ := h.lm.at_ hx hu
  exact (hb.cell (p := ⟨b, off + (k * 4 + i), none⟩) hbl).trans hc
 exact ⟨key 0 _ rfl, key 1 _ rfl, key 2 _ rfl, key 3 _ rfl⟩
theorem two_newD {w w1 w2 : World} (h1 : Hd w1 w.heap.size w.heap.size (.slice none 0 0) dk0) (b1 : Below w.heap.size w w1) (b2 : Below w1.heap.size w1 w2) : TwoD w (w2.alloc (.cells #[.slice none 0 0, .int .i64 (-1), .bool false, .int .i64 0] 27)) w.heap.size w.heap.size w2.heap.size dk0 := by
 have b3 := alloc_below w2 (.cells #[.slice none 0 0, .int .i64 (-1), .bool false, .int .i64 0] 27)
 have z1 := b1.size
 have z2 := b2.size
 have z3 := b3.size
 exact ⟨⟨_, (h1.below b2).below b3⟩, ⟨_, [], dr_new (heap_alloc_new w2 _) (by omega)⟩, Below.next (Below.next b1 b2) b3, by omega⟩
theorem diskPlays_any (v : Value) (ss : List Sq2) (w : World) (h : Scr2 w v ss) : Calls Try.prog 3 #[v] w fun e w' => e = .returned (.bool true) ∧ Below w.heap.size w w' := by
 obtain ⟨ao, cap, rfl, hcap⟩ := h.lm.spell
 have hlen := h.len
 have HS := hide h
 have ga := hide (fun W => anch22 W)
 clear h
 have HN := hide (fun W => gNew22 W)
 have HD := hide (fun W => dNew22 W)
 go_enter Try.func3, Try.ntmps3
 go_wp2_with (first
  | (go_at_call 7; refine (HN.out _).mono ?_; rintro e w1 ⟨rfl, hn1, hb1⟩; have HN1 := hide hn1; clear hn1)
  | (go_at_call 8; refine (HD.out _).mono ?_; rintro e w2 ⟨rfl, hb2⟩; have HT := hide (two_newD HN1.out hb1 hb2); clear HN1 hb1 hb2))
 obtain ⟨gt, hgt⟩ : ∃ gt, w2.heap.size = gt := ⟨_, rfl⟩
 rw [hgt] at HT ⊢
 clear hgt HN HD
 generalize w2.alloc (.cells #[.slice none 0 0, .int .i64 (-1), .bool false, .int .i64 0] 27) = w3 at *
 go_loopw [5] (fun vi wr => ∃ (k : Nat) (E : Dsk), k <= ss.length ∧ vi = .int .i64 k ∧ E.n <= k ∧ Hid (TwoD w wr w.heap.size w.heap.size gt E)) (fun vi _ => ss.length - (intOf vi).toNat)
 case atStart => exact ⟨0, _, Nat.zero_le _, rfl, Nat.zero_le _, HT⟩
 case round =>
  clear HT
  obtain ⟨k, E, hk, rfl, hEn, HE⟩ := hrel
  by_cases hlt : k < ss.length
  · obtain ⟨b, off, cap', hv, _, _⟩ := HS.out.lm.form (by omega)
    injection hv with hv1 hv2 hv3
    subst hv1 hv3
    have HG := hide (same22_any HE.out.self (by omega) (HS.out.ok _ (List.getElem_mem hlt)))
    obtain ⟨c0, c1, c2, c3⟩ := HS.out.sq HE.out.low hlt
    have HE2 := hide (fun V M (h : TwoD wr V w.heap.size w.heap.size gt M) => HE.out.from_ h)
    have hM1 := stp2_n E ss[k]
    have ii0 : (0 : Int) <= (k : Int) := by omega
    have ii1 : (k : Int) < (ss.length : Int) := by omega
    generalize hs : ss[k] = s at *
    generalize stp2 E s = E' at *
    clear HS HE
    go_wp2_with (go_at_call 9; refine HG.out.mono ?_; rintro e w4 ⟨rfl, ht4⟩; have HT4 := hide (HE2.out _ _ ht4); clear ht4)
    go_roundw
    case rel => exact ⟨k + 1, E', by omega, by go_num, by omega, HT4⟩
    case measure => simp [intOf]; omega
  · obtain rfl : k = ss.length := by omega
    have hbd : Below wr.heap.size wr wr.drew := (Below.refl _ wr).drew
    have HP := hide (fun W (hb : Below wr.heap.size wr W) => HE.out.below hb)
    obtain ⟨u, es, hd⟩ := HE.out.d
    obtain ⟨v, hp⟩ := HE.out.p
    have hlen2 := hp.o.ok.len
    have HBl := hide (fun W (hb : Below wr.heap.size wr W) => gBlocks22 (hp.below hb))
    have HBd := hide (fun W (hb : Below wr.heap.size wr W) => (hd.below hb).bl)
    have HSm := hide (fun W x y (h1 : Bl W x E.l) (h2 : Bl W y E.l) => dSame22 x y E.l W h1 h2 (by omega))
    have HC := hide (fun W (hb : Below wr.heap.size wr W) => (hd.below hb).cells.1)
    obtain ⟨au, cu, rfl, _⟩ := hd.spell
    have hS0 : wr.drew.cell? ⟨gt, 0, none⟩ = some (.slice au E.l.length cu) := HC.out _ hbd
    clear hd hp hlen2 HS
    go_upto_region 7 with fail
    refine wp_region_held_drew (S := (fun V => V.cell? ⟨gt, 0, none⟩ = some (.slice au E.l.length cu))) (by kernel_rfl) (by ((try dsimp only) <;> (first | with_reducible exact hS0 | with_reducible exact hS1 | with_reducible exact hS2 | with_reducible exact hS3))) (fun hHeld => ?_)
    refine rd1 0 (fun K hK => ?_)
    (try simp only [ly0, ly1, ly2, ly3, ly4, ly5, ly6, ly7])
    go_simp
    (go_at_call 10; refine (ga.out _).mono ?_; rintro e w5 ⟨rfl, hb5⟩; have hB5 := Below.next hbd hb5; have hS1 := HC.out _ hB5; have HB5 := hide hB5; clear hb5 hB5)
    first | refine hK.out _ _ ?k15 (fun hHeld => ?_) | (go_wp2_with fail; refine hK.out _ _ ?k15 (fun hHeld => ?_))
    case k15 => ((try dsimp only) <;> (first | with_reducible exact hS0 | with_reducible exact hS1 | with_reducible exact hS2 | with_reducible exact hS3))
    clear hK K
    (try simp only [ly0, ly1, ly2, ly3, ly4, ly5, ly6, ly7])
    refine tkY 1 ?_
    refine tkY 2 ?_
    refine tkY 4 ?_
    refine tkY 5 ?_
    refine rd1 3 (fun K hK => ?_)
    (try simp only [ly0, ly1, ly2, ly3, ly4, ly5, ly6, ly7])
    go_simp
    (go_at_call 12; refine (HBl.out _ HB5.out).mono ?_; rintro e w6 ⟨v6, r6, c6, rfl, hT6, hb6⟩; obtain ⟨a6, k6, hv6, _⟩ := own_spellO hT6.row; subst hv6; have hB6 := Below.next HB5.out hb6; have hS2 := HC.out _ hB6; have HB6 := hide hB6; have HS6 := hide (HSm.out _ _ _ hT6.bl (HBd.out _ hB6)); clear hT6 hb6 hB6)
    first | refine hK.out _ _ ?k16 (fun hHeld => ?_) | (go_wp2_with fail; refine hK.out _ _ ?k16 (fun hHeld => ?_))
    case k16 => ((try dsimp only) <;> (first | with_reducible exact hS0 | with_reducible exact hS1 | with_reducible exact hS2 | with_reducible exact hS3))
    clear hK K
    (try simp only [ly0, ly1, ly2, ly3, ly4, ly5, ly6, ly7])
    refine rd1 6 (fun K hK => ?_)
    (try simp only [ly0, ly1, ly2, ly3, ly4, ly5, ly6, ly7])
    go_simp
    (go_at_call 11; refine HS6.out.mono ?_; rintro e w7 ⟨rfl, hb7⟩; have hB7 := Below.next HB6.out hb7; have hS3 := HC.out _ hB7; have HB7 := hide hB7; clear hb7 hB7)
    first | refine hK.out _ _ ?k17 (fun hHeld => ?_) | (go_wp2_with fail; refine hK.out _ _ ?k17 (fun hHeld => ?_))
    case k17 => ((try dsimp only) <;> (first | with_reducible exact hS0 | with_reducible exact hS1 | with_reducible exact hS2 | with_reducible exact hS3))
    clear hK K
    (try simp only [ly0, ly1, ly2, ly3, ly4, ly5, ly6, ly7])
    refine tkY 7 ?_
    refine tkY 8 ?_
    refine wpAnyH_done (by kernel_rfl) ?_ _
    clear hS0 hS1 hS2 hS3
    go_wp2
    go_ret
    exact ⟨by simp, (HP.out _ HB7.out).low⟩
end Go.Proofs.Yteipgnkhbcogoaa
