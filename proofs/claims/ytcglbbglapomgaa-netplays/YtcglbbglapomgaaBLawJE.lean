import Derived.Test.YtcglbbglapomgaaBLawJD
set_option linter.unusedVariables false
set_option linter.unusedSimpArgs false
set_option maxRecDepth 100000
set_option maxHeartbeats 4000000
namespace Go.Proofs.Ytcglbbglapomgaa
open Go.RowKit Fld
theorem TwoN.self {w W : World} {base g gt : Nat} {N : Nt} (h : TwoN w W base g gt N) : TwoN W W base g gt N := ⟨h.p, h.d, Below.refl _ _, h.sz⟩
theorem TwoN.from_ {w W V : World} {base g gt : Nat} {N M : Nt} (h : TwoN w W base g gt N) (h2 : TwoN W V base g gt M) : TwoN w V base g gt M := ⟨h2.p, h2.d, h.low.trans h2.low, h2.sz⟩
theorem Scr.sq {w wr : World} {b off n cap k : Nat} {ss : List Sq} (h : Scr w (.slice (some ⟨b, off, none⟩) n cap) ss) (hb : Below w.heap.size w wr) (hk : k < ss.length) :
 wr.cell? ⟨b, off + k * 4, none⟩ = some (.int .u8 ss[k].c) ∧ wr.cell? ⟨b, off + k * 4 + 1, none⟩ = some (.int .i64 ss[k].a) ∧ wr.cell? ⟨b, off + k * 4 + 2, none⟩ = some (.int .i64 ss[k].b) ∧ wr.cell? ⟨b, off + k * 4 + 3, none⟩ = some ss[k].u := by
 have hx : ss[k]? = some ss[k] := List.getElem?_eq_getElem hk
 have key : ∀ i u, (sqc ss[k])[i]? = some u -> wr.cell? ⟨b, off + (k * 4 + i), none⟩ = some u := fun i u hu => by
  obtain ⟨hbl, hc⟩ := h.lm.at_ hx hu
  exact (hb.cell (p := ⟨b, off + (k * 4 + i), none⟩) hbl).trans hc
 exact ⟨key 0 _ rfl, key 1 _ rfl, key 2 _ rfl, key 3 _ rfl⟩
theorem Scr.okw {w W : World} {v : Value} {ss : List Sq} (h : Scr w v ss) (hW : Below w.heap.size w W) {k : Nat} (hk : k < ss.length) : ∀ V, Below w.heap.size W V -> Okq21 V ss[k] := fun V hV =>
 (h.below (hW.trans hV)).ok _ (List.getElem_mem hk)
theorem ntE_cases (n : Int) : ntE n = 0 ∨ ntE n = 2 := by unfold ntE; split <;> simp
theorem netPlays_any (n : Int) (v : Value) (ss : List Sq) (w : World) (h : Scr w v ss) : Calls Try.prog 3 #[.int .i64 n, v] w fun e w' => e = .returned (.bool true) ∧ Below w.heap.size w w' := by
 obtain ⟨ao, cap, rfl, hcap⟩ := h.lm.spell
 have hlen := h.len
 have HS := hide h
 have ga := hide (fun W => anch21 W)
 clear h
 rcases ntE_cases n with he | he
 · have HN := hide (fun W => gNew n he W)
   have HD := hide (fun W => dNew21 n W)
   rw [he, if_pos rfl] at HD
   have HT0 := hide (fun (w1 w2 : World) (h1 : Np w1 w.heap.size w.heap.size (.slice none 0 0) (nt0 n)) (b1 : Below w.heap.size w w1) (b2 : Below w1.heap.size w1 w2) => show TwoN w (w2.alloc (.cells #[.int .i64 n, .slice none 0 0, .int .i64 0, .int .i64 0, .int .i64 0] 29)) w.heap.size w.heap.size w2.heap.size (nt0 n) from by
    have b3 := alloc_below w2 (.cells #[.int .i64 n, .slice none 0 0, .int .i64 0, .int .i64 0, .int .i64 0] 29)
    have z1 := b1.size
    have z2 := b2.size
    have z3 := b3.size
    exact ⟨⟨_, (h1.below b2).below b3⟩, ⟨_, [], nd_new (heap_alloc_new w2 _) (by omega)⟩, Below.next (Below.next b1 b2) b3, by omega⟩)
   go_enter Try.func3, Try.ntmps3
   go_wp2_with (first
    | (go_at_call 8; go_loud (refine (HN.out _).mono ?_; rintro e w1 ⟨rfl, hn1, hb1⟩; have HN1 := hide hn1; clear hn1))
    | (go_at_call 9; go_loud (refine (HD.out _).mono ?_; rintro e w2 ⟨rfl, hb2⟩; unfold ndv; have HT := hide (HT0.out _ _ HN1.out hb1 hb2); clear HN1 hb1 hb2)))
   obtain ⟨gt, hgt⟩ : ∃ gt, w2.heap.size = gt := ⟨_, rfl⟩
   rw [hgt] at HT ⊢
   clear hgt HT0 HN HD
   generalize w2.alloc (.cells #[.int .i64 n, .slice none 0 0, .int .i64 0, .int .i64 0, .int .i64 0] 29) = w3 at *
   go_loopw [9] (fun vi wr => ∃ (k : Nat) (M : Nt), k <= ss.length ∧ vi = .int .i64 k ∧ M.s <= k ∧ Hid (TwoN w wr w.heap.size w.heap.size gt M)) (fun vi _ => ss.length - (intOf vi).toNat)
   case atStart => exact ⟨0, _, Nat.zero_le _, rfl, Nat.zero_le _, HT⟩
   case round =>
    clear HT
    obtain ⟨k, M, hk, rfl, hMs, HM⟩ := hrel
    by_cases hlt : k < ss.length
    · obtain ⟨b, off, cap', hv, _, _⟩ := HS.out.lm.form (by omega)
      injection hv with hv1 hv2 hv3
      subst hv1 hv3
      have HG := hide (same21_any HM.out.self (by omega) (HS.out.okw HM.out.low hlt))
      obtain ⟨c0, c1, c2, c3⟩ := HS.out.sq HM.out.low hlt
      have HM2 := hide (fun V M (h : TwoN wr V w.heap.size w.heap.size gt M) => HM.out.from_ h)
      have hM1 := stp_s M ss[k]
      have ii0 : (0 : Int) <= (k : Int) := by omega
      have ii1 : (k : Int) < (ss.length : Int) := by omega
      generalize hs : ss[k] = s at *
      generalize stp M s = M' at *
      clear HS HM
      go_wp2_with (go_at_call 10; refine HG.out.mono ?_; rintro e w4 ⟨rfl, ht4⟩; have HT4 := hide (HM2.out _ _ ht4); clear ht4)
      go_roundw
      case rel => exact ⟨k + 1, M', by omega, by go_num, by omega, HT4⟩
      case measure => simp [intOf]; omega
    · obtain rfl : k = ss.length := by omega
      go_wp2_with (go_at_call 11; refine (ga.out _).mono ?_; rintro e w5 ⟨rfl, hb5⟩; have hB5 := HM.out.low.trans (hb5.mono HM.out.sz))
      go_ret
      exact ⟨by simp, hB5⟩
 · have HN := hide (fun W => gNew_no n he W)
   have HD := hide (fun W => dNew21 n W)
   rw [he, if_neg (by decide)] at HD
   go_enter Try.func3, Try.ntmps3
   go_wp2_with (first
    | (go_at_call 8; refine (HN.out _).mono ?_; rintro e w1 ⟨rfl, hw1⟩; rw [hw1]; clear hw1)
    | (go_at_call 9; refine (HD.out _).mono ?_; rintro e w2 ⟨rfl, hb2⟩; unfold ndv))
   have hB3 := Below.next hb2 (alloc_below w2 (.cells #[.int .i64 0, .slice none 0 0, .int .i64 0, .int .i64 0, .int .i64 0] 29))
   generalize w2.alloc (.cells #[.int .i64 0, .slice none 0 0, .int .i64 0, .int .i64 0, .int .i64 0] 29) = w3 at *
   go_loopw [9] (fun vi wr => vi = .int .i64 0 ∧ Below w.heap.size w wr) (fun vi _ => 0)
   case atStart => exact ⟨rfl, hB3⟩
   case round =>
    clear hB3
    obtain ⟨rfl, hB⟩ := hrel
    rcases Nat.eq_zero_or_pos ss.length with hz | hz
    · rw [hz]
      go_wp2_with (go_at_call 11; refine (ga.out _).mono ?_; rintro e w5 ⟨rfl, hb5⟩; have hB5 := Below.next hB hb5)
      go_ret
      exact ⟨by simp, hB5⟩
    · have hz' : (0 : Int) < (ss.length : Int) := by omega
      go_wp2_with (go_at_call 11; refine (ga.out _).mono ?_; rintro e w5 ⟨rfl, hb5⟩; have hB5 := Below.next hB hb5)
      go_ret
      exact ⟨by simp, hB5⟩
end Go.Proofs.Ytcglbbglapomgaa
