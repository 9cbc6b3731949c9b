/-
  Layer 13: the program's Data, Pads, Workers, Worker.
-/
import Derived.Test.YtifilgmjpflekaaBPntB
import Derived.Test.YtifilgmjpflekaaBIntH
import Derived.Test.YtifilgmjpflekaaBPlpB
namespace Go.Proofs.Ytifilgmjpflekaa
open Go.RowKit Fld Pln
set_option linter.unusedVariables false
set_option linter.unusedSimpArgs false

/-- An iterator over points, in memory. -/
def Rnn (w : World) (v : Value) (a n : Int) : Prop := ∃ bn bf, v = .func (.func 50) #[] #[.pointer (some ⟨bn, 0, none⟩), .pointer (some ⟨bf, 0, none⟩)] ∧ w.heap[bn]? = some (.cells #[.int .i64 n] 3 (0, 0)) ∧ w.heap[bf]? = some (.cells #[.int .i64 a] 3 (0, 0))
theorem Rnn.below {w w' : World} {v : Value} {a n : Int} (h : Rnn w v a n) (hb : Below w.heap.size w w') : Rnn w' v a n := by
  obtain ⟨bn, bf, e, h1, h2⟩ := h
  exact ⟨bn, bf, e, (hb.block _ (Array.getElem?_eq_some_iff.1 h1).1).trans h1, (hb.block _ (Array.getElem?_eq_some_iff.1 h2).1).trans h2⟩
theorem gListed_rnn (base : Nat) (v u : Value) (xs : List Int) (a n : Int) (w : World) (hr : Rnn w u a n) (hn : 0 ≤ n) (hO : w.ownsRow base 25 1 v xs.length (vals xs)) (hb : base ≤ w.heap.size) (ha : 0 ≤ a) (haN : a + n ≤ 1000) (hx : xs.length ≤ 1000) :
    Calls Try.prog 24 #[v, u] w fun e w' => ∃ v', e = .returned v' ∧ w'.ownsRow base 25 1 v' (xs ++ pts a n.toNat).length (vals (xs ++ pts a n.toNat)) ∧ Below base w w' := by
  obtain ⟨bn, bf, rfl, h1, h2⟩ := hr
  have e : ((n.toNat : Nat) : Int) = n := by omega
  exact gListed base v xs bn bf a n.toNat w hO hb (by rw [e]; exact h1) h2 ha (by rw [e]; exact haN) hx

theorem gListed_nil (u : Value) (a n : Int) (w : World) (hr : Rnn w u a n) (hn : 0 ≤ n) (ha : 0 ≤ a) (haN : a + n ≤ 1000) :
    Calls Try.prog 24 #[.slice none 0 0, u] w fun e w' => ∃ v', e = .returned v' ∧ w'.ownsRow w.heap.size 25 1 v' (pts a n.toNat).length (vals (pts a n.toNat)) ∧ Below w.heap.size w w' := by
  have := gListed_rnn w.heap.size _ u [] a n w hr hn (World.ownsRow_nil _ _ _ _) (Nat.le_refl _) ha haN (by simp)
  simpa using this

set_option maxRecDepth 100000 in
set_option maxHeartbeats 200000 in
theorem gOfData (p : Pn) (w : World) : Calls Try.prog 25 #[plv p] w fun e w' => ∃ v, e = .returned v ∧ Rnn w' v 0 p.k ∧ Below w.heap.size w w' := by
  have HR := hide (fun W => gRun 0 p.k W)
  obtain ⟨pb, hA⟩ := pb_box (w := w) p
  obtain ⟨c0, c1, c2, c3, c4, c5, c6, c7⟩ := pb.cells
  unfold plv plw at *
  go_enter Try.func25, Try.ntmps25
  go_wp2_with (go_at_call 42; refine (HR.out _).mono ?_; rintro e w1 ⟨bn, bf, rfl, h1, h2, hb1⟩)
  go_ret
  exact ⟨_, rfl, ⟨bn, bf, rfl, h1, h2⟩, Below.next hA hb1⟩

set_option maxRecDepth 100000 in
set_option maxHeartbeats 200000 in
theorem gOfPads (p : Pn) (w : World) : Calls Try.prog 28 #[plv p] w fun e w' => ∃ v, e = .returned v ∧ Rnn w' v p.k p.t ∧ Below w.heap.size w w' := by
  have HR := hide (fun W => gRun p.k p.t W)
  obtain ⟨pb, hA⟩ := pb_box (w := w) p
  obtain ⟨c0, c1, c2, c3, c4, c5, c6, c7⟩ := pb.cells
  unfold plv plw at *
  go_enter Try.func28, Try.ntmps28
  go_wp2_with (go_at_call 42; refine (HR.out _).mono ?_; rintro e w1 ⟨bn, bf, rfl, h1, h2, hb1⟩)
  go_ret
  exact ⟨_, rfl, ⟨bn, bf, rfl, h1, h2⟩, Below.next hA hb1⟩

set_option maxRecDepth 100000 in
set_option maxHeartbeats 200000 in
theorem gOfWorkers (p : Pn) (w : World) (h : mayP p = true) : Calls Try.prog 29 #[plv p] w fun e w' => ∃ v, e = .returned v ∧ Rnn w' v (p.k + p.t) p.n ∧ Below w.heap.size w w' := by
  have HR := hide (fun W => gRun (p.k + p.t) p.n W)
  obtain ⟨_, ⟨k0, k1⟩, ⟨t0, t1⟩, _⟩ := may_facts h
  obtain ⟨pb, hA⟩ := pb_box (w := w) p
  obtain ⟨c0, c1, c2, c3, c4, c5, c6, c7⟩ := pb.cells
  unfold plv plw at *
  clear h
  go_enter Try.func29, Try.ntmps29
  go_wp2_with (go_at_call 42; refine (HR.out _).mono ?_; rintro e w1 ⟨bn, bf, rfl, h1, h2, hb1⟩)
  go_ret
  exact ⟨_, rfl, ⟨bn, bf, rfl, h1, h2⟩, Below.next hA hb1⟩

/-- What Data, Pads and Workers answer. -/
def datL (p : Pn) : List Int := if mayP p = true then pts 0 p.k.toNat else []
def padL (p : Pn) : List Int := if mayP p = true then pts p.k p.t.toNat else []
def wrkL (p : Pn) : List Int := if mayP p = true then pts (p.k + p.t) p.n.toNat else []

set_option maxRecDepth 100000 in
set_option maxHeartbeats 200000 in
theorem gData (p : Pn) (w : World) (h : Ok8p p) : Gives 7 #[plv p] w (datL p) (erP p) := by
  have HM := hide (gMay p h)
  obtain ⟨pb, hA⟩ := pb_box (w := w) p
  have HO := hide (fun W => gOfData p W)
  cases hm : mayP p with
  | false =>
    rw [hm] at HM
    rw [show datL p = [] by unfold datL; rw [hm]; rfl, erP_no hm]
    apply Gives.none
    clear hm h HO
    unfold plv plw at *
    go_enter Try.func7, Try.ntmps7
    go_wp2_with (go_at_call 23; refine (HM.out _).mono ?_; rintro e w1 ⟨rfl, hb1⟩)
    go_ret2
    exact ⟨rfl, Below.next hA hb1⟩
  | true =>
    rw [hm] at HM
    obtain ⟨_, ⟨k0, k1⟩, ⟨t0, t1⟩, _⟩ := may_facts hm
    rw [show datL p = pts 0 p.k.toNat from if_pos hm, erP_yes hm]
    have HL := hide (fun u W hr => gListed_nil u 0 p.k W hr (by omega) (by omega) (by omega))
    show Calls _ _ _ _ _
    generalize pts 0 p.k.toNat = zs at *
    clear hm h
    unfold plv plw at *
    go_enter Try.func7, Try.ntmps7
    go_wp2_with (first
      | (go_at_call 23; refine (HM.out _).mono ?_; rintro e w1 ⟨rfl, hb1⟩; obtain ⟨c0, c1, c2, c3, c4, c5, c6, c7⟩ := (pb.below hb1).cells; have hA1 := Below.next hA hb1)
      | (go_at_call 25; refine (HO.out _).mono ?_; rintro e w2 ⟨u, rfl, hr, hb2⟩; have hA2 := Below.next hA1 hb2)
      | (go_at_call 24; refine (HL.out _ _ hr).mono ?_; rintro e w3 ⟨v3, rfl, hO3, hb3⟩))
    go_ret2
    exact ⟨_, rfl, own_mono hO3 hA2.size, Below.next hA2 hb3⟩

set_option maxRecDepth 100000 in
set_option maxHeartbeats 200000 in
theorem gPads (p : Pn) (w : World) (h : Ok8p p) : Gives 9 #[plv p] w (padL p) (erP p) := by
  have HM := hide (gMay p h)
  obtain ⟨pb, hA⟩ := pb_box (w := w) p
  have HO := hide (fun W => gOfPads p W)
  cases hm : mayP p with
  | false =>
    rw [hm] at HM
    rw [show padL p = [] by unfold padL; rw [hm]; rfl, erP_no hm]
    apply Gives.none
    clear hm h HO
    unfold plv plw at *
    go_enter Try.func9, Try.ntmps9
    go_wp2_with (go_at_call 23; refine (HM.out _).mono ?_; rintro e w1 ⟨rfl, hb1⟩)
    go_ret2
    exact ⟨rfl, Below.next hA hb1⟩
  | true =>
    rw [hm] at HM
    obtain ⟨_, ⟨k0, k1⟩, ⟨t0, t1⟩, _⟩ := may_facts hm
    rw [show padL p = pts p.k p.t.toNat from if_pos hm, erP_yes hm]
    have HL := hide (fun u W hr => gListed_nil u p.k p.t W hr (by omega) (by omega) (by omega))
    show Calls _ _ _ _ _
    generalize pts p.k p.t.toNat = zs at *
    clear hm h
    unfold plv plw at *
    go_enter Try.func9, Try.ntmps9
    go_wp2_with (first
      | (go_at_call 23; refine (HM.out _).mono ?_; rintro e w1 ⟨rfl, hb1⟩; obtain ⟨c0, c1, c2, c3, c4, c5, c6, c7⟩ := (pb.below hb1).cells; have hA1 := Below.next hA hb1)
      | (go_at_call 28; refine (HO.out _).mono ?_; rintro e w2 ⟨u, rfl, hr, hb2⟩; have hA2 := Below.next hA1 hb2)
      | (go_at_call 24; refine (HL.out _ _ hr).mono ?_; rintro e w3 ⟨v3, rfl, hO3, hb3⟩))
    go_ret2
    exact ⟨_, rfl, own_mono hO3 hA2.size, Below.next hA2 hb3⟩

set_option maxRecDepth 100000 in
set_option maxHeartbeats 200000 in
theorem gWorkers (p : Pn) (w : World) (h : Ok8p p) : Gives 10 #[plv p] w (wrkL p) (erP p) := by
  have HM := hide (gMay p h)
  obtain ⟨pb, hA⟩ := pb_box (w := w) p
  cases hm : mayP p with
  | false =>
    rw [hm] at HM
    rw [show wrkL p = [] by unfold wrkL; rw [hm]; rfl, erP_no hm]
    apply Gives.none
    clear hm h
    unfold plv plw at *
    go_enter Try.func10, Try.ntmps10
    go_wp2_with (go_at_call 23; refine (HM.out _).mono ?_; rintro e w1 ⟨rfl, hb1⟩)
    go_ret2
    exact ⟨rfl, Below.next hA hb1⟩
  | true =>
    rw [hm] at HM
    obtain ⟨⟨n0, n1⟩, ⟨k0, k1⟩, ⟨t0, t1⟩, _⟩ := may_facts hm
    have HO := hide (fun W => gOfWorkers p W hm)
    rw [show wrkL p = pts (p.k + p.t) p.n.toNat from if_pos hm, erP_yes hm]
    have HL := hide (fun u W hr => gListed_nil u (p.k + p.t) p.n W hr (by omega) (by omega) (by omega))
    show Calls _ _ _ _ _
    generalize pts (p.k + p.t) p.n.toNat = zs at *
    clear hm h
    unfold plv plw at *
    go_enter Try.func10, Try.ntmps10
    go_wp2_with (first
      | (go_at_call 23; refine (HM.out _).mono ?_; rintro e w1 ⟨rfl, hb1⟩; obtain ⟨c0, c1, c2, c3, c4, c5, c6, c7⟩ := (pb.below hb1).cells; have hA1 := Below.next hA hb1)
      | (go_at_call 29; refine (HO.out _).mono ?_; rintro e w2 ⟨u, rfl, hr, hb2⟩; have hA2 := Below.next hA1 hb2)
      | (go_at_call 24; refine (HL.out _ _ hr).mono ?_; rintro e w3 ⟨v3, rfl, hO3, hb3⟩))
    go_ret2
    exact ⟨_, rfl, own_mono hO3 hA2.size, Below.next hA2 hb3⟩

/-- What Worker answers. -/
def wkE (p : Pn) (x : Int) : Int := if mayP p = true then (if inF p.f [x] = true then 0 else 2) else 2
def wkB (p : Pn) (x : Int) : Bool := decide (wkE p x = 0 ∧ p.k + p.t ≤ x ∧ x - (p.k + p.t) < p.n)
def wkI (p : Pn) (x : Int) : Int := if wkB p x = true then x - (p.k + p.t) else 0
theorem val_nil (f x : Int) : vluE f [] [] x = if inF f [x] = true then 0 else 2 := by
  unfold vluE
  by_cases h : inF f [x] = true
  · rw [if_pos h, if_pos h]
    obtain ⟨p, wd, hf, _⟩ := inF_fi h
    unfold bad
    rw [inF_yes hf]
    rfl
  · rw [if_neg h, if_neg h]

set_option maxRecDepth 100000 in
set_option maxHeartbeats 200000 in
theorem gIsElement (f x : Int) (w : World) (hx : 0 ≤ x ∧ x ≤ 18446744073709551615) : Calls Try.prog 30 #[.int .u8 f, .int .u64 x] w fun e w' => e = .returned (.bool (inF f [x])) ∧ Below w.heap.size w w' := by
  have HV := hide (iValue f x (.slice none 0 0) (.slice none 0 0) [] [] w hx (rw0 w) (rw0 w))
  rw [val_nil] at HV
  generalize vluV f [] [] x = y at *
  cases hi : inF f [x] with
  | false =>
    rw [hi] at HV
    rw [if_neg (by simp)] at HV
    clear hi
    go_enter Try.func30, Try.ntmps30
    go_wp2_with (go_at_call 43; refine HV.out.mono ?_; rintro e w1 ⟨rfl, hb1⟩)
    go_ret
    exact ⟨rfl, hb1⟩
  | true =>
    rw [hi] at HV
    rw [if_pos rfl] at HV
    clear hi
    go_enter Try.func30, Try.ntmps30
    go_wp2_with (go_at_call 43; refine HV.out.mono ?_; rintro e w1 ⟨rfl, hb1⟩)
    go_ret
    exact ⟨rfl, hb1⟩

end Go.Proofs.Ytifilgmjpflekaa
