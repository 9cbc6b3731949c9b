/-
  FieldFresh's walk.
-/
import Derived.Test.YtepbfcioocohgabSpoil
import Derived.Test.YtepbfcioocohgabDot
import Derived.Test.YtepbfcioocohgabLawRing
import Derived.Test.YtepbfcioocohgabOpen
namespace Go.Proofs.Ytepbfcioocohgab
open Go.RowKit Fld
set_option linter.unusedVariables false

/-- What Batch answers: a list of the call's own (nil where an element is 0), and an error. -/
theorem Batch_own (g p : Int) (wd : Bool) (v : Value) (X : List Int) (hfi : Fi g p wd) (hin : allIn p X = true) : ∃ (zs : List Int) (e : Int), zs.length ≤ X.length ∧ (∀ x ∈ zs, 0 ≤ x ∧ x ≤ 18446744073709551615) ∧ ∀ w,
    (∀ v, Row w v X → Calls Try.prog 6 #[.int .u8 g, v] w fun x w' => ∃ v', x = .returned (.tuple #[v', .int .i64 e]) ∧ w'.ownsRow w.heap.size 31 1 v' zs.length (vals zs) ∧ Below w.heap.size w w') ∧
    (∀ v, Row w v X → Calls Try.prog 8 #[.int .u8 g, v] w fun x w' => ∃ v', x = .returned (.tuple #[v', .int .i64 e]) ∧ w'.ownsRow w.heap.size 31 1 v' zs.length (vals zs) ∧ Below w.heap.size w w') := by
  by_cases hz : ∃ i, i < X.length ∧ X.getD i 0 = 0
  · refine ⟨[], 5, by simp, by simp, fun w => ⟨fun v hr => (Batch_in g p wd v X w hfi hr hin).mono ?_, fun v hr => (rBatch_in g p wd v X w hfi hr hin).mono ?_⟩⟩
    · rintro e w' (⟨_, rfl, h⟩ | ⟨hn, _⟩)
      · exact ⟨_, rfl, World.ownsRow_nil _ _ _ _, h⟩
      · obtain ⟨i, hl, h0⟩ := hz; exact absurd h0 (hn i hl)
    · rintro e w' (⟨_, rfl, h⟩ | ⟨hn, _⟩)
      · exact ⟨_, rfl, World.ownsRow_nil _ _ _ _, h⟩
      · obtain ⟨i, hl, h0⟩ := hz; exact absurd h0 (hn i hl)
  · have hwd : ∀ x ∈ X.map (inv p), 0 ≤ x ∧ x ≤ 18446744073709551615 := by
      intro x hx
      obtain ⟨y, _, rfl⟩ := List.mem_map.1 hx
      exact elWord (inv_el (p := p) (a := y) hfi.pos) hfi.top
    refine ⟨X.map (inv p), 0, by simp, hwd, fun w => ⟨fun v hr => (Batch_in g p wd v X w hfi hr hin).mono ?_, fun v hr => (rBatch_in g p wd v X w hfi hr hin).mono ?_⟩⟩
    · rintro e w' (⟨h0, _⟩ | ⟨_, v', rfl, hown, h⟩)
      · exact absurd h0 hz
      · exact ⟨v', rfl, by rw [List.length_map]; exact hown, h⟩
    · rintro e w' (⟨h0, _⟩ | ⟨_, v', rfl, hown, h⟩)
      · exact absurd h0 hz
      · exact ⟨v', rfl, by rw [List.length_map]; exact hown, h⟩

set_option maxRecDepth 100000 in
set_option maxHeartbeats 400000 in
theorem fresh_any (f : Int) (v : Value) (ls : List Int) (w : World) (hf : 0 ≤ f ∧ f ≤ 255) (hr : Row w v ls) :
    Calls Try.prog 3 #[.int .u8 f, v] w fun e w' => e = .returned (.bool true) ∧ Below w.heap.size w w' := by
  obtain ⟨g, p, wd, hg, hfi⟩ := Gi_fi f hf.1
  have hp0 := hfi.pos
  have hp1 := hfi.top
  have hE := hide (elements_row f g p wd v ls w hf hg hfi hr)
  have hA := anchored_any
  have hin : allIn p (ls.map (· % p)) = true := allIn_true fun i hi => by
    rw [map_getD _ _ _ (by simpa using hi)]; exact (mod_el hp0 _).2
  have hwd := mod_words hp0 hp1 ls
  have hll : (ls.map (· % p)).length ≤ 17592186043904 := by obtain ⟨_, _, _, h, _⟩ := hr; simpa using h
  clear hg hf hr
  generalize ls.map (· % p) = X at *
  obtain ⟨zs, ez, hzl, hzw, hBt⟩ := Batch_own g p wd v X hfi hin
  have HB1 := hide (fun W v h => (hBt W).1 v h)
  have HB2 := hide (fun W v h => (hBt W).2 v h)
  have HZW := hide hzw
  have HWD := hide hwd
  clear hBt hfi hin hp0 hp1 hzw hwd
  go_enter Try.func3, Try.ntmps3
  go_wp2_with fail
  refine hE.out.mono ?_
  rintro e w1 ⟨vx, rfl, rx, hbx, hb1⟩
  have RX := hide rx
  have hB := hb1
  clear rx hbx hE
  go_wp2_with fail
  refine (Copy_any _ X _ RX.out).mono ?_
  rintro e w2 ⟨vy, rfl, oy, hb2⟩
  have RY := hide (row_of_own oy rfl hll HWD.out)
  have RX := hide (RX.out.below hb2)
  have hB := Below.next hB hb2
  clear oy
  go_wp2_with fail
  refine (HB1.out _ _ RY.out).mono ?_
  rintro e w3 ⟨va, rfl, oa, hb3⟩
  have OA := hide oa
  have hB3 := hb3
  clear oa
  go_wp2_with fail
  refine (HB1.out _ _ (RY.out.below hB3)).mono ?_
  rintro e w4 ⟨vb, rfl, ob, hb4⟩
  have OB := hide ob
  have OA4 := hide (own_below OA.out hb4)
  have hB4 := Below.next hB3 hb4
  have hs3 := hb3.size
  have hs4 := hb4.size
  clear ob
  go_wp2_with fail
  refine (Spoil_any va zs.length w2.heap.size zs w4 OA4.out (by omega) (by omega)).mono ?_
  rintro e w5 ⟨rfl, hg5⟩
  have LA := hide (World.ownsRow.lt OA.out)
  have hB5 : Below w2.heap.size w2 w5 := hB4.grown hg5 (by omega) (own_base OA.out)
  have OB5 := hide (OB.out.kept hg5 (by
    cases h : vb.ownBlock with
    | none => exact .inl rfl
    | some k =>
      right
      intro hc
      have h1 := own_base OB.out k h
      have h2 := (LA.out k hc.symm).2
      omega))
  have RX := hide (RX.out.below hB5)
  have RY := hide (RY.out.below hB5)
  have hB := Below.next hB hB5
  clear hB3 hB4 hB5 hb3 hb4 hb2 hb1
  go_wp2_with fail
  refine (HB2.out _ _ RX.out).mono ?_
  rintro e w6 ⟨vc, rfl, oc, hb6⟩
  have hzl2 : zs.length ≤ 17592186043904 := by omega
  have RC := hide (row_of_own oc rfl hzl2 HZW.out)
  have RB := hide ((row_of_own OB5.out rfl hzl2 HZW.out).below hb6)
  have RX := hide (RX.out.below hb6)
  have RY := hide (RY.out.below hb6)
  have hB := Below.next hB hb6
  clear oc hb6
  go_wp2_with fail
  refine (hA _).mono ?_
  rintro e w7 ⟨rfl, hb⟩
  have RC := hide (RC.out.below hb)
  have RB := hide (RB.out.below hb)
  have RX := hide (RX.out.below hb)
  have RY := hide (RY.out.below hb)
  have hB := Below.next hB hb
  clear hb
  go_wp2_with fail
  refine (Same_yes _ _ X _ RX.out RY.out).mono ?_
  rintro e w8 ⟨rfl, hb⟩
  have RC := hide (RC.out.below hb)
  have RB := hide (RB.out.below hb)
  have hB := Below.next hB hb
  clear hb
  go_wp2_with fail
  refine (Same_yes _ _ zs _ RB.out RC.out).mono ?_
  rintro e w9 ⟨rfl, hb⟩
  have hB := Below.next hB hb
  go_wp2
  go_ret
  exact ⟨rfl, hB⟩

end Go.Proofs.Ytepbfcioocohgab
