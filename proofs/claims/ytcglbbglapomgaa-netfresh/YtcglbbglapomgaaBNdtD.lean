import Derived.Test.YtcglbbglapomgaaBNdtC
set_option linter.unusedVariables false
set_option linter.unusedSimpArgs false
set_option maxRecDepth 100000
set_option maxHeartbeats 4000000
namespace Go.Proofs.Ytcglbbglapomgaa
open Go.RowKit Fld
def Pl (w : World) (v : Value) (ps : List Pk) : Prop :=
 ∃ ao cap, v = .slice ao ps.length cap ∧ ps.length <= cap ∧ ∀ i p, ps[i]? = some p -> ∃ b u, ao = some ⟨b, 0, none⟩ ∧ b < w.heap.size ∧ w.cell? ⟨b, i * 3, none⟩ = some (.int .i64 p.f) ∧ w.cell? ⟨b, i * 3 + 1, none⟩ = some (.int .i64 p.t) ∧ w.cell? ⟨b, i * 3 + 2, none⟩ = some u ∧ Rb w u p.b
theorem Pl.below {w w' : World} {v : Value} {ps : List Pk} (h : Pl w v ps) (hb : Below w.heap.size w w') : Pl w' v ps := by
 obtain ⟨ao, cap, h1, h2, h3⟩ := h
 refine ⟨ao, cap, h1, h2, fun i p hi => ?_⟩
 obtain ⟨b, u, e1, e2, e3, e4, e5, e6⟩ := h3 i p hi
 exact ⟨b, u, e1, Nat.lt_of_lt_of_le e2 hb.size, (hb.cell (p := ⟨b, i * 3, none⟩) e2).trans e3, (hb.cell (p := ⟨b, i * 3 + 1, none⟩) e2).trans e4, (hb.cell (p := ⟨b, i * 3 + 2, none⟩) e2).trans e5, e6.below hb⟩
theorem Pq.pl {w : World} {lo : Nat} {v : Value} {ls : List Tkp} {ps : List Pk} (h : Pq w lo v (ls.map some)) (hp : ls.map (·.1) = ps) : Pl w v ps := by
 have hr := h.row
 have hl : ps.length = ls.length := by rw [<- hp, List.length_map]
 rw [List.length_map] at hr
 obtain ⟨ao, cap, rfl, hcap, hg⟩ := own_spellO hr
 refine ⟨ao, cap, by rw [hl], by omega, fun i p hi => ?_⟩
 have hlt : i < ls.length := by have := (List.getElem?_eq_some_iff.1 hi).1; omega
 obtain ⟨b, rfl, _, hb⟩ := hg (by omega)
 have hx : ls[i]? = some ls[i] := List.getElem?_eq_getElem hlt
 have he : (ls.map some)[i]? = some (some ls[i]) := by rw [List.getElem?_map, hx]; rfl
 have hpe : ls[i].1 = p := by
  rw [<- hp, List.getElem?_map, hx] at hi
  simpa using hi
 obtain ⟨c0, c1, c2, _⟩ := h.cells (by rw [List.length_map]) he (a := .int .i64 ls[i].1.f) (b := .int .i64 ls[i].1.t) (c := .slice (some ⟨ls[i].2.1, 0, none⟩) ls[i].1.b.length ls[i].2.2) rfl
 have hy := (h.each i ls[i].1 ls[i].2.1 ls[i].2.2 he).2.2
 rw [hpe] at c0 c1 c2 hy
 exact ⟨b, _, rfl, hb, c0, c1, c2, hy.rb⟩
theorem Dl.pl {w : World} {base : Nat} {v : Value} {es : List Dk} {ps : List Pk} (h : Dl w base v es) (hp : es.map (·.1) = ps) : Pl w v ps := by
 have hl : ps.length = es.length := by rw [<- hp, List.length_map]
 have h' := h
 obtain ⟨ao, cap, rfl, hcap, hg⟩ := own_spellO h.row
 refine ⟨ao, cap, by rw [hl], by omega, fun i p hi => ?_⟩
 have hlt : i < es.length := by have := (List.getElem?_eq_some_iff.1 hi).1; omega
 obtain ⟨b, rfl, _, hb⟩ := hg (by omega)
 have hx : es[i]? = some es[i] := List.getElem?_eq_getElem hlt
 have hpe : es[i].1 = p := by
  rw [<- hp, List.getElem?_map, hx] at hi
  simpa using hi
 obtain ⟨c0, c1, c2⟩ := h.pk hx
 have hy := h.rb (List.getElem_mem hlt)
 rw [hpe] at c0 c1 hy
 exact ⟨b, _, rfl, hb, c0, c1, c2, hy⟩
theorem dSame21 (v u : Value) (ps : List Pk) (w : World) (h1 : Pl w v ps) (h2 : Pl w u ps) (hl : ps.length <= 4096) :
 Calls Try.prog 22 #[v, u] w fun e w' => e = .returned (.bool true) ∧ Below w.heap.size w w' := by
 have HO := hide (fun p x y W (r1 : Rb W x (p : Pk).b) (r2 : Rb W y p.b) => dOne21 p p x y W r1 r2)
 simp only [pkS_self] at HO
 have H1 := hide (fun W (hb : Below w.heap.size w W) => h1.below hb)
 have H2 := hide (fun W (hb : Below w.heap.size w W) => h2.below hb)
 obtain ⟨a1, k1, rfl, hk1, _⟩ := h1
 obtain ⟨a2, k2, rfl, hk2, _⟩ := h2
 generalize hn : ps.length = n at *
 have HN := hide hn
 clear hn
 go_enter Try.func22, Try.ntmps22
 go_wp2
 go_loopw [5] (fun vi wr => ∃ (k : Nat), k <= n ∧ vi = .int .i64 k ∧ Below w.heap.size w wr) (fun vi _ => n - (intOf vi).toNat)
 case atStart => exact ⟨0, Nat.zero_le _, rfl, Below.refl _ _⟩
 case round =>
  obtain ⟨k, hk, rfl, hB⟩ := hrel
  by_cases hlt : k < n
  · have hp : ps[k]? = some (ps[k]'(by have := HN.out; omega)) := List.getElem?_eq_getElem _
    generalize ps[k]'(by have := HN.out; omega) = p at *
    obtain ⟨x1, _, q1, _, q2⟩ := H1.out wr hB
    obtain ⟨b1, u1, rfl, hb1, c0, c1, c2, r1⟩ := q2 k p hp
    obtain ⟨x2, _, q3, _, q4⟩ := H2.out wr hB
    obtain ⟨b2, u2, rfl, hb2, d0, d1, d2, r2⟩ := q4 k p hp
    have e1 : a1 = some ⟨b1, 0, none⟩ := by injection q1
    have e3 : a2 = some ⟨b2, 0, none⟩ := by injection q3
    subst e1 e3
    clear q1 q3
    obtain ⟨a3, k3, rfl, _⟩ := r1.spell
    obtain ⟨a4, k4, rfl, _⟩ := r2.spell
    have HOne := hide (HO.out p _ _ wr.drew (r1.below (Below.refl _ wr).drew) (r2.below (Below.refl _ wr).drew))
    have hS0 : (wr.drew.cell? ⟨b1, k * 3, none⟩ = some (.int .i64 p.f) ∧ wr.drew.cell? ⟨b1, k * 3 + 1, none⟩ = some (.int .i64 p.t) ∧ wr.drew.cell? ⟨b1, k * 3 + 2, none⟩ = some (.slice a3 p.b.length k3)) ∧ (wr.drew.cell? ⟨b2, k * 3, none⟩ = some (.int .i64 p.f) ∧ wr.drew.cell? ⟨b2, k * 3 + 1, none⟩ = some (.int .i64 p.t) ∧ wr.drew.cell? ⟨b2, k * 3 + 2, none⟩ = some (.slice a4 p.b.length k4)) := ⟨⟨c0, c1, c2⟩, d0, d1, d2⟩
    have HS : Hid (∀ V, Below wr.heap.size wr V -> (V.cell? ⟨b1, k * 3, none⟩ = some (.int .i64 p.f) ∧ V.cell? ⟨b1, k * 3 + 1, none⟩ = some (.int .i64 p.t) ∧ V.cell? ⟨b1, k * 3 + 2, none⟩ = some (.slice a3 p.b.length k3)) ∧ (V.cell? ⟨b2, k * 3, none⟩ = some (.int .i64 p.f) ∧ V.cell? ⟨b2, k * 3 + 1, none⟩ = some (.int .i64 p.t) ∧ V.cell? ⟨b2, k * 3 + 2, none⟩ = some (.slice a4 p.b.length k4))) := fun V hb => ⟨⟨(hb.cell (p := ⟨b1, k * 3, none⟩) hb1).trans c0, (hb.cell (p := ⟨b1, k * 3 + 1, none⟩) hb1).trans c1, (hb.cell (p := ⟨b1, k * 3 + 2, none⟩) hb1).trans c2⟩, (hb.cell (p := ⟨b2, k * 3, none⟩) hb2).trans d0, (hb.cell (p := ⟨b2, k * 3 + 1, none⟩) hb2).trans d1, (hb.cell (p := ⟨b2, k * 3 + 2, none⟩) hb2).trans d2⟩
    have k0 : (0 : Int) <= (k : Int) := by omega
    have k1' : (k : Int) < (n : Int) := by omega
    clear H1 H2 HO q2 q4 r1 r2 hp c0 c1 c2 d0 d1 d2
    go_upto_region 6 with fail
    refine wp_region_held_drew (S := (fun V => (V.cell? ⟨b1, k * 3, none⟩ = some (.int .i64 p.f) ∧ V.cell? ⟨b1, k * 3 + 1, none⟩ = some (.int .i64 p.t) ∧ V.cell? ⟨b1, k * 3 + 2, none⟩ = some (.slice a3 p.b.length k3)) ∧ (V.cell? ⟨b2, k * 3, none⟩ = some (.int .i64 p.f) ∧ V.cell? ⟨b2, k * 3 + 1, none⟩ = some (.int .i64 p.t) ∧ V.cell? ⟨b2, k * 3 + 2, none⟩ = some (.slice a4 p.b.length k4)))) (by kernel_rfl) (by ((try dsimp only) <;> (first | with_reducible exact hS0 | with_reducible exact hS1))) (fun hHeld => ?_)
    refine tkY 0 ?_
    refine tkY 1 ?_
    refine tkY 2 ?_
    refine tkY 3 ?_
    refine tkY 4 ?_
    refine tkY 5 ?_
    refine tkY 6 ?_
    refine tkY 7 ?_
    refine rd1 8 (fun K hK => ?_)
    (try simp only [ly0, ly1, ly2, ly3, ly4, ly5, ly6, ly7])
    go_simp
    (go_at_call 21; refine HOne.out.mono ?_; rintro e w2 ⟨rfl, hb2'⟩; have hB2 := Below.trans (Below.refl wr.heap.size wr).drew hb2'; have hS1 := HS.out w2 hB2)
    first | refine hK.out _ _ ?k5 (fun hHeld => ?_) | (go_wp2_with fail; refine hK.out _ _ ?k5 (fun hHeld => ?_))
    case k5 => ((try dsimp only) <;> (first | with_reducible exact hS0 | with_reducible exact hS1))
    clear hK K
    (try simp only [ly0, ly1, ly2, ly3, ly4, ly5, ly6, ly7])
    refine tkY 9 ?_
    refine wpAnyH_done (by kernel_rfl) ?_ _
    clear hS0 hS1 HS HOne
    go_wp2
    go_roundw
    case rel => exact ⟨k + 1, by omega, by go_num, Below.next hB hB2⟩
    case measure => simp [intOf]; omega
  · have : k = n := by omega
    subst this
    go_wp2
    go_ret
    exact ⟨rfl, hB⟩
end Go.Proofs.Ytcglbbglapomgaa
