import Derived.Test.YthialdipnhggnaaBDdkB
import Derived.Test.YthialdipnhggnaaBDskF
set_option linter.unusedVariables false
set_option linter.unusedSimpArgs false
set_option maxRecDepth 100000
set_option maxHeartbeats 4000000
namespace Go.Proofs.Ythialdipnhggnaa
open Go.RowKit Fld
theorem load_dkr {w : World} {b : Nat} {x0 x1 x2 x3 : Value} (h : w.heap[b]? = some (.cells #[x0, x1, x2, x3] 35 (0, 0))) : (loadVar 35 ⟨b, 0, none⟩).run Try.prog w = .ok (.agg #[x0, x1, x2, x3]) w := by
 have e0 : w.cell? ⟨b, 0, none⟩ = some x0 := by rw [Lib.cell_of_heap h]; rfl
 have e1 : w.cell? ⟨b, 1, none⟩ = some x1 := by rw [Lib.cell_of_heap h]; rfl
 have e2 : w.cell? ⟨b, 2, none⟩ = some x2 := by rw [Lib.cell_of_heap h]; rfl
 have e3 : w.cell? ⟨b, 3, none⟩ = some x3 := by rw [Lib.cell_of_heap h]; rfl
 simp [go_sem, e0, e1, e2, e3]
theorem dNew22 (w : World) : Calls Try.prog 14 #[] w fun e w' => e = .returned (.agg #[.slice none 0 0, .int .i64 (-1), .bool false, .int .i64 0]) ∧ Below w.heap.size w w' := by
 have HB := hide (alloc_below w (.cells #[.slice none 0 0, .int .i64 (-1), .bool false, .int .i64 0] 35))
 have HX := hide (heap_alloc_new w (.cells #[.slice none 0 0, .int .i64 (-1), .bool false, .int .i64 0] 35))
 go_enter Try.func14, Try.ntmps14
 go_wp2
 refine bodyPost_ret (resCell1 rfl rfl (load_dkr HX.out)) rfl ?_
 exact ⟨rfl, HB.out⟩
theorem dr_new {w : World} {base g : Nat} (h : w.heap[g]? = some (.cells #[.slice none 0 0, .int .i64 (-1), .bool false, .int .i64 0] 35 (0, 0))) (hb : base <= g) : Dr w base g (.slice none 0 0) dk0 [] :=
 ⟨h, World.ownsRow_nil _ _ _ _, fun e he => (by cases he), rfl, hb, dk0_dok⟩
def zr32 : List Int := List.replicate 32 0
theorem zr32_len : (valb zr32).length = 32 := by rw [valb_length]; rfl
def blkc (c : Int) : List Int := List.replicate 32 c
theorem blkc_len (c : Int) : (blkc c).length = 32 := by simp [blkc]
theorem blkc_by {c : Int} (h : 0 <= c ∧ c <= 255) : By (blkc c) := fun x hx => by
 rw [List.eq_of_mem_replicate hx]; exact h
theorem made_32 (W : World) : (Instr.makeSlice 23 (.int .i64 32) (.int .i64 32)).run Try.prog W = .ok (.slice (some ⟨W.heap.size, 0, none⟩) 32 32) (W.alloc (.cells (valb zr32).toArray 5)) := by
 obtain ⟨i, hi, hz, hs, hb⟩ := info_parts u8_info
 have := run_make (P := Try.prog) W 23 5 i (.int .u8 0) Try.underlying23 hi hz .i64 .i64 32 32 (by omega) (by omega) (by rw [hb]; decide) (by omega)
 rw [this, hs]
 show Result.ok _ (W.alloc (.cells (madeCells #[.int .u8 0] (32 * 1)) 5)) = _
 rw [made_listO]
 unfold valb zr32
 rw [List.map_replicate]
 rfl
theorem blk_step (c : Int) {k : Nat} (hk : k < 32) : (valb (List.replicate k c ++ List.replicate (32 - k) 0)).set k (.int .u8 c) = valb (List.replicate (k + 1) c ++ List.replicate (32 - (k + 1)) 0) := by
 have e : 32 - k = (32 - (k + 1)) + 1 := by omega
 unfold valb
 rw [e, List.replicate_succ, List.map_append, List.map_cons, List.set_append_right _ _ (by simp), List.length_map, List.length_replicate, Nat.sub_self, List.set_cons_zero, List.map_append, List.replicate_succ' (n := k), List.map_append, List.append_assoc]
 rfl
theorem dBlock (c : Int) (hc : 0 <= c ∧ c <= 255) (w : World) : Calls Try.prog 24 #[.int .u8 c] w fun e w' => ∃ v', e = .returned v' ∧ w'.ownsRow w.heap.size 5 1 v' 32 (valb (blkc c)) ∧ Below w.heap.size w w' := by
 have hmk := made_32
 have HO := hide (own_newY (W := w) (T := 5) (base := w.heap.size) (Nat.le_refl _) (zr32_len) (by omega))
 have HB := hide (alloc_below w (.cells (valb zr32).toArray 5))
 go_enter Try.func24, Try.ntmps24
 go_wp2
 generalize w.alloc (.cells (valb zr32).toArray 5) = w1 at *
 go_loopw [4] (fun vi wr => ∃ (k : Nat), k <= 32 ∧ vi = .int .i64 k ∧ Hid (wr.ownsRow w.heap.size 5 1 (.slice (some ⟨w.heap.size, 0, none⟩) 32 32) 32 (valb (List.replicate k c ++ List.replicate (32 - k) 0))) ∧ Below w.heap.size w wr) (fun vi _ => 32 - (intOf vi).toNat)
 case atStart => exact ⟨0, Nat.zero_le _, rfl, HO, HB.out⟩
 case round =>
  obtain ⟨k, hk, rfl, HR, hB⟩ := hrel
  by_cases hlt : k < 32
  · have hx : (valb (List.replicate k c ++ List.replicate (32 - k) 0))[k]? = some (.int .u8 0) := by
     unfold valb
     rw [List.map_append, List.getElem?_append_right (by simp), List.length_map, List.length_replicate, Nat.sub_self, List.map_replicate, List.getElem?_replicate, if_pos (by omega)]
    have hcl := own_atO HR.out hx
    have hfz := own_frz HR.out k
    have k0 : (0 : Int) <= (k : Int) := by omega
    have k1 : (k : Int) < 32 := by omega
    clear hx
    go_wp2
    go_roundw
    case rel =>
     refine ⟨k + 1, by omega, by go_num, ?_, hB.setCell (p := ⟨w.heap.size, _, none⟩) (Nat.le_refl _) _⟩
     rw [<- blk_step c hlt]
     exact own_setn HR.out _
    case measure => simp [intOf]; omega
  · have : k = 32 := by omega
    subst this
    go_wp2
    go_ret
    have hr := HR.out
    simp only [Nat.sub_self, List.replicate_zero, List.append_nil] at hr
    exact ⟨_, rfl, hr, hB⟩
def Bl (w : World) (v : Value) (bs : List (List Int)) : Prop :=
 ∃ ao cap, v = .slice ao bs.length cap ∧ bs.length <= cap ∧ ∀ i b, bs[i]? = some b -> ∃ r u, ao = some ⟨r, 0, none⟩ ∧ r < w.heap.size ∧ w.cell? ⟨r, i, none⟩ = some u ∧ Rb w u b
theorem Bl.below {w w' : World} {v : Value} {bs : List (List Int)} (h : Bl w v bs) (hb : Below w.heap.size w w') : Bl w' v bs := by
 obtain ⟨ao, cap, h1, h2, h3⟩ := h
 refine ⟨ao, cap, h1, h2, fun i b hi => ?_⟩
 obtain ⟨r, u, e1, e2, e3, e4⟩ := h3 i b hi
 exact ⟨r, u, e1, Nat.lt_of_lt_of_le e2 hb.size, (hb.cell (p := ⟨r, i, none⟩) e2).trans e3, e4.below hb⟩
theorem Dr.bl {w : World} {base g : Nat} {v : Value} {D : Dsk} {es : List Be} (h : Dr w base g v D es) : Bl w v D.l := by
 have hlen := h.len
 have hr := h.row
 obtain ⟨ao, cap, rfl, hcap, hsp⟩ := own_spellO hr
 refine ⟨ao, cap, by rw [hlen], by omega, fun i b hi => ?_⟩
 have hil : i < es.length := by have := (List.getElem?_eq_some_iff.1 hi).1; omega
 obtain ⟨r, rfl, _, hrl⟩ := hsp (by omega)
 have he : es[i]? = some es[i] := List.getElem?_eq_getElem hil
 have hb : es[i].1 = b := by
  rw [<- h.eq, List.getElem?_map, he] at hi
  simpa using hi
 have h9 := h.each _ (List.getElem_mem hil)
 rw [hb] at h9
 have h10 : b ∈ D.l := List.mem_of_getElem? hi
 exact ⟨r, es[i].2, rfl, hrl, own_atO hr (by rw [List.getElem?_map, he]; rfl), rb_of_own h9 (h.o.byt b h10) (by rw [h.o.ok.blk b h10]; decide)⟩
theorem tbl_get (r : Nat) {n i : Nat} (h : i < n) : (tbl r n)[i]? = some (.slice (some ⟨r, i * 32, none⟩) 32 32) := by
 unfold tbl
 rw [List.getElem?_map, List.getElem?_range h]; rfl
theorem row_rb {w : World} {lo r n c i : Nat} {bs : List (List Int)} {b : List Int} (h : w.ownsRow lo 71 32 (.slice (some ⟨r, 0, none⟩) n c) n (bs.flatMap k32)) (hi : bs[i]? = some b) (h32 : b.length = 32) (hy : By b) : r < w.heap.size ∧ Rb w (.slice (some ⟨r, i * 32, none⟩) 32 32) b := by
 have hf := fun j (hj : j < 32) => flat_get k32 32 k32_len bs i b j hi hj
 have hrl : r < w.heap.size := (h.lt r (by simp [Value.ownBlock])).2
 refine ⟨hrl, some ⟨r, i * 32, none⟩, 32, by rw [h32], ⟨by omega, by omega, fun h => by cases h⟩, hy, fun _ => ⟨r, i * 32, rfl, hrl, fun j hj => ?_⟩⟩
 have hj' : j < 32 := by omega
 have h2 := hf j hj'
 rw [k32_valb h32, valb_at b j hj] at h2
 exact own_atO h h2
theorem Tol.bl {w : World} {lo r c : Nat} {v : Value} {bs : List (List Int)} (h : Tol w lo v r c bs) : Bl w v bs := by
 have hr := h.row
 obtain ⟨ao, cap, rfl, hcap, hsp⟩ := own_spellO hr
 refine ⟨ao, cap, rfl, hcap, fun i b hi => ?_⟩
 have hil : i < bs.length := (List.getElem?_eq_some_iff.1 hi).1
 obtain ⟨q, rfl, _, hql⟩ := hsp (by omega)
 have hm := h.b32 b (List.mem_of_getElem? hi)
 have hk := row_rb (h.blk (by omega)) hi hm.1 hm.2
 exact ⟨q, _, rfl, hql, own_atO hr (tbl_get r hil), hk.2⟩
theorem dSame22 (v u : Value) (ps : List (List Int)) (w : World) (h1 : Bl w v ps) (h2 : Bl w u ps) (hl : ps.length <= 5864062014700) :
 Calls Try.prog 9 #[v, u] w fun e w' => e = .returned (.bool true) ∧ Below w.heap.size w w' := by
 have HO := hide (fun (p : List Int) x y W (r1 : Rb W x p) (r2 : Rb W y p) => rSame8 x y p p W r1 r2)
 simp only [decide_true] at HO
 have H1 := hide (fun W (hb : Below w.heap.size w W) => h1.below hb)
 have H2 := hide (fun W (hb : Below w.heap.size w W) => h2.below hb)
 obtain ⟨a1, k1, rfl, hk1, _⟩ := h1
 obtain ⟨a2, k2, rfl, hk2, _⟩ := h2
 generalize hn : ps.length = n at *
 have HN := hide hn
 clear hn
 go_enter Try.func9, Try.ntmps9
 go_wp2
 go_loopw [5] (fun vi wr => ∃ (k : Nat), k <= n ∧ vi = .int .i64 k ∧ Below w.heap.size w wr) (fun vi _ => n - (intOf vi).toNat)
 case atStart => exact ⟨0, Nat.zero_le _, rfl, Below.refl _ _⟩
 case round =>
  obtain ⟨k, hk, rfl, hB⟩ := hrel
  by_cases hlt : k < n
  · have hp : ps[k]? = some (ps[k]'(by have := HN.out; omega)) := List.getElem?_eq_getElem _
    generalize ps[k]'(by have := HN.out; omega) = p at *
    obtain ⟨x1, _, q1, _, q2⟩ := H1.out wr hB
    obtain ⟨b1, u1, rfl, hb1, c0, r1⟩ := q2 k p hp
    obtain ⟨x2, _, q3, _, q4⟩ := H2.out wr hB
    obtain ⟨b2, u2, rfl, hb2, d0, r2⟩ := q4 k p hp
    have e1 : a1 = some ⟨b1, 0, none⟩ := by injection q1
    have e3 : a2 = some ⟨b2, 0, none⟩ := by injection q3
    subst e1 e3
    clear q1 q3
    obtain ⟨a3, k3, rfl, _⟩ := r1.spell
    obtain ⟨a4, k4, rfl, _⟩ := r2.spell
    have HOne := hide (HO.out p _ _ wr.drew (r1.below (Below.refl _ wr).drew) (r2.below (Below.refl _ wr).drew))
    have hS0 : wr.drew.cell? ⟨b1, k, none⟩ = some (.slice a3 p.length k3) ∧ wr.drew.cell? ⟨b2, k, none⟩ = some (.slice a4 p.length k4) := ⟨c0, d0⟩
    have k0 : (0 : Int) <= (k : Int) := by omega
    have k1' : (k : Int) < (n : Int) := by omega
    clear H1 H2 HO q2 q4 r1 r2 hp c0 d0
    go_upto_region 6 with fail
    refine wp_region_held_drew (S := (fun V => V.cell? ⟨b1, k, none⟩ = some (.slice a3 p.length k3) ∧ V.cell? ⟨b2, k, none⟩ = some (.slice a4 p.length k4))) (by kernel_rfl) (by ((try dsimp only) <;> (with_reducible exact hS0))) (fun hHeld => ?_)
    refine tkY 0 ?_
    refine tkY 1 ?_
    refine tkY 2 ?_
    refine tkY 3 ?_
    refine tkY 4 ?_
    refine tkY 5 ?_
    refine tkY 6 ?_
    refine tkY 7 ?_
    refine rd1 8 (fun K hK => ?_)
    (try simp only [ly0, ly1, ly2, ly3, ly4, ly5, ly6, ly7])
    go_simp
    (
     (go_at_call 27; refine HOne.out.mono ?_; rintro e w2 ⟨rfl, hw2⟩; rw [hw2]; clear hw2))
    first | refine hK.out _ _ ?k2 (fun hHeld => ?_) | (go_wp2_with fail; refine hK.out _ _ ?k2 (fun hHeld => ?_))
    case k2 => ((try dsimp only) <;> (with_reducible exact hS0))
    clear hK K
    (try simp only [ly0, ly1, ly2, ly3, ly4, ly5, ly6, ly7])
    refine tkY 9 ?_
    refine wpAnyH_done (by kernel_rfl) ?_ _
    clear hS0 HOne
    go_wp2
    go_roundw
    case rel => exact ⟨k + 1, by omega, by go_num, (Below.next hB (Below.refl _ wr).drew)⟩
    case measure => simp [intOf]; omega
  · have : k = n := by omega
    subst this
    go_wp2
    go_ret
    exact ⟨rfl, hB⟩
end Go.Proofs.Ythialdipnhggnaa
