import Derived.Test.YthialdipnhggnaaBLawUA
import Derived.Test.YthialdipnhggnaaBOpenU
set_option linter.unusedVariables false
set_option linter.unusedSimpArgs false
set_option maxRecDepth 100000
set_option maxHeartbeats 4000000
namespace Go.Proofs.Ythialdipnhggnaa
open Go.RowKit Fld
def stp3 (D : Dsk) (s : Sq3) : Dsk := if s.c = 0 then apN23 sum8 D s.bs else if s.c = 1 then opN23 sum8 D else if s.c = 2 then fuN D s.n else if s.c = 3 then mdN D else if s.c = 4 then wrN22 D (blkc (s.n % 256)) else D
theorem stp3_n (D : Dsk) (s : Sq3) : (stp3 D s).n <= D.n + 100000 := by
 unfold stp3
 split
 · unfold apN23
   split
   · omega
   · have h1 := wsN_n (jrC sum8 s.bs) D
     rw [jrC_len] at h1
     have := jrN_bd s.bs.length
     omega
 · split
   · unfold opN23
     split
     · have := tmN_n D (jrW (rdD sum8 D) : Int); omega
     · omega
   · split
     · unfold fuN; split <;> exact Nat.le_add_right _ _
     · split
       · exact Nat.le_add_right _ _
       · split
         · have := wrN_n D (blkc (s.n % 256)); omega
         · omega
theorem Dy.apart {W W' : World} {base g b : Nat} {v v' : Value} {D : Dsk} {cs : Array Value} {T : TypeId} (h : Dy W base g v D) (m : Mv W W' g v v') (hb : W.heap[b]? = some (.cells cs T (0, 0))) (h1 : T ≠ 35) (h2 : T ≠ 23) : W'.heap[b]? = some (.cells cs T (0, 0)) := by
 obtain ⟨es, h⟩ := h
 refine (m.block (Array.getElem?_eq_some_iff.1 hb).1 (fun e => ?_) (own_notO h.row hb h2)).trans hb
 subst e
 have := hb.symm.trans h.dsk
 injection this with this
 injection this with _ e2 _
 exact h1 e2
def Bx3 (W : World) (b : Nat) (s : Sq3) : Prop := W.heap[b]? = some (.cells #[.int .u8 s.c, s.u, .int .i64 s.n] 38 (0, 0))
theorem Bx3.cells {W : World} {b : Nat} {s : Sq3} (h : Bx3 W b s) : W.cell? ⟨b, 0, none⟩ = some (.int .u8 s.c) ∧ W.cell? ⟨b, 1, none⟩ = some s.u ∧ W.cell? ⟨b, 2, none⟩ = some (.int .i64 s.n) := by
 have h' : W.heap[b]? = some (.cells #[.int .u8 s.c, s.u, .int .i64 s.n] 38 (0, 0)) := h
 refine ⟨?_, ?_, ?_⟩ <;> simp [World.cell?, h']
theorem Bx3.hd {W W' : World} {base g b : Nat} {v v' : Value} {D : Dsk} {s : Sq3} (h : Bx3 W b s) (hd : Hd W base g v D) (m : Mv W W' g v v') : Bx3 W' b s := hd.apart m h (by decide) (by decide)
theorem Bx3.dy {W W' : World} {base g b : Nat} {v v' : Value} {D : Dsk} {s : Sq3} (h : Bx3 W b s) (hd : Dy W base g v D) (m : Mv W W' g v v') : Bx3 W' b s := hd.apart m h (by decide) (by decide)
theorem Bx3.below {W W' : World} {b : Nat} {s : Sq3} (h : Bx3 W b s) (hb : Below W.heap.size W W') : Bx3 W' b s := (hb.block b (Array.getElem?_eq_some_iff.1 h).1).trans h
theorem bx3_new (W : World) (s : Sq3) : Bx3 (W.alloc (.cells #[.int .u8 s.c, s.u, .int .i64 s.n] 38)) W.heap.size s := heap_alloc_new W _
theorem Scr3.sq {w wr : World} {b off n cap k : Nat} {ss : List Sq3} (h : Scr3 w (.slice (some ⟨b, off, none⟩) n cap) ss) (hb : Below w.heap.size w wr) (hk : k < ss.length) :
 wr.cell? ⟨b, off + k * 3, none⟩ = some (.int .u8 ss[k].c) ∧ wr.cell? ⟨b, off + k * 3 + 1, none⟩ = some ss[k].u ∧ wr.cell? ⟨b, off + k * 3 + 2, none⟩ = some (.int .i64 ss[k].n) := by
 have hx : ss[k]? = some ss[k] := List.getElem?_eq_getElem hk
 have key : ∀ i u, (sqc3 ss[k])[i]? = some u -> wr.cell? ⟨b, off + (k * 3 + i), none⟩ = some u := fun i u hu => by
  obtain ⟨hbl, hc⟩ := h.lm.at_ hx hu
  exact (hb.cell (p := ⟨b, off + (k * 3 + i), none⟩) hbl).trans hc
 exact ⟨key 0 _ rfl, key 1 _ rfl, key 2 _ rfl⟩
theorem Rl.mvd {W1 W2 W3 : World} {base gt : Nat} {u u3 lv : Value} {D : Dsk} {es : List Be} (h : Rl W2 W1.heap.size lv es) (hd : Dy W1 base gt u D) (m : Mv W2 W3 gt u u3) : Rl W3 W1.heap.size lv es := by
 obtain ⟨es0, hd⟩ := hd
 exact h.ahead m hd.lt (fun j hj => (hd.row.lt j hj).2)
theorem dMendY {w : World} {base g : Nat} {v : Value} {D : Dsk} (h : Dy w base g v D) : Calls Try.prog 22 #[.pointer (some ⟨g, 0, none⟩)] w fun e w' => e = .returned (.tuple #[]) ∧ Dy w' base g v (mdN D) ∧ Mv w w' g v v := by
 obtain ⟨es, h⟩ := h
 exact (dMend h).mono fun e w' ⟨h1, h2, h3⟩ => ⟨h1, ⟨es, h2⟩, h3⟩
theorem rd23_len {D : Dsk} (h : DskOk D) : (opR23 sum8 D).length <= 5864062014634 := by
 have h0 : (rdD sum8 D).length <= 65536 := by
  rw [rdD_jrA h]
  have h1 := jrW_ge (jrA (jn32 D.l))
  have h2 := jrA_len (jn32 D.l)
  rw [jn32_len] at h2
  have := j32_le D.l
  have := h.len
  omega
 unfold opR23
 split
 · omega
 · simp
end Go.Proofs.Ythialdipnhggnaa
