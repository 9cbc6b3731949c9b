import Derived.Test.YtcglbbglapomgaaBObjA
import Derived.Test.YtcglbbglapomgaaBWirC
import Derived.Test.YtcglbbglapomgaaBNetA
set_option linter.unusedVariables false
set_option linter.unusedSimpArgs false
set_option maxRecDepth 100000
set_option maxHeartbeats 4000000
namespace Go.Proofs.Ytcglbbglapomgaa
open Go.RowKit Fld
def pkw (p : Pk) : List Value := [.int .i64 p.f, .int .i64 p.t, .string (strOfNums p.b)]
theorem pkw_len (p : Pk) : (pkw p).length = 3 := rfl
theorem pkw_one (p : Pk) : ∀ v ∈ pkw p, v.oneCell' = true := by
 intro v hv
 simp only [pkw, List.mem_cons, List.not_mem_nil, or_false] at hv
 rcases hv with rfl | rfl | rfl <;> rfl
def ntc (N : Nt) (v : Value) : Array Value := #[.int .i64 N.n, v, .int .i64 (N.s : Int), .int .i64 (N.d : Int)]
structure Nm (w : World) (base g : Nat) (v : Value) (N : Nt) : Prop where
 net : w.heap[g]? = some (.cells (ntc N v) 68 (0, 0))
 row : w.ownsRow base 72 3 v N.l.length (N.l.flatMap pkw)
 low : base <= g
theorem Nm.lt {w : World} {base g : Nat} {v : Value} {N : Nt} (h : Nm w base g v N) : g < w.heap.size := (Array.getElem?_eq_some_iff.1 h.net).1
theorem Nm.cells {w : World} {base g : Nat} {v : Value} {N : Nt} (h : Nm w base g v N) : w.cell? ⟨g, 0, none⟩ = some (.int .i64 N.n) ∧ w.cell? ⟨g, 1, none⟩ = some v ∧ w.cell? ⟨g, 2, none⟩ = some (.int .i64 (N.s : Int)) ∧ w.cell? ⟨g, 3, none⟩ = some (.int .i64 (N.d : Int)) := by
 have h' := h.net
 refine ⟨?_, ?_, ?_, ?_⟩ <;> simp [World.cell?, h', ntc]
theorem Nm.free {w : World} {base g : Nat} {v : Value} {N : Nt} (h : Nm w base g v N) (k : Nat) : w.frozen? ⟨g, k, none⟩ = false := by
 have h' := h.net
 simp [World.frozen?, h']
theorem Nm.spell {w : World} {base g : Nat} {v : Value} {N : Nt} (h : Nm w base g v N) : ∃ ao cap, v = .slice ao N.l.length cap ∧ N.l.length <= cap ∧ (0 < N.l.length -> ∃ r, ao = some ⟨r, 0, none⟩ ∧ base <= r ∧ r < w.heap.size) := own_spellO h.row
theorem Nm.own_lt {w : World} {base g : Nat} {v : Value} {N : Nt} (h : Nm w base g v N) : ∀ j, v.ownBlock = some j -> base <= j ∧ j < w.heap.size := h.row.lt
theorem Nm.ne {w : World} {base g : Nat} {v : Value} {N : Nt} (h : Nm w base g v N) : v.ownBlock ≠ some g := fun e => by
 rcases h.row.2 with ⟨rfl, _⟩ | ⟨r, cap, cur, rfl, _, hr, _⟩
 · cases e
 · simp [Value.ownBlock] at e
   subst e
   rw [h.net] at hr
   simp at hr
theorem Nm.kept {S : Nat -> Prop} {w w' : World} {base g : Nat} {v : Value} {N : Nt} (h : Nm w base g v N) (k : Kq S w w') (hg : S g) (hv : ∀ j, v.ownBlock = some j -> S j) : Nm w' base g v N :=
 ⟨(k.block g hg).trans h.net, k.own h.row hv, h.low⟩
theorem Nm.below {w w' : World} {base g : Nat} {v : Value} {N : Nt} (h : Nm w base g v N) (hb : Below w.heap.size w w') : Nm w' base g v N :=
 h.kept (Below.kq hb (S := fun j => j < w.heap.size) (fun j hj => hj)) h.lt (fun j hj => (h.own_lt j hj).2)
theorem Nm.pk {w : World} {base g r len cap : Nat} {N : Nt} (h : Nm w base g (.slice (some ⟨r, 0, none⟩) len cap) N) {i : Nat} {p : Pk} (hp : N.l[i]? = some p) : w.cell? ⟨r, i * 3, none⟩ = some (.int .i64 p.f) ∧ w.cell? ⟨r, i * 3 + 1, none⟩ = some (.int .i64 p.t) ∧ w.cell? ⟨r, i * 3 + 2, none⟩ = some (.string (strOfNums p.b)) := by
 have hO : w.ownsRow base 72 3 (.slice (some ⟨r, 0, none⟩) len cap) N.l.length (N.l.flatMap pkw) := h.row
 have hl : len = N.l.length := by
  rcases hO.2 with ⟨e, _⟩ | ⟨_, _, _, e, _⟩ <;> cases e; rfl
 subst hl
 have hf := fun j (hj : j < 3) => flat_get pkw 3 pkw_len N.l i p j hp hj
 exact ⟨own_atO hO (hf 0 (by omega)), own_atO hO (hf 1 (by omega)), own_atO hO (hf 2 (by omega))⟩
structure Nok (N : Nt) : Prop where
 ok : NtOk N
 byt : ∀ p ∈ N.l, By p.b
structure Np (w : World) (base g : Nat) (v : Value) (N : Nt) : Prop where
 m : Nm w base g v N
 o : Nok N
theorem Np.kept {S : Nat -> Prop} {w w' : World} {base g : Nat} {v : Value} {N : Nt} (h : Np w base g v N) (k : Kq S w w') (hg : S g) (hv : ∀ j, v.ownBlock = some j -> S j) : Np w' base g v N := ⟨h.m.kept k hg hv, h.o⟩
theorem Np.below {w w' : World} {base g : Nat} {v : Value} {N : Nt} (h : Np w base g v N) (hb : Below w.heap.size w w') : Np w' base g v N := ⟨h.m.below hb, h.o⟩
theorem gIsThere {w : World} {base g : Nat} {v : Value} {N : Nt} (h : Np w base g v N) : Calls Try.prog 32 #[.pointer (some ⟨g, 0, none⟩)] w fun e w' => e = .returned (.bool true) ∧ w' = w := by
 obtain ⟨c0, _, _, _⟩ := h.m.cells
 have hn := h.o.ok.n
 have h0 : 0 < N.n := by omega
 go_enter Try.func32, Try.ntmps32
 go_wp2
 go_ret
 exact ⟨by simp, rfl⟩
theorem gIsNode {w : World} {base g : Nat} {v : Value} {N : Nt} (h : Nm w base g v N) (i : Int) : Calls Try.prog 34 #[.pointer (some ⟨g, 0, none⟩), .int .i64 i] w fun e w' => e = .returned (.bool (decide (0 <= i ∧ i < N.n))) ∧ w' = w := by
 obtain ⟨c0, _, _, _⟩ := h.cells
 by_cases h1 : 0 <= i <;> by_cases h2 : i < N.n
 all_goals
  go_enter Try.func34, Try.ntmps34
  go_wp2
  go_ret
  refine ⟨?_, rfl⟩
  simp_all
  try omega
theorem gIsFull {w : World} {base g : Nat} {v : Value} {N : Nt} (h : Nm w base g v N) : Calls Try.prog 35 #[.pointer (some ⟨g, 0, none⟩)] w fun e w' => e = .returned (.bool (decide (4096 <= N.l.length))) ∧ w' = w := by
 obtain ⟨_, c1, _, _⟩ := h.cells
 obtain ⟨ao, cap, rfl, _⟩ := h.spell
 by_cases h1 : 4096 <= N.l.length
 all_goals
  go_enter Try.func35, Try.ntmps35
  go_wp2
  go_ret
  refine ⟨?_, rfl⟩
  simp_all
  try omega
theorem gPlace {w : World} {base g : Nat} {v : Value} {N : Nt} (h : Np w base g v N) (i : Int) : Calls Try.prog 29 #[.pointer (some ⟨g, 0, none⟩), .int .i64 i] w fun e w' => e = .returned (.int .i64 (plE N i)) ∧ w' = w := by
 have H := hide (gIsThere h)
 obtain ⟨_, c1, _, _⟩ := h.m.cells
 obtain ⟨ao, cap, rfl, _⟩ := h.m.spell
 by_cases h1 : i < 0
 · have e : plE N i = 2 := by unfold plE hasI; rw [if_neg (by simp; omega)]
   rw [e]
   go_enter Try.func29, Try.ntmps29
   go_wp2_with (go_at_call 32; refine H.out.mono ?_; rintro e w1 ⟨rfl, rfl⟩)
   go_ret
   exact ⟨rfl, rfl⟩
 · by_cases h2 : i < (N.l.length : Int)
   · have e : plE N i = 0 := by unfold plE hasI; rw [if_pos (by simp; omega)]
     rw [e]
     go_enter Try.func29, Try.ntmps29
     go_wp2_with (go_at_call 32; refine H.out.mono ?_; rintro e w1 ⟨rfl, rfl⟩)
     go_ret
     exact ⟨rfl, rfl⟩
   · have e : plE N i = 2 := by unfold plE hasI; rw [if_neg (by simp; omega)]
     rw [e]
     go_enter Try.func29, Try.ntmps29
     go_wp2_with (go_at_call 32; refine H.out.mono ?_; rintro e w1 ⟨rfl, rfl⟩)
     go_ret
     exact ⟨rfl, rfl⟩
theorem lLoad (g k : Nat) (s : Int) (w : World) (hc : w.cell? ⟨g, k, none⟩ = some (.int .i64 s)) : Calls Try.prog 33 #[.pointer (some ⟨g, k, none⟩)] w fun e w' => e = .returned (.int .i64 s) ∧ w' = w := by
 have hl := run_call_load (P := Try.prog) Try.func44 (by kernel_rfl) (by kernel_rfl) (by kernel_rfl) .i64 (by kernel_rfl) hc
 go_enter Try.func33, Try.ntmps33
 go_wp2
 go_ret
 exact ⟨rfl, rfl⟩
theorem lAdd1 (g k : Nat) (s : Nat) (hs : s < 4611686018427387904) (w : World) (hc : w.cell? ⟨g, k, none⟩ = some (.int .i64 (s : Int))) (hz : w.frozen? ⟨g, k, none⟩ = false) : Calls Try.prog 45 #[.pointer (some ⟨g, k, none⟩), .int .i64 1] w fun e w' => (∃ u, e = .returned u) ∧ w' = w.setCell ⟨g, k, none⟩ (.int .i64 ((s + 1 : Nat) : Int)) := by
 have ha : (Op.intArith .add .i64 (s : Int) 1).run Try.prog w = .ok (.int .i64 ((s + 1 : Nat) : Int)) w := by
  have : IntKind.wrap .i64 ((s : Int) + 1) = ((s + 1 : Nat) : Int) := by rw [IntKind.wrap_i64]; omega
  simp [Op.intArith, this]
 have hl := run_call_add (P := Try.prog) Try.func47 (by kernel_rfl) (by kernel_rfl) (by kernel_rfl) .i64 (by kernel_rfl) hc hz ha
 go_enter Try.func45, Try.ntmps45
 go_wp2
 go_ret
 exact ⟨⟨_, rfl⟩, rfl⟩
theorem lStore (g k : Nat) (s : Int) (u : Value) (w : World) (hc : w.cell? ⟨g, k, none⟩ = some u) (hz : w.frozen? ⟨g, k, none⟩ = false) : Calls Try.prog 40 #[.pointer (some ⟨g, k, none⟩), .int .i64 s] w fun e w' => e = .returned (.tuple #[]) ∧ w' = w.setCell ⟨g, k, none⟩ (.int .i64 s) := by
 have hl := run_call_store (P := Try.prog) (k := .i64) (y := s) Try.func46 (by kernel_rfl) (by kernel_rfl) (by kernel_rfl) (by kernel_rfl) hc hz
 go_enter Try.func40, Try.ntmps40
 go_wp2
 go_end0
 exact ⟨rfl, rfl⟩
end Go.Proofs.Ytcglbbglapomgaa
