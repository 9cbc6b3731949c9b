import Derived.Test.YtcglbbglapomgaaBunP
set_option linter.unusedVariables false
set_option linter.unusedSimpArgs false
set_option maxRecDepth 100000
set_option maxHeartbeats 4000000
namespace Go.Proofs.Ytcglbbglapomgaa.Fld
structure Pk where
 f : Int
 t : Int
 b : List Int
theorem pk_eq {p q : Pk} (h1 : p.f = q.f) (h2 : p.t = q.t) (h3 : p.b = q.b) : p = q := by cases p; cases q; simp_all
def pkS (p q : Pk) : Bool := decide (p.f = q.f ∧ p.t = q.t ∧ p.b = q.b)
theorem pkS_iff (p q : Pk) : pkS p q = true ↔ p = q := by
 unfold pkS
 rw [decide_eq_true_iff]
 exact ⟨fun ⟨h1, h2, h3⟩ => pk_eq h1 h2 h3, fun h => by subst h; exact ⟨rfl, rfl, rfl⟩⟩
theorem pkS_self (p : Pk) : pkS p p = true := (pkS_iff p p).2 rfl
def pk0 : Pk := ⟨0, 0, []⟩
structure Nt where
 n : Int
 l : List Pk
 s : Nat
 d : Nat
 c : Nat
def ntE (n : Int) : Int := if 1 <= n ∧ n <= 65 then 0 else 2
def nt0 (n : Int) : Nt := ⟨n, [], 0, 0, 0⟩
def hasI (l : List Pk) (i : Int) : Bool := decide (0 <= i ∧ i < (l.length : Int))
theorem hasI_iff {l : List Pk} {i : Int} : hasI l i = true ↔ ∃ k : Nat, i = (k : Int) ∧ k < l.length := by
 unfold hasI
 rw [decide_eq_true_iff]
 exact ⟨fun h => ⟨i.toNat, by omega, by omega⟩, fun ⟨k, h1, h2⟩ => by omega⟩
def sdE (N : Nt) (f t : Int) (b : List Int) : Int := if 0 <= f ∧ f < N.n ∧ 0 <= t ∧ t < N.n then if 4096 <= N.l.length ∨ 1048576 < b.length then 4 else 0 else 2
def sdN (N : Nt) (f t : Int) (b : List Int) : Nt := if sdE N f t b = 0 then { N with l := N.l ++ [⟨f, t, b⟩], s := N.s + 1 } else N
def plE (N : Nt) (i : Int) : Int := if hasI N.l i = true then 0 else 2
def dvP (N : Nt) (i : Int) : Pk := if hasI N.l i = true then N.l.getD i.toNat pk0 else pk0
def dvN (N : Nt) (i : Int) : Nt := if hasI N.l i = true then { N with l := N.l.eraseIdx i.toNat, d := N.d + 1 } else N
def dpN (N : Nt) (i : Int) : Nt := if hasI N.l i = true then { N with l := N.l.eraseIdx i.toNat, c := N.c + 1 } else N
def dbE (N : Nt) (i : Int) : Int := if hasI N.l i = true then if 4096 <= N.l.length then 4 else 0 else 2
def dbN (N : Nt) (i : Int) : Nt := if dbE N i = 0 then { N with l := N.l ++ [N.l.getD i.toNat pk0], s := N.s + 1 } else N
def mvL {α : Type} (l : List α) (i j : Nat) (p : α) : List α := (l.eraseIdx i).take j ++ p :: (l.eraseIdx i).drop j
def mvE (N : Nt) (i j : Int) : Int := if hasI N.l i = true ∧ hasI N.l j = true then 0 else 2
def mvN (N : Nt) (i j : Int) : Nt := if mvE N i j = 0 then { N with l := mvL N.l i.toNat j.toNat (N.l.getD i.toNat pk0) } else N
structure NtOk (N : Nt) : Prop where
 n : 1 <= N.n ∧ N.n <= 65
 len : N.l.length <= 4096
 sum : N.s = N.l.length + N.d + N.c
 pk : ∀ p ∈ N.l, (0 <= p.f ∧ p.f < N.n) ∧ (0 <= p.t ∧ p.t < N.n) ∧ p.b.length <= 1048576
theorem mvL_len {α : Type} {l : List α} {i j : Nat} {p : α} (hi : i < l.length) (hj : j < l.length) : (mvL l i j p).length = l.length := by
 unfold mvL
 rw [List.length_append, List.length_cons, List.length_take, List.length_drop, List.length_eraseIdx_of_lt hi]
 omega
theorem take_eraseIdx_self {α : Type} : ∀ (l : List α) (i : Nat), (l.eraseIdx i).take i = l.take i
 | [], i => by simp
 | x :: xs, 0 => by simp
 | x :: xs, i + 1 => by simp [take_eraseIdx_self xs i]
theorem drop_eraseIdx_self {α : Type} : ∀ (l : List α) (i : Nat), (l.eraseIdx i).drop i = l.drop (i + 1)
 | [], i => by simp
 | x :: xs, 0 => by simp
 | x :: xs, i + 1 => by simp [drop_eraseIdx_self xs i]
theorem mvL_self {α : Type} {l : List α} {i : Nat} {p : α} (hp : l[i]? = some p) : mvL l i i p = l := by
 have hi : i < l.length := (List.getElem?_eq_some_iff.1 hp).1
 unfold mvL
 rw [take_eraseIdx_self, drop_eraseIdx_self]
 have := List.take_append_drop i l
 rw [List.drop_eq_getElem_cons hi, (List.getElem?_eq_some_iff.1 hp).2] at this
 exact this
theorem mvL_mem {α : Type} {l : List α} {i j : Nat} {p x : α} (hp : p ∈ l) (hx : x ∈ mvL l i j p) : x ∈ l := by
 unfold mvL at hx
 rcases List.mem_append.1 hx with h | h
 · exact List.mem_of_mem_eraseIdx (List.mem_of_mem_take h)
 · rcases List.mem_cons.1 h with rfl | h
   · exact hp
   · exact List.mem_of_mem_eraseIdx (List.mem_of_mem_drop h)
theorem nt0_ok {n : Int} (h : ntE n = 0) : NtOk (nt0 n) := by
 unfold ntE at h
 refine ⟨?_, by simp [nt0], rfl, fun p hp => by simp [nt0] at hp⟩
 show 1 <= n ∧ n <= 65
 by_cases h1 : 1 <= n ∧ n <= 65
 · exact h1
 · rw [if_neg h1] at h; cases h
theorem getD_mem {l : List Pk} {i : Int} (h : hasI l i = true) : l.getD i.toNat pk0 ∈ l := by
 obtain ⟨k, rfl, hk⟩ := hasI_iff.1 h
 rw [Int.toNat_natCast, List.getD_eq_getElem?_getD, List.getElem?_eq_getElem hk]
 exact List.getElem_mem hk
theorem has_lt {l : List Pk} {i : Int} (h : hasI l i = true) : i.toNat < l.length := by
 obtain ⟨k, rfl, hk⟩ := hasI_iff.1 h
 rw [Int.toNat_natCast]; exact hk
theorem sdE_zero {N : Nt} {f t : Int} {b : List Int} (h : sdE N f t b = 0) : (0 <= f ∧ f < N.n) ∧ (0 <= t ∧ t < N.n) ∧ N.l.length < 4096 ∧ b.length <= 1048576 := by
 unfold sdE at h
 by_cases h1 : 0 <= f ∧ f < N.n ∧ 0 <= t ∧ t < N.n
 · rw [if_pos h1] at h
   by_cases h2 : 4096 <= N.l.length ∨ 1048576 < b.length
   · rw [if_pos h2] at h; cases h
   · exact ⟨⟨h1.1, h1.2.1⟩, h1.2.2, by omega, by omega⟩
 · rw [if_neg h1] at h; cases h
theorem sdN_ok {N : Nt} (h : NtOk N) (f t : Int) (b : List Int) : NtOk (sdN N f t b) := by
 unfold sdN
 by_cases he : sdE N f t b = 0
 · rw [if_pos he]
   obtain ⟨h1, h2, h3, h4⟩ := sdE_zero he
   have hs := h.sum
   refine ⟨h.n, by show (N.l ++ _).length <= _; simp; omega, by show N.s + 1 = (N.l ++ _).length + N.d + N.c; simp; omega, fun p hp => ?_⟩
   rcases List.mem_append.1 hp with hp | hp
   · exact h.pk p hp
   · have : p = ⟨f, t, b⟩ := by simpa using hp
     subst this
     exact ⟨h1, h2, h4⟩
 · rw [if_neg he]; exact h
theorem dvN_ok {N : Nt} (h : NtOk N) (i : Int) : NtOk (dvN N i) := by
 unfold dvN
 by_cases he : hasI N.l i = true
 · rw [if_pos he]
   have hlt := has_lt he
   have hl := List.length_eraseIdx_of_lt hlt
   have h1 := h.len
   have h2 := h.sum
   exact ⟨h.n, by show (N.l.eraseIdx _).length <= _; omega, by show N.s = (N.l.eraseIdx _).length + (N.d + 1) + N.c; omega, fun p hp => h.pk p (List.mem_of_mem_eraseIdx hp)⟩
 · rw [if_neg he]; exact h
theorem dpN_ok {N : Nt} (h : NtOk N) (i : Int) : NtOk (dpN N i) := by
 unfold dpN
 by_cases he : hasI N.l i = true
 · rw [if_pos he]
   have hlt := has_lt he
   have hl := List.length_eraseIdx_of_lt hlt
   have h1 := h.len
   have h2 := h.sum
   exact ⟨h.n, by show (N.l.eraseIdx _).length <= _; omega, by show N.s = (N.l.eraseIdx _).length + N.d + (N.c + 1); omega, fun p hp => h.pk p (List.mem_of_mem_eraseIdx hp)⟩
 · rw [if_neg he]; exact h
theorem dbN_ok {N : Nt} (h : NtOk N) (i : Int) : NtOk (dbN N i) := by
 unfold dbN
 by_cases he : dbE N i = 0
 · rw [if_pos he]
   unfold dbE at he
   by_cases h1 : hasI N.l i = true
   · rw [if_pos h1] at he
     by_cases h2 : 4096 <= N.l.length
     · rw [if_pos h2] at he; cases he
     · have hs := h.sum
       refine ⟨h.n, by show (N.l ++ _).length <= _; simp; omega, by show N.s + 1 = (N.l ++ _).length + N.d + N.c; simp; omega, fun p hp => ?_⟩
       rcases List.mem_append.1 hp with hp | hp
       · exact h.pk p hp
       · have : p = N.l.getD i.toNat pk0 := List.mem_singleton.1 hp
         rw [this]; exact h.pk _ (getD_mem h1)
   · rw [if_neg h1] at he; cases he
 · rw [if_neg he]; exact h
theorem mvN_ok {N : Nt} (h : NtOk N) (i j : Int) : NtOk (mvN N i j) := by
 unfold mvN
 by_cases he : mvE N i j = 0
 · rw [if_pos he]
   have hb : hasI N.l i = true ∧ hasI N.l j = true := by
    unfold mvE at he
    by_cases hb : hasI N.l i = true ∧ hasI N.l j = true
    · exact hb
    · rw [if_neg hb] at he; cases he
   have hl := mvL_len (p := N.l.getD i.toNat pk0) (has_lt hb.1) (has_lt hb.2)
   exact ⟨h.n, by show (mvL _ _ _ _).length <= _; rw [hl]; exact h.len, by show N.s = (mvL _ _ _ _).length + N.d + N.c; rw [hl]; exact h.sum, fun p hp => h.pk p (mvL_mem (getD_mem hb.1) hp)⟩
 · rw [if_neg he]; exact h
end Go.Proofs.Ytcglbbglapomgaa.Fld
