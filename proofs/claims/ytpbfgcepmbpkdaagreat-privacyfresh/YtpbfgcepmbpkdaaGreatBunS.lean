/- Texts laid together: SlpA, SlpB, SlpC, SlpD. -/
import Derived.Lib.ItoaNum
namespace Go.Proofs.YtpbfgcepmbpkdaaGreat.Slp
set_option linter.unusedVariables false

abbrev Tx := List UInt8
/-- A number's decimal form. -/
def dec (u : Nat) : Tx := Lib.decDigits u
def dgt (d : UInt8) : Prop := 48 ≤ d.toNat ∧ d.toNat ≤ 57
/-- The number of some digits. -/
def num (l : Tx) : Nat := l.foldl (fun n d => 10 * n + (d.toNat - 48)) 0
/-- A number that is read, up to most. -/
def nmb (s : Tx) (most : Nat) : Option Nat := if s ≠ [] ∧ (∀ d ∈ s, 48 ≤ d.toNat ∧ d.toNat ≤ 57) ∧ (s.head? = some 48 → s.length = 1) ∧ num s ≤ most then some (num s) else none
/-- A text cut at a byte: what is whole, and what is under way. -/
def cutS (c : UInt8) (st : List Tx × Tx) (x : UInt8) : List Tx × Tx := if x = c then (st.1 ++ [st.2], []) else (st.1, st.2 ++ [x])
def pst (c : UInt8) (l : Tx) : List Tx × Tx := l.foldl (cutS c) ([], [])
def pcs (c : UInt8) (l : Tx) : List Tx := (pst c l).1 ++ [(pst c l).2]
/-- Words with a byte between each two. -/
def jnt (c : UInt8) : List Tx → Tx
  | [] => []
  | [w] => w
  | w :: v :: ws => w ++ c :: jnt c (v :: ws)
end Go.Proofs.YtpbfgcepmbpkdaaGreat.Slp

namespace Go.Proofs.YtpbfgcepmbpkdaaGreat.Slp
set_option linter.unusedVariables false

/-- A step, and a program. -/
structure O4 where
  k : Int
  a : Int
  b : Int
  c : Int
structure Pr where
  inp : Int
  ops : List O4
  outs : List Int
/-- May a step be, whose own value has that number? -/
def opM (o : O4) (own : Int) : Bool :=
  if o.k = 1 ∨ o.k = 2 ∨ o.k = 3 then decide (0 ≤ o.a ∧ o.a < own ∧ 0 ≤ o.b ∧ o.b < own ∧ o.c = 0) else if o.k = 4 then decide (o.a = 0 ∧ o.b = 0) else false
def opsM (inp : Int) : Nat → List O4 → Bool
  | _, [] => true
  | i, o :: os => opM o (inp + i) && opsM inp (i + 1) os
def outM (inp : Int) (n : Nat) (outs : List Int) : Bool := outs.all (fun v => decide (0 ≤ v ∧ v < inp + n))
def mayB (p : Pr) : Bool := decide (0 ≤ p.inp ∧ p.inp ≤ 64 ∧ p.ops.length ≤ 256 ∧ p.outs.length ≤ 64) && (opsM p.inp 0 p.ops && outM p.inp p.ops.length p.outs)
/-- The constants are words. -/
def Cw (p : Pr) : Prop := ∀ o ∈ p.ops, 0 ≤ o.c ∧ o.c ≤ 18446744073709551615
/-- A value, as it is written. -/
def valT (inp v : Int) : Tx := if v < inp then 120 :: dec v.toNat else 116 :: dec (v - inp).toNat
def sgn (k : Int) : UInt8 := if k = 1 then 43 else if k = 2 then 45 else 42
def stpT (inp : Int) (i : Nat) (o : O4) : Tx := (116 :: dec i) ++ ([32, 61, 32] ++ (if o.k = 4 then dec o.c.toNat else valT inp o.a ++ ([32, sgn o.k, 32] ++ valT inp o.b)))
def outT (inp : Int) (outs : List Int) : Tx := [111, 117, 116, 115] ++ (outs.map (fun v => 32 :: valT inp v)).flatten
def hdT (inp : Int) : Tx := [105, 110, 112, 117, 116, 115, 32] ++ dec inp.toNat
def stps (inp : Int) : Nat → List O4 → List Tx
  | _, [] => []
  | i, o :: os => stpT inp i o :: stps inp (i + 1) os
def lns (p : Pr) : List Tx := hdT p.inp :: (stps p.inp 0 p.ops ++ [outT p.inp p.outs])
def ends (ls : List Tx) : Tx := (ls.map (· ++ [10])).flatten
def txt (p : Pr) : Tx := ends (lns p)

/-- A value that is read, below own. -/
def valP (n own : Nat) : Tx → Option Int
  | [] => none
  | x :: d => if x = 120 then (match nmb d 18446744073709551615 with | some v => if v < n ∧ v < own then some (v : Int) else none | none => none)
    else if x = 116 then (match nmb d 18446744073709551615 with | some v => if n + v < own then some ((n + v : Nat) : Int) else none | none => none) else none
/-- What a sign means. -/
def sgP (w : Tx) : Option Int := if w = [43] then some 1 else if w = [45] then some 2 else if w = [42] then some 3 else none
/-- The first line. -/
def hdP (l : Tx) : Option Nat :=
  match pcs 32 l with
  | [w0, w1] => if w0 = [105, 110, 112, 117, 116, 115] then nmb w1 64 else none
  | _ => none
/-- A step's line. -/
def stP (n i : Nat) (l : Tx) : Option O4 :=
  match pcs 32 l with
  | [t, e, w] => if t = 116 :: dec i ∧ e = [61] then (match nmb w 18446744073709551615 with | some c => some ⟨4, 0, 0, (c : Int)⟩ | none => none) else none
  | [t, e, x, g, y] => if t = 116 :: dec i ∧ e = [61] then (match valP n (n + i) x, sgP g, valP n (n + i) y with | some a, some k, some b => some ⟨k, a, b, 0⟩ | _, _, _ => none) else none
  | _ => none
end Go.Proofs.YtpbfgcepmbpkdaaGreat.Slp

namespace Go.Proofs.YtpbfgcepmbpkdaaGreat.Slp
set_option linter.unusedVariables false

def ouW : Tx := [111, 117, 116, 115]
/-- Values that are read. -/
def valsP (n own : Nat) : List Tx → Option (List Int)
  | [] => some []
  | w :: ws => match valP n own w, valsP n own ws with | some v, some vs => some (v :: vs) | _, _ => none
/-- The last line. -/
def ouP (n own : Nat) (l : Tx) : Option (List Int) :=
  match pcs 32 l with
  | w0 :: ws => if w0 = ouW ∧ ws.length ≤ 64 then valsP n own ws else none
  | [] => none
def pz : Pr := ⟨0, [], []⟩
def isOut (l : Tx) : Bool := (pcs 32 l).head? == some ouW
/-- The lines behind the first one; i: how many were read; the number of a line that is none, or 0. -/
def rdGo (n : Nat) (rest : Tx) : Nat → List O4 → List Tx → Pr × Nat
  | i, ops, [] => (pz, i + 1)
  | i, ops, l :: ls =>
    if isOut l = true then (match ouP n (n + ops.length) l with | some outs => if ls = [] ∧ rest = [] then (⟨n, ops, outs⟩, 0) else (pz, i + 2) | none => (pz, i + 1))
    else (match stP n ops.length l with | some o => if ops.length < 256 then rdGo n rest (i + 1) (ops ++ [o]) ls else (pz, i + 1) | none => (pz, i + 1))
def rdT (ls : List Tx) (rest : Tx) : Pr × Nat :=
  match ls with
  | [] => (pz, 1)
  | l :: ls => match hdP l with | some n => rdGo n rest 1 [] ls | none => (pz, 1)
def rdS (s : Tx) : Pr × Nat := rdT (pst 10 s).1 (pst 10 s).2

end Go.Proofs.YtpbfgcepmbpkdaaGreat.Slp

namespace Go.Proofs.YtpbfgcepmbpkdaaGreat.Slp
set_option linter.unusedVariables false

/-- The values of p's numbers behind q. -/
def aftAt (q : Pr) (i : Nat) : List Int := q.outs ++ (List.range i).map (fun j => q.inp + ((q.ops.length + j : Nat) : Int))
def shO (at_ : List Int) (o : O4) : O4 := if o.k = 4 then o else ⟨o.k, at_.getD o.a.toNat 0, at_.getD o.b.toNat 0, o.c⟩
def aftE (p q : Pr) : Int := if mayB p = true ∧ mayB q = true ∧ (q.outs.length : Int) = p.inp then (if 256 < p.ops.length + q.ops.length then 4 else 0) else 2
def aftF (p q : Pr) : Pr := ⟨q.inp, q.ops ++ p.ops.map (shO (aftAt q p.ops.length)), p.outs.map (fun v => (aftAt q p.ops.length).getD v.toNat 0)⟩
def aftP (p q : Pr) : Pr := if aftE p q = 0 then aftF p q else pz
/-- What hands n values on. -/
def hand (n : Nat) : Pr := ⟨n, [], (List.range n).map (fun j : Nat => (j : Int))⟩
end Go.Proofs.YtpbfgcepmbpkdaaGreat.Slp

