import Derived.Lib.ItoaNum
set_option linter.unusedVariables false
set_option linter.unusedSimpArgs false
set_option maxRecDepth 100000
set_option maxHeartbeats 4000000
namespace Go.Proofs.YtjhididlcdepdaaGreat.Slp
abbrev Tx := List UInt8
def num (l : Tx) : Nat := l.foldl (fun n d => 10 * n + (d.toNat - 48)) 0
end Go.Proofs.YtjhididlcdepdaaGreat.Slp
namespace Go.Proofs.YtjhididlcdepdaaGreat.Slp
structure O4 where
 k : Int
 a : Int
 b : Int
 c : Int
structure Pr where
 inp : Int
 ops : List O4
 outs : List Int
end Go.Proofs.YtjhididlcdepdaaGreat.Slp
namespace Go.Proofs.YtjhididlcdepdaaGreat.Slp
def hand (n : Nat) : Pr := ⟨n, [], (List.range n).map (fun j : Nat => (j : Int))⟩
end Go.Proofs.YtjhididlcdepdaaGreat.Slp
