import Derived.Test.YtjhididlcdepdaaGreatBunAT
import Derived.Test.YtjhididlcdepdaaGreatBunM
set_option linter.unusedVariables false
set_option linter.unusedSimpArgs false
set_option maxRecDepth 100000
set_option maxHeartbeats 4000000
namespace Go.Proofs.YtjhididlcdepdaaGreat
open Go.RowKit Fld Pln
abbrev Rq := Int × Value × List Int
def rpw (x : Rq) : List Value := [.int .i64 x.1, x.2.1]
theorem rpw_len (x : Rq) : (rpw x).length = 2 := rfl
def zRq : Rq := (0, .slice none 0 0, [])
def rpO (x : Rq) : Rp := ⟨x.1, x.2.2⟩
def rps (us : List Rq) : List Rp := us.map rpO
theorem rps_len (us : List Rq) : (rps us).length = us.length := by unfold rps; rw [List.length_map]
theorem rps_at (us : List Rq) (i : Nat) : (rps us).getD i nrp = rpO (us.getD i zRq) := by
 unfold rps
 rw [List.getD_eq_getElem?_getD, List.getD_eq_getElem?_getD, List.getElem?_map]
 cases us[i]? <;> rfl
structure Rpl (w : World) (v : Value) (us : List Rq) : Prop where
 lm : Lm rpw 2 w v us
 row : ∀ x ∈ us, Rw w x.2.1 x.2.2
 num : ∀ x ∈ us, -9223372036854775808 <= x.1 ∧ x.1 <= 9223372036854775807
 big : us.length * 32 <= 140737488351232
theorem Rpl.below {w w' : World} {v : Value} {us : List Rq} (h : Rpl w v us) (hb : Below w.heap.size w w') : Rpl w' v us := ⟨h.lm.below hb, fun x hx => (h.row x hx).below hb, h.num, h.big⟩
theorem rpl_nil (w : World) : Rpl w (.slice none 0 0) [] := ⟨lm_nil rpw 2 w, (fun x hx => by cases hx), (fun x hx => by cases hx), by decide⟩
theorem getD_inQ {us : List Rq} {i : Nat} (h : i < us.length) : us.getD i zRq ∈ us := by
 rw [List.getD_eq_getElem?_getD, List.getElem?_eq_getElem h]; exact List.getElem_mem h
theorem Rpl.wd {w : World} {v : Value} {us : List Rq} (h : Rpl w v us) : ∀ r ∈ rps us, Wd r.vs := fun r hr => by
 obtain ⟨x, hx, rfl⟩ := List.mem_map.1 hr
 exact ⟨(h.row x hx).len, (h.row x hx).words⟩
theorem Rpl.cell {w W : World} {b off n cap : Nat} {us : List Rq} (h : Rpl w (.slice (some ⟨b, off, none⟩) n cap) us) (hB : Below w.heap.size w W) {k : Nat} (hk : k < us.length) : W.cell? ⟨b, off + k * 2, none⟩ = some (.int .i64 (us.getD k zRq).1) ∧ W.cell? ⟨b, off + k * 2 + 1, none⟩ = some (us.getD k zRq).2.1 ∧ b < w.heap.size := by
 have e : us[k]? = some (us.getD k zRq) := by rw [List.getD_eq_getElem?_getD, List.getElem?_eq_getElem hk]; rfl
 have h0 := h.lm.at_ (i := k) (j := 0) (u := .int .i64 (us.getD k zRq).1) e rfl
 have h1 := h.lm.at_ (i := k) (j := 1) (u := (us.getD k zRq).2.1) e rfl
 exact ⟨(hB.cell (p := ⟨b, off + (k * 2 + 0), none⟩) h0.1).trans h0.2, (hB.cell (p := ⟨b, off + (k * 2 + 1), none⟩) h1.1).trans h1.2, h0.1⟩
theorem rw_some8 {w : World} {v : Value} {xs : List Int} (h : Rw w v xs) (h0 : 0 < xs.length) : ∃ b off cap, v = .slice (some ⟨b, off, none⟩) xs.length cap ∧ ∀ W, Below w.heap.size w W -> ∀ i, i < xs.length -> W.cell? ⟨b, off + i, none⟩ = some (.int .u64 (co xs i)) := by
 obtain ⟨⟨ao', cap', h1, h2, h3, h4⟩, h5⟩ := h
 obtain ⟨b, off, h6, h7, h8⟩ := h4 (List.length_pos_iff.1 h0)
 subst h6
 exact ⟨b, off, cap', h1, fun W hb i hi => (hb.cell (p := ⟨b, off + i, none⟩) h7).trans (h8 i hi)⟩
theorem Rpl.spell {w : World} {v : Value} {us : List Rq} (h : Rpl w v us) : ∃ ao cap, v = .slice ao us.length cap ∧ us.length <= cap := h.lm.spell
theorem Rpl.one {w : World} {v : Value} {us : List Rq} (h : Rpl w v us) {i : Nat} (hi : i < us.length) : ∃ a c, (us.getD i zRq).2.1 = .slice a (us.getD i zRq).2.2.length c := by
 obtain ⟨a, c, e, _⟩ := (h.row _ (getD_inQ hi)).spell
 exact ⟨a, c, e⟩
end Go.Proofs.YtjhididlcdepdaaGreat
