import Derived.Test.YtjhididlcdepdaaGreatBunO
import Derived.Deep.DeepAppendRoom
set_option linter.unusedVariables false
set_option linter.unusedSimpArgs false
set_option maxRecDepth 100000
set_option maxHeartbeats 4000000
namespace Go.Proofs.YtjhididlcdepdaaGreat
open Go.RowKit Fld
theorem run_append_parts {P : Program} (w : World) (base : Nat) (t ty e : TypeId) (i : TypeInfo) (z : Value) (size bytes : Nat) (ht : P.underlying t = some (.slice e)) (hi : P.info? e = some i) (hz : i.zero = some z)
 (hsize : i.size = size) (hby : i.bytes = bytes) (hzs : z.cells.size = size) (hsz : 0 < size)
 (g n cap : Nat) (xs : List Value) (hown : w.ownsRow base e size (.slice (some ⟨g, 0, none⟩) n cap) n xs)
 (a : Addr) (m c : Nat) (news : List Value) (hl : news.length = m * size) (hnews : ∀ j u, news[j]? = some u -> w.cell? (a.add j) = some u) (h1 : ∀ u ∈ news, u.oneCell' = true)
 (h63 : n + m <= maxLen) (hbytes : (n + m) * bytes <= 140737488355328) (hbase : base <= w.heap.size) :
 ∃ g' cap' w', (Builtin.append_ #[t, t] ty #[.slice (some ⟨g, 0, none⟩) n cap, .slice (some a) m c]).run P w = .ok (.slice (some ⟨g', 0, none⟩) (n + m) cap') w' ∧ w'.ownsRow base e size (.slice (some ⟨g', 0, none⟩) (n + m) cap') (n + m) (xs ++ news) ∧
  (g' = g ∧ cap' = cap ∧ w.grownBy w' (some g) ∨ g' = w.heap.size ∧ w.grownBy w' none) := by
 by_cases hroom : n + m <= cap
 · obtain ⟨w', hr, h2, h3⟩ := run_append_own_spare (P := P) w base t ty e i size ht hi hsize g n cap xs hown a m c news hl hnews h1 hroom
   exact ⟨g, cap, w', hr, h2, .inl ⟨rfl, rfl, h3⟩⟩
 · subst hsize
   subst hby
   have hlen : (xs ++ news).length = (n + m) * i.size := by rw [List.length_append, hown.1, hl, Nat.add_mul]
   have hsmall : n + m <= 9223372036854775807 := by simp only [maxLen] at h63; omega
   have holds : ∀ j u, xs[j]? = some u -> w.cell? ((⟨g, 0, none⟩ : Addr).add j) = some u := hown.cells (g := g) rfl
   have hr := run_append_grow (P := P) w t ty e i z ht hi hz ⟨g, 0, none⟩ n cap xs hown.1 holds a m c news hl hnews (by omega) (by omega) (growslice_fits (by omega) hbytes)
   have hge := grownCap_ge w (n + m) cap e
   have hcm : grownCap w (n + m) cap e <= maxLen := grownCap_le_maxLen w (n + m) cap e h63
   refine ⟨_, _, _, hr, ⟨hlen, .inr ⟨w.heap.size, _, _, rfl, hbase, heap_alloc_new w.drew _, hge, hcm, ?_, ?_⟩⟩, .inr ⟨rfl, ⟨rfl, rfl, rfl, by simp, fun k hk _ => Below.heap_alloc w.drew _ k hk⟩⟩⟩
   · simp only [Array.size_append, List.size_toArray, size_zeroCells, hzs, hown.1, hl, <- Nat.add_mul]
     congr 1
     omega
   · simp only [Array.toList_append, List.append_assoc]
     rw [<- List.append_assoc, <- hlen]
     exact List.take_left
theorem wpList_append_parts {P : Program} {w : World} {ops : Array Oper} {rest : List Oper} {o : Oper} {a : Act} {Q : Exit -> Act -> World -> Prop} (hgd : o.guard = none) (s x : Operand) (t : TypeId)
 (ho : o.op = .call { callee := .builtin .append, args := #[s, x], argTypes := #[t, t] })
 (base : Nat) (e : TypeId) (i : TypeInfo) (z : Value) (size bytes : Nat) (ht : P.underlying t = some (.slice e)) (hi : P.info? e = some i) (hz : i.zero = some z)
 (hsize : i.size = size) (hby : i.bytes = bytes) (hzs : z.cells.size = size) (hsz : 0 < size)
 (g n cap : Nat) (xs : List Value) (hs : a.eval s = .slice (some ⟨g, 0, none⟩) n cap) (hown : w.ownsRow base e size (.slice (some ⟨g, 0, none⟩) n cap) n xs)
 (ad : Addr) (m c : Nat) (news : List Value) (hx : a.eval x = .slice (some ad) m c) (hl : news.length = m * size) (hnews : ∀ j u, news[j]? = some u -> w.cell? (ad.add j) = some u) (h1 : ∀ u ∈ news, u.oneCell' = true)
 (h63 : n + m <= maxLen) (hbytes : (n + m) * bytes <= 140737488355328) (hbase : base <= w.heap.size) (H : Nat) (hH : w.heap.size = H)
 (h : ∀ g' cap' w', w'.ownsRow base e size (.slice (some ⟨g', 0, none⟩) (n + m) cap') (n + m) (xs ++ news) -> (g' = g ∧ cap' = cap ∧ w.grownBy w' (some g) ∨ g' = H ∧ w.grownBy w' none) -> wpList P ops Q rest (a.put o.dst (.slice (some ⟨g', 0, none⟩) (n + m) cap')) w') : wpList P ops Q (o :: rest) a w := by
 refine wpList_plain hgd fun K hK => ?_
 obtain ⟨g', cap', w', hr, h2, h3⟩ := run_append_parts (P := P) w base t o.type e i z size bytes ht hi hz hsize hby hzs hsz g n cap xs hown ad m c news hl hnews h1 h63 hbytes hbase
 unfold Oper.wp execOp
 simp only [ho, resolve, invoke, builtin, Sem.run_bind, Sem.run_pure, Result.andThen_ok, List.map_toArray, List.map_cons, List.map_nil, hs, hx, hr]
 exact hK _ _ (h g' cap' w' h2 (by rw [<- hH]; exact h3))
def Ws (xs : List Int) : Prop := ∀ x ∈ xs, 0 <= x ∧ x <= 18446744073709551615
theorem Ws.set {xs : List Int} (h : Ws xs) (k : Nat) {m : Int} (m0 : 0 <= m) (m1 : m <= 18446744073709551615) : Ws (xs.set k m) := by
 intro x hx
 rcases List.mem_or_eq_of_mem_set hx with h1 | rfl
 · exact h x h1
 · exact ⟨m0, m1⟩
theorem Ws.app {xs ys : List Int} (h : Ws xs) (k : Ws ys) : Ws (xs ++ ys) := by
 intro x hx
 rcases List.mem_append.1 hx with h1 | h1
 · exact h x h1
 · exact k x h1
theorem Ws.take {xs : List Int} (h : Ws xs) (k : Nat) : Ws (xs.take k) := fun x hx => h x (List.mem_of_mem_take hx)
theorem ws3 {m : Int} (m0 : 0 <= m) (m1 : m <= 300) : Ws [m, m, m] := by
 intro x hx
 simp at hx
 subst hx
 omega
theorem Spoil_own (v : Value) (n base : Nat) (xs : List Int) (m : Int) (w : World) (m0 : 0 <= m) (m1 : m <= 300) (hO : w.ownsRow base 64 1 v n (vals xs)) (hx : Ws xs) (hn : n <= 17592186043904) (hb : base <= w.heap.size) :
 Calls Tryz.prog 25 #[v, .int .u64 m] w fun e w' => e = .returned (.tuple #[]) ∧ w.grownBy w' v.ownBlock ∧ ∃ zs, Ws zs ∧ w'.ownsRow base 64 1 v n (vals zs) := by
 have hv : v = .slice none 0 0 ∧ n = 0 ∨ ∃ g cap, v = .slice (some ⟨g, 0, none⟩) n cap := by
  rcases hO.2 with h | ⟨g, cap, _, h, _⟩
  · exact .inl h
  · exact .inr ⟨g, cap, h⟩
 rcases hv with ⟨rfl, rfl⟩ | ⟨g, cap, rfl⟩
 · exact (Spoil_mark _ 0 base xs m w m0 m1 hO hn hb).mono fun e w' ⟨he, hg⟩ => ⟨he, hg, [], (fun x hx => by cases hx), World.ownsRow_nil _ _ _ _⟩
 · obtain ⟨i0, hi0, hz0, hz1, hz2⟩ := info_parts u64_info
   have hgt := own_top hO g rfl
   have W3 := hide (ws3 m0 m1)
   have HX := hide hx
   clear hx
   go_enter Tryz.func25, Tryz.ntmps25
   go_wp2
   go_loopw [4] (fun vi wr => ∃ (k : Nat) (ys : List Int), k <= n ∧ vi = .int .i64 k ∧ Hid (Ws ys) ∧ wr.ownsRow base 64 1 (.slice (some ⟨g, 0, none⟩) n cap) n (vals ys) ∧ w.grownBy wr (some g)) (fun vi _ => n - (intOf vi).toNat)
   case atStart => exact ⟨0, xs, Nat.zero_le _, rfl, HX, hO, grown_refl _ _⟩
   case round =>
    clear hO
    obtain ⟨k, ys, hk, rfl, HY, hO, hG⟩ := hrel
    have hyl := own_len hO
    by_cases hlt : k < n
    · have hck := own_cell hO hyl hlt
      have hfr := hO.frozenAt k
      generalize ys.getD k 0 = y at *
      go_wp2
      go_roundw
      case rel => exact ⟨k + 1, _, by omega, by go_num, HY.out.set k (by omega) (by omega), (spoil_step hO hG (.inl rfl)).1, (spoil_step hO hG (.inl rfl)).2⟩
      case measure => simp [intOf]; omega
    · have hGs := hG.size
      have HOg := hide hO
      go_wp2_with (at_builtin; refine wpList_append_parts rfl _ _ _ rfl base 64 i0 _ 1 8 Tryz.underlying36 hi0 hz0 hz1 hz2 rfl (by omega) g n cap (vals ys) rfl (hO.alloc _) ⟨wr.heap.size, 0, none⟩ 3 3 [.int .u64 m, .int .u64 m, .int .u64 m] rfl rfl (World.news_of_block (cs := #[.int .u64 m, .int .u64 m, .int .u64 m]) (t := 64) (fr := (0, 0)) (heap_alloc_new wr _)) (by simp [Value.oneCell']) (by unfold maxLen; omega) (by omega) (by simp; omega) (wr.heap.size + 1) (by simp) ?_; intro gg cap2 w2 hO2 hat)
      have hO2 : w2.ownsRow base 64 1 (.slice (some ⟨gg, 0, none⟩) (n + 3) cap2) (n + 3) (vals (ys ++ [m, m, m])) := by simpa [vals] using hO2
      have HZ : Hid (Ws (ys ++ [m, m, m])) := HY.out.app W3.out
      have hG2 : w.grownBy w2 (some g) := by
       rcases hat with ⟨_, _, h⟩ | ⟨_, h⟩
       · exact grown_trans (grown_alloc hG _) h
       · exact grown_trans (grown_alloc hG _) ⟨h.os, h.tape, h.output, h.size, fun j hj _ => h.block j hj (by simp)⟩
      have hrow : (some g : Option Nat) = some gg ∨ w.heap.size <= gg := by
       rcases hat with ⟨h, _, _⟩ | ⟨h, _⟩
       · exact .inl (by rw [h])
       · right; omega
      have HE : Hid (∀ wr zs, Ws zs -> World.ownsRow wr base 64 1 (.slice (some ⟨gg, 0, none⟩) (n + 3) cap2) (n + 3) (vals zs) -> w2.grownBy wr (some gg) -> ∃ zs, Ws zs ∧ wr.ownsRow base 64 1 (.slice (some ⟨g, 0, none⟩) n cap) n (vals zs)) := by
       intro wq zs hz hq hgq
       rcases hat with ⟨rfl, rfl, _⟩ | ⟨rfl, h⟩
       · exact ⟨_, hz.take n, own_take hq (by omega)⟩
       · refine ⟨ys, HY.out, own_kept (own_kept (HOg.out.alloc _) h (fun _ _ => by simp)) hgq ?_⟩
         intro g' hg' hc
         have := own_top HOg.out g' hg'
         cases hc
         omega
      clear hO hG hat hyl HOg
      go_loopw [5] (fun vi wr => ∃ (k : Nat) (zs : List Int), k <= n + 3 ∧ vi = .int .i64 k ∧ Hid (Ws zs) ∧ wr.ownsRow base 64 1 (.slice (some ⟨gg, 0, none⟩) (n + 3) cap2) (n + 3) (vals zs) ∧ w.grownBy wr (some g) ∧ w2.grownBy wr (some gg)) (fun vi _ => n + 3 - (intOf vi).toNat)
      case atStart => exact ⟨0, _, Nat.zero_le _, rfl, HZ, hO2, hG2, grown_refl _ _⟩
      case round =>
       clear hO2 hG2
       obtain ⟨j, zs, hj, rfl, HZ, hO, hG, hGG⟩ := hrel
       have hzl := own_len hO
       by_cases hlt2 : j < n + 3
       · have hck := own_cell hO hzl hlt2
         have hfr := hO.frozenAt j
         generalize zs.getD j 0 = y at *
         go_wp2
         go_roundw
         case rel => exact ⟨j + 1, _, by omega, by go_num, HZ.out.set j (by omega) (by omega), (spoil_step hO hG hrow).1, (spoil_step hO hG hrow).2, (spoil_step hO hGG (.inl rfl)).2⟩
         case measure => simp [intOf]; omega
       · have HQ := hide (HE.out _ _ HZ.out hO hGG)
         clear HE
         go_wp2
         go_end0
         exact ⟨rfl, hG, HQ.out⟩
theorem getD_set {α : Type} (l : List α) (k i : Nat) (x d : α) (hk : k < l.length) : (l.set k x).getD i d = if i = k then x else l.getD i d := by
 rw [List.getD_eq_getElem?_getD, List.getD_eq_getElem?_getD, List.getElem?_set]
 by_cases h : k = i
 · subst h
   rw [if_pos rfl, if_pos rfl, if_pos hk]; rfl
 · rw [if_neg h, if_neg (fun e => h e.symm)]
end Go.Proofs.YtjhididlcdepdaaGreat
