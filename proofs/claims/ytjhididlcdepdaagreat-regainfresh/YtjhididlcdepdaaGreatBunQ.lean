import Derived.Test.YtjhididlcdepdaaGreatBunW
import Derived.Laws.CopyOwn
set_option linter.unusedVariables false
set_option linter.unusedSimpArgs false
set_option maxRecDepth 100000
set_option maxHeartbeats 4000000
namespace Go.Proofs.YtjhididlcdepdaaGreat
open Go.RowKit Fld
theorem own_mono {w : World} {base base' e size n : Nat} {v : Value} {xs : List Value} (h : w.ownsRow base e size v n xs) (hb : base' <= base) : w.ownsRow base' e size v n xs := by
 refine ⟨h.1, ?_⟩
 rcases h.2 with h1 | ⟨g, cap, cur, h1, h2, h3⟩
 · exact .inl h1
 · exact .inr ⟨g, cap, cur, h1, by omega, h3⟩
theorem own_top {w : World} {b s n : Nat} {T : TypeId} {v : Value} {xs : List Value} (h : w.ownsRow b T s v n xs) (g : Nat) (hg : v.ownBlock = some g) : g < w.heap.size := by
 rcases h.2 with ⟨rfl, _⟩ | ⟨g1, c1, u1, rfl, _, k1, _⟩
 · simp [Value.ownBlock] at hg
 · simp [Value.ownBlock] at hg
   subst hg
   rcases Nat.lt_or_ge g1 w.heap.size with h | h
   · exact h
   · rw [Array.getElem?_eq_none h] at k1; cases k1
theorem own_form {w : World} {b n : Nat} {T : TypeId} {v : Value} {xs : List Value} (h : w.ownsRow b T 1 v n xs) : ∃ a c, v = .slice a n c := by
 rcases h.2 with ⟨rfl, h0⟩ | ⟨g, cap, cur, rfl, _⟩
 · exact ⟨_, _, by rw [h0]⟩
 · exact ⟨_, _, rfl⟩
theorem own_kept {w w' : World} {b s n : Nat} {T : TypeId} {v : Value} {xs : List Value} {r : Option Nat} (h : w.ownsRow b T s v n xs) (hg : w.grownBy w' r) (hne : ∀ g, v.ownBlock = some g -> r ≠ some g) : w'.ownsRow b T s v n xs := h.kept hg (by
 cases hb : Value.ownBlock _ with
 | none => exact .inl rfl
 | some g => exact .inr (fun hc => hne g hb hc.symm))
structure Kq (S : Nat -> Prop) (w w' : World) : Prop where
 os : w'.os = w.os
 tape : w'.tape = w.tape
 output : w'.output = w.output
 size : w.heap.size <= w'.heap.size
 block : ∀ j, S j -> w'.heap[j]? = w.heap[j]?
theorem Kq.refl (S : Nat -> Prop) (w : World) : Kq S w w := ⟨rfl, rfl, rfl, Nat.le_refl _, fun _ _ => rfl⟩
theorem Kq.trans {S : Nat -> Prop} {a b c : World} (h : Kq S a b) (k : Kq S b c) : Kq S a c := ⟨k.os.trans h.os, k.tape.trans h.tape, k.output.trans h.output, Nat.le_trans h.size k.size, fun j hj => (k.block j hj).trans (h.block j hj)⟩
theorem Kq.mono {S S' : Nat -> Prop} {a b : World} (h : Kq S a b) (hs : ∀ j, S' j -> S j) : Kq S' a b := ⟨h.os, h.tape, h.output, h.size, fun j hj => h.block j (hs j hj)⟩
theorem Below.kq {S : Nat -> Prop} {B : Nat} {a b : World} (h : Below B a b) (hs : ∀ j, S j -> j < B) : Kq S a b := ⟨h.os, h.tape, h.output, h.size, fun j hj => h.block j (hs j hj)⟩
theorem grown_kq {S : Nat -> Prop} {a b : World} {r : Option Nat} (h : a.grownBy b r) (hs : ∀ j, S j -> j < a.heap.size) (hr : ∀ k, r = some k -> ¬ S k) : Kq S a b :=
 ⟨h.os, h.tape, h.output, h.size, fun j hj => h.block j (hs j hj) (fun e => hr j e.symm hj)⟩
theorem Kq.below {S : Nat -> Prop} {B : Nat} {a b : World} (h : Kq S a b) (hs : ∀ j, j < B -> S j) : Below B a b := ⟨h.os, h.tape, h.output, h.size, fun j hj => h.block j (hs j hj)⟩
theorem Kq.own {S : Nat -> Prop} {w w' : World} {b s n : Nat} {T : TypeId} {v : Value} {xs : List Value} (h : Kq S w w') (hO : w.ownsRow b T s v n xs) (hs : ∀ g, v.ownBlock = some g -> S g) : w'.ownsRow b T s v n xs := by
 refine ⟨hO.1, ?_⟩
 rcases hO.2 with h1 | ⟨g, cap, cur, h1, h2, h3, h4⟩
 · exact .inl h1
 · refine .inr ⟨g, cap, cur, h1, h2, ?_, h4⟩
   rw [h.block g (hs g (by rw [h1]; rfl))]; exact h3
theorem Kq.cell {S : Nat -> Prop} {w w' : World} {a : Addr} (h : Kq S w w') (hs : S a.block) : w'.cell? a = w.cell? a := World.cell?_of_block (h.block a.block hs)
theorem own_made {w1 : World} {base g n : Nat} (h : w1.ownsRow base 64 1 (.slice (some ⟨g, 0, none⟩) n n) n (madeCells (Value.int .u64 0).cells (n * 1)).toList) : w1.ownsRow base 64 1 (.slice (some ⟨g, 0, none⟩) n n) n (vals (List.replicate n 0)) := by
 have e : (madeCells (Value.int .u64 0).cells (n * 1)).toList = vals (List.replicate n 0) := by
  show (madeCells #[.int .u64 0] (n * 1)).toList = _
  rw [toList_madeCells_one, Nat.mul_one]; simp [vals]
 rw [e] at h; exact h
theorem cell_in {W : World} {a : Addr} {v : Value} (h : W.cell? a = some v) : a.block < W.heap.size := World.block_lt_of_cell? W _ h
def Rw (w : World) (v : Value) (xs : List Int) : Prop := Row w v xs ∧ ∃ ao n cap, v = .slice ao n cap ∧ n <= cap
theorem Rw.below {w w' : World} {v : Value} {xs : List Int} (h : Rw w v xs) (hb : Below w.heap.size w w') : Rw w' v xs := ⟨h.1.below hb, h.2⟩
theorem Rw.spell {w : World} {v : Value} {xs : List Int} (h : Rw w v xs) : ∃ ao cap, v = .slice ao xs.length cap ∧ xs.length <= cap := by
 obtain ⟨⟨ao, cap, rfl, _⟩, a, n, c, h2, h3⟩ := h
 cases h2; exact ⟨_, _, rfl, h3⟩
theorem Rw.len {w : World} {v : Value} {xs : List Int} (h : Rw w v xs) : xs.length <= 17592186043904 := by obtain ⟨⟨_, _, _, h, _⟩, _⟩ := h; exact h
theorem Rw.words {w : World} {v : Value} {xs : List Int} (h : Rw w v xs) : ∀ x ∈ xs, 0 <= x ∧ x <= 18446744073709551615 := by obtain ⟨⟨_, _, _, _, h, _⟩, _⟩ := h; exact h
theorem Rw.take {w : World} {ao : Option Addr} {n cap : Nat} {xs : List Int} (h : Rw w (.slice ao n cap) xs) {k : Nat} (hk : k <= xs.length) : Rw w (.slice ao k cap) (xs.take k) := by
 obtain ⟨⟨ao', cap', h1, h2, h3, h4⟩, a, m, c, h5, h6⟩ := h
 cases h1; cases h5
 have hl : (xs.take k).length = k := by rw [List.length_take]; omega
 refine ⟨⟨ao, cap, by rw [hl], by omega, fun x hx => h3 x (List.mem_of_mem_take hx), fun hne => ?_⟩, _, _, _, rfl, by omega⟩
 have hk0 : 0 < k := by apply Nat.pos_of_ne_zero; intro h0; rw [h0] at hne; simp at hne
 obtain ⟨b, off, rfl, hb, hc⟩ := h4 (by intro h; rw [h] at hk; simp at hk; omega)
 refine ⟨b, off, rfl, hb, fun i hi => ?_⟩
 rw [hl] at hi
 rw [hc i (by omega)]
 simp [List.getD_eq_getElem?_getD, List.getElem?_take_of_lt hi]
theorem Rw.one {w : World} {b off n cap : Nat} {xs : List Int} (h : Rw w (.slice (some ⟨b, off, none⟩) n cap) xs) {k : Nat} (hk : k < xs.length) : Rw w (.slice (some ⟨b, off + k, none⟩) 1 (cap - k)) [co xs k] := by
 obtain ⟨⟨ao', cap', h1, h2, h3, h4⟩, a, m, c, h5, h6⟩ := h
 cases h1; cases h5
 refine ⟨⟨_, _, rfl, by simp, fun x hx => ?_, fun _ => ?_⟩, _, _, _, rfl, by omega⟩
 · have hx := List.mem_singleton.1 hx
   rw [hx, co_at hk]; exact h3 _ (List.getElem_mem hk)
 · obtain ⟨b', off', h7, hb, hc⟩ := h4 (by intro h; rw [h] at hk; simp at hk)
   cases h7
   refine ⟨b, off + k, rfl, hb, fun i hi => ?_⟩
   have : i = 0 := by simp at hi; omega
   subst this
   exact hc k hk
theorem rw_of_own {w : World} {base : Nat} {v : Value} {n : Nat} {xs : List Int} (h : w.ownsRow base 64 1 v n (vals xs)) (hl : xs.length <= 17592186043904)
 (hw : ∀ x ∈ xs, 0 <= x ∧ x <= 18446744073709551615) : Rw w v xs := by
 refine ⟨row_of_own h (own_len h).symm hl hw, ?_⟩
 rcases h.2 with ⟨rfl, _⟩ | ⟨g, cap, cur, rfl, _, _, h1, _⟩
 · exact ⟨_, _, _, rfl, Nat.le_refl _⟩
 · exact ⟨_, _, _, rfl, h1⟩
theorem own_take {w : World} {base n cap : Nat} {ao : Option Addr} {ys : List Int} {T : TypeId} (h : w.ownsRow base T 1 (.slice ao n cap) n (vals ys)) {k : Nat} (hk : k <= n) : w.ownsRow base T 1 (.slice ao k cap) k (vals (ys.take k)) := by
 have hl := own_len h
 have e : (vals (ys.take k)).length = k * 1 := by rw [vals_length, List.length_take]; omega
 refine ⟨e, ?_⟩
 rcases h.2 with ⟨h1, h2⟩ | ⟨g, cap', cur, h1, h2, h3, h4, h5, h6, h7⟩
 · cases h1
   have : k = 0 := by omega
   subst this
   exact .inl ⟨rfl, rfl⟩
 · cases h1
   refine .inr ⟨g, cap, cur, rfl, h2, h3, by omega, h5, h6, ?_⟩
   have e2 : vals (ys.take k) = (vals ys).take (k * 1) := by unfold vals; rw [Nat.mul_one, List.map_take]
   rw [e2, <- h7, List.take_take]; congr 1; omega
theorem els_words {p : Int} {xs : List Int} (h : Els p xs) (hp : p <= 18446744073709551615) : ∀ x ∈ xs, 0 <= x ∧ x <= 18446744073709551615 := fun x hx => elWord (h x hx) hp
theorem els_of {p : Int} {xs : List Int} (h : allIn p xs = true) (hw : ∀ x ∈ xs, 0 <= x ∧ x <= 18446744073709551615) : Els p xs := fun x hx => by
 unfold allIn at h
 rw [List.all_eq_true] at h
 exact ⟨(hw x hx).1, by simpa using h x hx⟩
theorem allIn_of {p : Int} {xs : List Int} (h : Els p xs) : allIn p xs = true := by
 unfold allIn; rw [List.all_eq_true]; intro x hx; simpa using (h x hx).2
theorem tr_stop {xs : List Int} {n : Nat} (hn : n <= xs.length) (h0 : ∀ i, n <= i -> i < xs.length -> co xs i = 0) (h1 : n = 0 ∨ co xs (n - 1) ≠ 0) : (tr xs).length = n := by
 rw [<- take_tr hn h0 h1, List.length_take]; omega
theorem take_tr_len (xs : List Int) : xs.take (tr xs).length = tr xs := take_tr (tr_len xs) (fun i h _ => tr_out xs i h) (by
 by_cases h : tr xs = []
 · left; rw [h]; rfl
 · right; exact tr_last xs h)
theorem ret_i64 {a b : Int} (h : a = b) : Ending.returned (.int .i64 a) = .returned (.int .i64 b) := by rw [h]
theorem zero_down {xs : List Int} {n : Nat} (h : ∀ i, n + 1 <= i -> i < xs.length -> co xs i = 0) (h0 : xs.getD n 0 = 0) : ∀ i, n <= i -> i < xs.length -> co xs i = 0 := by
 intro i h1 h2
 by_cases he : i = n
 · rw [he]; exact h0
 · exact h i (by omega) h2
theorem Degree_any (v : Value) (xs : List Int) (w : World) (hr : Rw w v xs) :
 Calls Tryz.prog 120 #[v] w fun e w' => e = .returned (.int .i64 (((tr xs).length : Int) - 1)) ∧ Below w.heap.size w w' := by
 obtain ⟨⟨ao, cap, rfl, hlen, hw, hc⟩, _⟩ := hr
 go_enter Tryz.func120, Tryz.ntmps120
 go_wp2
 go_loopw [3] (fun vn wr => ∃ n : Nat, n <= xs.length ∧ vn = .int .i64 n ∧ Hid (∀ i, n <= i -> i < xs.length -> co xs i = 0) ∧ Below w.heap.size w wr) (fun vn _ => (intOf vn).toNat)
 case atStart => exact ⟨xs.length, Nat.le_refl _, rfl, fun i h1 h2 => by omega, Below.refl _ _⟩
 case round =>
  obtain ⟨n, hn, rfl, HZ, hB⟩ := hrel
  by_cases hpos : 0 < n
  · obtain ⟨n, rfl⟩ : ∃ j, n = j + 1 := ⟨n - 1, by omega⟩
    obtain ⟨b, off, rfl, hbl, hcell⟩ := hc (by intro h; rw [h] at hn; simp at hn)
    have hck := (hB.cell (p := ⟨b, off + n, none⟩) hbl).trans (hcell n (by omega))
    clear hcell hc
    by_cases hz : xs.getD n 0 = 0
    · have HZ2 := hide (zero_down HZ.out hz)
      rw [hz] at hck
      clear hz HZ
      go_wp2
      go_roundw
      case rel => exact ⟨n, by omega, rfl, HZ2, hB⟩
      case measure => simp [intOf]
    · have HE := hide (tr_stop hn HZ.out (.inr hz))
      generalize xs.getD n 0 = x at *
      clear HZ
      go_wp2
      go_ret
      exact ⟨ret_i64 (by rw [HE.out]; omega), hB⟩
  · obtain rfl : n = 0 := by omega
    have HE := hide (tr_stop hn HZ.out (.inl rfl))
    clear hc HZ
    go_wp2
    go_ret
    exact ⟨ret_i64 (by rw [HE.out]; rfl), hB⟩
theorem trimmed_any (ao : Option Addr) (cap : Nat) (xs : List Int) (w : World) (hr : Rw w (.slice ao xs.length cap) xs) :
 Calls Tryz.prog 146 #[.slice ao xs.length cap] w fun e w' => e = .returned (.slice ao (tr xs).length cap) ∧ Below w.heap.size w w' := by
 have hd := hide (fun W (hb : Below w.heap.size w W) => Degree_any _ xs W (hr.below hb))
 have hl := tr_len xs
 have hlen := hr.len
 obtain ⟨ao', cap', h1, hcap⟩ := hr.spell
 cases h1
 clear hr
 generalize (tr xs).length = n at *
 go_enter Tryz.func146, Tryz.ntmps146
 go_wp2_with (go_at_call 120; refine (hd.out _ (Below.refl _ _)).mono ?_; rintro e w1 ⟨rfl, hb⟩)
 go_ret
 exact ⟨rfl, hb⟩
theorem row_news {w : World} {ao : Option Addr} {n cap : Nat} {xs : List Int} (h : Row w (.slice ao n cap) xs) (hp : 0 < xs.length) : ∃ ad, ao = some ad ∧ ∀ j u, (vals xs)[j]? = some u -> w.cell? (ad.add j) = some u := by
 obtain ⟨ao', cap', h1, h2, h3, h4⟩ := h
 cases h1
 obtain ⟨b, off, rfl, hbl, hcell⟩ := h4 (List.length_pos_iff.1 hp)
 refine ⟨_, rfl, fun j u hj => ?_⟩
 have hjl : j < xs.length := by
  apply Nat.lt_of_not_le; intro hcn; rw [List.getElem?_eq_none (by rw [vals_length]; exact hcn)] at hj; cases hj
 have hadd : (⟨b, off, none⟩ : Addr).add j = ⟨b, off + j, none⟩ := by unfold Addr.add; split <;> simp_all
 rw [vals_at xs j hjl] at hj
 rw [hadd, hcell j hjl]; exact hj
theorem own_block {w : World} {base g n : Nat} {ys : List Int} {T : TypeId} (h : w.ownsRow base T 1 (.slice (some ⟨g, 0, none⟩) n n) n (vals ys)) : w.heap[g]? = some (.cells (vals ys).toArray T (0, 0)) := by
 rcases h.2 with ⟨h1, _⟩ | ⟨g', cap, cur, h1, h2, h3, h4, h5, h6, h7⟩
 · cases h1
 · cases h1
   have : cur = (vals ys).toArray := by
    apply Array.toList_inj.1
    rw [<- h7, List.take_of_length_le (by simp; omega)]
   rw [h3, this]
theorem own_of_block {w : World} {base g n : Nat} {ys : List Int} {T : TypeId} (hb : base <= g) (h : w.heap[g]? = some (.cells (vals ys).toArray T (0, 0))) (hl : ys.length = n) (hn : n <= 17592186043904) : w.ownsRow base T 1 (.slice (some ⟨g, 0, none⟩) n n) n (vals ys) :=
 ⟨by rw [vals_length]; omega, .inr ⟨g, n, _, rfl, hb, h, Nat.le_refl _, by unfold maxLen; omega, by simp [vals_length]; omega, by simp only; rw [List.take_of_length_le (by rw [vals_length]; omega)]⟩⟩
def over (n : Nat) (xs : List Int) : List Int := xs ++ List.replicate (n - xs.length) 0
theorem over_len {n : Nat} {xs : List Int} (h : xs.length <= n) : (over n xs).length = n := by simp [over]; omega
theorem over_self (xs : List Int) : over xs.length xs = xs := by simp [over]
theorem co_over (n : Nat) (xs : List Int) (i : Nat) : co (over n xs) i = co xs i := by
 unfold over co
 rw [List.getD_eq_getElem?_getD, List.getD_eq_getElem?_getD]
 by_cases h : i < xs.length
 · rw [List.getElem?_append_left h]
 · rw [List.getElem?_append_right (by omega), List.getElem?_eq_none (l := xs) (by omega)]
   by_cases h2 : i - xs.length < n - xs.length
   · simp [h2]
   · rw [List.getElem?_eq_none (by simp; omega)]
theorem splice_over (n : Nat) (xs : List Int) : splice (vals (List.replicate n 0)) 0 (vals xs) = vals (over n xs) := by
 simp [splice, over, vals]
theorem u64_size : (Tryz.prog.info? 64).map (·.size) = some 1 := by kernel_rfl
theorem Trim_at (v : Value) (xs : List Int) (w : World) (hr : Rw w v xs) :
 Calls Tryz.prog 173 #[v] w fun e w' => ∃ g, e = .returned (.slice (some ⟨g, 0, none⟩) (tr xs).length (tr xs).length) ∧ w'.ownsRow w.heap.size 64 1 (.slice (some ⟨g, 0, none⟩) (tr xs).length (tr xs).length) (tr xs).length (vals (tr xs)) ∧ Below w.heap.size w w' := by
 obtain ⟨i0, hi0, hz0, hz1, hz2⟩ := info_parts u64_info
 obtain ⟨ao, cap, rfl, hcap⟩ := hr.spell
 have ht := hide (trimmed_any ao cap xs w hr)
 have hlen := hr.len
 have hl := tr_len xs
 have HR := hide (hr.take hl)
 rw [take_tr_len] at HR
 clear hr
 generalize tr xs = zs at *
 have hzl : zs.length <= 17592186043904 := by omega
 have H1 := hide (vals_one zs)
 have HS := hide (splice_over zs.length zs)
 rw [over_self] at HS
 have HW := hide (fun W (hb : Below w.heap.size w W) (hp : 0 < zs.length) => row_news (HR.out.1.below hb) hp)
 obtain ⟨n, HN⟩ : ∃ n, Hid (zs.length = n) := ⟨_, rfl⟩
 have HL : Hid ((vals zs).length = Nat.min n n) := by show _ = _; rw [vals_length, HN.out]; simp
 rw [HN.out] at ht hzl hl HS ⊢
 have HP := hide (vals_length zs)
 rw [<- HP.out] at HW
 obtain ⟨cs, HC⟩ : ∃ cs, Hid (vals zs = cs) := ⟨_, rfl⟩
 rw [HC.out] at H1 HL HW HS
 go_enter Tryz.func173, Tryz.ntmps173
 go_wp2_with (first
  | (go_at_call 146; refine ht.out.mono ?_; rintro e w1 ⟨rfl, hb⟩; have hbs := hb.size)
  | (at_make; refine wpList_make_full _ rfl _ _ 36 rfl w.heap.size 64 i0 (.int .u64 0) 1 Tryz.underlying36 hi0 hz0 hz1 .i64 .i64 _ _ n rfl rfl (by omega) (by omega) (by rw [hz2]; omega) (by unfold maxLen; omega) hbs ?_; intro w2 hown hgrow; have hO := hide (own_made hown); have hB := Below.next hb (below_grown_none hgrow); clear hown)
  | (refine wpList_copy_splice rfl _ _ _ _ rfl 64 Tryz.underlying36 u64_size _ _ _ _ _ _ rfl rfl w1.heap.size 0 (vals (List.replicate n 0)) 64 (own_block hO.out) cs HL.out (fun hp => ⟨rfl, HW.out w2 hB hp⟩) (by have := HL.out; simp at this ⊢; rw [vals_length]; simp; omega) H1.out w.heap.size w hB hbs ?_; intro w3 HG hB3))
 rw [HS.out, <- HC.out] at HG
 go_ret
 exact ⟨w1.heap.size, rfl, own_of_block hbs HG.out HN.out hzl, hB3⟩
theorem Trim_any (v : Value) (xs : List Int) (w : World) (hr : Rw w v xs) :
 Calls Tryz.prog 173 #[v] w fun e w' => ∃ v', e = .returned v' ∧ w'.ownsRow w.heap.size 64 1 v' (tr xs).length (vals (tr xs)) ∧ Below w.heap.size w w' :=
 (Trim_at v xs w hr).mono fun e w' ⟨g, he, hO, hb⟩ => ⟨_, he, hO, hb⟩
def inF (f : Int) (xs : List Int) : Bool := if f = 1 then allIn 2013265921 xs else if f = 2 then allIn 18446744069414584321 xs else false
theorem inF_yes {f p : Int} {wd : Bool} (h : Fi f p wd) (xs : List Int) : inF f xs = allIn p xs := by
 rcases h with ⟨rfl, rfl, _⟩ | ⟨rfl, rfl, _⟩ <;> rfl
theorem inF_no {f : Int} (h1 : f ≠ 1) (h2 : f ≠ 2) (xs : List Int) : inF f xs = false := by
 unfold inF; rw [if_neg h1, if_neg h2]
theorem In_any (f : Int) (v : Value) (xs : List Int) (w : World) (hr : Row w v xs) :
 Calls Tryz.prog 128 #[.int .u8 f, v] w fun e w' => e = .returned (.bool (inF f xs)) ∧ Below w.heap.size w w' := by
 rcases Fi_or f with ⟨p, wd, h⟩ | ⟨h1, h2⟩
 · rw [inF_yes h]
   cases hi : allIn p xs with
   | true => exact In_yes f p wd v xs w h hr hi
   | false => exact In_no f v xs w (.inr ⟨p, wd, h, hi⟩) hr
 · rw [inF_no h1 h2]; exact In_no f v xs w (.inl ⟨h1, h2⟩) hr
theorem rIn_any (f : Int) (v : Value) (xs : List Int) (w : World) (hr : Row w v xs) :
 Calls Tryz.prog 40 #[.int .u8 f, v] w fun e w' => e = .returned (.bool (inF f xs)) ∧ w' = w := by
 rcases Fi_or f with ⟨p, wd, h⟩ | ⟨h1, h2⟩
 · rw [inF_yes h]
   cases hi : allIn p xs with
   | true => exact rIn_yes f p wd v xs w h hr hi
   | false => exact rIn_no f v xs w (.inr ⟨p, wd, h, hi⟩) hr
 · rw [inF_no h1 h2]; exact rIn_no f v xs w (.inl ⟨h1, h2⟩) hr
theorem rTrim_any (v : Value) (xs : List Int) (w : World) (hr : Rw w v xs) :
 Calls Tryz.prog 127 #[v] w fun e w' => ∃ v', e = .returned v' ∧ w'.ownsRow w.heap.size 64 1 v' (tr xs).length (vals (tr xs)) ∧ Below w.heap.size w w' := by
 have HT := hide (fun ao cap (he : v = .slice ao xs.length cap) W (hb : Below w.heap.size w W) => Copy_any (.slice ao (tr xs).length cap) (tr xs) W (by
  subst he
  have := (hr.below hb).take (tr_len xs)
  rw [take_tr_len] at this; exact this.1))
 obtain ⟨ao', cap', hv, hcap⟩ := hr.spell
 obtain ⟨⟨ao, cap, rfl, hlen, hw, hc⟩, _⟩ := hr
 cases hv
 have HT := hide (HT.out _ _ rfl)
 go_enter Tryz.func127, Tryz.ntmps127
 go_wp2
 go_loopw [3] (fun vn wr => ∃ n : Nat, n <= xs.length ∧ vn = .int .i64 n ∧ Hid (∀ i, n <= i -> i < xs.length -> co xs i = 0) ∧ Below w.heap.size w wr) (fun vn _ => (intOf vn).toNat)
 case atStart => exact ⟨xs.length, Nat.le_refl _, rfl, fun i h1 h2 => by omega, Below.refl _ _⟩
 case round =>
  obtain ⟨n, hn, rfl, HZ, hB⟩ := hrel
  by_cases hpos : 0 < n
  · obtain ⟨n, rfl⟩ : ∃ j, n = j + 1 := ⟨n - 1, by omega⟩
    obtain ⟨b, off, rfl, hbl, hcell⟩ := hc (by intro h; rw [h] at hn; simp at hn)
    have hck := (hB.cell (p := ⟨b, off + n, none⟩) hbl).trans (hcell n (by omega))
    clear hcell hc
    by_cases hz : xs.getD n 0 = 0
    · have HZ2 := hide (zero_down HZ.out hz)
      rw [hz] at hck
      clear hz HZ
      go_wp2
      go_roundw
      case rel => exact ⟨n, by omega, rfl, HZ2, hB⟩
      case measure => simp [intOf]
    · have HE := hide (tr_stop hn HZ.out (.inr hz))
      rw [HE.out] at HT
      generalize xs.getD n 0 = x at *
      clear HZ
      go_wp2_with (go_at_call 20; refine (HT.out _ hB).mono ?_; rintro e w1 ⟨v', rfl, hO, hb⟩)
      go_ret
      exact ⟨_, rfl, by rw [HE.out]; exact own_mono hO hB.size, Below.next hB hb⟩
  · obtain rfl : n = 0 := by omega
    have HE := hide (tr_stop hn HZ.out (.inl rfl))
    rw [HE.out] at HT
    clear hc HZ
    go_wp2_with (go_at_call 20; refine (HT.out _ hB).mono ?_; rintro e w1 ⟨v', rfl, hO, hb⟩)
    go_ret
    exact ⟨_, rfl, by rw [HE.out]; exact own_mono hO hB.size, Below.next hB hb⟩
def erb (b1 b2 : Bool) (n m : Nat) : Int := if b1 && b2 then (if 4096 < n ∨ 4096 < m then 4 else 0) else 2
def er (f : Int) (xs ys : List Int) : Int := erb (inF f xs) (inF f ys) xs.length ys.length
theorem er_yes {f p : Int} {wd : Bool} {xs ys : List Int} (h : Fi f p wd) (h1 : allIn p xs = true) (h2 : allIn p ys = true) (h3 : xs.length <= 4096) (h4 : ys.length <= 4096) : er f xs ys = 0 := by
 unfold er erb
 rw [inF_yes h, inF_yes h, h1, h2, if_pos (by decide), if_neg (by omega)]
theorem er_zero {f : Int} {xs ys : List Int} (h : er f xs ys = 0) : ∃ p wd, Fi f p wd ∧ allIn p xs = true ∧ allIn p ys = true ∧ xs.length <= 4096 ∧ ys.length <= 4096 := by
 unfold er erb at h
 rcases Fi_or f with ⟨p, wd, hf⟩ | ⟨h1, h2⟩
 · rw [inF_yes hf, inF_yes hf] at h
   refine ⟨p, wd, hf, ?_⟩
   cases a : allIn p xs <;> cases b : allIn p ys <;> simp [a, b] at h ⊢
   omega
 · rw [inF_no h1 h2] at h; simp at h
theorem erb_ne (b1 b2 : Bool) (n m : Nat) : erb b1 b2 n m = 0 ∨ erb b1 b2 n m = 2 ∨ erb b1 b2 n m = 4 := by
 unfold erb; split
 · split
   · exact .inr (.inr rfl)
   · exact .inl rfl
 · exact .inr (.inl rfl)
theorem pcheck_any (f : Int) (v1 v2 : Value) (xs ys : List Int) (w : World) (b : Nat) (h1 : Rw w v1 xs) (h2 : Rw w v2 ys) (hT : Two b v1 v2 w) :
 Calls Tryz.prog 101 #[.int .u8 f, .slice (some ⟨b, 0, none⟩) 2 2] w fun e w' => e = .returned (.int .i64 (er f xs ys)) ∧ Below w.heap.size w w' := by
 have i1 := hide (fun W (hb : Below w.heap.size w W) => In_any f v1 xs W (h1.1.below hb))
 have i2 := hide (fun W (hb : Below w.heap.size w W) => In_any f v2 ys W (h2.1.below hb))
 have l1 := h1.len
 have l2 := h2.len
 obtain ⟨a1, c1, rfl, _⟩ := h1.spell
 obtain ⟨a2, c2, rfl, _⟩ := h2.spell
 obtain ⟨t1, t2, _, _, tl⟩ := hT
 clear h1 h2
 unfold er
 generalize xs.length = n1 at *
 generalize ys.length = n2 at *
 generalize inF f xs = b1 at *
 generalize inF f ys = b2 at *
 go_enter Tryz.func101, Tryz.ntmps101
 go_wp2
 go_loopw [11] (fun vk wr => ∃ k : Nat, k <= 2 ∧ vk = .int .i64 k ∧ Hid ((0 < k -> b1 = true) ∧ (1 < k -> b2 = true)) ∧ Below w.heap.size w wr) (fun vk _ => 2 - (intOf vk).toNat)
 case atStart => exact ⟨0, by omega, rfl, ⟨fun h => by omega, fun h => by omega⟩, Below.refl _ _⟩
 case round =>
  obtain ⟨k, hk, rfl, HK, hB⟩ := hrel
  have d1 := (hB.cell (p := ⟨b, 0, none⟩) tl).trans t1
  have d2 := (hB.cell (p := ⟨b, 1, none⟩) tl).trans t2
  obtain rfl | rfl | rfl : k = 0 ∨ k = 1 ∨ k = 2 := by omega
  · cases b1 with
    | false =>
     go_wp2_with (go_at_call 128; refine (i1.out _ hB).mono ?_; rintro e w1 ⟨rfl, hb⟩)
     go_ret
     exact ⟨rfl, Below.next hB hb⟩
    | true =>
     go_wp2_with (go_at_call 128; refine (i1.out _ hB).mono ?_; rintro e w1 ⟨rfl, hb⟩)
     go_roundw
     case rel => exact ⟨1, by omega, rfl, ⟨fun _ => by trivial, fun h => by omega⟩, Below.next hB hb⟩
     case measure => simp [intOf]
  · cases b2 with
    | false =>
     have HE : Hid (erb b1 false n1 n2 = 2) := by show _ = _; simp [erb]
     go_wp2_with (go_at_call 128; refine (i2.out _ hB).mono ?_; rintro e w1 ⟨rfl, hb⟩)
     go_ret
     exact ⟨ret_i64 HE.out.symm, Below.next hB hb⟩
    | true =>
     go_wp2_with (go_at_call 128; refine (i2.out _ hB).mono ?_; rintro e w1 ⟨rfl, hb⟩)
     go_roundw
     case rel => exact ⟨2, by omega, rfl, ⟨fun _ => HK.out.1 (by omega), fun _ => by trivial⟩, Below.next hB hb⟩
     case measure => simp [intOf]
  · have e1 := HK.out.1 (by omega)
    have e2 := HK.out.2 (by omega)
    subst e1 e2
    clear i1 i2 HK d1 d2
    go_wp2
    go_loopw [22] (fun vk wr => ∃ k : Nat, k <= 2 ∧ vk = .int .i64 k ∧ Hid ((0 < k -> n1 <= 4096) ∧ (1 < k -> n2 <= 4096)) ∧ Below w.heap.size w wr) (fun vk _ => 2 - (intOf vk).toNat)
    case atStart => exact ⟨0, by omega, rfl, ⟨fun h => by omega, fun h => by omega⟩, hB⟩
    case round =>
     clear hB
     obtain ⟨k, hk, rfl, HK, hB⟩ := hrel
     have d1 := (hB.cell (p := ⟨b, 0, none⟩) tl).trans t1
     have d2 := (hB.cell (p := ⟨b, 1, none⟩) tl).trans t2
     obtain rfl | rfl | rfl : k = 0 ∨ k = 1 ∨ k = 2 := by omega
     · by_cases hn : 4096 < n1
       · have HE : Hid (erb true true n1 n2 = 4) := by show _ = _; simp [erb, hn]
         go_wp2
         go_ret
         exact ⟨ret_i64 HE.out.symm, hB⟩
       · go_wp2
         go_roundw
         case rel => exact ⟨1, by omega, rfl, ⟨fun _ => by omega, fun h => by omega⟩, hB⟩
         case measure => simp [intOf]
     · by_cases hn : 4096 < n2
       · have HE : Hid (erb true true n1 n2 = 4) := by show _ = _; simp [erb, hn]
         go_wp2
         go_ret
         exact ⟨ret_i64 HE.out.symm, hB⟩
       · go_wp2
         go_roundw
         case rel => exact ⟨2, by omega, rfl, ⟨fun _ => HK.out.1 (by omega), fun h => by omega⟩, hB⟩
         case measure => simp [intOf]
     · have HE : Hid (erb true true n1 n2 = 0) := by
        have := HK.out.1 (by omega)
        have := HK.out.2 (by omega)
        show (if (true && true) = true then (if 4096 < n1 ∨ 4096 < n2 then (4 : Int) else 0) else 2) = 0
        rw [if_pos (by decide), if_neg (by omega)]
       go_wp2
       go_ret
       exact ⟨ret_i64 HE.out.symm, hB⟩
theorem rBad_any (f : Int) (v1 v2 : Value) (xs ys : List Int) (w : World) (h1 : Rw w v1 xs) (h2 : Rw w v2 ys) :
 Calls Tryz.prog 48 #[.int .u8 f, v1, v2] w fun e w' => e = .returned (.int .i64 (er f xs ys)) ∧ w' = w := by
 have i1 := hide (fun W (hb : Below w.heap.size w W) => rIn_any f v1 xs W (h1.1.below hb))
 have i2 := hide (fun W (hb : Below w.heap.size w W) => rIn_any f v2 ys W (h2.1.below hb))
 have l1 := h1.len
 have l2 := h2.len
 obtain ⟨a1, c1, rfl, _⟩ := h1.spell
 obtain ⟨a2, c2, rfl, _⟩ := h2.spell
 clear h1 h2
 unfold er
 generalize xs.length = n1 at *
 generalize ys.length = n2 at *
 generalize inF f xs = b1 at *
 generalize inF f ys = b2 at *
 go_enter Tryz.func48, Tryz.ntmps48
 go_wp2_with fail
 refine (i1.out _ (Below.refl _ _)).mono ?_; rintro e w1 ⟨rfl, hw⟩; rw [hw]; clear hw
 cases b1 with
 | false =>
  go_wp2
  go_ret
  exact ⟨rfl, rfl⟩
 | true =>
  go_wp2_with fail
  refine (i2.out _ (Below.refl _ _)).mono ?_; rintro e w1 ⟨rfl, hw⟩; rw [hw]; clear hw
  cases b2 with
  | false =>
   go_wp2
   go_ret
   exact ⟨rfl, rfl⟩
  | true =>
   clear i1 i2
   by_cases hn : 4096 < n1
   · have HE : Hid (erb true true n1 n2 = 4) := by show _ = _; simp [erb, hn]
     go_wp2
     go_ret
     exact ⟨ret_i64 HE.out.symm, rfl⟩
   · by_cases hm : 4096 < n2
     · have HE : Hid (erb true true n1 n2 = 4) := by show _ = _; simp [erb, hm]
       go_wp2
       go_ret
       exact ⟨ret_i64 HE.out.symm, rfl⟩
     · have HE : Hid (erb true true n1 n2 = 0) := by
        show (if (true && true) = true then (if 4096 < n1 ∨ 4096 < n2 then (4 : Int) else 0) else 2) = 0
        rw [if_pos (by decide), if_neg (by omega)]
       go_wp2
       go_ret
       exact ⟨ret_i64 HE.out.symm, rfl⟩
def gr (p c : Int) (off : Nat) (xs ys : List Int) (k : Nat) : List Int := mk ys.length (fun i => if off <= i ∧ i < off + k then (co ys i + c * co xs (i - off)) % p else co ys i)
theorem gr_len (p c : Int) (off : Nat) (xs ys : List Int) (k : Nat) : (gr p c off xs ys k).length = ys.length := mk_len _ _
theorem co_gr (p c : Int) (off : Nat) (xs ys : List Int) (k i : Nat) : co (gr p c off xs ys k) i = if off <= i ∧ i < off + k ∧ i < ys.length then (co ys i + c * co xs (i - off)) % p else co ys i := by
 unfold gr
 rw [co_mk]
 by_cases h : i < ys.length
 · rw [if_pos h]
   by_cases h2 : off <= i ∧ i < off + k
   · rw [if_pos h2, if_pos ⟨h2.1, h2.2, h⟩]
   · rw [if_neg h2, if_neg (fun h3 => h2 ⟨h3.1, h3.2.1⟩)]
 · rw [if_neg h, if_neg (fun h3 => h h3.2.2), co_out _ _ (by omega)]
theorem gr_zero (p c : Int) (off : Nat) (xs ys : List Int) : gr p c off xs ys 0 = ys := ext_co (gr_len _ _ _ _ _ _) (fun i hi => by rw [co_gr, if_neg (by omega)])
theorem els_gr {p c : Int} (hp : 0 < p) {off : Nat} {xs ys : List Int} (hy : Els p ys) (k : Nat) : Els p (gr p c off xs ys k) := Els.of_co (fun i hi => by
 rw [co_gr]; split
 · exact emod_el hp _
 · exact hy.co hp i)
theorem co_set (ys : List Int) (k i : Nat) (z : Int) (hk : k < ys.length) : co (ys.set k z) i = if i = k then z else co ys i := set_getD ys k i z hk
theorem gr_step {p c z : Int} {off k : Nat} {xs ys : List Int} (hk : off + k < ys.length) (hz : z = (co ys (off + k) + c * co xs k) % p) : (gr p c off xs ys k).set (off + k) z = gr p c off xs ys (k + 1) := by
 apply ext_co (by rw [List.length_set, gr_len, gr_len])
 intro i hi
 rw [co_set _ _ _ _ (by rw [gr_len]; exact hk), co_gr, co_gr]
 by_cases he : i = off + k
 · subst he
   have e : off + k - off = k := by omega
   rw [if_pos rfl, if_pos (by omega), e, hz]
 · rw [if_neg he]
   by_cases h2 : off <= i ∧ i < off + k ∧ i < ys.length
   · rw [if_pos h2, if_pos (by omega)]
   · rw [if_neg h2, if_neg (by omega)]
theorem gr_at (p c : Int) (off : Nat) (xs ys : List Int) (k : Nat) : co (gr p c off xs ys k) (off + k) = co ys (off + k) := by rw [co_gr, if_neg (by omega)]
theorem grow_low {p c x y m : Int} (hm : m = mul p c x) (hy : El p y) (h : y < p - m) (hm0 : El p m) : y + m = (y + c * x) % p := by
 subst hm
 have : (y + c * x) % p = (y + mul p c x) % p := by unfold mul; rw [Int.add_emod y (c * x % p), Int.emod_emod_of_dvd _ (Int.dvd_refl p), <- Int.add_emod]
 rw [this, Int.emod_eq_of_lt (by have := hy.1; have := hm0.1; omega) (by omega)]
theorem grow_high {p c x y m : Int} (hm : m = mul p c x) (hy : El p y) (h : ¬ y < p - m) (hm0 : El p m) : y - (p - m) = (y + c * x) % p := by
 subst hm
 have : (y + c * x) % p = (y + mul p c x) % p := by unfold mul; rw [Int.add_emod y (c * x % p), Int.emod_emod_of_dvd _ (Int.dvd_refl p), <- Int.add_emod]
 rw [this, emod_sub_self _ _ (by omega) (by have := hy.2; have := hm0.2; omega)]; omega
theorem grown_below {a b c : World} {r : Option Nat} (h : a.grownBy b r) (hb : Below b.heap.size b c) : a.grownBy c r :=
 grown_trans h ⟨hb.os, hb.tape, hb.output, hb.size, fun j hj _ => hb.block j hj⟩
theorem grow_any (f p c : Int) (wd : Bool) (v : Value) (xs ys : List Int) (w : World) (base g off n cap n2 cap2 : Nat) (h : Fi f p wd) (hc : El p c) (hr : Row w v xs) (hx : Els p xs)
 (hO : w.ownsRow base 64 1 (.slice (some ⟨g, 0, none⟩) n cap) n (vals ys)) (hy : Els p ys) (hfit : off + xs.length <= n) (hn2 : xs.length <= n2)
 (hfar : xs ≠ [] -> ∀ b o m k, v = .slice (some ⟨b, o, none⟩) m k -> b ≠ g) :
 Calls Tryz.prog 177 #[.int .u8 f, .slice (some ⟨g, off, none⟩) n2 cap2, .int .u64 c, v] w fun e w' => e = .returned (.tuple #[]) ∧
  w'.ownsRow base 64 1 (.slice (some ⟨g, 0, none⟩) n cap) n (vals (gr p c off xs ys xs.length)) ∧ w.grownBy w' (some g) := by
 obtain ⟨ao, cp, rfl, hlen, hw, hcell⟩ := hr
 have hp0 := h.pos
 have hp1 := h.top
 have HP := hide (fun W => Prime_yes f p wd W h)
 have HM := hide (fun W x (hx : El p x) => Mul_yes f p c x wd W h hc hx)
 have HX := hide hx
 have HY := hide hy
 have hyl := own_len hO
 clear h hx hy hw
 go_enter Tryz.func177, Tryz.ntmps177
 go_wp2_with (go_at_call 189; refine (HP.out _).mono ?_; rintro e w1 ⟨rfl, hb⟩)
 have hO1 := own_below hO hb
 have hG1 := grown_below (grown_refl w (some g)) hb
 clear hO hb HP
 go_loopw [22] (fun vk wr => ∃ k : Nat, k <= xs.length ∧ vk = .int .i64 k ∧ wr.ownsRow base 64 1 (.slice (some ⟨g, 0, none⟩) n cap) n (vals (gr p c off xs ys k)) ∧ w.grownBy wr (some g)) (fun vk _ => xs.length - (intOf vk).toNat)
 case atStart => exact ⟨0, Nat.zero_le _, rfl, by rw [gr_zero]; exact hO1, hG1⟩
 case round =>
  clear hO1 hG1
  obtain ⟨k, hk, rfl, hO, hG⟩ := hrel
  by_cases hlt : k < xs.length
  · have hxne : xs ≠ [] := by intro h; rw [h] at hlt; simp at hlt
    obtain ⟨b, o, rfl, hbl, hcl⟩ := hcell hxne
    have hne := hfar hxne b o _ _ rfl
    have hck := hG.cell (hcl k hlt) (by intro h; cases h; exact hne rfl)
    have hxe := HX.out.co hp0 k
    have hm := hide (fun W => HM.out W _ hxe)
    have hgl : (gr p c off xs ys k).length = n := by rw [gr_len]; exact hyl
    have hye := HY.out.co hp0 (off + k)
    have hat := gr_at p c off xs ys k
    have HST := hide (fun z (hz : z = (co ys (off + k) + c * co xs k) % p) => gr_step (p := p) (c := c) (z := z) (xs := xs) (show off + k < ys.length by omega) hz)
    have HA := hide (fun z W (hb : Below wr.heap.size wr W) => spoil_step (x := z) (k := off + k) (own_below hO hb) (grown_below hG hb) (.inl rfl))
    have HB := hide (fun W (hb : Below wr.heap.size wr W) => own_cell (k := off + k) (own_below hO hb) hgl (by omega))
    have HF := hide (fun W (hb : Below wr.heap.size wr W) => (own_below hO hb).frozenAt (off + k))
    have hme := mul_el (a := c) (b := co xs k) hp0
    obtain ⟨m, HMM⟩ : ∃ m, Hid (m = mul p c (co xs k)) := ⟨_, rfl⟩
    have hco : xs.getD k 0 = co xs k := rfl
    have hcg : (gr p c off xs ys k).getD (off + k) 0 = co ys (off + k) := hat
    have LO := hide (fun h => grow_low (x := co xs k) (y := co ys (off + k)) HMM.out hye h (by rw [HMM.out]; exact hme))
    have HI := hide (fun h => grow_high (x := co xs k) (y := co ys (off + k)) HMM.out hye h (by rw [HMM.out]; exact hme))
    rw [hco] at hck
    rw [<- HMM.out] at hm hme
    rw [hcg] at HB
    have HR2 := hide (show ∀ z, z = (co ys (off + k) + c * co xs k) % p -> _ from HST.out)
    clear hcl hcell hat hco hcg HST hO hG HX HY HM
    generalize hxx : co xs k = x at *
    generalize hyy : co ys (off + k) = y at *
    clear hxx hyy
    obtain ⟨y0, y1⟩ := hye
    obtain ⟨m0, m1⟩ := hme
    have k0 : (0 : Int) <= (k : Int) := Int.natCast_nonneg _
    have k1 : (k : Int) < (xs.length : Int) := by omega
    have hkn : k < n2 := by omega
    by_cases hlow : y < p - m
    · go_wp2_with (go_at_call 102; refine (hm.out _).mono ?_; rintro e w2 ⟨rfl, hb⟩; have hc2 := HB.out _ hb; have hf2 := HF.out _ hb)
      go_roundw
      case rel => exact ⟨k + 1, by omega, by go_num, by rw [<- HR2.out _ (LO.out hlow)]; exact (HA.out _ _ hb).1, (HA.out _ _ hb).2⟩
      case measure => simp [intOf]; omega
    · go_wp2_with (go_at_call 102; refine (hm.out _).mono ?_; rintro e w2 ⟨rfl, hb⟩; have hc2 := HB.out _ hb; have hf2 := HF.out _ hb)
      go_roundw
      case rel => exact ⟨k + 1, by omega, by go_num, by rw [<- HR2.out _ (HI.out (by omega))]; exact (HA.out _ _ hb).1, (HA.out _ _ hb).2⟩
      case measure => simp [intOf]; omega
  · obtain rfl : k = xs.length := by omega
    clear hcell
    go_wp2
    go_end0
    exact ⟨rfl, hO, hG⟩
theorem gr_sm {p c : Int} {xs ys : List Int} (hp : 0 < p) (hx : Els p xs) {N : Nat} (hN : N = max xs.length ys.length) : gr p c 0 ys (over N xs) ys.length = sm p c xs ys := by
 have hl : (over N xs).length = N := over_len (by omega)
 apply ext_co (by rw [gr_len, sm_len, hl]; omega)
 intro i hi
 rw [gr_len, hl] at hi
 have e : co (sm p c xs ys) i = (co xs i + c * co ys i) % p := by unfold sm; rw [co_mk, if_pos (by omega)]
 rw [co_gr, co_over, e, hl]
 by_cases h : i < ys.length
 · rw [if_pos (by omega), Nat.sub_zero]
 · rw [if_neg (by omega), co_out ys i (by omega), Int.mul_zero, Int.add_zero, (hx.co hp i).mod]
theorem row_far {w : World} {v : Value} {xs : List Int} {g : Nat} (h : Row w v xs) (hg : w.heap.size <= g) : xs ≠ [] -> ∀ b o m k, v = .slice (some ⟨b, o, none⟩) m k -> b ≠ g := by
 intro hne b o m k hv
 obtain ⟨ao, cap, rfl, _, _, hc⟩ := h
 obtain ⟨b', o', h1, h2, _⟩ := hc hne
 cases hv; cases h1; omega
theorem sum_any (f p c : Int) (wd : Bool) (v1 v2 : Value) (xs ys : List Int) (w : World) (h : Fi f p wd) (hc : El p c) (h1 : Rw w v1 xs) (h2 : Rw w v2 ys) (hx : Els p xs) (hy : Els p ys) :
 Calls Tryz.prog 148 #[.int .u8 f, v1, .int .u64 c, v2] w fun e w' => ∃ v', e = .returned v' ∧
  w'.ownsRow w.heap.size 64 1 v' (sm p c xs ys).length (vals (sm p c xs ys)) ∧ Below w.heap.size w w' := by
 obtain ⟨i0, hi0, hz0, hz1, hz2⟩ := info_parts u64_info
 obtain ⟨a1, c1, rfl, k1⟩ := h1.spell
 obtain ⟨a2, c2, rfl, k2⟩ := h2.spell
 have l1 := h1.len
 have l2 := h2.len
 obtain ⟨N, HN⟩ : ∃ N, Hid (N = max xs.length ys.length) := ⟨_, rfl⟩
 have n1 : xs.length <= N := by have := HN.out; omega
 have n2 : ys.length <= N := by have := HN.out; omega
 have n3 : N <= 17592186043904 := by have := HN.out; omega
 have HMx : Hid (max (xs.length : Int) (ys.length : Int) = (N : Int)) := by show _ = _; have := HN.out; omega
 have H1 := hide (vals_one xs)
 have HW := hide (fun W (hb : Below w.heap.size w W) (hp : 0 < (vals xs).length) => row_news (h1.1.below hb) (by rw [vals_length] at hp; exact hp))
 have HG := hide (fun W g (hb : Below w.heap.size w W) (hg : w.heap.size <= g) (hO : W.ownsRow w.heap.size 64 1 (.slice (some ⟨g, 0, none⟩) N N) N (vals (over N xs))) =>
  grow_any f p c wd (.slice a2 ys.length c2) ys (over N xs) W w.heap.size g 0 N N N N h hc (h2.1.below hb) hy hO (Els.of_co fun i hi => by rw [co_over]; exact hx.co h.pos i) (by omega) n2 (row_far h2.1 hg))
 have HS := hide (splice_over N xs)
 have HL : Hid ((vals xs).length = Nat.min xs.length N) := by show _ = _; rw [vals_length]; exact (Nat.min_eq_left n1).symm
 have HV : Hid (0 + (vals xs).length <= (vals (List.replicate N 0)).length) := by show _ <= _; rw [vals_length, vals_length]; simp; exact n1
 have HE := hide (gr_sm (c := c) h.pos hx HN.out)
 have HSL : Hid ((sm p c xs ys).length = N) := by show _ = _; rw [sm_len]; exact HN.out.symm
 have HOL : Hid ((over N xs).length = N) := over_len n1
 obtain ⟨cs, HC⟩ : ∃ cs, Hid (vals xs = cs) := ⟨_, rfl⟩
 rw [HC.out] at H1 HL HW HS HV
 obtain ⟨zs, HZ⟩ : ∃ zs, Hid (over N xs = zs) := ⟨_, rfl⟩
 rw [HZ.out] at HG HS HE HOL
 rw [HSL.out]
 clear h1 h2 h hc hx hy
 have hcase : (xs.length < ys.length ∧ N = ys.length) ∨ (¬ xs.length < ys.length ∧ N = xs.length) := by have := HN.out; omega
 clear HN HMx
 rcases hcase with ⟨hlt, hN⟩ | ⟨hlt, hN⟩
 all_goals
  subst hN
  go_enter Tryz.func148, Tryz.ntmps148
  go_wp2_with (first
   | (at_make; refine wpList_make_full _ rfl _ _ 36 rfl w.heap.size 64 i0 (.int .u64 0) 1 Tryz.underlying36 hi0 hz0 hz1 .i64 .i64 _ _ ys.length rfl rfl (by omega) (by omega) (by rw [hz2]; omega) (by unfold maxLen; omega) (Nat.le_refl _) ?_; intro w2 hown hgrow; have hO := hide (own_made hown); have hB := below_grown_none hgrow; have hG2 := hgrow.size; clear hown)
   | (at_make; refine wpList_make_full _ rfl _ _ 36 rfl w.heap.size 64 i0 (.int .u64 0) 1 Tryz.underlying36 hi0 hz0 hz1 .i64 .i64 _ _ xs.length rfl rfl (by omega) (by omega) (by rw [hz2]; omega) (by unfold maxLen; omega) (Nat.le_refl _) ?_; intro w2 hown hgrow; have hO := hide (own_made hown); have hB := below_grown_none hgrow; have hG2 := hgrow.size; clear hown)
   | (refine wpList_copy_splice rfl _ _ _ _ rfl 64 Tryz.underlying36 u64_size _ _ _ _ _ _ rfl rfl w.heap.size 0 _ 64 (own_block hO.out) cs HL.out (fun hp => ⟨rfl, HW.out w2 hB hp⟩) HV.out H1.out w.heap.size w hB (Nat.le_refl _) ?_; intro w3 HG3 hB3; have HO3 := hide (own_of_block (Nat.le_refl _) (by rw [HS.out] at HG3; exact HG3.out) HOL.out n3))
   | (go_at_call 177; refine (HG.out _ _ hB3 (Nat.le_refl _) HO3.out).mono ?_; rintro e w4 ⟨rfl, hO4, hG4⟩))
  go_ret
  refine ⟨_, rfl, by rw [HE.out] at hO4; exact hO4, hB3.grown hG4 hB3.size (fun k hk => by cases hk; exact Nat.le_refl _)⟩
def pk (p : Int) (xs ys : List Int) (k : Nat) : List Int := mk (xs.length + ys.length - 1) (fun j => cv (co (xs.take k)) (co ys) j % p)
theorem pk_len (p : Int) (xs ys : List Int) (k : Nat) : (pk p xs ys k).length = xs.length + ys.length - 1 := mk_len _ _
theorem els_pk {p : Int} (hp : 0 < p) (xs ys : List Int) (k : Nat) : Els p (pk p xs ys k) := els_mk_mod hp _ _
theorem pk_zero (p : Int) (xs ys : List Int) : pk p xs ys 0 = List.replicate (xs.length + ys.length - 1) 0 := by
 apply ext_co (by rw [pk_len]; simp)
 intro i hi
 rw [pk_len] at hi
 unfold pk
 rw [co_mk, if_pos hi, cv_row0, Int.zero_emod]
 simp [co, List.getD_eq_getElem?_getD, hi]
theorem pk_step {p : Int} {xs ys : List Int} {k : Nat} (hk : k < xs.length) : gr p (co xs k) k ys (pk p xs ys k) ys.length = pk p xs ys (k + 1) := by
 apply ext_co (by rw [gr_len, pk_len, pk_len])
 intro i hi
 rw [gr_len, pk_len] at hi
 rw [co_gr, pk_len]
 unfold pk
 rw [co_mk, co_mk, if_pos hi, if_pos hi, cv_row]
 by_cases h : k <= i
 · by_cases h2 : i < k + ys.length
   · rw [if_pos ⟨h, h2, hi⟩, if_pos h, Int.add_emod, Int.emod_emod_of_dvd _ (Int.dvd_refl p), <- Int.add_emod]
   · rw [if_neg (by omega), if_pos h, co_out ys (i - k) (by omega), Int.mul_zero, Int.add_zero]
 · rw [if_neg (by omega), if_neg h, Int.add_zero]
theorem pk_all {p : Int} {xs ys : List Int} (h1 : xs ≠ []) (h2 : ys ≠ []) : pk p xs ys xs.length = prd p xs ys := by
 unfold pk prd
 rw [List.take_length, if_neg (by intro h; rcases h with h | h; exact h1 h; exact h2 h)]
theorem product_any (f p : Int) (wd : Bool) (v1 v2 : Value) (xs ys : List Int) (w : World) (h : Fi f p wd) (h1 : Rw w v1 xs) (h2 : Rw w v2 ys) (hx : Els p xs) (hy : Els p ys) (hl : xs.length + ys.length <= 17592186043904) :
 Calls Tryz.prog 187 #[.int .u8 f, v1, v2] w fun e w' => ∃ v', e = .returned v' ∧
  w'.ownsRow w.heap.size 64 1 v' (prd p xs ys).length (vals (prd p xs ys)) ∧ Below w.heap.size w w' := by
 obtain ⟨i0, hi0, hz0, hz1, hz2⟩ := info_parts u64_info
 have l1 := h1.len
 have l2 := h2.len
 obtain ⟨a2, c2, rfl, k2⟩ := h2.spell
 by_cases ex : xs = []
 · subst ex
   have HE : Hid (prd p [] ys = []) := by show _ = _; unfold prd; rw [if_pos (.inl rfl)]
   obtain ⟨a1, c1, rfl, k1⟩ := h1.spell
   clear h1 h2
   go_enter Tryz.func187, Tryz.ntmps187
   go_wp2
   go_ret
   rw [HE.out]
   exact ⟨_, rfl, World.ownsRow_nil _ _ _ _, Below.refl _ _⟩
 by_cases ey : ys = []
 · subst ey
   have HE : Hid (prd p xs [] = []) := by show _ = _; unfold prd; rw [if_pos (.inr rfl)]
   obtain ⟨a1, c1, rfl, k1⟩ := h1.spell
   have hp := List.length_pos_iff.2 ex
   clear h1 h2
   go_enter Tryz.func187, Tryz.ntmps187
   go_wp2
   go_ret
   rw [HE.out]
   exact ⟨_, rfl, World.ownsRow_nil _ _ _ _, Below.refl _ _⟩
 have px := List.length_pos_iff.2 ex
 have py := List.length_pos_iff.2 ey
 obtain ⟨N, HN⟩ : ∃ N, Hid (N = xs.length + ys.length - 1) := ⟨_, rfl⟩
 have n1 : N + 1 = xs.length + ys.length := by have := HN.out; omega
 have HE := hide (pk_all (p := p) ex ey)
 have HZ := hide (pk_zero p xs ys)
 have HSL : Hid ((prd p xs ys).length = N) := by show _ = _; rw [prd_len p xs ys ex ey, HN.out]
 have HG := hide (fun W g k (hk : k < xs.length) (hb : Below w.heap.size w W) (hg : w.heap.size <= g) (hO : W.ownsRow w.heap.size 64 1 (.slice (some ⟨g, 0, none⟩) N N) N (vals (pk p xs ys k))) =>
  grow_any f p (co xs k) wd (.slice a2 ys.length c2) ys (pk p xs ys k) W w.heap.size g k N N (N - k) (N - k) h (hx.co h.pos k) (h2.1.below hb) hy hO (els_pk h.pos xs ys k) (by omega) (by omega) (row_far h2.1 hg))
 have HST := hide (fun k (hk : k < xs.length) => pk_step (p := p) (ys := ys) hk)
 rw [<- HN.out] at HZ
 rw [HSL.out]
 obtain ⟨⟨a1, c1, rfl, _, _, hc1⟩, _⟩ := h1
 have bx : ((xs.length : Int) == 0) = false := beq_eq_false_iff_ne.2 (by omega)
 have by' : ((ys.length : Int) == 0) = false := beq_eq_false_iff_ne.2 (by omega)
 clear h h2 hx hy ex ey HN
 go_enter Tryz.func187, Tryz.ntmps187
 go_wp2_with (at_make; refine wpList_make_full _ rfl _ _ 36 rfl w.heap.size 64 i0 (.int .u64 0) 1 Tryz.underlying36 hi0 hz0 hz1 .i64 .i64 _ _ N rfl rfl (by omega) (by omega) (by rw [hz2]; omega) (by unfold maxLen; omega) (Nat.le_refl _) ?_; intro w2 hown hgrow; have hO := own_made hown; have hB := below_grown_none hgrow; have hG2 := hgrow.size; clear hown)
 rw [<- HZ.out] at hO
 clear hgrow
 go_loopw [27] (fun vk wr => ∃ k : Nat, k <= xs.length ∧ vk = .int .i64 k ∧ wr.ownsRow w.heap.size 64 1 (.slice (some ⟨w.heap.size, 0, none⟩) N N) N (vals (pk p xs ys k)) ∧ Below w.heap.size w wr) (fun vk _ => xs.length - (intOf vk).toNat)
 case atStart => exact ⟨0, Nat.zero_le _, rfl, hO, hB⟩
 case round =>
  clear hO hB
  obtain ⟨k, hk, rfl, hO, hB⟩ := hrel
  by_cases hlt : k < xs.length
  · obtain ⟨b, o, rfl, hbl, hcl⟩ := hc1 (by intro h; rw [h] at hlt; simp at hlt)
    have hck := (hB.cell (p := ⟨b, o + k, none⟩) hbl).trans (hcl k hlt)
    have hg := hide (HG.out _ _ k hlt hB (Nat.le_refl _) hO)
    have hst := hide (HST.out k hlt)
    have hco : xs.getD k 0 = co xs k := rfl
    rw [hco] at hck
    clear hco hcl hc1
    rw [hst.out] at hg
    generalize co xs k = x at *
    have HO := hide hO
    clear hO
    go_wp2_with (go_at_call 177; refine hg.out.mono ?_; rintro e w4 ⟨rfl, hO4, hG4⟩)
    go_roundw
    case rel => exact ⟨k + 1, by omega, by go_num, hO4, hB.grown hG4 hB.size (fun j hj => by cases hj; exact Nat.le_refl _)⟩
    case measure => simp [intOf]; omega
  · obtain rfl : k = xs.length := by omega
    rw [HE.out] at hO
    clear hc1
    go_wp2
    go_ret
    exact ⟨_, rfl, hO, hB⟩
def Gives (k : FuncId) (args : Array Value) (W : World) (zs : List Int) (e0 : Int) : Prop :=
 Calls Tryz.prog k args W fun e w' => ∃ v', e = .returned (.tuple #[v', .int .i64 e0]) ∧ w'.ownsRow W.heap.size 64 1 v' zs.length (vals zs) ∧ Below W.heap.size W w'
theorem Gives.none {k : FuncId} {args : Array Value} {W : World} {e0 : Int} (h : Calls Tryz.prog k args W fun e w' => e = .returned (.tuple #[.slice none 0 0, .int .i64 e0]) ∧ Below W.heap.size W w') : Gives k args W [] e0 :=
 h.mono fun e w' ⟨he, hb⟩ => ⟨_, he, World.ownsRow_nil _ _ _ _, hb⟩
def pOf (f : Int) : Int := if f = 1 then 2013265921 else 18446744069414584321
theorem pOf_eq {f p : Int} {wd : Bool} (h : Fi f p wd) : pOf f = p := by rcases h with ⟨rfl, rfl, _⟩ | ⟨rfl, rfl, _⟩ <;> rfl
def addL (f : Int) (xs ys : List Int) : List Int := if er f xs ys = 0 then tr (sm (pOf f) 1 xs ys) else []
def subL (f : Int) (xs ys : List Int) : List Int := if er f xs ys = 0 then tr (sm (pOf f) (sub (pOf f) 0 1) xs ys) else []
def sclL (f c : Int) (xs : List Int) : List Int := if er f [c] xs = 0 then tr (sm (pOf f) c [] xs) else []
def mulE (f : Int) (xs ys : List Int) : Int := if er f xs ys = 0 then (if 4096 < (tr xs).length + (tr ys).length - 1 then 4 else 0) else er f xs ys
def mulL (f : Int) (xs ys : List Int) : List Int := if mulE f xs ys = 0 then prd (pOf f) (tr xs) (tr ys) else []
def valE (f t : Int) (xs : List Int) : Int := if er f xs [t] = 0 then vl (pOf f) t xs else 0
theorem own_tr {w : World} {base cap n : Nat} {ao : Option Addr} {zs : List Int} {T : TypeId} (h : w.ownsRow base T 1 (.slice ao n cap) n (vals zs)) : w.ownsRow base T 1 (.slice ao (tr zs).length cap) (tr zs).length (vals (tr zs)) := by
 have hn := own_len h
 have := own_take h (k := (tr zs).length) (by have := tr_len zs; omega)
 rw [take_tr_len] at this; exact this
theorem pcheck_two (f : Int) (v1 v2 : Value) (xs ys : List Int) (w : World) (h1 : Rw w v1 xs) (h2 : Rw w v2 ys) (T : TypeId) :
 Calls Tryz.prog 101 #[.int .u8 f, .slice (some ⟨w.heap.size, 0, none⟩) 2 2] (w.alloc (.cells #[v1, v2] T)) fun e w' => e = .returned (.int .i64 (er f xs ys)) ∧ Below w.heap.size w w' := by
 have ha := (Below.refl w.heap.size w).alloc (Nat.le_refl _) (.cells #[v1, v2] T)
 exact (pcheck_any f v1 v2 xs ys _ w.heap.size (h1.below ha) (h2.below ha) (Two.first w v1 v2 T)).mono fun e w' ⟨he, hb⟩ => ⟨he, below_one hb⟩
theorem pAdd_any (f : Int) (v1 v2 : Value) (xs ys : List Int) (w : World) (h1 : Rw w v1 xs) (h2 : Rw w v2 ys) : Gives 118 #[.int .u8 f, v1, v2] w (addL f xs ys) (er f xs ys) := by
 obtain ⟨a1, c1, rfl, _⟩ := h1.spell
 obtain ⟨a2, c2, rfl, _⟩ := h2.spell
 have hk := hide (fun T => pcheck_two f _ _ xs ys w h1 h2 T)
 unfold addL
 by_cases he : er f xs ys = 0
 · obtain ⟨p, wd, h, i1, i2, m1, m2⟩ := er_zero he
   rw [if_pos he, he, pOf_eq h]
   rw [he] at hk
   have hs := hide (fun W (hb : Below w.heap.size w W) => sum_any f p 1 wd _ _ xs ys W h (one_el h.md) (h1.below hb) (h2.below hb) (els_of i1 h1.words) (els_of i2 h2.words))
   have HR := hide (fun W v n base (hO : World.ownsRow W base 64 1 v n (vals (sm p 1 xs ys))) => rw_of_own hO (by rw [sm_len]; omega) (els_words (els_sm h.pos _ _ _) h.top))
   have ht := hide (fun W ao cap hr => trimmed_any ao cap (sm p 1 xs ys) W hr)
   clear h1 h2 h i1 i2 he
   generalize sm p 1 xs ys = zs at *
   show Calls _ _ _ _ _
   go_enter Tryz.func118, Tryz.ntmps118
   go_wp2_with (first
    | (go_at_call 101; refine (hk.out _).mono ?_; rintro e w1 ⟨rfl, hb⟩)
    | (go_at_call 148; refine (hs.out _ hb).mono ?_; rintro e w2 ⟨v', rfl, hO, hb2⟩; have hr := HR.out _ _ _ _ hO; obtain ⟨ao, cap, rfl, _⟩ := hr.spell; have HO := hide hO; clear hO)
    | (go_at_call 146; refine (ht.out _ _ _ hr).mono ?_; rintro e w3 ⟨rfl, hb3⟩))
   go_ret2
   exact ⟨_, rfl, own_mono (own_tr (own_below HO.out hb3)) hb.size, Below.next (Below.next hb hb2) hb3⟩
 · have ht : (er f xs ys != 0) = true := bne_iff_ne.2 he
   rw [if_neg he]
   clear h1 h2 he
   generalize er f xs ys = e0 at *
   apply Gives.none
   go_enter Tryz.func118, Tryz.ntmps118
   go_wp2_with (go_at_call 101; refine (hk.out _).mono ?_; rintro e w1 ⟨rfl, hb⟩)
   go_ret2
   exact ⟨rfl, hb⟩
theorem pSub_any (f : Int) (v1 v2 : Value) (xs ys : List Int) (w : World) (h1 : Rw w v1 xs) (h2 : Rw w v2 ys) : Gives 163 #[.int .u8 f, v1, v2] w (subL f xs ys) (er f xs ys) := by
 obtain ⟨a1, c1, rfl, _⟩ := h1.spell
 obtain ⟨a2, c2, rfl, _⟩ := h2.spell
 have hk := hide (fun T => pcheck_two f _ _ xs ys w h1 h2 T)
 unfold subL
 by_cases he : er f xs ys = 0
 · obtain ⟨p, wd, h, i1, i2, m1, m2⟩ := er_zero he
   rw [if_pos he, he, pOf_eq h]
   rw [he] at hk
   have hm := hide (fun W => Sub_yes f p 0 1 wd W h ⟨by decide, h.pos⟩ (one_el h.md))
   have hs := hide (fun W (hb : Below w.heap.size w W) => sum_any f p (sub p 0 1) wd _ _ xs ys W h (sub_el h.pos) (h1.below hb) (h2.below hb) (els_of i1 h1.words) (els_of i2 h2.words))
   have HR := hide (fun W v n base (hO : World.ownsRow W base 64 1 v n (vals (sm p (sub p 0 1) xs ys))) => rw_of_own hO (by rw [sm_len]; omega) (els_words (els_sm h.pos _ _ _) h.top))
   have ht := hide (fun W ao cap hr => trimmed_any ao cap (sm p (sub p 0 1) xs ys) W hr)
   clear h1 h2 h i1 i2 he
   generalize sm p (sub p 0 1) xs ys = zs at *
   generalize sub p 0 1 = c at *
   show Calls _ _ _ _ _
   go_enter Tryz.func163, Tryz.ntmps163
   go_wp2_with (first
    | (go_at_call 101; refine (hk.out _).mono ?_; rintro e w1 ⟨rfl, hb⟩)
    | (go_at_call 176; refine (hm.out _).mono ?_; rintro e w4 ⟨rfl, hb4⟩; have hbb := Below.next hb hb4)
    | (go_at_call 148; refine (hs.out _ hbb).mono ?_; rintro e w2 ⟨v', rfl, hO, hb2⟩; have hr := HR.out _ _ _ _ hO; obtain ⟨ao, cap, rfl, _⟩ := hr.spell; have HO := hide hO; clear hO)
    | (go_at_call 146; refine (ht.out _ _ _ hr).mono ?_; rintro e w3 ⟨rfl, hb3⟩))
   go_ret2
   exact ⟨_, rfl, own_mono (own_tr (own_below HO.out hb3)) hbb.size, Below.next (Below.next hbb hb2) hb3⟩
 · have ht : (er f xs ys != 0) = true := bne_iff_ne.2 he
   rw [if_neg he]
   clear h1 h2 he
   generalize er f xs ys = e0 at *
   apply Gives.none
   go_enter Tryz.func163, Tryz.ntmps163
   go_wp2_with (go_at_call 101; refine (hk.out _).mono ?_; rintro e w1 ⟨rfl, hb⟩)
   go_ret2
   exact ⟨rfl, hb⟩
theorem rw1 (w : World) (a : Int) (ha : 0 <= a ∧ a <= 18446744073709551615) (T : TypeId) : Rw (w.alloc (.cells #[.int .u64 a] T)) (.slice (some ⟨w.heap.size, 0, none⟩) 1 1) [a] := ⟨row1 w a ha T, _, _, _, rfl, Nat.le_refl _⟩
theorem rw0 (w : World) : Rw w (.slice none 0 0) [] := ⟨row0 w, _, _, _, rfl, Nat.le_refl _⟩
theorem pcheck_fst (f c : Int) (v : Value) (xs : List Int) (w : World) (hc : 0 <= c ∧ c <= 18446744073709551615) (h1 : Rw w v xs) (T T2 : TypeId) :
 Calls Tryz.prog 101 #[.int .u8 f, .slice (some ⟨w.heap.size + 1, 0, none⟩) 2 2] ((w.alloc (.cells #[.int .u64 c] T)).alloc (.cells #[.slice (some ⟨w.heap.size, 0, none⟩) 1 1, v] T2)) fun e w' => e = .returned (.int .i64 (er f [c] xs)) ∧ Below w.heap.size w w' := by
 have h := pcheck_two f _ v [c] xs _ (rw1 w c hc T) (h1.below (alloc_below _ _)) T2
 have e2 : (w.alloc (.cells #[.int .u64 c] T)).heap.size = w.heap.size + 1 := by simp
 rw [e2] at h
 exact h.mono fun e w' ⟨he, hb⟩ => ⟨he, below_one (by rw [e2]; exact hb)⟩
theorem pcheck_snd (f c : Int) (v : Value) (xs : List Int) (w : World) (hc : 0 <= c ∧ c <= 18446744073709551615) (h1 : Rw w v xs) (T T2 : TypeId) :
 Calls Tryz.prog 101 #[.int .u8 f, .slice (some ⟨w.heap.size + 1, 0, none⟩) 2 2] ((w.alloc (.cells #[.int .u64 c] T)).alloc (.cells #[v, .slice (some ⟨w.heap.size, 0, none⟩) 1 1] T2)) fun e w' => e = .returned (.int .i64 (er f xs [c])) ∧ Below w.heap.size w w' := by
 have h := pcheck_two f v _ xs [c] _ (h1.below (alloc_below _ _)) (rw1 w c hc T) T2
 have e2 : (w.alloc (.cells #[.int .u64 c] T)).heap.size = w.heap.size + 1 := by simp
 rw [e2] at h
 exact h.mono fun e w' ⟨he, hb⟩ => ⟨he, below_one (by rw [e2]; exact hb)⟩
theorem pScale_any (f c : Int) (v : Value) (xs : List Int) (w : World) (hc : 0 <= c ∧ c <= 18446744073709551615) (h1 : Rw w v xs) : Gives 116 #[.int .u8 f, .int .u64 c, v] w (sclL f c xs) (er f [c] xs) := by
 obtain ⟨a1, c1, rfl, _⟩ := h1.spell
 have hk := hide (fun T T2 => pcheck_fst f c _ xs w hc h1 T T2)
 unfold sclL
 by_cases he : er f [c] xs = 0
 · obtain ⟨p, wd, h, i1, i2, m1, m2⟩ := er_zero he
   rw [if_pos he, he, pOf_eq h]
   rw [he] at hk
   have hce : El p c := els_of i1 (by simp [hc]) c (List.mem_singleton.2 rfl)
   have hs := hide (fun W (hb : Below w.heap.size w W) => sum_any f p c wd (.slice none 0 0) _ [] xs W h hce (rw0 W) (h1.below hb) (fun x hx => by cases hx) (els_of i2 h1.words))
   have HR := hide (fun W v n base (hO : World.ownsRow W base 64 1 v n (vals (sm p c [] xs))) => rw_of_own hO (by rw [sm_len]; simp; omega) (els_words (els_sm h.pos _ _ _) h.top))
   have ht := hide (fun W ao cap hr => trimmed_any ao cap (sm p c [] xs) W hr)
   clear h1 h i1 i2 he hce
   generalize sm p c [] xs = zs at *
   show Calls _ _ _ _ _
   go_enter Tryz.func116, Tryz.ntmps116
   go_wp2_with (first
    | (go_at_call 101; refine (hk.out _ _).mono ?_; rintro e w1 ⟨rfl, hb⟩)
    | (go_at_call 148; refine (hs.out _ hb).mono ?_; rintro e w2 ⟨v', rfl, hO, hb2⟩; have hr := HR.out _ _ _ _ hO; obtain ⟨ao, cap, rfl, _⟩ := hr.spell; have HO := hide hO; clear hO)
    | (go_at_call 146; refine (ht.out _ _ _ hr).mono ?_; rintro e w3 ⟨rfl, hb3⟩))
   go_ret2
   exact ⟨_, rfl, own_mono (own_tr (own_below HO.out hb3)) hb.size, Below.next (Below.next hb hb2) hb3⟩
 · have ht : (er f [c] xs != 0) = true := bne_iff_ne.2 he
   rw [if_neg he]
   clear h1 he
   generalize er f [c] xs = e0 at *
   apply Gives.none
   go_enter Tryz.func116, Tryz.ntmps116
   go_wp2_with (go_at_call 101; refine (hk.out _ _).mono ?_; rintro e w1 ⟨rfl, hb⟩)
   go_ret2
   exact ⟨rfl, hb⟩
theorem pMul_any (f : Int) (v1 v2 : Value) (xs ys : List Int) (w : World) (h1 : Rw w v1 xs) (h2 : Rw w v2 ys) : Gives 170 #[.int .u8 f, v1, v2] w (mulL f xs ys) (mulE f xs ys) := by
 obtain ⟨a1, c1, rfl, _⟩ := h1.spell
 obtain ⟨a2, c2, rfl, _⟩ := h2.spell
 have hk := hide (fun T => pcheck_two f _ _ xs ys w h1 h2 T)
 by_cases he : er f xs ys = 0
 · obtain ⟨p, wd, h, i1, i2, m1, m2⟩ := er_zero he
   rw [he] at hk
   have t1 := hide (fun W (hb : Below w.heap.size w W) => trimmed_any _ _ xs W (h1.below hb))
   have t2 := hide (fun W (hb : Below w.heap.size w W) => trimmed_any _ _ ys W (h2.below hb))
   have r1 := hide (fun W (hb : Below w.heap.size w W) => (h1.below hb).take (tr_len xs))
   have r2 := hide (fun W (hb : Below w.heap.size w W) => (h2.below hb).take (tr_len ys))
   rw [take_tr_len] at r1 r2
   have n1 := tr_len xs
   have n2 := tr_len ys
   have HP := hide (fun W (hb : Below w.heap.size w W) => product_any f p wd _ _ (tr xs) (tr ys) W h (r1.out W hb) (r2.out W hb) ((els_of i1 h1.words).tr h.pos) ((els_of i2 h2.words).tr h.pos) (by omega))
   by_cases hm : 4096 < (tr xs).length + (tr ys).length - 1
   · have HE : Hid (mulE f xs ys = 4) := by show _ = _; unfold mulE; rw [if_pos he, if_pos hm]
     have HL : Hid (mulL f xs ys = []) := by show _ = _; unfold mulL; rw [HE.out]; rfl
     rw [HE.out, HL.out]
     apply Gives.none
     clear h1 h2 HP r1 r2 h
     generalize (tr xs).length = k1 at *
     generalize (tr ys).length = k2 at *
     go_enter Tryz.func170, Tryz.ntmps170
     go_wp2_with fail
     refine (hk.out _).mono ?_; rintro e w1 ⟨rfl, hb⟩
     go_wp2_with fail
     refine (t1.out _ hb).mono ?_; rintro e w2 ⟨rfl, hb2⟩
     have hb3 := Below.next hb hb2
     go_wp2_with fail
     refine (t2.out _ hb3).mono ?_; rintro e w3 ⟨rfl, hb4⟩
     go_wp2
     go_ret2
     exact ⟨rfl, Below.next hb3 hb4⟩
   · have HE : Hid (mulE f xs ys = 0) := by show _ = _; unfold mulE; rw [if_pos he, if_neg hm]
     have HL : Hid (mulL f xs ys = prd p (tr xs) (tr ys)) := by show _ = _; unfold mulL; rw [HE.out, if_pos rfl, pOf_eq h]
     rw [HE.out, HL.out]
     clear h1 h2 r1 r2 h
     generalize prd p (tr xs) (tr ys) = zs at *
     generalize (tr xs).length = k1 at *
     generalize (tr ys).length = k2 at *
     show Calls _ _ _ _ _
     go_enter Tryz.func170, Tryz.ntmps170
     go_wp2_with fail
     refine (hk.out _).mono ?_; rintro e w1 ⟨rfl, hb⟩
     go_wp2_with fail
     refine (t1.out _ hb).mono ?_; rintro e w2 ⟨rfl, hb2⟩
     have hb3 := Below.next hb hb2
     go_wp2_with fail
     refine (t2.out _ hb3).mono ?_; rintro e w3 ⟨rfl, hb4⟩
     have hb5 := Below.next hb3 hb4
     go_wp2_with (go_at_call 187; refine (HP.out _ hb5).mono ?_; rintro e w6 ⟨v', rfl, hO, hb6⟩)
     go_ret2
     exact ⟨_, rfl, own_mono hO hb5.size, Below.next hb5 hb6⟩
 · have ht : (er f xs ys != 0) = true := bne_iff_ne.2 he
   have HE : Hid (mulE f xs ys = er f xs ys) := by show _ = _; unfold mulE; rw [if_neg he]
   have HL : Hid (mulL f xs ys = []) := by show _ = _; unfold mulL; rw [HE.out, if_neg he]
   rw [HE.out, HL.out]
   clear h1 h2 he HE HL
   generalize er f xs ys = e0 at *
   apply Gives.none
   go_enter Tryz.func170, Tryz.ntmps170
   go_wp2_with (go_at_call 101; refine (hk.out _).mono ?_; rintro e w1 ⟨rfl, hb⟩)
   go_ret2
   exact ⟨rfl, hb⟩
theorem pEval_any (f t : Int) (v : Value) (xs : List Int) (w : World) (hc : 0 <= t ∧ t <= 18446744073709551615) (h1 : Rw w v xs) :
 Calls Tryz.prog 76 #[.int .u8 f, v, .int .u64 t] w fun e w' => e = .returned (.tuple #[.int .u64 (valE f t xs), .int .i64 (er f xs [t])]) ∧ Below w.heap.size w w' := by
 obtain ⟨a1, c1, rfl, _⟩ := h1.spell
 have hk := hide (fun T T2 => pcheck_snd f t _ xs w hc h1 T T2)
 unfold valE
 by_cases he : er f xs [t] = 0
 · obtain ⟨p, wd, h, i1, i2, m1, m2⟩ := er_zero he
   rw [if_pos he, he, pOf_eq h]
   rw [he] at hk
   have hte : El p t := els_of i2 (by simp [hc]) t (List.mem_singleton.2 rfl)
   have hp0 := h.pos
   have HM := hide (fun W y (hy : El p y) => Mul_yes f p y t wd W h hy hte)
   have HA := hide (fun W y x (hy : El p y) (hx : El p x) => Add_yes f p y x wd W h hy hx)
   have HX := hide (els_of i1 h1.words)
   have HH := hide (hn_zero p t xs)
   have HT := hide (hn_top p t xs)
   obtain ⟨⟨a, c, hv, _, _, hcell⟩, _⟩ := h1
   cases hv
   clear h hte i1 i2 he
   go_enter Tryz.func76, Tryz.ntmps76
   go_wp2_with (go_at_call 101; refine (hk.out _ _).mono ?_; rintro e w1 ⟨rfl, hb⟩)
   go_loopw [9, 10] (fun vy vi wr => ∃ k : Nat, k <= xs.length ∧ vi = .int .i64 ((k : Int) - 1) ∧ vy = .int .u64 (hn p t xs k) ∧ Below w.heap.size w wr) (fun _ vi _ => (intOf vi + 1).toNat)
   case atStart => exact ⟨xs.length, Nat.le_refl _, rfl, by rw [HT.out], hb⟩
   case round =>
    clear hb
    obtain ⟨k, hk, rfl, rfl, hB⟩ := hrel
    by_cases hpos : 0 < k
    · obtain ⟨k, rfl⟩ : ∃ j, k = j + 1 := ⟨k - 1, by omega⟩
      have ek : (((k + 1 : Nat) : Int) - 1) = (k : Int) := by omega
      rw [ek]
      clear ek
      obtain ⟨b, o, rfl, hbl, hcl⟩ := hcell (by intro h; rw [h] at hk; simp at hk)
      have hck := hide (fun W (hb : Below w.heap.size w W) => (hb.cell (p := ⟨b, o + k, none⟩) hbl).trans (hcl k (by omega)))
      have HS := hide (hn_step (p := p) (t := t) (xs := xs) (i := k) (by omega))
      have e1 := hn_el hp0 t xs (k + 1)
      have e2 := HX.out.co hp0 k
      have hm := hide (fun W => HM.out W _ e1)
      have ha := hide (fun W => HA.out W _ _ (mul_el (a := hn p t xs (k + 1)) (b := t) hp0) e2)
      rw [HS.out] at ha
      have hco : xs.getD k 0 = co xs k := rfl
      rw [hco] at hck
      clear hco hcl hcell HS e1 e2 HM HA HX
      have k0 : (0 : Int) <= (k : Int) := Int.natCast_nonneg _
      have k1 : (k : Int) < (xs.length : Int) := by omega
      generalize co xs k = x at *
      generalize hn p t xs (k + 1) = y at *
      generalize mul p y t = z at *
      generalize hz : hn p t xs k = z2 at *
      have HZ := hide hz
      clear hz
      go_wp2_with (first
       | (go_at_call 102; refine (hm.out _).mono ?_; rintro e w2 ⟨rfl, hb2⟩; have hB2 := Below.next hB hb2; have hc2 := hck.out _ hB2)
       | (go_at_call 103; refine (ha.out _).mono ?_; rintro e w3 ⟨rfl, hb3⟩))
      go_roundw
      case rel => exact ⟨k, by omega, rfl, by rw [HZ.out], Below.next hB2 hb3⟩
      case measure => simp [intOf]
    · obtain rfl : k = 0 := by omega
      rw [HH.out]
      clear hcell
      go_wp2
      go_ret2
      exact ⟨rfl, hB⟩
 · have ht : (er f xs [t] != 0) = true := bne_iff_ne.2 he
   rw [if_neg he]
   clear h1 he
   generalize er f xs [t] = e0 at *
   go_enter Tryz.func76, Tryz.ntmps76
   go_wp2_with (go_at_call 101; refine (hk.out _ _).mono ?_; rintro e w1 ⟨rfl, hb⟩)
   go_ret2
   exact ⟨rfl, hb⟩
def Wd (zs : List Int) : Prop := zs.length <= 17592186043904 ∧ ∀ x ∈ zs, 0 <= x ∧ x <= 18446744073709551615
theorem Wd.row {w : World} {base n : Nat} {v : Value} {zs : List Int} (h : Wd zs) (hO : w.ownsRow base 64 1 v n (vals zs)) : Rw w v zs := rw_of_own hO h.1 h.2
theorem wd_nil : Wd [] := ⟨by simp, by simp⟩
theorem wd_els {p : Int} {zs : List Int} (h : Els p zs) (hp : p <= 18446744073709551615) (hl : zs.length <= 17592186043904) : Wd zs := ⟨hl, els_words h hp⟩
theorem addL_wd (f : Int) (xs ys : List Int) : Wd (addL f xs ys) := by
 unfold addL; split
 · rename_i he
   obtain ⟨p, wd, h, _, _, m1, m2⟩ := er_zero he
   rw [pOf_eq h]
   exact wd_els ((els_sm h.pos _ _ _).tr h.pos) h.top (Nat.le_trans (tr_len _) (by rw [sm_len]; omega))
 · exact wd_nil
theorem subL_wd (f : Int) (xs ys : List Int) : Wd (subL f xs ys) := by
 unfold subL; split
 · rename_i he
   obtain ⟨p, wd, h, _, _, m1, m2⟩ := er_zero he
   rw [pOf_eq h]
   exact wd_els ((els_sm h.pos _ _ _).tr h.pos) h.top (Nat.le_trans (tr_len _) (by rw [sm_len]; omega))
 · exact wd_nil
theorem mulE_zero {f : Int} {xs ys : List Int} (h : mulE f xs ys = 0) : er f xs ys = 0 ∧ (tr xs).length + (tr ys).length - 1 <= 4096 := by
 unfold mulE at h
 by_cases he : er f xs ys = 0
 · rw [if_pos he] at h
   refine ⟨he, ?_⟩
   by_cases hc : 4096 < (tr xs).length + (tr ys).length - 1
   · rw [if_pos hc] at h; cases h
   · omega
 · rw [if_neg he] at h; exact absurd h he
theorem mulL_len (f : Int) (xs ys : List Int) : (mulL f xs ys).length <= 4096 := by
 unfold mulL; split
 · rename_i he
   have := (mulE_zero he).2
   exact Nat.le_trans (prd_len_le _ _ _) this
 · simp
theorem mulL_wd (f : Int) (xs ys : List Int) : Wd (mulL f xs ys) := by
 have hl := mulL_len f xs ys
 unfold mulL at hl ⊢; split
 · rename_i he
   obtain ⟨p, wd, h, _, _, m1, m2⟩ := er_zero (mulE_zero he).1
   rw [if_pos he] at hl
   rw [pOf_eq h] at hl ⊢
   exact wd_els (els_prd h.pos _ _) h.top (by omega)
 · exact wd_nil
theorem rw2 (w : World) (a b : Int) (ha : 0 <= a ∧ a <= 18446744073709551615) (hb : 0 <= b ∧ b <= 18446744073709551615) (T : TypeId) :
 Rw (w.alloc (.cells #[.int .u64 a, .int .u64 b] T)) (.slice (some ⟨w.heap.size, 0, none⟩) 2 2) [a, b] := ⟨row2 w a b ha hb T, _, _, _, rfl, Nat.le_refl _⟩
end Go.Proofs.YtjhididlcdepdaaGreat
