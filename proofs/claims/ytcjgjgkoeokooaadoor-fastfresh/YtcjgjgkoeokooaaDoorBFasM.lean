/-
  Layer 4: transforms there and back, round products: plain arithmetic; transform and back walked.
-/
import Derived.Test.YtcjgjgkoeokooaaDoorBFasL
namespace Go.Proofs.YtcjgjgkoeokooaaDoor
open Go.RowKit Fld
set_option linter.unusedVariables false

theorem Inv_yes4 (f p a : Int) (wd : Bool) (w : World) (h : Fi f p wd) (ha : El p a) (h0 : a ≠ 0) :
    Calls Tryd.prog 59 #[.int .u8 f, .int .u64 a] w fun x w' => x = .returned (.tuple #[.int .u64 (inv p a), .int .i64 0]) ∧ Below w.heap.size w w' := by
  have := Inv_of f a _ 0 w (Div_yes f p 1 a wd w h (one_el h.md) ha (by have := ha.1; omega))
  have e : mul p 1 (inv p a) = inv p a := by
    unfold mul
    rw [Int.one_mul]
    exact (inv_el h.pos).mod
  rw [e] at this
  exact this

/-- The field's root of the log L. -/
theorem rv_hf {f p : Int} {wd : Bool} {LL : Nat} {gb : Int} (h : Lb f p wd LL gb) {L : Nat} (hL : L ≤ LL) : Hf p (rv p gb L) L := by
  have hp := h.fi.pos
  refine ⟨fun h0 => by rw [h0, h.rv0], fun h1 => ?_⟩
  have e := rv_down h L (L - 1) hL (by omega)
  have e2 : L - (L - 1) = 1 := by omega
  rw [e2, h.rv1, sq_pw h.fi.md (rv_el hp)] at e
  rw [← pw_mod h.fi.md, e]
  have : p - 1 = -1 + p := by omega
  rw [this, Int.add_emod_right]
theorem inv_one {p a : Int} {wd : Bool} (hm : Md p wd) (ha : El p a) (h0 : a ≠ 0) : (a * inv p a) % p = 1 % p := by
  have := mul_inv hm a ha h0
  unfold mul at this
  rw [this, Int.emod_eq_of_lt (by decide) (one_el hm).2]

/-- Each of the first k times c. -/
def sc (p c : Int) (ys : List Int) (k : Nat) : List Int := mk ys.length (fun i => if i < k then (co ys i * c) % p else co ys i)
theorem sc_len (p c : Int) (ys : List Int) (k : Nat) : (sc p c ys k).length = ys.length := mk_len _ _
theorem co_sc {p c : Int} {ys : List Int} {k i : Nat} (hi : i < ys.length) : co (sc p c ys k) i = if i < k then (co ys i * c) % p else co ys i := by unfold sc; rw [co_mk, if_pos hi]
theorem sc_zero (p c : Int) (ys : List Int) : sc p c ys 0 = ys := ext_co (sc_len ..) (fun i hi => by rw [sc_len] at hi; rw [co_sc hi, if_neg (by omega)])
theorem sc_at {p c : Int} {ys : List Int} {k : Nat} (hk : k < ys.length) : co (sc p c ys k) k = co ys k := by rw [co_sc hk, if_neg (by omega)]
theorem sc_step {p c : Int} {ys : List Int} {k : Nat} (hk : k < ys.length) : (sc p c ys k).set k (mul p (co ys k) c) = sc p c ys (k + 1) := by
  apply ext_co (by rw [List.length_set, sc_len, sc_len])
  intro i hi
  rw [List.length_set, sc_len] at hi
  rw [co_set _ _ _ _ (by rw [sc_len]; exact hk), co_sc hi, co_sc hi]
  by_cases he : i = k
  · subst he; rw [if_pos rfl, if_pos (by omega)]; rfl
  · rw [if_neg he]
    by_cases h : i < k
    · rw [if_pos h, if_pos (by omega)]
    · rw [if_neg h, if_neg (by omega)]
theorem els_sc {p c : Int} (hp : 0 < p) {ys : List Int} (hy : Els p ys) (k : Nat) : Els p (sc p c ys k) := Els.of_co (fun i hi => by
  rw [sc_len] at hi
  rw [co_sc hi]; split
  · exact emod_el hp _
  · exact hy.co hp i)

/-- Taken back. -/
def bk (p v c : Int) (n : Nat) (xs : List Int) : List Int := sc p c (tf p v n xs) n
theorem bk_len (p v c : Int) (n : Nat) (xs : List Int) : (bk p v c n xs).length = n := by unfold bk; rw [sc_len, tf_len]
theorem els_bk {p : Int} (hp : 0 < p) (v c : Int) (n : Nat) (xs : List Int) : Els p (bk p v c n xs) := els_sc hp (els_tf hp v n xs) n
theorem co_bk {p v c : Int} {n k : Nat} (hk : k < n) (xs : List Int) : co (bk p v c n xs) k = (ev (v ^ k) n (co xs) * c) % p := by
  unfold bk
  rw [co_sc (by rw [tf_len]; exact hk), if_pos hk, co_tf _ _ hk, Int.mul_emod, Int.emod_emod_of_dvd _ (Int.dvd_refl p), ← Int.mul_emod]
theorem ev_low {p t : Int} {n : Nat} {F G : Nat → Int} (h : ∀ i, i < n → F i % p = G i % p) : ev t n F % p = ev t n G % p := by
  rw [ev_sg, ev_sg]
  exact al_sg n (fun i hi => by rw [Int.mul_emod, h i hi, ← Int.mul_emod])
/-- What is taken back of values at the powers of w is the coefficients. -/
theorem bk_of {p w v c : Int} {wd : Bool} (hm : Md p wd) {n : Nat} (h : Rt p w v n) (hc : ((n : Int) * c) % p = 1 % p) {F : Nat → Int} {ys : List Int} (hy : ∀ i, i < n → co ys i % p = ev (w ^ i) n F % p) : bk p v c n ys = mk n (fun k => F k % p) := by
  apply ext_co (by rw [bk_len, mk_len])
  intro k hk
  rw [bk_len] at hk
  rw [co_bk hk, co_mk, if_pos hk, Int.mul_emod, ev_low hy, tf_back hm h F hk, ← Int.mul_emod]
  have e : (n : Int) * F k * c = (n : Int) * c * F k := by rw [Int.mul_assoc, Int.mul_comm (F k) c, ← Int.mul_assoc]
  rw [e, Int.mul_emod, hc, ← Int.mul_emod, Int.one_mul]
/-- And the other way round. -/
theorem tf_bk {p w v c : Int} {wd : Bool} (hm : Md p wd) {n : Nat} (h : Rt p w v n) (hc : ((n : Int) * c) % p = 1 % p) (xs : List Int) : tf p w n (bk p v c n xs) = mk n (fun k => co xs k % p) := by
  apply ext_co (by rw [tf_len, mk_len])
  intro k hk
  rw [tf_len] at hk
  rw [co_tf _ _ hk, co_mk, if_pos hk]
  have e1 : ev (w ^ k) n (co (bk p v c n xs)) % p = ev (w ^ k) n (fun i => c * ev (v ^ i) n (co xs)) % p := ev_low (fun i hi => by rw [co_bk hi, Int.emod_emod_of_dvd _ (Int.dvd_refl p), Int.mul_comm])
  rw [e1, ev_smul, Int.mul_emod, tf_back hm h.turn (co xs) hk, ← Int.mul_emod]
  have e : c * ((n : Int) * co xs k) = (n : Int) * c * co xs k := by rw [← Int.mul_assoc, Int.mul_comm c]
  rw [e, Int.mul_emod, hc, ← Int.mul_emod, Int.one_mul]
theorem mk_self {p : Int} (hp : 0 < p) {xs : List Int} (hx : Els p xs) : mk xs.length (fun k => co xs k % p) = xs := ext_co (mk_len _ _) (fun i hi => by
  rw [mk_len] at hi
  rw [co_mk, if_pos hi, (hx.co hp i).mod])
/-- The round product, as a list. -/
def rdL (p : Int) (n : Nat) (xs ys : List Int) : List Int := mk n (fun k => rd n (co xs) (co ys) k % p)
theorem rdL_len (p : Int) (n : Nat) (xs ys : List Int) : (rdL p n xs ys).length = n := mk_len _ _
theorem els_rdL {p : Int} (hp : 0 < p) (n : Nat) (xs ys : List Int) : Els p (rdL p n xs ys) := els_mk_mod hp _ _
/-- Place by place, the first k. -/
def pp (p : Int) (xs ys : List Int) (k : Nat) : List Int := mk xs.length (fun i => if i < k then (co xs i * co ys i) % p else co xs i)
theorem pp_len (p : Int) (xs ys : List Int) (k : Nat) : (pp p xs ys k).length = xs.length := mk_len _ _
theorem co_pp {p : Int} {xs ys : List Int} {k i : Nat} (hi : i < xs.length) : co (pp p xs ys k) i = if i < k then (co xs i * co ys i) % p else co xs i := by unfold pp; rw [co_mk, if_pos hi]
theorem pp_zero (p : Int) (xs ys : List Int) : pp p xs ys 0 = xs := ext_co (pp_len ..) (fun i hi => by rw [pp_len] at hi; rw [co_pp hi, if_neg (by omega)])
theorem pp_at {p : Int} {xs ys : List Int} {k : Nat} (hk : k < xs.length) : co (pp p xs ys k) k = co xs k := by rw [co_pp hk, if_neg (by omega)]
theorem pp_step {p : Int} {xs ys : List Int} {k : Nat} (hk : k < xs.length) : (pp p xs ys k).set k (mul p (co xs k) (co ys k)) = pp p xs ys (k + 1) := by
  apply ext_co (by rw [List.length_set, pp_len, pp_len])
  intro i hi
  rw [List.length_set, pp_len] at hi
  rw [co_set _ _ _ _ (by rw [pp_len]; exact hk), co_pp hi, co_pp hi]
  by_cases he : i = k
  · subst he; rw [if_pos rfl, if_pos (by omega)]; rfl
  · rw [if_neg he]
    by_cases h : i < k
    · rw [if_pos h, if_pos (by omega)]
    · rw [if_neg h, if_neg (by omega)]
theorem els_pp {p : Int} (hp : 0 < p) {xs ys : List Int} (hx : Els p xs) (k : Nat) : Els p (pp p xs ys k) := Els.of_co (fun i hi => by
  rw [pp_len] at hi
  rw [co_pp hi]; split
  · exact emod_el hp _
  · exact hx.co hp i)
theorem rt_pow {p w v : Int} {n : Nat} (h : Rt p w v n) (i : Nat) : (w ^ i) ^ n % p = 1 % p := by rw [pow_pow]; exact pow_one_mod h.one i
theorem round_back {p w v c : Int} {wd : Bool} (hm : Md p wd) {n : Nat} (h : Rt p w v n) (hc : ((n : Int) * c) % p = 1 % p) {xs ys : List Int} (hx : xs.length ≤ n) (hy : ys.length ≤ n) :
    bk p v c n (pp p (tf p w n xs) (tf p w n ys) n) = rdL p n xs ys := by
  refine bk_of hm h hc (fun i hi => ?_)
  rw [co_pp (by rw [tf_len]; exact hi), if_pos hi, co_tf _ _ hi, co_tf _ _ hi, Int.emod_emod_of_dvd _ (Int.dvd_refl p), ← Int.mul_emod]
  exact (ev_rd (rt_pow h i) (fun j hj => co_out _ _ (by omega)) (fun j hj => co_out _ _ (by omega))).symm

set_option maxHeartbeats 200000 in
theorem transform_any (f p : Int) (wd : Bool) (LL : Nat) (gb : Int) (L n : Nat) (xs : List Int) (w : World) (g : Nat) (hB : Lb f p wd LL gb) (hL : L ≤ 12) (hn : n = 2 ^ L) (hO : OwnG w g n xs) (hx : Els p xs) (hT : Tb w) (hg : 1 < g) :
    Calls Tryd.prog 35 #[.int .u8 f, .slice (some ⟨g, 0, none⟩) n n] w fun e w' => e = .returned (.tuple #[]) ∧ OwnG w' g n (tf p (rv p gb L) n xs) ∧ w.grownBy w' (some g) := by
  have hLL := hB.le
  have HL := hide (flogOf_any n L w hL hn hT)
  have HR := hide (fun W => Root_yes f p wd LL gb L W hB (by omega))
  have HS := hide (fun W (hb : Below w.heap.size w W) => spread_any f p (rv p gb L) wd L n xs W g hB.fi hL hn (own_below hO hb) hx (rv_el hB.fi.pos) (rv_hf hB (by omega)) (hT.below hb))
  generalize rv p gb L = r at *
  clear hB hO hx hT hn
  go_enter Tryd.func35, Tryd.ntmps35
  go_wp2_with (first
    | (go_at_call 54; refine HL.out.mono ?_; rintro e w1 ⟨rfl, hw⟩; rw [hw]; clear hw)
    | (go_at_call 53; refine (HR.out _).mono ?_; rintro e w2 ⟨rfl, hb2⟩)
    | (go_at_call 55; refine (HS.out _ hb2).mono ?_; rintro e w3 ⟨rfl, o3, g3⟩))
  go_end0
  exact ⟨rfl, o3, grown_trans (grown_below (grown_refl w (some g)) hb2) g3⟩

theorem n_el {f p : Int} {wd : Bool} (hf : Fi f p wd) {n : Nat} (h : n ≤ 4096) : El p (n : Int) := by
  rcases hf with ⟨_, rfl, _⟩ | ⟨_, rfl, _⟩ <;> exact ⟨by omega, by omega⟩

set_option maxRecDepth 100000 in
set_option maxHeartbeats 200000 in
theorem back_any (f p : Int) (wd : Bool) (LL : Nat) (gb : Int) (L n : Nat) (xs : List Int) (w : World) (g : Nat) (hB : Lb f p wd LL gb) (hL : L ≤ 12) (hn : n = 2 ^ L) (hO : OwnG w g n xs) (hx : Els p xs) (hT : Tb w) (hg : 1 < g) :
    Calls Tryd.prog 39 #[.int .u8 f, .slice (some ⟨g, 0, none⟩) n n] w fun e w' => e = .returned (.tuple #[]) ∧ OwnG w' g n (bk p (inv p (rv p gb L)) (inv p (n : Int)) n xs) ∧ w.grownBy w' (some g) := by
  have hLL := hB.le
  have hle : n ≤ 4096 := by rw [hn]; exact pow_le12 hL
  have hn1 : 1 ≤ n := by rw [hn]; exact Nat.pow_pos (by decide)
  have hp0 := hB.fi.pos
  have hnz : rv p gb L ≠ 0 := rv_nz hB L (by omega)
  have hre : El p (rv p gb L) := rv_el hp0
  have HL := hide (flogOf_any n L w hL hn hT)
  have HR := hide (fun W => Root_yes f p wd LL gb L W hB (by omega))
  have HI := hide (fun W => Inv_yes4 f p (rv p gb L) wd W hB.fi hre hnz)
  have HI2 := hide (fun W => Inv_yes4 f p (n : Int) wd W hB.fi (n_el hB.fi hle) (by omega))
  have HS := hide (fun W (hb : Below w.heap.size w W) => spread_any f p (inv p (rv p gb L)) wd L n xs W g hB.fi hL hn (own_below hO hb) hx (inv_el hp0) ((rv_hf hB (by omega)).inv (inv_one hB.fi.md hre hnz)) (hT.below hb))
  have HE : Hid (Els p (tf p (inv p (rv p gb L)) n xs)) := els_tf hp0 _ _ _
  have HM := hide (fun W x (hx : El p x) => Mul_yes f p x (inv p (n : Int)) wd W hB.fi hx (inv_el hp0))
  have hlen : (tf p (inv p (rv p gb L)) n xs).length = n := tf_len _ _ _ _
  unfold bk
  generalize rv p gb L = r at *
  generalize inv p r = v at *
  generalize tf p v n xs = ts at *
  generalize inv p (n : Int) = c at *
  have n0 : (0 : Int) ≤ (n : Int) := by omega
  have n1 : (n : Int) ≤ 4096 := by omega
  clear hB hO hx hT hn hre hnz
  go_enter Tryd.func39, Tryd.ntmps39
  go_wp2_with fail
  refine HL.out.mono ?_; rintro e w1 ⟨rfl, hw⟩; rw [hw]; clear hw
  go_wp2_with fail
  refine (HR.out _).mono ?_; rintro e w2 ⟨rfl, hb2⟩
  go_wp2_with fail
  refine (HI.out _).mono ?_; rintro e w3 ⟨rfl, hb3⟩
  have hB3 := Below.next hb2 hb3
  clear hb2 hb3
  go_wp2_with fail
  refine (HS.out _ hB3).mono ?_; rintro e w4 ⟨rfl, o4, g4⟩
  have O4 := hide o4
  have G4 := hide (grown_trans (grown_below (grown_refl w (some g)) hB3) g4)
  clear o4 g4 hB3
  go_wp2_with fail
  refine (HI2.out _).mono ?_; rintro e w5 ⟨rfl, hb5⟩
  have O5 := hide (own_below O4.out hb5)
  have G5 := hide (grown_below G4.out hb5)
  clear O4 G4 hb5
  go_wp2_with fail
  go_loopw [39] (fun vk wr => ∃ k : Nat, k ≤ n ∧ vk = .int .i64 k ∧ OwnG wr g n (sc p c ts k) ∧ w.grownBy wr (some g)) (fun vk _ => n - (intOf vk).toNat)
  case atStart => exact ⟨0, Nat.zero_le _, rfl, by rw [sc_zero]; exact O5.out, G5.out⟩
  case round =>
    clear O5 G5
    obtain ⟨k, hk, rfl, hO, hG⟩ := hrel
    by_cases hlt : k < n
    · have sl : (sc p c ts k).length = n := by rw [sc_len, hlen]
      have d1 := hO.cell sl k hlt
      have e1 : (sc p c ts k).getD k 0 = co ts k := sc_at (by omega)
      rw [e1] at d1
      have hm := hide (fun W => HM.out W _ (HE.out.co hp0 k))
      have HST := hide (sc_step (p := p) (c := c) (ys := ts) (k := k) (by omega))
      have HA := hide (fun W (hb : Below wr.heap.size wr W) => spoil_step (x := mul p (co ts k) c) (k := k) (own_below hO hb) (grown_below hG hb) (.inl rfl))
      have HB := hide (fun W (hb : Below wr.heap.size wr W) => own_cell (k := k) (own_below hO hb) sl hlt)
      have HFr := hide (fun W (hb : Below wr.heap.size wr W) => (own_below hO hb).frozenAt k)
      rw [HST.out] at HA
      rw [e1] at HB
      clear e1 hO hG HST
      generalize mul p (co ts k) c = z at *
      generalize co ts k = y at *
      have k0 : (0 : Int) ≤ (k : Int) := Int.natCast_nonneg _
      have k1 : (k : Int) < (n : Int) := by omega
      go_wp2_with (go_at_call 60; refine (hm.out _).mono ?_; rintro e w6 ⟨rfl, hb⟩; have hc2 := HB.out _ hb; have hf2 := HFr.out _ hb)
      go_roundw
      case rel => exact ⟨k + 1, by omega, by go_num, (HA.out _ hb).1, (HA.out _ hb).2⟩
      case measure => simp [intOf]; omega
    · obtain rfl : k = n := by omega
      go_wp2
      go_end0
      exact ⟨rfl, hO, hG⟩

theorem rt_of {f p : Int} {wd : Bool} {LL : Nat} {gb : Int} (h : Lb f p wd LL gb) {L n : Nat} (hL : L ≤ 12) (hn : n = 2 ^ L) : Rt p (rv p gb L) (inv p (rv p gb L)) n ∧ ((n : Int) * inv p (n : Int)) % p = 1 % p := by
  have hLL := h.le
  have hle : n ≤ 4096 := by rw [hn]; exact pow_le12 hL
  have hn1 : 1 ≤ n := by rw [hn]; exact Nat.pow_pos (by decide)
  have hp2 : 2 < p := by rcases h with ⟨_, rfl, _⟩ | ⟨_, rfl, _⟩ <;> decide
  refine ⟨?_, inv_one h.fi.md (n_el h.fi hle) (by omega)⟩
  rw [hn]
  exact (rv_hf h (by omega)).rt hp2 (inv_one h.fi.md (rv_el h.fi.pos) (rv_nz h L (by omega)))

set_option maxRecDepth 100000 in
set_option maxHeartbeats 200000 in
theorem round_any (f p : Int) (wd : Bool) (LL : Nat) (gb : Int) (L n : Nat) (xs ys : List Int) (w : World) (g g2 base : Nat) (hB : Lb f p wd LL gb) (hL : L ≤ 12) (hn : n = 2 ^ L) (hO : OwnG w g n xs) (hO2 : OwnG w g2 n ys) (hne : g2 ≠ g) (hx : Els p xs) (hy : Els p ys) (hT : Tb w) (hg : 1 < g) (hg2 : 1 < g2)
    (hbg : base ≤ g) (hbg2 : base ≤ g2) :
    Calls Tryd.prog 41 #[.int .u8 f, .slice (some ⟨g, 0, none⟩) n n, .slice (some ⟨g2, 0, none⟩) n n] w fun e w' => e = .returned (.tuple #[]) ∧ OwnG w' g n (rdL p n xs ys) ∧ Below base w w' := by
  have hle : n ≤ 4096 := by rw [hn]; exact pow_le12 hL
  have hp0 := hB.fi.pos
  have hl1 := own_len hO
  have hl2 := own_len hO2
  obtain ⟨rt, rc⟩ := rt_of hB hL hn
  have HRB := hide (round_back hB.fi.md rt rc (xs := xs) (ys := ys) (by omega) (by omega))
  have HT1 := hide (transform_any f p wd LL gb L n xs w g hB hL hn hO hx hT hg)
  have HT2 := hide (fun W (hG : w.grownBy W (some g)) => transform_any f p wd LL gb L n ys W g2 hB hL hn (row_grown hO2 hG hne) hy (hT.grown hG hg) hg2)
  have HBk := hide (fun W zs (hO : OwnG W g n zs) (hz : Els p zs) (hT : Tb W) => back_any f p wd LL gb L n zs W g hB hL hn hO hz hT hg)
  have HTb := hide hT
  have HE1 : Hid (Els p (tf p (rv p gb L) n xs)) := els_tf hp0 _ _ _
  have HE2 : Hid (Els p (tf p (rv p gb L) n ys)) := els_tf hp0 _ _ _
  have hlen1 : (tf p (rv p gb L) n xs).length = n := tf_len _ _ _ _
  have hlen2 : (tf p (rv p gb L) n ys).length = n := tf_len _ _ _ _
  have HM := hide (fun W x y (hx : El p x) (hy : El p y) => Mul_yes f p x y wd W hB.fi hx hy)
  have hgw := own_lt hO
  have hgw2 := own_lt hO2
  clear hB hO hO2 hx hy hT hn rt rc
  generalize tf p (rv p gb L) n xs = ts at *
  generalize tf p (rv p gb L) n ys = us at *
  go_enter Tryd.func41, Tryd.ntmps41
  go_wp2_with fail
  refine HT1.out.mono ?_; rintro e w1 ⟨rfl, o1, g1⟩
  have O1 := hide o1
  have G1 := hide g1
  clear o1 g1
  go_wp2_with fail
  refine (HT2.out _ G1.out).mono ?_; rintro e w2 ⟨rfl, o2, g2'⟩
  have O2 := hide o2
  have O1b := hide (row_grown O1.out g2' (fun e => hne e.symm))
  have hB2 : Hid (Below base w w2) := ((Below.refl base w).grown G1.out (by omega) (fun k hk => by cases hk; exact hbg)).grown g2' (by have := G1.out.size; omega) (fun k hk => by cases hk; exact hbg2)
  have T2 : Hid (Tb w2) := (HTb.out.grown G1.out hg).grown g2' hg2
  have hs2 : base ≤ w2.heap.size := by have := hB2.out.size; omega
  clear o2 g2' O1 G1 HT1 HT2
  go_wp2_with fail
  go_loopw [15] (fun vk wr => ∃ k : Nat, k ≤ n ∧ vk = .int .i64 k ∧ OwnG wr g n (pp p ts us k) ∧ w2.grownBy wr (some g)) (fun vk _ => n - (intOf vk).toNat)
  case atStart => exact ⟨0, Nat.zero_le _, rfl, by rw [pp_zero]; exact O1b.out, grown_refl _ _⟩
  case round =>
    clear O1b
    obtain ⟨k, hk, rfl, hO, hG⟩ := hrel
    by_cases hlt : k < n
    · have sl : (pp p ts us k).length = n := by rw [pp_len, hlen1]
      have d1 := hO.cell sl k hlt
      have d2 := (row_grown O2.out hG hne).cell hlen2 k hlt
      have e1 : (pp p ts us k).getD k 0 = co ts k := pp_at (by omega)
      have e2 : us.getD k 0 = co us k := rfl
      rw [e1] at d1
      rw [e2] at d2
      have hm := hide (fun W => HM.out W _ _ (HE1.out.co hp0 k) (HE2.out.co hp0 k))
      have HST := hide (pp_step (p := p) (xs := ts) (ys := us) (k := k) (by omega))
      have HA := hide (fun W (hb : Below wr.drew.heap.size wr.drew W) => spoil_step (x := mul p (co ts k) (co us k)) (k := k) (own_below (own_drew hO) hb) (grown_below (grown_drew hG) hb) (.inl rfl))
      have HB := hide (fun W (hb : Below wr.drew.heap.size wr.drew W) => own_cell (k := k) (own_below (own_drew hO) hb) sl hlt)
      have HFr := hide (fun W (hb : Below wr.drew.heap.size wr.drew W) => (own_below (own_drew hO) hb).frozenAt k)
      rw [HST.out] at HA
      rw [e1] at HB
      clear e1 e2 hO hG HST
      generalize mul p (co ts k) (co us k) = z at *
      generalize co ts k = y at *
      generalize co us k = x at *
      have k0 : (0 : Int) ≤ (k : Int) := Int.natCast_nonneg _
      have k1 : (k : Int) < (n : Int) := by omega
      go_wp2_with fail
      go_region_with (go_at_call 60; refine (hm.out _).mono ?_; rintro e w6 ⟨rfl, hb⟩; have hc2 := HB.out _ hb; have hf2 := HFr.out _ hb)
      all_goals
        go_wp2
        go_roundw
        case rel => exact ⟨k + 1, by omega, by go_num, (HA.out _ hb).1, (HA.out _ hb).2⟩
        case measure => simp [intOf]; omega
    · obtain rfl : k = n := by omega
      have T3 : Hid (Tb wr) := T2.out.grown hG hg
      have hbk := hide (HBk.out wr _ hO (els_pp hp0 HE1.out _) T3.out)
      rw [HRB.out] at hbk
      have hB3 : Hid (Below base w wr) := hB2.out.grown hG hs2 (fun k hk => by cases hk; exact hbg)
      have hs3 := hB3.out.size
      clear hO hG
      go_wp2_with (go_at_call 39; refine hbk.out.mono ?_; rintro e w7 ⟨rfl, o7, g7⟩)
      go_end0
      exact ⟨rfl, o7, hB3.out.grown g7 (by omega) (fun k hk => by cases hk; exact hbg)⟩

end Go.Proofs.YtcjgjgkoeokooaaDoor
