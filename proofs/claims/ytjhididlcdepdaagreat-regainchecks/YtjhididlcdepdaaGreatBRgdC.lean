import Derived.Test.YtjhididlcdepdaaGreatBRgdA
import Derived.Test.YtjhididlcdepdaaGreatBRgnR
import Derived.Test.YtjhididlcdepdaaGreatBunAU
import Derived.Test.YtjhididlcdepdaaGreatBunQ
import Derived.Test.YtjhididlcdepdaaGreatBRgnP
set_option linter.unusedVariables false
set_option linter.unusedSimpArgs false
set_option maxRecDepth 100000
set_option maxHeartbeats 4000000
namespace Go.Proofs.YtjhididlcdepdaaGreat
open Go.RowKit Fld Pln
def allk (b : Nat → Bool) (k : Nat) : Bool := (List.range k).all b
theorem allk_next (b : Nat → Bool) (k : Nat) : allk b (k + 1) = (allk b k && b k) := by
 unfold allk; rw [List.range_succ, List.all_append]; simp
theorem allk_iff {b : Nat → Bool} {k : Nat} : allk b k = true ↔ ∀ j, j < k → b j = true := by
 unfold allk; rw [List.all_eq_true]
 exact ⟨fun h j hj => h j (List.mem_range.2 hj), fun h j hj => h j (List.mem_range.1 hj)⟩
def okP (f : Int) (P : List Int) : Bool := inF f P && decide (P.length ≤ 4096)
theorem er_nil8 {f q : Int} {wd : Bool} (hf : Fi f q wd) (P : List Int) : (okP f P = true ↔ er f P [] = 0) := by
 unfold okP
 rw [Bool.and_eq_true, decide_eq_true_iff]
 constructor
 · rintro ⟨h1, h2⟩
   rw [inF_yes hf] at h1
   exact er_yes hf h1 rfl h2 (by decide)
 · intro h
   obtain ⟨p2, w2, f2, j1, _, j3, _⟩ := er_zero h
   exact ⟨by rw [inF_yes f2]; exact j1, j3⟩
theorem val_on {f q x : Int} {wd : Bool} (hf : Fi f q wd) (hx : El q x) {P : List Int} (h : okP f P = true) : valE f x P = vl q x P := by
 unfold okP at h
 rw [Bool.and_eq_true, decide_eq_true_iff, inF_yes hf] at h
 have e : er f P [x] = 0 := er_yes hf h.1 (allIn_of (fun y hy => by rw [List.mem_singleton.1 hy]; exact hx)) h.2 (by simp)
 unfold valE
 rw [e, if_pos rfl, pOf_eq hf]
theorem cq_yes2 {p : Pn} {Ps : List (List Int)} {i : Int} {vs : List Int} (hm : mayP p = true) (hi : isW p i = true) (hl : vs.length = Ps.length) (hv : inF p.f vs = true) : (cqE p Ps i vs = 0 ↔ ∀ k, k < vs.length → okP p.f (Ps.getD k []) = true) := by
 rw [(cq_yes hm hi hl).1]
 have hv2 := (inF_all hm vs).1 hv
 unfold pjk ok1 okP
 constructor
 · intro h k hk
   have := h k hk
   rw [Bool.and_eq_true] at this
   exact this.2
 · intro h k hk
   rw [hv2 k hk, h k hk]; rfl
theorem cq_no2 {p : Pn} {Ps : List (List Int)} {i : Int} {vs : List Int} (h : ¬ (mayP p = true ∧ isW p i = true ∧ vs.length = Ps.length ∧ inF p.f vs = true)) : cqE p Ps i vs = 2 := by
 unfold cqE
 rw [if_neg]
 intro hc
 rw [Bool.and_eq_true, Bool.and_eq_true, Bool.and_eq_true, Bool.and_eq_true, decide_eq_true_iff] at hc
 exact h ⟨hc.1, hc.2.1, hc.2.2.1, hc.2.2.2.1⟩
theorem dCheckR (p : Pn) (vr vq va vv : Value) (i : Int) (Ps : List (List Int)) (vs : List Int) (w : World) (hp : Ok8p p) (h1 : ∃ a b c, vr = .slice a b c) (h2 : Rws w vq Ps) (h3 : ∃ a b c, va = .slice a b c) (h4 : Rw w vv vs) :
 Calls Tryz.prog 15 #[plv p, .agg #[vr, vq, va], .int .i64 i, vv] w fun e w' => e = .returned (.tuple #[.bool (cqB p Ps i vs), .int .i64 (cqE p Ps i vs)]) ∧ Below w.heap.size w w' := by
 have HM := hide (fun W => dMayP p hp W)
 have HI := hide (fun W (hb : Below w.heap.size w W) => rIn_any p.f vv vs W (h4.below hb).1)
 have hpl : Ps.length ≤ 5864062014700 := by obtain ⟨_, _, _, h, _⟩ := h2; exact h
 have hvl := h4.len
 obtain ⟨pb, hA0⟩ := pb_box (w := w) p
 have a1 := alloc_below (w.alloc (.cells #[.int .u8 p.f, .int .i64 p.n, .int .i64 p.k, .int .i64 p.t, .int .i64 p.s, .int .i64 p.e, .int .i64 p.d, .int .i64 p.w] 24)) (.cells #[vr, vq, va] 29)
 have n1 := heap_alloc_new (w.alloc (.cells #[.int .u8 p.f, .int .i64 p.n, .int .i64 p.k, .int .i64 p.t, .int .i64 p.s, .int .i64 p.e, .int .i64 p.d, .int .i64 p.w] 24)) (.cells #[vr, vq, va] 29)
 have hsz : (w.alloc (.cells #[.int .u8 p.f, .int .i64 p.n, .int .i64 p.k, .int .i64 p.t, .int .i64 p.s, .int .i64 p.e, .int .i64 p.d, .int .i64 p.w] 24)).heap.size = w.heap.size + 1 := by simp
 rw [hsz] at n1
 clear hsz
 have HP := hide (pb.below a1)
 have HN1 := hide n1
 have hA := Below.next hA0 a1
 have HR2 := hide h2
 have HR4 := hide h4
 obtain ⟨a1', m1, k1, rfl⟩ := h1
 obtain ⟨a3, m3, k3, rfl⟩ := h3
 obtain ⟨a2, k2, rfl, _, _, _⟩ := h2
 obtain ⟨a4, k4, rfl, _⟩ := h4.spell
 obtain ⟨c0, c1, c2, c3, c4, c5, c6, c7⟩ := HP.out.cells
 by_cases hall : mayP p = true ∧ isW p i = true ∧ vs.length = Ps.length ∧ inF p.f vs = true
 · obtain ⟨hm, hi, hl, hv⟩ := hall
   obtain ⟨q, wd, hf⟩ := may_field hm
   obtain ⟨⟨m0, m1'⟩, ⟨t0, t1⟩, ⟨u0, u1⟩, _⟩ := may_facts hm
   have hiw := isW_iff.1 hi
   have hb := hf.big
   have hxel : El q (p.k + p.t + i) := ⟨by omega, by omega⟩
   obtain ⟨I, rfl⟩ := Int.eq_ofNat_of_zero_le hiw.1
   have HO := hide (fun W => dOuter p W hm)
   have hol : (outL p).length = p.n.toNat := pts_len _ _
   have hIo : (outL p).getD I 0 = p.k + p.t + (I : Int) := pts_at _ (by omega)
   have HCy := hide (cq_yes2 (p := p) (Ps := Ps) (i := (I : Int)) (vs := vs) hm hi hl hv)
   have HCz := hide (cq_yes (p := p) (Ps := Ps) (i := (I : Int)) (vs := vs) hm hi hl).2
   have HCb := hide (fun h0 => cqB_on (p := p) (Ps := Ps) (i := (I : Int)) (vs := vs) h0 hl)
   have HCn := hide (fun h0 => cqB_no (p := p) (Ps := Ps) (i := (I : Int)) (vs := vs) h0)
   rw [pOf_eq hf] at HCb
   have HBd : Hid (∀ W u P, Rw W u P → Calls Tryz.prog 48 #[.int .u8 p.f, u, .slice none 0 0] W fun e w' => e = .returned (.int .i64 (er p.f P [])) ∧ w' = W) := fun W u P hR => rBad_any p.f u _ P [] W hR (row_nilR W)
   have HEr := hide (fun P => er_nil8 hf P)
   have HEv : Hid (∀ W u P, okP p.f P = true → Rw W u P → Calls Tryz.prog 35 #[.int .u8 p.f, u, .int .u64 (p.k + p.t + (I : Int))] W fun e w' => ∃ e0, e = .returned (.tuple #[.int .u64 (vl q (p.k + p.t + (I : Int)) P), .int .i64 e0]) ∧ Below W.heap.size W w') := fun W u P hk hR => by
    have := dEval_any p.f (p.k + p.t + (I : Int)) u P W ⟨by omega, by omega⟩ hR
    rw [val_on hf hxel hk] at this
    exact this.mono fun e w' ⟨he, hb⟩ => ⟨_, he, hb⟩
   rw [hm] at HM
   rw [hv] at HI
   have Hl := hide hl
   have i0 : (0 : Int) ≤ (I : Int) := by omega
   have i1 : (I : Int) < p.n := by omega
   have i2 : I < (outL p).length := by omega
   clear hol
   generalize outL p = os at *
   generalize cqE p Ps (I : Int) vs = ce at *
   generalize cqB p Ps (I : Int) vs = cb at *
   clear h4 hm hi hp pb a1 n1 hA0 hv
   rw [hl] at ⊢
   clear hl
   rw [plan_eq8] at *
   go_enter Tryz.func15, Tryz.ntmps15
   go_upto_region 1 with fail
   generalize (w.alloc (.cells #[.int .u8 p.f, .int .i64 p.n, .int .i64 p.k, .int .i64 p.t, .int .i64 p.s, .int .i64 p.e, .int .i64 p.d, .int .i64 p.w] 24)).alloc (.cells #[.slice a1' m1 k1, .slice a2 Ps.length k2, .slice a3 m3 k3] 29) = W0 at *
   rw [Hl.out] at HI HR4
   go_upto_region 3 with (first
    | (go_at_call 39; refine (HM.out _).mono ?_; rintro e w1 ⟨rfl, hb1⟩; clear c0 c1 c2 c3 c4 c5 c6 c7; obtain ⟨c0, c1, c2, c3, c4, c5, c6, c7⟩ := (HP.out.below hb1).cells; obtain ⟨x0, x1, x2⟩ := cell3 (blk8 HN1.out hb1))
    | (go_at_call 40; refine (HI.out _ (Below.next hA hb1)).mono ?_; rintro e w2 ⟨rfl, hw⟩; rw [hw]; clear hw))
   clear HM HI c0 c1 c2 c3 c4 c5 c6 c7 x0 x1 x2
   have H0 : Hid (allk (pjk Ps vs (on1 q (p.k + p.t + (I : Int)))) 0 = true) := rfl
   go_wp2_with fail
   go_loopw [10, 11] (fun vb vi wr => ∃ k : Nat, k ≤ Ps.length ∧ vi = .int .i64 k ∧ vb = .bool (allk (pjk Ps vs (on1 q (p.k + p.t + (I : Int)))) k) ∧ Hid (∀ j, j < k → okP p.f (Ps.getD j []) = true) ∧ Below W0.heap.size W0 wr) (fun _ vi _ => Ps.length - (intOf vi).toNat)
   case atStart => exact ⟨0, Nat.zero_le _, rfl, by rw [H0.out], fun j hj => by omega, hb1⟩
   case round =>
    clear H0 hb1
    obtain ⟨k, hk, rfl, rfl, HK, hB⟩ := hrel
    by_cases hlt : k < Ps.length
    · obtain ⟨bq, oq, cq, hvq, _⟩ := HR2.out.some_ (by omega)
      injection hvq with hvq _ hcq
      subst hvq hcq
      obtain ⟨bv, ov, cv, hvv, hcv⟩ := rw_some8 HR4.out (by rw [Hl.out]; omega)
      injection hvv with hvv hvn hcvv
      clear hvn
      subst hvv hcvv
      obtain ⟨ak, ck', d1, d2⟩ := HR2.out.pick8 (Below.next hA hB) hlt
      have hdr : Below wr.heap.size wr wr.drew := (Below.refl _ wr).drew
      have k0 : (0 : Int) ≤ (k : Int) := by omega
      have k1 : (k : Int) < (Ps.length : Int) := by omega
      have HNx := hide (allk_next (pjk Ps vs (on1 q (p.k + p.t + (I : Int)))) k)
      have Hpn : Hid (pjk Ps vs (on1 q (p.k + p.t + (I : Int))) k = decide (vl q (p.k + p.t + (I : Int)) (Ps.getD k []) = co vs k)) := rfl
      rw [Hpn.out] at HNx
      have HPk := hide d2
      have HEk := hide (HEr.out (Ps.getD k []))
      have HCk : Hid (okP p.f (Ps.getD k []) = false → ce = 2 ∧ cb = false) := fun hno => by
       have : ce = 2 := by
        rcases HCz.out with h | h
        · rw [HCy.out.1 h k (by rw [Hl.out]; exact hlt)] at hno; cases hno
        · exact h
       exact ⟨this, HCn.out this⟩
      have HK2 : Hid (okP p.f (Ps.getD k []) = true → ∀ j, j < k + 1 → okP p.f (Ps.getD j []) = true) := fun ho j hj => by
       by_cases e : j < k
       · exact HK.out j e
       · obtain rfl : j = k := by omega
         exact ho
      have HSs : Hid (∀ V, Below wr.heap.size wr V → (V.cell? ⟨w.heap.size, 0, none⟩ = some (.int .u8 p.f) ∧ V.cell? ⟨w.heap.size, 1, none⟩ = some (.int .i64 p.n) ∧ V.cell? ⟨w.heap.size, 2, none⟩ = some (.int .i64 p.k) ∧ V.cell? ⟨w.heap.size, 3, none⟩ = some (.int .i64 p.t) ∧ V.cell? ⟨w.heap.size, 4, none⟩ = some (.int .i64 p.s) ∧ V.cell? ⟨w.heap.size, 5, none⟩ = some (.int .i64 p.e) ∧ V.cell? ⟨w.heap.size, 6, none⟩ = some (.int .i64 p.d) ∧ V.cell? ⟨w.heap.size, 7, none⟩ = some (.int .i64 p.w)) ∧ V.cell? ⟨w.heap.size + 1, 1, none⟩ = some (.slice (some ⟨bq, oq, none⟩) Ps.length k2) ∧ V.cell? ⟨bq, oq + k, none⟩ = some (.slice ak (Ps.getD k []).length ck')) := fun V hb => ⟨(HP.out.below (Below.next hB hb)).cells, (cell3 (blk8 HN1.out (Below.next hB hb))).2.1, (hb.cell (cell_in d1)).trans d1⟩
      have hS0 := HSs.out _ hdr
      have HVc : Hid (∀ V, Below wr.heap.size wr V → V.cell? ⟨bv, ov + k, none⟩ = some (.int .u64 (co vs k))) := fun V hb => hcv V (Below.next (Below.next hA hB) hb) k (by rw [Hl.out]; exact hlt)
      clear d1 d2 HR2 HR4 HCy HCz HCb HCn HEr HK hcv Hpn
      have HBk := hide (HBd.out wr.drew _ _ (HPk.out.below hdr))
      generalize Ps.getD k [] = PK at *
      generalize allk (pjk Ps vs (on1 q (p.k + p.t + (I : Int)))) k = rk at *
      generalize er p.f PK [] = e0 at *
      go_upto_region 7 with fail
      refine wp_region_held_drew (S := (fun V => (V.cell? ⟨w.heap.size, 0, none⟩ = some (.int .u8 p.f) ∧ V.cell? ⟨w.heap.size, 1, none⟩ = some (.int .i64 p.n) ∧ V.cell? ⟨w.heap.size, 2, none⟩ = some (.int .i64 p.k) ∧ V.cell? ⟨w.heap.size, 3, none⟩ = some (.int .i64 p.t) ∧ V.cell? ⟨w.heap.size, 4, none⟩ = some (.int .i64 p.s) ∧ V.cell? ⟨w.heap.size, 5, none⟩ = some (.int .i64 p.e) ∧ V.cell? ⟨w.heap.size, 6, none⟩ = some (.int .i64 p.d) ∧ V.cell? ⟨w.heap.size, 7, none⟩ = some (.int .i64 p.w)) ∧ V.cell? ⟨w.heap.size + 1, 1, none⟩ = some (.slice (some ⟨bq, oq, none⟩) Ps.length k2) ∧ V.cell? ⟨bq, oq + k, none⟩ = some (.slice ak PK.length ck'))) (by kernel_rfl) (by ((try dsimp only) <;> (with_reducible exact hS0))) (fun hHeld => ?_)
      refine tkY 0 ?_
      refine tkY 1 ?_
      refine tkY 2 ?_
      refine tkY 3 ?_
      refine tkY 4 ?_
      refine tkY 5 ?_
      refine tkY 6 ?_
      refine rd1 7 (fun K hK => ?_)
      (try simp only [ly0, ly1, ly2, ly3, ly4, ly5, ly6, ly7])
      go_simp
      (go_at_call 48; refine HBk.out.mono ?_; rintro e w3 ⟨rfl, hw⟩; rw [hw]; clear hw)
      first | refine hK.out _ _ ?k1 (fun hHeld => ?_) | (go_wp2_with fail; refine hK.out _ _ ?k1 (fun hHeld => ?_))
      case k1 => ((try dsimp only) <;> (with_reducible exact hS0))
      clear hK K
      (try simp only [ly0, ly1, ly2, ly3, ly4, ly5, ly6, ly7])
      refine tkY 8 ?_
      refine wpAnyH_done (by kernel_rfl) ?_ _
      have hBd := Below.next hB hdr
      cases ho : okP p.f PK with
      | false =>
       obtain ⟨g1, g2⟩ := HCk.out ho
       have hne : ¬ e0 = 0 := fun e => by rw [HEk.out.2 e] at ho; cases ho
       subst g1 g2
       clear HCk HK2 HNx HEk HBd HEv HO HSs HVc hS0 HPk HBk ho
       go_wp2_with fail
       go_ret2
       exact ⟨rfl, Below.next hA hBd⟩
      | true =>
       have he := HEk.out.1 ho
       have HK3 := hide (HK2.out ho)
       have HEv2 := hide (fun W hR => HEv.out W (.slice ak PK.length ck') PK ho hR)
       subst he
       clear HCk HK2 HEk HBd HEv hS0 HBk ho
       generalize vl q (p.k + p.t + (I : Int)) PK = y at *
       generalize co vs k = z at *
       obtain ⟨x, Hx⟩ : ∃ x, Hid (p.k + p.t + (I : Int) = x) := ⟨_, rfl⟩
       rw [Hx.out] at HEv2 hIo
       have hdr2 : Below wr.heap.size wr wr.drew.drew := Below.next hdr (Below.refl _ wr.drew).drew
       have hS1 := HSs.out _ hdr2
       go_upto_region 9 with fail
       refine wp_region_held_drew (S := (fun V => (V.cell? ⟨w.heap.size, 0, none⟩ = some (.int .u8 p.f) ∧ V.cell? ⟨w.heap.size, 1, none⟩ = some (.int .i64 p.n) ∧ V.cell? ⟨w.heap.size, 2, none⟩ = some (.int .i64 p.k) ∧ V.cell? ⟨w.heap.size, 3, none⟩ = some (.int .i64 p.t) ∧ V.cell? ⟨w.heap.size, 4, none⟩ = some (.int .i64 p.s) ∧ V.cell? ⟨w.heap.size, 5, none⟩ = some (.int .i64 p.e) ∧ V.cell? ⟨w.heap.size, 6, none⟩ = some (.int .i64 p.d) ∧ V.cell? ⟨w.heap.size, 7, none⟩ = some (.int .i64 p.w)) ∧ V.cell? ⟨w.heap.size + 1, 1, none⟩ = some (.slice (some ⟨bq, oq, none⟩) Ps.length k2) ∧ V.cell? ⟨bq, oq + k, none⟩ = some (.slice ak PK.length ck'))) (by kernel_rfl) (by ((try dsimp only) <;> (first | with_reducible exact hS3 | with_reducible exact hS2 | with_reducible exact hS1))) (fun hHeld => ?_)
       refine tkY 0 ?_
       refine tkY 1 ?_
       refine tkY 2 ?_
       refine tkY 3 ?_
       refine tkY 4 ?_
       refine tkY 5 ?_
       refine tkY 6 ?_
       refine tkY 7 ?_
       refine tkY 9 ?_
       refine rd1 8 (fun K hK => ?_)
       (try simp only [ly0, ly1, ly2, ly3, ly4, ly5, ly6, ly7])
       go_simp
       (go_at_call 32; refine (HO.out _).mono ?_; rintro e w4 ⟨v4, rfl, o4, hb4⟩; have hD4 := Below.next hdr2 hb4; have hS2 := HSs.out _ hD4; obtain ⟨g4, cg4, rfl, _, _⟩ := o4.form (by omega); have hcI : w4.cell? ⟨g4, I, none⟩ = some (.int .u64 x) := (by have := own_cell o4 rfl i2; rw [hIo] at this; exact this); have I1 : (I : Int) < (os.length : Int) := (by omega); clear o4)
       first | refine hK.out _ _ ?k2 (fun hHeld => ?_) | (go_wp2_with fail; refine hK.out _ _ ?k2 (fun hHeld => ?_))
       case k2 => ((try dsimp only) <;> (first | with_reducible exact hS3 | with_reducible exact hS2 | with_reducible exact hS1))
       clear hK K
       (try simp only [ly0, ly1, ly2, ly3, ly4, ly5, ly6, ly7])
       refine tkY 10 ?_
       refine rd1 11 (fun K hK => ?_)
       (try simp only [ly0, ly1, ly2, ly3, ly4, ly5, ly6, ly7])
       go_simp
       refine hK.out _ _ (by ((try dsimp only) <;> (first | with_reducible exact hS3 | with_reducible exact hS2 | with_reducible exact hS1))) (fun hHeld => ?_)
       clear hK K
       (try simp only [ly0, ly1, ly2, ly3, ly4, ly5, ly6, ly7])
       refine rd1 12 (fun K hK => ?_)
       (try simp only [ly0, ly1, ly2, ly3, ly4, ly5, ly6, ly7])
       go_simp
       (go_at_call 35; refine (HEv2.out _ (HPk.out.below hD4)).mono ?_; rintro e w5 ⟨e5, rfl, hb5⟩; have hD5 := Below.next hD4 hb5; have hS3 := HSs.out _ hD5)
       first | refine hK.out _ _ ?k3 (fun hHeld => ?_) | (go_wp2_with fail; refine hK.out _ _ ?k3 (fun hHeld => ?_))
       case k3 => ((try dsimp only) <;> (first | with_reducible exact hS3 | with_reducible exact hS2 | with_reducible exact hS1))
       clear hK K
       (try simp only [ly0, ly1, ly2, ly3, ly4, ly5, ly6, ly7])
       refine tkY 13 ?_
       refine tkY 14 ?_
       refine tkY 15 ?_
       refine tkY 16 ?_
       refine tkY 17 ?_
       refine wpAnyH_done (by kernel_rfl) ?_ _
       have hE5 := Below.next hB hD5
       have cz := HVc.out _ hD5
       clear hS1 hS2 hS3 HSs HVc HEv2 HPk hcI
       cases rk with
       | false =>
        rw [Bool.false_and] at HNx
        go_wp2_with fail
        go_roundw
        case rel => exact ⟨k + 1, by omega, by go_num, by rw [HNx.out], HK3, hE5⟩
        case measure => simp [intOf]; omega
       | true =>
        rw [Bool.true_and] at HNx
        go_wp2_with fail
        go_roundw
        case rel => exact ⟨k + 1, by omega, by go_num, by rw [HNx.out]; rfl, HK3, hE5⟩
        case measure => simp [intOf]; omega
    · obtain rfl : k = Ps.length := by omega
      have hce : ce = 0 := HCy.out.2 (fun j hj => HK.out j (by rw [← Hl.out]; exact hj))
      have hcb := HCb.out hce
      have HB : Hid (cb = allk (pjk Ps vs (on1 q (p.k + p.t + (I : Int)))) Ps.length) := by
       rw [hcb]
       by_cases e : allk (pjk Ps vs (on1 q (p.k + p.t + (I : Int)))) Ps.length = true
       · exact (decide_eq_true (fun j hj => allk_iff.1 e j (by rw [← Hl.out]; exact hj))).trans e.symm
       · have e2 : allk (pjk Ps vs (on1 q (p.k + p.t + (I : Int)))) Ps.length = false := by
          cases hc : allk (pjk Ps vs (on1 q (p.k + p.t + (I : Int)))) Ps.length with
          | false => rfl
          | true => exact absurd hc e
         exact (decide_eq_false (fun h => e (allk_iff.2 (fun j hj => h j (by rw [Hl.out]; exact hj))))).trans e2.symm
      subst hce
      clear hcb HCy HCz HCb HCn HBd HEv HEr HO HK HR2 HR4
      rw [← HB.out]
      clear HB
      go_wp2_with fail
      go_ret2
      exact ⟨rfl, Below.next hA hB⟩
 · have e1 := cq_no2 hall
   have e2 := cqB_no e1
   rw [e1, e2]
   clear e1 e2
   have hcs : (mayP p = false) ∨ (mayP p = true ∧ i < 0) ∨ (mayP p = true ∧ ¬ i < 0 ∧ p.n ≤ i) ∨ (mayP p = true ∧ ¬ i < 0 ∧ ¬ p.n ≤ i ∧ ¬ ((vs.length : Nat) : Int) = (Ps.length : Int)) ∨ (mayP p = true ∧ ¬ i < 0 ∧ ¬ p.n ≤ i ∧ ((vs.length : Nat) : Int) = (Ps.length : Int) ∧ inF p.f vs = false) := by
    cases hm : mayP p with
    | false => exact .inl rfl
    | true =>
     by_cases g1 : i < 0
     · exact .inr (.inl ⟨rfl, g1⟩)
     · by_cases g2 : p.n ≤ i
       · exact .inr (.inr (.inl ⟨rfl, g1, g2⟩))
       · by_cases g3 : ((vs.length : Nat) : Int) = (Ps.length : Int)
         · cases hv : inF p.f vs with
           | false => exact .inr (.inr (.inr (.inr ⟨rfl, g1, g2, g3, rfl⟩)))
           | true => exact absurd ⟨hm, isW_iff.2 ⟨by omega, by omega⟩, by omega, hv⟩ hall
         · exact .inr (.inr (.inr (.inl ⟨rfl, g1, g2, g3⟩)))
   generalize mayP p = b0 at *
   generalize inF p.f vs = b3 at *
   generalize hvs : vs.length = v1 at *
   generalize hps : Ps.length = v2 at *
   have HS0 : Hid (∀ V, Below ((w.alloc (.cells #[.int .u8 p.f, .int .i64 p.n, .int .i64 p.k, .int .i64 p.t, .int .i64 p.s, .int .i64 p.e, .int .i64 p.d, .int .i64 p.w] 24)).alloc (.cells #[.slice a1' m1 k1, .slice a2 v2 k2, .slice a3 m3 k3] 29)).heap.size ((w.alloc (.cells #[.int .u8 p.f, .int .i64 p.n, .int .i64 p.k, .int .i64 p.t, .int .i64 p.s, .int .i64 p.e, .int .i64 p.d, .int .i64 p.w] 24)).alloc (.cells #[.slice a1' m1 k1, .slice a2 v2 k2, .slice a3 m3 k3] 29)) V → Pb V w.heap.size p ∧ V.cell? ⟨w.heap.size + 1, 1, none⟩ = some (.slice a2 v2 k2)) := fun V hb => ⟨HP.out.below hb, (cell3 (blk8 HN1.out hb)).2.1⟩
   clear h4 hp hall HR2 HR4 HP HN1 pb a1 n1 hA0
   rw [plan_eq8] at *
   rcases hcs with rfl | ⟨rfl, g1⟩ | ⟨rfl, g1, g2⟩ | ⟨rfl, g1, g2, g3⟩ | ⟨rfl, g1, g2, g3, rfl⟩
   all_goals
    go_enter Tryz.func15, Tryz.ntmps15
    go_upto_region 1 with fail
    generalize (w.alloc (.cells #[.int .u8 p.f, .int .i64 p.n, .int .i64 p.k, .int .i64 p.t, .int .i64 p.s, .int .i64 p.e, .int .i64 p.d, .int .i64 p.w] 24)).alloc (.cells #[.slice a1' m1 k1, .slice a2 v2 k2, .slice a3 m3 k3] 29) = W0 at *
    go_wp2_with (first
     | (go_at_call 39; refine (HM.out _).mono ?_; rintro e w1 ⟨rfl, hb1⟩; clear c0 c1 c2 c3 c4 c5 c6 c7; obtain ⟨pb1, x1⟩ := HS0.out _ hb1; obtain ⟨c0, c1, c2, c3, c4, c5, c6, c7⟩ := pb1.cells)
     | (go_at_call 40; refine (HI.out _ (Below.next hA hb1)).mono ?_; rintro e w2 ⟨rfl, hw⟩; rw [hw]; clear hw))
    go_ret2
    exact ⟨rfl, Below.next hA hb1⟩
def bx3D (w : World) (p : Pn) (vr vq va : Value) (i : Int) (vv : Value) : World := ((w.alloc (.cells #[.int .u8 p.f, .int .i64 p.n, .int .i64 p.k, .int .i64 p.t, .int .i64 p.s, .int .i64 p.e, .int .i64 p.d, .int .i64 p.w] 24)).alloc (.cells #[vr, vq, va] 29)).alloc (.cells #[.int .i64 i, vv] 38)
theorem bx3D_facts (w : World) (p : Pn) (vr vq va : Value) (i : Int) (vv : Value) : Pb (bx3D w p vr vq va i vv) w.heap.size p ∧ (bx3D w p vr vq va i vv).heap[w.heap.size + 1]? = some (.cells #[vr, vq, va] 29 (0, 0)) ∧ (bx3D w p vr vq va i vv).heap[w.heap.size + 1 + 1]? = some (.cells #[.int .i64 i, vv] 38 (0, 0)) ∧ Below w.heap.size w (bx3D w p vr vq va i vv) := by
 obtain ⟨pb, hA⟩ := pb_box (w := w) p
 unfold bx3D
 generalize hW1 : w.alloc (.cells #[.int .u8 p.f, .int .i64 p.n, .int .i64 p.k, .int .i64 p.t, .int .i64 p.s, .int .i64 p.e, .int .i64 p.d, .int .i64 p.w] 24) = W1 at *
 have s1 : W1.heap.size = w.heap.size + 1 := by rw [← hW1]; simp
 have a2 := heap_alloc_new W1 (.cells #[vr, vq, va] 29)
 have b2 := alloc_below W1 (.cells #[vr, vq, va] 29)
 have s2 : (W1.alloc (.cells #[vr, vq, va] 29)).heap.size = w.heap.size + 1 + 1 := by rw [World.size_alloc, s1]
 rw [s1] at a2
 generalize W1.alloc (.cells #[vr, vq, va] 29) = W2 at *
 have a3 := heap_alloc_new W2 (.cells #[.int .i64 i, vv] 38)
 have b3 := alloc_below W2 (.cells #[.int .i64 i, vv] 38)
 rw [s2] at a3
 exact ⟨(pb.below b2).below b3, blk8 a2 b3, a3, Below.next (Below.next hA b2) b3⟩
theorem regChecks_any (p : Pn) (vr vq va vv : Value) (i : Int) (Ps : List (List Int)) (vs : List Int) (w : World) (hp : Ok8p p) (h1 : ∃ a b c, vr = .slice a b c) (h2 : Rws w vq Ps) (h3 : ∃ a b c, va = .slice a b c) (h4 : Rw w vv vs) :
 Calls Tryz.prog 4 #[plv p, .agg #[vr, vq, va], .agg #[.int .i64 i, vv]] w fun e w' => e = .returned (.bool true) ∧ Below w.heap.size w w' := by
 have HG := hide (fun W (hb : Below w.heap.size w W) => gCheckR p vr vq va vv i Ps vs W hp h1 (h2.below hb) h3 (h4.below hb))
 have HD := hide (fun W (hb : Below w.heap.size w W) => dCheckR p vr vq va vv i Ps vs W hp h1 (h2.below hb) h3 (h4.below hb))
 generalize cqE p Ps i vs = ce at *
 generalize cqB p Ps i vs = cb at *
 obtain ⟨q1, q2, q3, q4⟩ := bx3D_facts w p vr vq va i vv
 have HX := hide anch18
 obtain ⟨a1, m1, k1, rfl⟩ := h1
 obtain ⟨a3, m3, k3, rfl⟩ := h3
 obtain ⟨a2, k2, rfl, _, _, _⟩ := h2
 obtain ⟨a4, k4, rfl, _⟩ := h4.spell
 have HC : Hid (∀ V, Below (bx3D w p (.slice a1 m1 k1) (.slice a2 Ps.length k2) (.slice a3 m3 k3) i (.slice a4 vs.length k4)).heap.size (bx3D w p (.slice a1 m1 k1) (.slice a2 Ps.length k2) (.slice a3 m3 k3) i (.slice a4 vs.length k4)) V → Pb V w.heap.size p ∧ (V.cell? ⟨w.heap.size + 1, 0, none⟩ = some (.slice a1 m1 k1) ∧ V.cell? ⟨w.heap.size + 1, 1, none⟩ = some (.slice a2 Ps.length k2) ∧ V.cell? ⟨w.heap.size + 1, 2, none⟩ = some (.slice a3 m3 k3)) ∧ V.cell? ⟨w.heap.size + 1 + 1, 0, none⟩ = some (.int .i64 i) ∧ V.cell? ⟨w.heap.size + 1 + 1, 1, none⟩ = some (.slice a4 vs.length k4)) := fun V hb => ⟨q1.below hb, cell3 (blk8 q2 hb), (cell_two (blk8 q3 hb)).1, (cell_two (blk8 q3 hb)).2.1⟩
 obtain ⟨pb, ⟨x0, x1, x2⟩, y0, y1⟩ := HC.out _ (Below.refl _ _)
 obtain ⟨c0, c1, c2, c3, c4, c5, c6, c7⟩ := pb.cells
 clear pb q1 q2 q3 h4 hp
 unfold bx3D at *
 rw [plan_eq8] at *
 generalize vs.length = v1 at *
 generalize Ps.length = v2 at *
 go_enter Tryz.func4, Tryz.ntmps4
 go_upto_region 1 with fail
 generalize ((w.alloc (.cells #[.int .u8 p.f, .int .i64 p.n, .int .i64 p.k, .int .i64 p.t, .int .i64 p.s, .int .i64 p.e, .int .i64 p.d, .int .i64 p.w] 24)).alloc (.cells #[.slice a1 m1 k1, .slice a2 v2 k2, .slice a3 m3 k3] 29)).alloc (.cells #[.int .i64 i, .slice a4 v1 k4] 38) = W0 at *
 go_upto_region 3 with (first
  | (go_at_call 14; refine (HG.out _ q4).mono ?_; rintro e w1 ⟨rfl, hb1⟩; clear c0 c1 c2 c3 c4 c5 c6 c7 x0 x1 x2 y0 y1; obtain ⟨pb, ⟨x0, x1, x2⟩, y0, y1⟩ := HC.out _ hb1; obtain ⟨c0, c1, c2, c3, c4, c5, c6, c7⟩ := pb.cells)
  | (go_at_call 15; refine (HD.out _ (Below.next q4 hb1)).mono ?_; rintro e w2 ⟨rfl, hb2⟩))
 have hB2 := Below.next (Below.next q4 hb1) hb2
 clear HG HD HC c0 c1 c2 c3 c4 c5 c6 c7 x0 x1 x2 y0 y1 pb
 cases cb
 all_goals
  go_wp2_with (go_at_call 13; refine (HX.out _).mono ?_; rintro e w3 ⟨rfl, hb3⟩)
  go_ret
  exact ⟨by simp, Below.next hB2 hb3⟩
end Go.Proofs.YtjhididlcdepdaaGreat
