/- Proved: for every list of numbers, all notes and both numbers the law RumourBack returns true: what is told is heard, and nothing else. Conditions: none. -/
import Derived.Test.YtkmnofmhjoehialRows
import Derived.WalkKit
import Derived.ProofKit
import Derived.OpenShut
import Derived.WalkSmall
import Derived.ShutString
import Derived.ChangeOld
import Derived.Below
import Derived.Test.YtkmnofmhjoehialQk
import Derived.Test.YtkmnofmhjoehialQt
import Derived.Test.YtkmnofmhjoehialQw
import Derived.Test.YtkmnofmhjoehialQn
import Derived.Test.YtkmnofmhjoehialSek
import Derived.Deep.Cut
import Derived.Deep.QuietTactic
import Derived.BigQuiet
namespace Go.Proofs.Ytkmnofmhjoehial
namespace rumourBack
open Go.ChangeShapes Go.WideShapes Go.ChangeAt Go.RowKit
set_option linter.unusedVariables false

theorem own : ownKnob Try.prog.godebug = none := by kernel_rfl
theorem laidOut : laidOutB Try.prog = true := by kernel_rfl

theorem ints_seg {H : Type} {enc : TypeId × Value → H} {W : World} {d : DataW H} {p : List MemPlace} {a : Option Addr} {len cap : Nat} (h : DataW.Trod enc Try.prog W 0 (fun _ => true) true 22 (.slice a len cap) d p) :
    ∃ l : List Int, l.length = len ∧ len ≤ cap ∧ cap ≤ 9223372036854775807 ∧ (∀ n ∈ l, (Lit.int .i64 n).wf = true) ∧ Lies W.heap.size (.slice a len cap) ∧ Seg W (.slice a len cap) l := by
  obtain ⟨fuel, hf⟩ := h
  rcases open_ints Try.underlying22 Try.underlying3 (by kernel_rfl) hf with ⟨hcs, _⟩ | ⟨x, l, c, zs, hcs, _, hl, hm, hz, _, hcell, hwz⟩
  · simp [Value.cells] at hcs
    obtain ⟨rfl, rfl, rfl⟩ := hcs
    exact row_seg (zs := []) (.inl ⟨rfl, rfl, rfl, rfl⟩)
  · simp [Value.cells] at hcs
    obtain ⟨rfl, rfl, rfl⟩ := hcs
    exact row_seg (.inr ⟨_, rfl, hl, hm, by simpa using hz, hcell, hwz⟩)

set_option maxHeartbeats 4000000 in
set_option maxRecDepth 100000 in
theorem walk (w : World) (v0 : Value) (l0 : List Int) (hm0 : l0.length ≤ 9223372036854775807) (hr0 : ∀ n ∈ l0, (Lit.int .i64 n).wf = true) (s0 : Seg w v0 l0) (y0 : Lies w.heap.size v0) (v1 : Value) (l1 : List Plain.En) (hm1 : l1.length ≤ 9223372036854775807) (hr1 : ∀ j, j < l1.length → InE (Plain.en l1 j)) (s1 : SegN w v1 l1) (y1 : Lies w.heap.size v1) (v2 : Value) (l2 : List Plain.En) (hm2 : l2.length ≤ 9223372036854775807) (hr2 : ∀ j, j < l2.length → InE (Plain.en l2 j)) (s2 : SegN w v2 l2) (y2 : Lies w.heap.size v2) (v3 : Value) (l3 : List Plain.En) (hm3 : l3.length ≤ 9223372036854775807) (hr3 : ∀ j, j < l3.length → InE (Plain.en l3 j)) (s3 : SegN w v3 l3) (y3 : Lies w.heap.size v3) (a4 : Int) (w4 : -9223372036854775808 ≤ a4 ∧ a4 ≤ 9223372036854775807) (a5 : Int) (w5 : -9223372036854775808 ≤ a5 ∧ a5 ≤ 9223372036854775807) :
    Calls Try.prog 8 #[v0, v1, v2, v3, .int .i64 a4, .int .i64 a5] w fun e w' => e = .returned (.bool true) ∧ Below w.heap.size w w' := by
  obtain ⟨p0, d0, rfl⟩ := seg_len s0
  have hnq : NumsQ w p0 l0 := fun h => by
    obtain ⟨b, off, rfl, hc⟩ := seg_at s0 h
    exact ⟨b, off, rfl, World.block_lt_of_cell? (w := w) (h := hc 0 h), hc⟩
  have KC := config_c p0 l0.length d0 l0 hm0 rfl (fun x hx => bounds_i64 (hr0 x hx)) w hnq
  have KS := hid (fun (X : World) (b : Below w.heap.size w X) => store_c v1 v2 v3 l1 l2 l3 hm1 hm2 hm3 hr1 hr2 hr3 X (s1.below b y1) (y1.mono b.size) (s2.below b y2) (y2.mono b.size) (s3.below b y3) (y3.mono b.size))
  have PA := hid (fun W => picked_any a4 4 w4.1 w4.2 (by decide) (by decide) W)
  have PB := hid (fun W => picked_any a5 4 w5.1 w5.2 (by decide) (by decide) W)
  obtain ⟨xn, hxn⟩ : ∃ xn : Nat, a4 % 4 = xn := ⟨(a4 % 4).toNat, by omega⟩
  obtain ⟨yn, hyn⟩ : ∃ yn : Nat, a5 % 4 = yn := ⟨(a5 % 4).toNat, by omega⟩
  have hx4 : xn < 4 := by omega
  have hy4 : yn < 4 := by omega
  simp only [hxn] at PA
  simp only [hyn] at PB
  have hcm := Plain.cf4_may l0
  have href : Plain.refE (Plain.cf4 l0) xn yn = 0 := by
    unfold Plain.refE
    rw [if_pos hcm, if_pos ⟨⟨by omega, show (xn : Int) < 4 by omega⟩, ⟨by omega, show (yn : Int) < 4 by omega⟩⟩]
  obtain ⟨st, hst⟩ : ∃ st, st = [Plain.ents l1, Plain.ents l2, Plain.ents l3] := ⟨_, rfl⟩
  have hTH := Plain.told_heard (c := Plain.cf4 l0) (a := xn) (b := yn) (st := st) href (by rw [hst]; show 3 = (Plain.labsF l0).length; rw [Plain.labsF_len]) (by rw [hst]; simp [Plain.ents_may]) (by rw [hst]; intro l hl; simp only [List.mem_cons, List.not_mem_nil, or_false] at hl; rcases hl with rfl | rfl | rfl <;> exact Plain.ents_fit _)
  have hls : (Plain.cf4 l0).ls.length = 3 := Plain.labsF_len l0
  have HST := hid (show st.length = 3 ∧ ∀ j, j < 3 → (st.getD j []).length ≤ 1000 by
    rw [hst]
    refine ⟨rfl, fun j hj => ?_⟩
    have : j = 0 ∨ j = 1 ∨ j = 2 := by omega
    rcases this with rfl | rfl | rfl
    · have := (Plain.ents_six l1).len; show (Plain.ents l1).length ≤ _; omega
    · have := (Plain.ents_six l2).len; show (Plain.ents l2).length ≤ _; omega
    · have := (Plain.ents_six l3).len; show (Plain.ents l3).length ≤ _; omega)
  have HLT := hid (Plain.lab_lt hcm)
  simp only [← hst] at KS
  rw [hls] at hTH
  have HTH := hid hTH
  have HMY := hid hcm
  generalize Plain.cf4 l0 = c at *
  have HLS := hid hls
  clear hnq s0 y0 s1 y1 s2 y2 s3 y3 hr0 hr1 hr2 hr3 w4 w5 hxn hyn href hst hTH hcm hls
  go_enter Try.func8, Try.ntmps8
  go_wp2_with fail
  refine KC.mono ?_
  rintro e W1 ⟨lv, mv, rfl, ci, b1⟩
  obtain ⟨lp, lc, rfl⟩ := seg_len ci.sl
  obtain ⟨mp, mc, rfl⟩ := seg_len ci.sm
  have B1 := hid b1
  have C1 := hid (BcI.start ci)
  clear KC b1 ci
  go_upto_region 2 with fail
  obtain ⟨W2, hW2⟩ : ∃ W2, W2 = W1.alloc (boxC c (.slice lp c.ls.length lc) (.slice mp c.ms.length mc)) := ⟨_, rfl⟩
  rw [show W1.alloc (.cells #[(.int .i64 c.n), (.slice lp c.ls.length lc), (.int .i64 c.t), (.slice mp c.ms.length mc), .int .i64 c.cap] 24) = W2 from hW2.symm]
  rw [← hW2] at C1
  clear hW2
  obtain ⟨T, hT⟩ : ∃ T, T = W1.heap.size := ⟨_, rfl⟩
  rw [← hT] at C1 ⊢
  clear hT
  have B2 := hid (B1.out.trans (C1.out.be.mono B1.out.size))
  have K := KS.out W2 B2.out
  go_wp2_with fail
  refine K.mono ?_
  rintro e W3 ⟨S, rfl, s3, b3⟩
  have S3 := hid s3
  have C3 := hid (C1.out.grow b3)
  have B3 := hid (B2.out.trans (b3.mono B2.out.size))
  clear K KS s3 b3 C1 B2 B1
  go_wp2_with fail
  refine (PA.out _).mono ?_
  rintro e w9 ⟨rfl, hx⟩
  have hy := hx.symm
  clear hx PA
  subst hy
  go_wp2_with fail
  refine (PB.out _).mono ?_
  rintro e w9 ⟨rfl, hx⟩
  have hy := hx.symm
  clear hx PB
  subst hy
  have K := rumour_c c _ _ (.slice (some ⟨S, 0, none⟩) 3 3) xn yn st W3 C3.out.ci S3.out
  obtain ⟨c0, c1, c2, c3, c4⟩ := C3.out.cc
  go_wp2_with fail
  refine K.mono ?_
  rintro e W4 ⟨v4, rfl, g1, g2, b4⟩
  rw [HTH.out.1]
  have S4 := hid (S3.out.grow b4)
  have C4 := hid (C3.out.grow b4)
  have B4 := hid (B3.out.trans (b4.mono B3.out.size))
  have P4 := hid (And.intro g1 g2)
  clear K c0 c1 c2 c3 c4 S3 C3 B3 g1 g2 b4
  have K := heard_c c _ _ v4 xn yn (Plain.rumB c xn yn st) (by rw [HTH.out.2.2.2]; have := Plain.com_len c.ls xn yn c.ls.length; have h3 := HLS.out; show 34 * (Plain.comL c.ls xn yn c.ls.length).length ≤ _; omega) (Plain.rumB_lt c xn yn st) W4 C4.out.ci P4.out.1 P4.out.2
  obtain ⟨c0, c1, c2, c3, c4⟩ := C4.out.cc
  go_wp2_with fail
  refine K.mono ?_
  rintro e W5 ⟨v5, rfl, g1, b5⟩
  rw [HTH.out.2.1]
  rw [HTH.out.2.2.1] at g1
  have S5 := hid (S4.out.grow b5)
  have C5 := hid (C4.out.grow b5)
  have B5 := hid (B4.out.trans (b5.mono B4.out.size))
  have G5 := hid g1
  clear K c0 c1 c2 c3 c4 S4 C4 B4 P4 g1 b5 HTH
  have K := may_c c _ _ W5 C5.out.ci
  rw [HMY.out] at K
  obtain ⟨c0, c1, c2, c3, c4⟩ := C5.out.cc
  obtain ⟨hff0, q5, d5, hv5, hff⟩ := G5.out
  clear hff0 hff
  have hlen5 : ((List.range 3).map (fun j => if Plain.both (c.ls.getD j 0) xn yn = true then st.getD j [] else [])).length = 3 := by simp
  rw [hlen5] at hv5
  subst hv5
  clear hlen5
  go_wp2_with fail
  refine K.mono ?_
  rintro e W6 ⟨rfl, b6⟩
  have S6 := hid (S5.out.grow b6)
  have C6 := hid (C5.out.grow b6)
  have B6 := hid (B5.out.trans (b6.mono B5.out.size))
  have G6 := hid (G5.out.grow b6)
  clear K c0 c1 c2 c3 c4 S5 C5 B5 G5 b6
  go_wp2
  go_loopg [22] 3 (fun gg s22 wr => ∃ k q : Nat, k ≤ 3 ∧ 3 - k ≤ gg ∧ s22 = .int .i64 k ∧ Aside (wr = W6.drewN q))
  case atStart => exact ⟨0, 0, Nat.zero_le _, by omega, rfl, (show Aside _ from rfl)⟩
  case round =>
    obtain ⟨k, q, hk, hg, rfl, AW⟩ := hrel
    have BD := hid (show Below W6.heap.size W6 wr by rw [AW.out]; exact below_drewN (Below.refl _ _) q)
    by_cases hlt : k < 3
    · have hltz : (k : Int) < 3 := by omega
      have hk3 : k < c.ls.length := by rw [HLS.out]; exact hlt
      have hk3z : (k : Int) < (c.ls.length : Int) := by omega
      have CW := C6.out.grow BD.out
      obtain ⟨c0, c1, c2, c3, c4⟩ := CW.cc
      obtain ⟨lb, lo, rfl, hcl⟩ := seg_at CW.ci.sl (by omega)
      have m0 := hcl k hk3
      have hs2 := HLT.out (c.ls.getD k 0) (by rw [Plain.getD_ltI _ _ hk3]; exact List.getElem_mem hk3)
      obtain ⟨s, hsn⟩ := Int.eq_ofNat_of_zero_le hs2.1
      rw [hsn] at m0 hs2
      have hs256 : s < 256 := by omega
      have e1 : (bits .and .i64 ((s : Int) / 2 ^ xn) 1 == 1) = (s / 2 ^ xn % 2 == 1) := LabP.reads_eq s xn hs256
      have e2 : (bits .and .i64 ((s : Int) / 2 ^ yn) 1 == 1) = (s / 2 ^ yn % 2 == 1) := LabP.reads_eq s yn hs256
      have HBO := hid (show Plain.both (c.ls.getD k 0) xn yn = ((s / 2 ^ xn % 2 == 1) && (s / 2 ^ yn % 2 == 1)) by rw [hsn]; unfold Plain.both; rw [Plain.rd_natQ s xn (by omega), Plain.rd_natQ s yn (by omega)])
      have HGD := hid (show ((List.range 3).map (fun j => if Plain.both (c.ls.getD j 0) xn yn = true then st.getD j [] else [])).getD k [] = if Plain.both (c.ls.getD k 0) xn yn = true then st.getD k [] else [] by
        rw [List.getD_eq_getElem?_getD, List.getElem?_map, List.getElem?_range hlt]; rfl)
      obtain ⟨hb, ho, rfl, uh, kh, eh⟩ := (G6.out.grow BD.out).at (j := k) (by simpa using hlt)
      obtain ⟨sb, so, hsb, us, ks, es⟩ := (S6.out.grow BD.out).at (j := k) (by rw [HST.out.1]; exact hlt)
      injection hsb with hsb
      injection hsb with hsb1 hsb2
      subst hsb1 hsb2
      rw [Nat.zero_add] at ks
      generalize (s / 2 ^ xn % 2 == 1) = rx at e1 HBO
      generalize (s / 2 ^ yn % 2 == 1) = ry at e2 HBO
      clear CW hcl hs2 hsn
      cases rx with
      | false =>
        have HZ := hid (show (if Plain.both (c.ls.getD k 0) xn yn = true then st.getD k [] else []) = [] by rw [if_neg (by rw [HBO.out]; simp)])
        rw [HGD.out, HZ.out] at eh
        obtain ⟨hp, hc', rfl, hff⟩ := eh.sg.form
        clear hff
        clear eh es
        go_wp2
        go_roundg (3 - (k + 1))
        case measure => omega
        case rel => exact ⟨k + 1, q, by omega, by omega, by go_num, (show Aside _ from AW.out)⟩
      | true =>
        cases ry with
        | false =>
          have HZ := hid (show (if Plain.both (c.ls.getD k 0) xn yn = true then st.getD k [] else []) = [] by rw [if_neg (by rw [HBO.out]; simp)])
          rw [HGD.out, HZ.out] at eh
          obtain ⟨hp, hc', rfl, hff⟩ := eh.sg.form
          clear hff
          clear eh es
          go_wp2
          go_roundg (3 - (k + 1))
          case measure => omega
          case rel => exact ⟨k + 1, q, by omega, by omega, by go_num, (show Aside _ from AW.out)⟩
        | true =>
          have HZ := hid (show (if Plain.both (c.ls.getD k 0) xn yn = true then st.getD k [] else []) = st.getD k [] by rw [if_pos (by rw [HBO.out]; rfl)])
          rw [HGD.out, HZ.out] at eh
          have K := fun q' => keep.same_any uh us (st.getD k []) (HST.out.2 k hlt) (wr.drewN q') (eh.grow (below_drewN (Below.refl _ _) q')).sg (es.grow (below_drewN (Below.refl _ _) q')).sg
          clear eh es
          go_wp2
          go_quiet ((go_at_call 25; exact Calls.quiet_of (K _)))
          have HW := hid (show wr.drewN nq = W6.drewN (q + nq) by rw [AW.out]; exact drewN_add W6 q nq)
          clear K kh ks
          go_wp2
          go_roundg (3 - (k + 1))
          case measure => omega
          case rel => exact ⟨k + 1, q + nq, by omega, by omega, by go_num, (show Aside _ from HW.out)⟩
    · have hltz : ¬ (k : Int) < 3 := by omega
      go_wp2
      go_ret
      exact ⟨rfl, B6.out.trans (BD.out.mono B6.out.size)⟩

set_option maxRecDepth 100000 in
theorem lifted (os : Os) (started : os.Started) (H : Type) (enc : TypeId × Value → H) :
    ReturnsInHanded {} Try.checked os 8 .any (Rows.rumourBackSpec.pre6 enc Try.prog Try.f8 Rows.rumourBackRow.domain false) (Rows.rumourBackSpec.post enc Try.prog Try.f8 false true false false) := by
  refine returnsInHanded_of_change (C := Try.checked) own started (by kernel_rfl) Try.func8
    (ChangeSpec.witness6 (enc := enc) (C := Try.checked) false ⟨#[], #[.slice none 0 0, .slice none 0 0, .slice none 0 0, .slice none 0 0, .int .i64 0, .int .i64 0], []⟩ 8 (by kernel_rfl) (by kernel_rfl) (by kernel_rfl) (by kernel_rfl)) ?_
  intro W base args ds gs before hval0 hW hcnd _
  have hval : ∀ (j : Nat) t v, Try.f8.params[j]? = some t → args[j]? = some v → Value.okWide Try.prog W .any base t v := hval0
  have hW' := hW
  obtain ⟨p, q, hA0, hV, rfl, hfz, hnd⟩ := hW
  have hA : DataW.TrodAll enc Try.prog W 0 (fun _ => true) true Try.f8.params.toList args.toList ds p := hA0
  rw [Try.params8] at hA hval
  obtain ⟨v0, vs0, d0, ds0, p0, q0, hargs, rfl, rfl, h0, r0⟩ := trodAll_cons hA
  obtain ⟨v1, vs1, d1, ds1, p1, q1, rfl, rfl, rfl, h1, r1⟩ := trodAll_cons r0
  obtain ⟨v2, vs2, d2, ds2, p2, q2, rfl, rfl, rfl, h2, r2⟩ := trodAll_cons r1
  obtain ⟨v3, vs3, d3, ds3, p3, q3, rfl, rfl, rfl, h3, r3⟩ := trodAll_cons r2
  obtain ⟨v4, vs4, d4, ds4, p4, q4, rfl, rfl, rfl, h4, r4⟩ := trodAll_cons r3
  obtain ⟨v5, vs5, d5, ds5, p5, q5, rfl, rfl, rfl, h5, r5⟩ := trodAll_cons r4
  obtain ⟨rfl, rfl, rfl⟩ := trodAll_nil r5
  obtain rfl : args = #[v0, v1, v2, v3, v4, v5] := by cases args; simp_all
  obtain ⟨rfl, rfl⟩ := trodVars_none hV
  obtain ⟨a0, len0, cap0, rfl⟩ := okWide_slice Try.underlying22 (hval 0 22 v0 rfl rfl)
  have k0 := h0
  have lt0 : ∀ x ∈ p0, x.block < W.heap.size := by obtain ⟨m, hm⟩ := k0; exact DataW.trod_lt m _ _ _ hm
  obtain ⟨l0, hl0, hc0, hm0, hr0, y0, s0⟩ := ints_seg h0
  obtain ⟨a1, len1, cap1, rfl⟩ := okWide_slice Try.underlying43 (hval 1 43 v1 rfl rfl)
  have k1 := h1
  have lt1 : ∀ x ∈ p1, x.block < W.heap.size := by obtain ⟨m, hm⟩ := k1; exact DataW.trod_lt m _ _ _ hm
  obtain ⟨l1, hl1, hm1, s1, y1, hr1⟩ := ens_open Try.underlying43 Try.underlying91 (by kernel_rfl) ⟨rfl, by intro j f hj; rcases j with _ | _ | _ | _ | _ | j <;> simp at hj <;> subst hj <;> first | exact ⟨rfl, by kernel_rfl, Try.underlying3⟩ | exact ⟨rfl, by kernel_rfl, Try.underlying4⟩⟩ h1
  obtain ⟨a2, len2, cap2, rfl⟩ := okWide_slice Try.underlying43 (hval 2 43 v2 rfl rfl)
  have k2 := h2
  have lt2 : ∀ x ∈ p2, x.block < W.heap.size := by obtain ⟨m, hm⟩ := k2; exact DataW.trod_lt m _ _ _ hm
  obtain ⟨l2, hl2, hm2, s2, y2, hr2⟩ := ens_open Try.underlying43 Try.underlying91 (by kernel_rfl) ⟨rfl, by intro j f hj; rcases j with _ | _ | _ | _ | _ | j <;> simp at hj <;> subst hj <;> first | exact ⟨rfl, by kernel_rfl, Try.underlying3⟩ | exact ⟨rfl, by kernel_rfl, Try.underlying4⟩⟩ h2
  obtain ⟨a3, len3, cap3, rfl⟩ := okWide_slice Try.underlying43 (hval 3 43 v3 rfl rfl)
  have k3 := h3
  have lt3 : ∀ x ∈ p3, x.block < W.heap.size := by obtain ⟨m, hm⟩ := k3; exact DataW.trod_lt m _ _ _ hm
  obtain ⟨l3, hl3, hm3, s3, y3, hr3⟩ := ens_open Try.underlying43 Try.underlying91 (by kernel_rfl) ⟨rfl, by intro j f hj; rcases j with _ | _ | _ | _ | _ | j <;> simp at hj <;> subst hj <;> first | exact ⟨rfl, by kernel_rfl, Try.underlying3⟩ | exact ⟨rfl, by kernel_rfl, Try.underlying4⟩⟩ h3
  have k4 := h4
  have lt4 : ∀ x ∈ p4, x.block < W.heap.size := by obtain ⟨m, hm⟩ := k4; exact DataW.trod_lt m _ _ _ hm
  obtain ⟨a4, rfl, _, _, w4⟩ := open_int Try.underlying3 (hval 4 3 v4 rfl rfl) h4
  have k5 := h5
  have lt5 : ∀ x ∈ p5, x.block < W.heap.size := by obtain ⟨m, hm⟩ := k5; exact DataW.trod_lt m _ _ _ hm
  obtain ⟨a5, rfl, _, _, w5⟩ := open_int Try.underlying3 (hval 5 3 v5 rfl rfl) h5
  clear hA0 hval0
  refine (walk W _ l0 (by omega) hr0 s0 y0 _ l1 (by omega) hr1 s1 y1 _ l2 (by omega) hr2 s2 y2 _ l3 (by omega) hr3 s3 y3 a4 (bounds_i64 w4) a5 (bounds_i64 w5)).mono fun e W' ⟨he, bel⟩ => ?_
  subst he
  exact ⟨_, rfl, _, _, _, [], _, [], hW', trodAll_mk1 (shut_bool Try.underlying4 _), (trodAll_cons_mk (Below.trod laidOut (by kernel_rfl) (of_decide_eq_true (by kernel_rfl)) k0 bel lt0) (trodAll_cons_mk (Below.trod laidOut (by kernel_rfl) (of_decide_eq_true (by kernel_rfl)) k1 bel lt1) (trodAll_cons_mk (Below.trod laidOut (by kernel_rfl) (of_decide_eq_true (by kernel_rfl)) k2 bel lt2) (trodAll_cons_mk (Below.trod laidOut (by kernel_rfl) (of_decide_eq_true (by kernel_rfl)) k3 bel lt3) (trodAll_cons_mk (Below.trod laidOut (by kernel_rfl) (of_decide_eq_true (by kernel_rfl)) k4 bel lt4) (trodAll_cons_mk (Below.trod laidOut (by kernel_rfl) (of_decide_eq_true (by kernel_rfl)) k5 bel lt5) trodAll_mk0)))))), rfl, bel.frame _, fun h => by cases h⟩

theorem over : Rows.rumourBackRow.holds Try.pinned (OpenSpec.ofChange Rows.rumourBackSpec) :=
  OpenClaim.holds_of_wide 8 Try.f8 rfl rfl rfl rfl rfl rfl rfl ⟨rfl, rfl, rfl, rfl, rfl⟩ rfl rfl rfl rfl rfl (by kernel_rfl) Try.func8 (by kernel_rfl)
    (of_decide_eq_true (by kernel_rfl)) (by unfold Func.isWrapper; first | (rw [if_pos (by decide +kernel)]; kernel_rfl) | (rw [if_neg (by decide +kernel)]; exact ⟨rfl, rfl⟩))
    (fun os started H enc _ => lifted os started H enc)

end rumourBack

theorem rumourBack_holds : Rows.RumourBackSaid := rumourBack.over
#print axioms rumourBack_holds
end Go.Proofs.Ytkmnofmhjoehial
