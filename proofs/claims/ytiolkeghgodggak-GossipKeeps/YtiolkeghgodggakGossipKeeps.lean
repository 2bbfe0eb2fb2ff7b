/- GossipKeeps: of a label in which it is not nobody ever has anything, and what is denied is told: whatever the labels and the turns. No condition. -/
import Derived.Test.YtiolkeghgodggakRows
import Derived.WalkKit
import Derived.ProofKit
import Derived.OpenShut
import Derived.WalkSmall
import Derived.ShutString
import Derived.ChangeOld
import Derived.Below
import Derived.Test.YtiolkeghgodggakGg
namespace Go.Proofs.Ytiolkeghgodggak
namespace gossipKeeps
open Go.ChangeShapes Go.WideShapes Go.ChangeAt Go.RowKit
set_option linter.unusedVariables false

theorem own : ownKnob Try.prog.godebug = none := by kernel_rfl
theorem laidOut : laidOutB Try.prog = true := by kernel_rfl

theorem ints_seg {H : Type} {enc : TypeId × Value → H} {W : World} {d : DataW H} {p : List MemPlace} {a : Option Addr} {len cap : Nat} (h : DataW.Trod enc Try.prog W 0 (fun _ => true) true 22 (.slice a len cap) d p) :
    ∃ l : List Int, l.length = len ∧ len ≤ cap ∧ cap ≤ 9223372036854775807 ∧ (∀ n ∈ l, (Lit.int .i64 n).wf = true) ∧ Lies W.heap.size (.slice a len cap) ∧ Seg W (.slice a len cap) l := by
  obtain ⟨fuel, hf⟩ := h
  rcases open_ints Try.underlying22 Try.underlying3 (by kernel_rfl) hf with ⟨hcs, _⟩ | ⟨x, l, c, zs, hcs, _, hl, hm, hz, _, hcell, hwz⟩
  · simp [Value.cells] at hcs
    obtain ⟨rfl, rfl, rfl⟩ := hcs
    exact row_seg (zs := []) (.inl ⟨rfl, rfl, rfl, rfl⟩)
  · simp [Value.cells] at hcs
    obtain ⟨rfl, rfl, rfl⟩ := hcs
    exact row_seg (.inr ⟨_, rfl, hl, hm, by simpa using hz, hcell, hwz⟩)

set_option maxHeartbeats 4000000 in
set_option maxRecDepth 100000 in
theorem walk (w : World) (v0 : Value) (l0 : List Int) (hm0 : l0.length ≤ 9223372036854775807) (hr0 : ∀ n ∈ l0, (Lit.int .i64 n).wf = true) (s0 : Seg w v0 l0) (y0 : Lies w.heap.size v0) (v1 : Value) (l1 : List Plain.Tu) (s1 : SegT w v1 l1) (r1 : ∀ j, j < l1.length → InT (l1.getD j default)) :
    Calls Try.prog 5 #[v0, v1] w fun e w' => e = .returned (.bool true) ∧ Below w.heap.size w w' := by
  obtain ⟨p0, c0, rfl, NM0⟩ := seg_nums s0 y0
  obtain ⟨hb1, p1, c1, rfl, HT1⟩ := s1
  have K1 := labels_c p0 l0.length c0 l0 hm0 rfl (wf_bounds hr0) w NM0
  have hLl := Plain.labsF_len l0
  have hLi := Plain.labsF_in l0
  have K2 := fun W (b : Below w.heap.size w W) => turns_c p1 l1.length c1 80 l1 (by omega) hb1 W rfl (HT1.grow b) r1
  have hTm := Plain.turnsF_may l1 80
  have hTl := Plain.turnsF_len l1 80
  generalize Plain.labsF l0 = L at *
  generalize Plain.turnsF l1 80 = ts at *
  have HLl := hid hLl
  have HLi := hid hLi
  have HTm := hid hTm
  clear NM0 HT1 hLl hLi hTm s0 y0 r1 hr0
  obtain ⟨B, hB⟩ : ∃ B, B = w.heap.size := ⟨_, rfl⟩
  rw [← hB] at K1 K2
  have HBB := hid hB
  clear hB
  go_enter Try.func5, Try.ntmps5
  go_wp2_with fail
  refine K1.mono ?_
  rintro e W1 ⟨rfl, hr1, hb1⟩
  have R1 := hid hr1
  have B1 := hid hb1
  clear hr1 hb1 K1
  go_wp2_with fail
  refine (K2 W1 B1.out).mono ?_
  rintro e W2 ⟨q2, c2, rfl, hT2⟩
  obtain ⟨q2', c2', e2, hn2, hh2⟩ := hT2.form
  rw [Value.slice.injEq] at e2
  obtain ⟨rfl, _, rfl⟩ := e2
  have B2 := hid (B1.out.trans (hT2.be.mono (by have := B1.out.size; rw [← HBB.out] at this; exact this)))
  have R2 := hid (R1.out.of_block (hT2.be.block _ R1.out.lt))
  have HH2 := hid hh2
  have K3 := gossiped_c (some ⟨B, 0, none⟩) 3 3 q2 ts.length c2 L ts (by omega) (by omega) HLl.out rfl HLi.out W2 (row_nums R2.out HLl.out) (fun e => by cases e) hh2 hn2
  clear hT2 hn2 hh2 K2
  obtain ⟨N, hN⟩ : ∃ N, N = ts.length := ⟨_, rfl⟩
  rw [← hN] at K3 hTl ⊢
  have HN := hid hN
  clear hN
  go_wp2_with fail
  refine K3.mono ?_
  intro e W3 h3
  obtain ⟨a3, d3, q3, e3, rfl, hn3, hs3, hb3⟩ := h3
  have N3 := hid hn3
  have S3 := hid hs3
  have B3 := hid (B2.out.trans (hb3.mono (by have := B2.out.size; rw [← HBB.out] at this; exact this)))
  have R3 := hid (R2.out.of_block (hb3.block _ R2.out.lt))
  have HH3 := hid (HH2.out.grow hb3)
  clear hn3 hs3 hb3 K3 HH2 R2 B2 R1 B1
  go_wp2
  go_loopg [10, 11] 4 (fun gg s10 _ wx => ∃ k : Nat, k ≤ 4 ∧ 4 - k ≤ gg ∧ s10 = .int .i64 k ∧ wx = W3)
  case atStart => exact ⟨0, Nat.zero_le _, by omega, rfl, rfl⟩
  case round =>
    obtain ⟨i, hi4, hg, rfl, hw⟩ := hrel
    have hy := hw.symm
    clear hw
    subst hy
    by_cases hlt : i < 4
    · have hltz : (i : Int) < 4 := by omega
      go_wp2
      go_loopg [11] 3 (fun gg s11 wx => ∃ k : Nat, k ≤ 3 ∧ 3 - k ≤ gg ∧ s11 = .int .i64 k ∧ wx = W3)
      case atStart => exact ⟨0, Nat.zero_le _, by omega, rfl, rfl⟩
      case round =>
        obtain ⟨j, hj3, hgj, rfl, hw⟩ := hrel
        have hy := hw.symm
        clear hw
        subst hy
        by_cases hltj : j < 3
        · have hltjz : (j : Int) < 3 := by omega
          have l0 := R3.out.cell hltj
          unfold rowV at l0
          obtain ⟨z, ez, hz⟩ := labAt_lt (L := L) (fun x hx => by have := HLi.out x hx; omega) j
          rw [ez] at l0
          have hbit := bit_num z i hz
          cases hrd : Plain.reads (z : Int) i with
          | true =>
            rw [hrd, if_pos rfl] at hbit
            clear hrd ez
            go_wp2
            go_roundg (3 - (j + 1))
            case measure => omega
            case rel => exact ⟨j + 1, by omega, by omega, by go_num, rfl⟩
          | false =>
            rw [hrd, if_neg (by decide)] at hbit
            have hem := Plain.keeps_law (L := L) ts (by rw [← HN.out]; omega) (i := i) (j := j) (by rw [ez]; exact hrd)
            obtain ⟨b, off, rfl, _, hr⟩ := S3.out.place (by omega) (by omega)
            obtain ⟨b', o', c', _, x1, hs⟩ := hr i hlt
            obtain ⟨pp, dd, x2, _, _⟩ := hs j hltj
            rw [hem] at x2
            have x2' : W3.cell? ⟨b', o' + j, none⟩ = some (.slice pp 0 dd) := x2
            clear hrd ez hr hs hem x2
            go_wp2
            go_roundg (3 - (j + 1))
            case measure => omega
            case rel => exact ⟨j + 1, by omega, by omega, by go_num, rfl⟩
        · have hltjz : ¬ (j : Int) < 3 := by omega
          go_wp2
          go_roundg (4 - (i + 1))
          case measure => omega
          case rel => exact ⟨i + 1, by omega, by omega, by go_num, rfl⟩
    · have hltz : ¬ (i : Int) < 4 := by omega
      go_wp2
      go_loopg [12] N (fun gg s12 wx => ∃ k : Nat, k ≤ N ∧ N - k ≤ gg ∧ s12 = .int .i64 k ∧ Aside (∃ q, wx = W3.drewN q))
      case atStart => exact ⟨0, Nat.zero_le _, by omega, rfl, (show Aside _ from ⟨0, rfl⟩)⟩
      case round =>
        obtain ⟨k, hkN, hgk, rfl, I⟩ := hrel
        obtain ⟨qd, hqd⟩ := I.out
        by_cases hltk : k < N
        · have hltkz : (k : Int) < (N : Int) := by omega
          have hkl : k < ts.length := by rw [← HN.out]; exact hltk
          obtain ⟨tb, tof, rfl, _, hc⟩ := holdsT HH3.out (by omega)
          obtain ⟨t0, t1, t2, t3, t4, t5⟩ := (hc k hkl).drewN qd
          have hmt := HTm.out _ (getD_mem ts default hkl)
          have hcode := Plain.keeps_code (L := L) HLl.out ts HTm.out k hkl
          obtain ⟨cb, cof, rfl, _, hcc⟩ := N3.out (by rw [Plain.cz_len, Plain.goF_len]; omega)
          have cc := hcc k (by rw [Plain.cz_len, Plain.goF_len]; exact hkl)
          rw [Plain.cz_at _ (by rw [Plain.goF_len]; exact hkl)] at cc
          have cc2 : wr.cell? ⟨cb, cof + k, none⟩ = some (.int .i64 (((Plain.goF 4 L Plain.Stt.nil ts).getD k 0 : Nat) : Int)) := by rw [hqd]; simpa using cc
          rw [← hqd] at t0 t1 t2 t3 t4 t5
          have HQ := hid hqd
          clear hqd I hc hcc cc
          generalize ts.getD k default = t at *
          obtain ⟨kd, wh, tz, la, ke, va⟩ := t
          dsimp only at t0 t1 t2 t3 t4 t5 hcode hmt
          by_cases hk1 : kd = 1
          · subst hk1
            have hcd := hcode rfl
            clear hcode
            have hmt2 : (0 ≤ wh ∧ wh < 4) ∧ (0 ≤ la ∧ la < 3) := by
              rcases hmt with ⟨_, h2, h3, _⟩ | ⟨h2, _⟩
              · exact ⟨h2, h3⟩
              · have h2' : (1 : Int) = 3 := h2
                omega
            clear hmt
            obtain ⟨u, rfl⟩ : ∃ u : Nat, wh = (u : Int) := ⟨wh.toNat, by omega⟩
            obtain ⟨j, rfl⟩ : ∃ j : Nat, la = (j : Int) := ⟨la.toNat, by omega⟩
            rw [Int.toNat_natCast, Int.toNat_natCast] at hcd
            have hj3 : j < 3 := by omega
            have hj3z : (j : Int) < 3 := by omega
            have hu4z : (u : Int) < 64 := by omega
            have l0 := R3.out.cell hj3
            unfold rowV at l0
            obtain ⟨z, ez, hz⟩ := labAt_lt (L := L) (fun x hx => by have := HLi.out x hx; omega) j
            rw [ez] at l0 hcd
            have l1 : wr.cell? ⟨B, j, none⟩ = some (.int .i64 (z : Int)) := by rw [HQ.out]; simpa using l0
            have hbit := bit_num z u hz
            generalize (Plain.goF 4 L Plain.Stt.nil ts).getD k 0 = cd at *
            clear l0 ez hmt2
            cases hrd : Plain.reads (z : Int) u with
            | true =>
              rw [hrd, if_pos rfl] at hbit hcd
              subst hcd
              clear hrd
              go_wp2
              go_quiet (fail)
              go_wp2
              go_roundg (N - (k + 1))
              case measure => omega
              case rel => exact ⟨k + 1, by omega, by omega, by go_num, (show Aside _ from ⟨_, by rw [HQ.out, drewN_add]⟩)⟩
            | false =>
              rw [hrd, if_neg (by decide)] at hbit hcd
              subst hcd
              clear hrd
              go_wp2
              go_quiet (fail)
              go_wp2
              go_roundg (N - (k + 1))
              case measure => omega
              case rel => exact ⟨k + 1, by omega, by omega, by go_num, (show Aside _ from ⟨_, by rw [HQ.out, drewN_add]⟩)⟩
          · have hkb : (kd == 1) = false := by simpa using hk1
            clear hcode hmt hk1
            go_wp2
            go_quiet (fail)
            go_wp2
            go_roundg (N - (k + 1))
            case measure => omega
            case rel => exact ⟨k + 1, by omega, by omega, by go_num, (show Aside _ from ⟨_, by rw [HQ.out, drewN_add]⟩)⟩
        · have hltkz : ¬ (k : Int) < (N : Int) := by omega
          have BR := hid (show Below B w wr by rw [hqd]; exact below_drewN B3.out qd)
          clear hqd I N3 S3 B3 R3 HH3
          obtain ⟨V1, hV1⟩ : ∃ V1, V1 = wr.alloc (.cells #[.int .i64 1] 3) := ⟨_, rfl⟩
          obtain ⟨V2, hV2⟩ : ∃ V2, V2 = V1.alloc (boxT Plain.oneT) := ⟨_, rfl⟩
          have v1 : Below wr.heap.size wr V1 := by rw [hV1]; exact (Below.refl _ _).alloc (Nat.le_refl _) _
          have v2 : Below V1.heap.size V1 V2 := by rw [hV2]; exact (Below.refl _ _).alloc (Nat.le_refl _) _
          have nv1 : Nums V1 (some ⟨wr.heap.size, 0, none⟩) [1] := fun _ => ⟨wr.heap.size, 0, rfl, by rw [hV1]; simp, fun j hj => by
            have : j = 0 := by simp at hj; omega
            subst this
            rw [hV1, World.cell?_alloc_at _ _ _ _ rfl]; rfl⟩
          have hsz1 : V1.heap.size = wr.heap.size + 1 := by rw [hV1]; simp
          have tv2 : encT.Holds V2 (some ⟨wr.heap.size + 1, 0, none⟩) [Plain.oneT] := by
            have := encT.one_holds V1 Plain.oneT 44
            rw [hsz1] at this
            rw [hV2]; exact this
          have K4 := gossiped_c (some ⟨wr.heap.size, 0, none⟩) 1 1 (some ⟨wr.heap.size + 1, 0, none⟩) 1 1 [1] [Plain.oneT] (by omega) (by omega) rfl rfl (fun x hx => by simp at hx; omega) V2 (nv1.grow v2) (fun e => by cases e) tv2 (fun e => by cases e)
          have hBr : B ≤ wr.heap.size := by have := BR.out.size; rw [← HBB.out] at this; exact this
          have BV := hid (show Below B w V2 from (BR.out.trans (v1.mono hBr)).trans (v2.mono (by omega)))
          have HV2 := hid (show V2 = (wr.alloc (.cells #[.int .i64 1] 3)).alloc (.cells #[.int .i64 1, .int .i64 0, .int .i64 0, .int .i64 0, .int .i64 0, .int .i64 5] 44) by rw [hV2, hV1]; rfl)
          clear hV1 hV2 v1 v2 nv1 tv2 hsz1
          go_wp2_with fail
          rw [← HV2.out]
          refine K4.mono ?_
          intro e W5 h5
          obtain ⟨a5, d5, q5, e5, rfl, _, hs5, hb5⟩ := h5
          obtain ⟨b, off, rfl, _, hr⟩ := hs5.place (by omega) (by omega)
          obtain ⟨b', o', c', _, x1, hs⟩ := hr 0 (by omega)
          obtain ⟨pp, dd, x2, sg, _⟩ := hs 0 (by omega)
          rw [Plain.one_has] at x2 sg
          obtain ⟨gb, goff, gc, e6, _, gcells⟩ := sg.some (by decide)
          rw [e6] at x2
          have x2' : W5.cell? ⟨b', o', none⟩ = some (.slice (some ⟨gb, goff, none⟩) 1 gc) := x2
          have x1' : W5.cell? ⟨b, off, none⟩ = some (.slice (some ⟨b', o', none⟩) 1 c') := x1
          have g1 := (gcells 0 (by decide)).c1
          have g1' : W5.cell? ⟨gb, goff + 1, none⟩ = some (.int .i64 5) := g1
          have F := hid (show Below w.heap.size w W5 by rw [← HBB.out]; exact BV.out.trans (hb5.mono (by have := BV.out.size; rw [← HBB.out] at this; exact this)))
          clear hs5 hb5 hr hs x1 x2 sg gcells g1 K4 HV2
          go_wp2
          go_ret
          exact ⟨rfl, F.out⟩

set_option maxRecDepth 100000 in
theorem lifted (os : Os) (started : os.Started) (H : Type) (enc : TypeId × Value → H) :
    ReturnsInHanded {} Try.checked os 5 .any (Rows.gossipKeepsSpec.pre6 enc Try.prog Try.f5 Rows.gossipKeepsRow.domain false) (Rows.gossipKeepsSpec.post enc Try.prog Try.f5 false true false false) := by
  refine returnsInHanded_of_change (C := Try.checked) own started (by kernel_rfl) Try.func5
    (ChangeSpec.witness6 (enc := enc) (C := Try.checked) false ⟨#[], #[.slice none 0 0, .slice none 0 0], []⟩ 8 (by kernel_rfl) (by kernel_rfl) (by kernel_rfl) (by kernel_rfl)) ?_
  intro W base args ds gs before hval0 hW hcnd _
  have hval : ∀ (j : Nat) t v, Try.f5.params[j]? = some t → args[j]? = some v → Value.okWide Try.prog W .any base t v := hval0
  have hW' := hW
  obtain ⟨p, q, hA0, hV, rfl, hfz, hnd⟩ := hW
  have hA : DataW.TrodAll enc Try.prog W 0 (fun _ => true) true Try.f5.params.toList args.toList ds p := hA0
  rw [Try.params5] at hA hval
  obtain ⟨v0, vs0, d0, ds0, p0, q0, hargs, rfl, rfl, h0, r0⟩ := trodAll_cons hA
  obtain ⟨v1, vs1, d1, ds1, p1, q1, rfl, rfl, rfl, h1, r1⟩ := trodAll_cons r0
  obtain ⟨rfl, rfl, rfl⟩ := trodAll_nil r1
  obtain rfl : args = #[v0, v1] := by cases args; simp_all
  obtain ⟨rfl, rfl⟩ := trodVars_none hV
  obtain ⟨a0, len0, cap0, rfl⟩ := okWide_slice Try.underlying22 (hval 0 22 v0 rfl rfl)
  have k0 := h0
  have lt0 : ∀ x ∈ p0, x.block < W.heap.size := by obtain ⟨m, hm⟩ := k0; exact DataW.trod_lt m _ _ _ hm
  obtain ⟨l0, hl0, hc0, hm0, hr0, y0, s0⟩ := ints_seg h0
  obtain ⟨a1, len1, cap1, rfl⟩ := okWide_slice Try.underlying32 (hval 1 32 v1 rfl rfl)
  have k1 := h1
  have lt1 : ∀ x ∈ p1, x.block < W.heap.size := by obtain ⟨m, hm⟩ := k1; exact DataW.trod_lt m _ _ _ hm
  obtain ⟨l1, s1, ri1⟩ := tus_open Try.underlying32 Try.underlying48 (by kernel_rfl) ⟨rfl, by intro j f hj; rcases j with _ | _ | _ | _ | _ | _ | j <;> simp at hj <;> subst hj <;> exact ⟨rfl, by kernel_rfl, Try.underlying3⟩⟩ h1
  clear hA0 hval0
  refine (walk W _ l0 (by omega) hr0 s0 y0 _ l1 s1 ri1).mono fun e W' ⟨he, bel⟩ => ?_
  subst he
  exact ⟨_, rfl, _, _, _, [], _, [], hW', trodAll_mk1 (shut_bool Try.underlying4 _), (trodAll_cons_mk (Below.trod laidOut (by kernel_rfl) (of_decide_eq_true (by kernel_rfl)) k0 bel lt0) (trodAll_cons_mk (Below.trod laidOut (by kernel_rfl) (of_decide_eq_true (by kernel_rfl)) k1 bel lt1) trodAll_mk0)), rfl, bel.frame _, fun h => by cases h⟩

theorem over : Rows.gossipKeepsRow.holds Try.pinned (OpenSpec.ofChange Rows.gossipKeepsSpec) :=
  OpenClaim.holds_of_wide 5 Try.f5 rfl rfl rfl rfl rfl rfl rfl ⟨rfl, rfl, rfl, rfl, rfl⟩ rfl rfl rfl rfl rfl (by kernel_rfl) Try.func5 (by kernel_rfl)
    (of_decide_eq_true (by kernel_rfl)) (by unfold Func.isWrapper; first | (rw [if_pos (by decide +kernel)]; kernel_rfl) | (rw [if_neg (by decide +kernel)]; exact ⟨rfl, rfl⟩))
    (fun os started H enc _ => lifted os started H enc)

end gossipKeeps

theorem gossipKeeps_holds : Rows.GossipKeepsSaid := gossipKeeps.over
#print axioms gossipKeeps_holds
end Go.Proofs.Ytiolkeghgodggak
