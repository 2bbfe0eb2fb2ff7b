/- Proved: at every list of happenings the law ClockOwn returns true: a site's own number counts its own events, and no clock counts more of a site than there were. Conditions: none. -/
import Derived.Test.YtlckhpfokijknaeRows
import Derived.WalkKit
import Derived.ProofKit
import Derived.OpenShut
import Derived.WalkSmall
import Derived.ShutString
import Derived.ChangeOld
import Derived.Below
import Derived.Test.YtlckhpfokijknaeKt
import Derived.Test.YtlckhpfokijknaeEvo
import Derived.Deep.QuietTactic
import Derived.BigQuiet
namespace Go.Proofs.Ytlckhpfokijknae
namespace clockOwn
open Go.ChangeShapes Go.WideShapes Go.ChangeAt Go.RowKit
set_option linter.unusedVariables false

theorem own : ownKnob Try.prog.godebug = none := by kernel_rfl
theorem laidOut : laidOutB Try.prog = true := by kernel_rfl

set_option maxHeartbeats 4000000 in
set_option maxRecDepth 100000 in
theorem walk (w : World) (v0 : Value) (l0 : List Plain.Ev) (hm0 : l0.length ≤ 9223372036854775807) (hr0 : ∀ j, j < l0.length → (-9223372036854775808 ≤ (Plain.ev l0 j).1 ∧ (Plain.ev l0 j).1 ≤ 9223372036854775807) ∧ (-9223372036854775808 ≤ (Plain.ev l0 j).2.1 ∧ (Plain.ev l0 j).2.1 ≤ 9223372036854775807) ∧ (-9223372036854775808 ≤ (Plain.ev l0 j).2.2 ∧ (Plain.ev l0 j).2.2 ≤ 9223372036854775807)) (s0 : SegE w v0 l0) (y0 : Lies w.heap.size v0) :
    Calls Try.prog 4 #[v0] w fun e w' => e = .returned (.bool true) ∧ Below w.heap.size w w' := by
  have S0 := hid s0
  have Y0 := hid y0
  have HR := hid hr0
  have HM := hid hm0
  clear s0 y0 hr0 hm0
  have hmk : ∀ w : World, (Instr.makeSlice 34 (.int .i64 4) (.int .i64 4)).run Try.prog w = .ok (.slice (some ⟨w.heap.size, 0, none⟩) 4 4) (w.alloc (.cells (madeCells #[.int .i64 0] 4) 3)) :=
    run_make_row' (P := Try.prog) 34 3 (.int .i64 0) 8 Try.underlying34 Try.infoInt rfl .i64 .i64 4 (by omega) (by omega)
  go_enter Try.func4, Try.ntmps4
  go_wp2_with fail
  refine (kevents_any v0 l0 HM.out HR.out _ S0.out Y0.out).mono ?_
  rintro e w1 ⟨r, rfl, own1, b1⟩
  obtain ⟨p, c, rfl⟩ := owns_form own1
  obtain ⟨cv, w2, hrun, own2, b2⟩ := app_copy (show Plain.evN l0 ≤ 60 by unfold Plain.evN; omega) own1
  have RUN := hid hrun
  have O1 := hid own1
  have O2 := hid own2
  have B1 := hid b1
  have B2 := hid b2
  clear own1 own2 b1 b2 hrun
  go_wp2_with (first | (at_builtin; refine wpList_app _ _ 23 RUN.out (by rfl) (by rfl) (by rfl) (by rfl) (by rfl) ?_) | fail)
  refine (play_evs cv l0 _ _ O2.out).mono ?_
  rintro e w3 ⟨bc, cc, rfl, hrow, hbc, b3⟩
  have D3 := hid (PD.mk' O1.out (B2.out.trans (b3.mono B2.out.size)) hrow hbc)
  have B3 := hid (show Below w.heap.size w w3 from (B1.out.trans ((B2.out.trans (b3.mono B2.out.size)).mono B1.out.size)))
  clear hrow hbc b3 O1 O2 B1 B2 RUN S0 Y0 HR HM
  generalize Plain.evN l0 = N at *
  generalize Plain.evs l0 = es at *
  have hN60 := D3.out.n60
  go_wp2_with fail
  refine (play_one w3.heap.size 1 (Nat.le_refl _) _ (lit_event w3) (by simp)).mono ?_
  rintro e w4 ⟨b4, c4, g4, d4, rfl, k4, r4, lt4, bl4⟩
  have B34 := hid (show Below w3.heap.size w3 w4 from ((Below.refl _ _).alloc (Nat.le_refl _) _).trans (bl4.mono (by simp)))
  have R4 := hid r4
  clear r4 bl4
  go_wp2_with fail
  refine (same_one g4 d4 w4.heap.size _ (R4.out.below ((Below.refl w4.heap.size w4).alloc (Nat.le_refl _) _) R4.out.lt) (lit_one w4)).mono ?_
  rintro e w5 ⟨rfl, q5, hw5⟩
  have B45 := hid (show Below w4.heap.size w4 w5 by rw [hw5]; exact below_drewN ((Below.refl _ _).alloc (Nat.le_refl _) _) q5)
  have D5 := hid (D3.out.grow (B34.out.trans (B45.out.mono B34.out.size)))
  have B5 := hid (show Below w.heap.size w w5 from B3.out.trans ((B34.out.trans (B45.out.mono B34.out.size)).mono B3.out.size))
  clear hw5 k4 lt4 R4 D3 B3 B34 B45
  go_wp2
  clear hmk
  go_loopw [9] (fun i wx => ∃ k : Nat, k ≤ N ∧ i = .int .i64 k ∧ wx.rowIs w5.heap.size 3 4 (fun s => .int .i64 (Plain.cnt es s k : Nat)) ∧ Below w5.heap.size w5 wx) (fun i _ => N - (intOf i).toNat)
  case atStart => exact ⟨0, Nat.zero_le _, rfl, (World.rowIs_made w5 (.int .i64 0) 4 3).congr fun s _ => rfl, (Below.refl _ _).alloc (Nat.le_refl _) _⟩
  case round =>
    obtain ⟨k, hk, rfl, hrow, hbel⟩ := hrel
    by_cases hlt : k < N
    · have hlt' : (k : Int) < (N : Int) := by omega
      have D := hid (D5.out.grow hbel)
      obtain ⟨ge, wn, g, d, hp, hge, hce, hwn, hwh, hev, e1, e2, hg, e3, _⟩ := D.out.at hlt
      subst hp
      have o1 := hrow.cell hwn
      have o2 := hrow.frozen wn
      have o3 := hrow.lt
      have hcl := Plain.cnt_le es wn k
      have HS := hid (cnt_set (y := (Plain.cnt es wn k : Nat) + 1) hrow hwh rfl)
      have HB := hid hbel
      have hwn' : (wn : Int) < 4 := by omega
      have h4 := e3 wn hwn
      have hov := D.out.good.vOwn k hlt
      rw [hwh] at hov
      have hcs : Plain.cnt es wn (k + 1) = Plain.cnt es wn k + 1 := by rw [← hwh]; exact Plain.cnt_own es k
      rw [hov, hcs] at h4
      have HCS := hid hcs
      have HE3 := hid e3
      have HCE := hid hce
      clear e3 hov hcs hrow hbel hce hev
      have hge5 : ge ≠ w5.heap.size := by
        obtain ⟨g', e', hlt5⟩ := owns_at D5.out.eown (by omega)
        injection e' with e'
        injection e' with e'
        omega
      have hbc5 : bc ≠ w5.heap.size := by have := D5.out.lt; omega
      have hg5 : g ≠ w5.heap.size := by
        obtain ⟨g', d', c1, c2⟩ := D5.out.rows k hlt
        have c3 := (HB.out.cell (p := ⟨bc, k, none⟩) D5.out.lt).trans c1
        rw [e2] at c3
        simp only [Option.some.injEq, Value.slice.injEq] at c3
        obtain ⟨c4, _, _⟩ := c3
        injection c4 with c4
        have := c2.lt
        omega
      generalize hcc : Plain.cnt es wn k = cc' at o1 hcl h4 HS HCS
      have hcl2 : (cc' : Int) ≤ 60 := by omega
      clear hcc
      have q1 : (((cc' + 1 : Nat) : Int)) = (cc' : Int) + 1 := by omega
      rw [q1] at h4
      clear q1
      have hk3 : (k : Int) < (N : Int) := by omega
      go_wp2
      obtain ⟨wy, hwy⟩ : ∃ wy, wy = wr.setCell ⟨w5.heap.size, wn, none⟩ (.int .i64 ((cc' : Int) + 1)) := ⟨_, rfl⟩
      rw [← hwy]
      have f1 : wy.cell? ⟨ge, k * 3 + 1, none⟩ = some (.int .i64 (wn : Int)) := by rw [hwy, Deep_cell_other hge5]; exact e1
      have f2 : wy.cell? ⟨bc, k, none⟩ = some (.slice (some ⟨g, 0, none⟩) 4 d) := by rw [hwy, Deep_cell_other hbc5]; exact e2
      have f3 : wy.cell? ⟨g, wn, none⟩ = some (.int .i64 ((cc' : Int) + 1)) := by rw [hwy, Deep_cell_other hg5]; exact h4
      have F3 := hid (show ∀ t, t < 4 → wy.cell? ⟨g, t, none⟩ = some (.int .i64 (Plain.V 4 es N k t)) from fun t ht => by rw [hwy, Deep_cell_other hg5]; exact HE3.out t ht)
      have HY := hid (show wy.rowIs w5.heap.size 3 4 (fun s => .int .i64 (Plain.cnt es s (k + 1) : Nat)) by rw [hwy]; exact HS.out)
      have BY := hid (show Below w5.heap.size w5 wy by rw [hwy]; exact HB.out.setCell (p := ⟨w5.heap.size, wn, none⟩) (Nat.le_refl _) _)
      have f4 : wy.cell? ⟨w5.heap.size, wn, none⟩ = some (.int .i64 ((cc' : Int) + 1)) := by
        have := HY.out.cell hwn
        rw [HCS.out] at this
        exact this
      clear hwy HS HB HE3 e1 e2 h4 o1 o2 o3 HCE
      go_quiet (fail)
      go_wp2
      obtain ⟨wz, hwz⟩ : ∃ wz, wz = wy.drewN nq := ⟨_, rfl⟩
      rw [← hwz]
      have F4 := hid (show ∀ t, t < 4 → wz.cell? ⟨g, t, none⟩ = some (.int .i64 (Plain.V 4 es N k t)) from fun t ht => by rw [hwz]; simpa using F3.out t ht)
      have f5 : wz.cell? ⟨bc, k, none⟩ = some (.slice (some ⟨g, 0, none⟩) 4 d) := by rw [hwz]; simpa using f2
      have HZ := hid (show wz.rowIs w5.heap.size 3 4 (fun s => .int .i64 (Plain.cnt es s (k + 1) : Nat)) by rw [hwz]; exact HY.out)
      have BZ := hid (show Below w5.heap.size w5 wz by rw [hwz]; exact below_drewN BY.out nq)
      clear hwz F3 HY BY f1 f2 f3 f4
      go_loopw [10] (fun i wx => ∃ j q : Nat, j ≤ 4 ∧ i = .int .i64 j ∧ wx = wz.drewN q) (fun i _ => 4 - (intOf i).toNat)
      case atStart => exact ⟨0, 0, by omega, rfl, rfl⟩
      case round =>
        obtain ⟨j, q, hj, rfl, hw⟩ := hrel
        have HW := hid hw
        clear hw
        by_cases hj4 : j < 4
        · have hj4' : (j : Int) < 4 := by omega
          have t1 : wr.cell? ⟨g, j, none⟩ = some (.int .i64 (Plain.V 4 es N k j)) := by rw [HW.out]; simpa using F4.out j hj4
          have t2 : wr.cell? ⟨w5.heap.size, j, none⟩ = some (.int .i64 (Plain.cnt es j (k + 1) : Nat)) := by rw [HW.out]; simpa using HZ.out.cell hj4
          have t3 : wr.cell? ⟨bc, k, none⟩ = some (.slice (some ⟨g, 0, none⟩) 4 d) := by rw [HW.out]; simpa using f5
          have hb := D.out.good.vBd k j hlt
          generalize Plain.V 4 es N k j = x at t1 hb
          generalize Plain.cnt es j (k + 1) = cj at t2 hb
          have hx0 : ¬ x < 0 := by omega
          have hx1 : ¬ (cj : Int) < x := by omega
          clear hb
          go_wp2
          go_quiet (fail)
          go_wp2
          go_roundw
          case rel => exact ⟨j + 1, _, by omega, by go_num, by rw [HW.out, drewN_add]⟩
          case measure => simp [intOf]; omega
        · have ej : j = 4 := by omega
          subst ej
          have RA := hid (show wr.rowIs w5.heap.size 3 4 (fun s => .int .i64 (Plain.cnt es s (k + 1) : Nat)) by rw [HW.out]; exact HZ.out)
          have RB := hid (show Below w5.heap.size w5 wr by rw [HW.out]; exact below_drewN BZ.out q)
          go_wp2
          go_roundw
          case rel => first | exact ⟨k + 1, by omega, by go_num, RA.out, RB.out⟩ | ((repeat apply Exists.intro); refine ⟨⟨k + 1, by omega, ?_, RA.out, RB.out⟩, rfl⟩; go_num)
          case measure => simp [intOf]; omega
    · have ek : k = N := by omega
      have HB := hid hbel
      clear hrow hbel
      go_wp2
      go_ret
      exact ⟨rfl, B5.out.trans (HB.out.mono B5.out.size)⟩

set_option maxRecDepth 100000 in
theorem lifted (os : Os) (started : os.Started) (H : Type) (enc : TypeId × Value → H) :
    ReturnsInHanded {} Try.checked os 4 .any (Rows.clockOwnSpec.pre6 enc Try.prog Try.f4 Rows.clockOwnRow.domain false) (Rows.clockOwnSpec.post enc Try.prog Try.f4 false true false false) := by
  refine returnsInHanded_of_change (C := Try.checked) own started (by kernel_rfl) Try.func4
    (ChangeSpec.witness6 (enc := enc) (C := Try.checked) false ⟨#[], #[.slice none 0 0], []⟩ 8 (by kernel_rfl) (by kernel_rfl) (by kernel_rfl) (by kernel_rfl)) ?_
  intro W base args ds gs before hval0 hW hcnd _
  have hval : ∀ (j : Nat) t v, Try.f4.params[j]? = some t → args[j]? = some v → Value.okWide Try.prog W .any base t v := hval0
  have hW' := hW
  obtain ⟨p, q, hA0, hV, rfl, hfz, hnd⟩ := hW
  have hA : DataW.TrodAll enc Try.prog W 0 (fun _ => true) true Try.f4.params.toList args.toList ds p := hA0
  rw [Try.params4] at hA hval
  obtain ⟨v0, vs0, d0, ds0, p0, q0, hargs, rfl, rfl, h0, r0⟩ := trodAll_cons hA
  obtain ⟨rfl, rfl, rfl⟩ := trodAll_nil r0
  obtain rfl : args = #[v0] := by cases args; simp_all
  obtain ⟨rfl, rfl⟩ := trodVars_none hV
  obtain ⟨a0, len0, cap0, rfl⟩ := okWide_slice Try.underlying22 (hval 0 22 v0 rfl rfl)
  have k0 := h0
  have lt0 : ∀ x ∈ p0, x.block < W.heap.size := by obtain ⟨m, hm⟩ := k0; exact DataW.trod_lt m _ _ _ hm
  obtain ⟨l0, hl0, hm0, s0, y0, hr0⟩ := trips_open Try.underlying22 Try.underlying38 (by kernel_rfl) rfl (by intro j f hj; rcases j with _ | _ | _ | j <;> simp at hj <;> subst hj <;> exact ⟨rfl, by kernel_rfl, Try.underlying3⟩) h0
  clear hA0 hval0
  refine (walk W _ l0 (by omega) hr0 s0 y0).mono fun e W' ⟨he, bel⟩ => ?_
  subst he
  exact ⟨_, rfl, _, _, _, [], _, [], hW', trodAll_mk1 (shut_bool Try.underlying4 _), (trodAll_cons_mk (Below.trod laidOut (by kernel_rfl) (of_decide_eq_true (by kernel_rfl)) k0 bel lt0) trodAll_mk0), rfl, bel.frame _, fun h => by cases h⟩

theorem over : Rows.clockOwnRow.holds Try.pinned (OpenSpec.ofChange Rows.clockOwnSpec) :=
  OpenClaim.holds_of_wide 4 Try.f4 rfl rfl rfl rfl rfl rfl rfl ⟨rfl, rfl, rfl, rfl, rfl⟩ rfl rfl rfl rfl rfl (by kernel_rfl) Try.func4 (by kernel_rfl)
    (of_decide_eq_true (by kernel_rfl)) (by unfold Func.isWrapper; first | (rw [if_pos (by decide +kernel)]; kernel_rfl) | (rw [if_neg (by decide +kernel)]; exact ⟨rfl, rfl⟩))
    (fun os started H enc _ => lifted os started H enc)

end clockOwn

theorem clockOwn_holds : Rows.ClockOwnSaid := clockOwn.over
#print axioms clockOwn_holds
end Go.Proofs.Ytlckhpfokijknae
