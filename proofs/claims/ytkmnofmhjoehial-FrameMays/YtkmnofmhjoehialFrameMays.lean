/- Proved: for every config the law FrameMays returns true: frame.May answers what promise P11.1 says. Conditions: none. -/
import Derived.Test.YtkmnofmhjoehialRows
import Derived.WalkKit
import Derived.ProofKit
import Derived.OpenShut
import Derived.WalkSmall
import Derived.ShutString
import Derived.ChangeOld
import Derived.Below
import Derived.Test.YtkmnofmhjoehialQ3
import Derived.Test.YtkmnofmhjoehialQ4
import Derived.Test.YtkmnofmhjoehialQo
import Derived.Deep.RegionHeld3
import Derived.Deep.Cut
namespace Go.Proofs.Ytkmnofmhjoehial
namespace frameMays
open Go.ChangeShapes Go.WideShapes Go.ChangeAt Go.RowKit
set_option linter.unusedVariables false

theorem own : ownKnob Try.prog.godebug = none := by kernel_rfl
theorem laidOut : laidOutB Try.prog = true := by kernel_rfl

set_option maxHeartbeats 4000000 in
set_option maxRecDepth 100000 in
theorem walk (w : World) (c0 : Plain.Cf) (lv0 mv0 : Value) (i0 : CfI w c0 lv0 mv0) :
    Calls Try.prog 3 #[cfV c0 lv0 mv0] w fun e w' => e = .returned (.bool true) ∧ Below w.heap.size w w' := by
  have bA : Below w.heap.size w (w.alloc (boxC c0 lv0 mv0)) := (Below.refl _ _).alloc (Nat.le_refl _) _
  have HB := hid bA
  have I := hid (i0.grow bA)
  have CC := hid (CellC.start w c0 lv0 mv0)
  have HG := hid (show w.heap.size < (w.alloc (boxC c0 lv0 mv0)).heap.size by simp)
  clear i0 bA
  obtain ⟨g, hg⟩ : ∃ g, g = w.heap.size := ⟨_, rfl⟩
  obtain ⟨cn, ls, ct, ms, cap⟩ := c0
  try dsimp only at *
  go_enter Try.func3, Try.ntmps3
  go_upto_region 1 with fail
  obtain ⟨W, hW⟩ : ∃ W, W = w.alloc (boxC ⟨cn, ls, ct, ms, cap⟩ lv0 mv0) := ⟨_, rfl⟩
  have HW := hid hW
  have CC2 := CC.out
  have HG2 := HG.out
  have I2 := hid I.out
  have HB2 := hid HB.out
  dsimp only [boxC] at hW
  rw [← hW]
  rw [show w.alloc (boxC ⟨cn, ls, ct, ms, cap⟩ lv0 mv0) = W from HW.out.symm] at CC2 HG2 I2 HB2
  rw [← hg] at CC2 HG2 ⊢
  have c0 : W.cell? ⟨g, 0, none⟩ = some (.int .i64 cn) := CC2.1
  have c1 : W.cell? ⟨g, 1, none⟩ = some lv0 := CC2.2.1
  have c2 : W.cell? ⟨g, 2, none⟩ = some (.int .i64 ct) := CC2.2.2.1
  have c3 : W.cell? ⟨g, 3, none⟩ = some mv0 := CC2.2.2.2.1
  have c4 : W.cell? ⟨g, 4, none⟩ = some (.int .i64 cap) := CC2.2.2.2.2
  clear CC2
  clear CC HG I HB hW HW hg
  have KA := fun X (b : Below W.heap.size W X) => may_c ⟨cn, ls, ct, ms, cap⟩ lv0 mv0 X (I2.out.grow b)
  have KB := fun X (b : Below W.heap.size W X) => rmay_c ⟨cn, ls, ct, ms, cap⟩ lv0 mv0 X (I2.out.grow b)
  generalize Plain.mayC ⟨cn, ls, ct, ms, cap⟩ = r at KA KB
  have HA := hid KA
  have HBB := hid KB
  clear KA KB
  have HS := hid (fun (X : World) (b : Below W.heap.size W X) => (show X.cell? ⟨g, 0, none⟩ = some (.int .i64 cn) ∧ X.cell? ⟨g, 1, none⟩ = some lv0 ∧ X.cell? ⟨g, 2, none⟩ = some (.int .i64 ct) ∧ X.cell? ⟨g, 3, none⟩ = some mv0 ∧ X.cell? ⟨g, 4, none⟩ = some (.int .i64 cap) from
    ⟨(b.cell (p := ⟨g, 0, none⟩) HG2).trans c0, (b.cell (p := ⟨g, 1, none⟩) HG2).trans c1, (b.cell (p := ⟨g, 2, none⟩) HG2).trans c2, (b.cell (p := ⟨g, 3, none⟩) HG2).trans c3, (b.cell (p := ⟨g, 4, none⟩) HG2).trans c4⟩))
  have b0 := hid (show Below W.heap.size W W.drew from (Below.refl _ _).drew)
  go_region_held3 (fun w' => w'.cell? ⟨g, 0, none⟩ = some (.int .i64 cn) ∧ w'.cell? ⟨g, 1, none⟩ = some lv0 ∧ w'.cell? ⟨g, 2, none⟩ = some (.int .i64 ct) ∧ w'.cell? ⟨g, 3, none⟩ = some mv0 ∧ w'.cell? ⟨g, 4, none⟩ = some (.int .i64 cap)) (go_keep)
    (first
     | (go_at_call 9; first
        | (refine (HA.out _ b0.out).mono ?_; rintro e w1 ⟨rfl, hb⟩; have b1 := hid (b0.out.trans (hb.mono b0.out.size)); obtain ⟨f0, f1, f2, f3, f4⟩ := HS.out w1 b1.out; clear hb)
        | (refine (HA.out _ b1.out).mono ?_; rintro e w2 ⟨rfl, hb⟩; have b2 := hid (b1.out.trans (hb.mono b1.out.size)); obtain ⟨g0, g1, g2, g3, g4⟩ := HS.out w2 b2.out; clear hb))
     | (go_at_call 10; first
        | (refine (HBB.out _ b0.out).mono ?_; rintro e w1 ⟨rfl, hb⟩; have b1 := hid (b0.out.trans (hb.mono b0.out.size)); obtain ⟨f0, f1, f2, f3, f4⟩ := HS.out w1 b1.out; clear hb)
        | (refine (HBB.out _ b1.out).mono ?_; rintro e w2 ⟨rfl, hb⟩; have b2 := hid (b1.out.trans (hb.mono b1.out.size)); obtain ⟨g0, g1, g2, g3, g4⟩ := HS.out w2 b2.out; clear hb)))
  all_goals
    cases r
  all_goals
    go_wp2
    go_ret
    exact ⟨rfl, HB2.out.trans (b2.out.mono HB2.out.size)⟩

set_option maxRecDepth 100000 in
theorem lifted (os : Os) (started : os.Started) (H : Type) (enc : TypeId × Value → H) :
    ReturnsInHanded {} Try.checked os 3 .any (Rows.frameMaysSpec.pre6 enc Try.prog Try.f3 Rows.frameMaysRow.domain false) (Rows.frameMaysSpec.post enc Try.prog Try.f3 false true false false) := by
  refine returnsInHanded_of_change (C := Try.checked) own started (by kernel_rfl) Try.func3
    (ChangeSpec.witness6 (enc := enc) (C := Try.checked) false ⟨#[], #[.agg #[.int .i64 0, .slice none 0 0, .int .i64 0, .slice none 0 0, .int .i64 0]], []⟩ 8 (by kernel_rfl) (by kernel_rfl) (by kernel_rfl) (by kernel_rfl)) ?_
  intro W base args ds gs before hval0 hW hcnd _
  have hval : ∀ (j : Nat) t v, Try.f3.params[j]? = some t → args[j]? = some v → Value.okWide Try.prog W .any base t v := hval0
  have hW' := hW
  obtain ⟨p, q, hA0, hV, rfl, hfz, hnd⟩ := hW
  have hA : DataW.TrodAll enc Try.prog W 0 (fun _ => true) true Try.f3.params.toList args.toList ds p := hA0
  rw [Try.params3] at hA hval
  obtain ⟨v0, vs0, d0, ds0, p0, q0, hargs, rfl, rfl, h0, r0⟩ := trodAll_cons hA
  obtain ⟨rfl, rfl, rfl⟩ := trodAll_nil r0
  obtain rfl : args = #[v0] := by cases args; simp_all
  obtain ⟨rfl, rfl⟩ := trodVars_none hV
  have k0 := h0
  have lt0 : ∀ x ∈ p0, x.block < W.heap.size := by obtain ⟨m, hm⟩ := k0; exact DataW.trod_lt m _ _ _ hm
  obtain ⟨c0, lv0, mv0, rfl, i0, _, _, _⟩ := cf_open Try.underlying24 (by kernel_rfl) ⟨rfl, rfl⟩ ⟨rfl, rfl⟩ ⟨rfl, rfl⟩ ⟨rfl, rfl⟩ ⟨rfl, rfl⟩ Try.underlying22 (by kernel_rfl) Try.underlying3 (by kernel_rfl) (hval 0 24 v0 rfl rfl) h0
  clear hA0 hval0
  refine (walk W c0 lv0 mv0 i0).mono fun e W' ⟨he, bel⟩ => ?_
  subst he
  exact ⟨_, rfl, _, _, _, [], _, [], hW', trodAll_mk1 (shut_bool Try.underlying4 _), (trodAll_cons_mk (Below.trod laidOut (by kernel_rfl) (of_decide_eq_true (by kernel_rfl)) k0 bel lt0) trodAll_mk0), rfl, bel.frame _, fun h => by cases h⟩

theorem over : Rows.frameMaysRow.holds Try.pinned (OpenSpec.ofChange Rows.frameMaysSpec) :=
  OpenClaim.holds_of_wide 3 Try.f3 rfl rfl rfl rfl rfl rfl rfl ⟨rfl, rfl, rfl, rfl, rfl⟩ rfl rfl rfl rfl rfl (by kernel_rfl) Try.func3 (by kernel_rfl)
    (of_decide_eq_true (by kernel_rfl)) (by unfold Func.isWrapper; first | (rw [if_pos (by decide +kernel)]; kernel_rfl) | (rw [if_neg (by decide +kernel)]; exact ⟨rfl, rfl⟩))
    (fun os started H enc _ => lifted os started H enc)

end frameMays

theorem frameMays_holds : Rows.FrameMaysSaid := frameMays.over
#print axioms frameMays_holds
end Go.Proofs.Ytkmnofmhjoehial
