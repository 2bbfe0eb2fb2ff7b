/- Proved: for every list of affairs and every first number the law TallyAny returns true: in whatever order they learn of each other, they come to one tally. Conditions: none. -/
import Derived.Test.YtcdlgpickjiikagRows
import Derived.WalkKit
import Derived.ProofKit
import Derived.OpenShut
import Derived.WalkSmall
import Derived.ShutString
import Derived.ChangeOld
import Derived.Below
import Derived.Test.YtcdlgpickjiikagTkn
import Derived.Test.YtcdlgpickjiikagTai
import Derived.Test.YtcdlgpickjiikagTsy
import Derived.Test.YtcdlgpickjiikagTo
import Derived.Deep.RegionHeld3
import Derived.Deep.Cut
import Derived.Deep.CutRange
namespace Go.Proofs.Ytcdlgpickjiikag
namespace tallyAny
open Go.ChangeShapes Go.WideShapes Go.ChangeAt Go.RowKit
set_option linter.unusedVariables false

theorem own : ownKnob Try.prog.godebug = none := by kernel_rfl
theorem laidOut : laidOutB Try.prog = true := by kernel_rfl

set_option maxHeartbeats 16000000 in
set_option maxRecDepth 100000 in
theorem walk (w : World) (v0 : Value) (l0 : List Plain.De) (s0 : SegD w v0 l0) (r0 : ∀ j, j < l0.length → InD (l0.getD j default)) (a1 : Int) (w1 : -9223372036854775808 ≤ a1 ∧ a1 ≤ 9223372036854775807) :
    Calls Try.prog 5 #[v0, .int .i64 a1] w fun e w' => e = .returned (.bool true) ∧ Below w.heap.size w w' := by
  obtain ⟨v1, v2⟩ := w1
  have K0 := known_c v0 l0 40 (by omega) a1 v1 v2 w s0 r0
  rw [show ((40 : Nat) : Int) = 40 from rfl] at K0
  have INV := hid (Plain.inv_known (1 + a1 % 50) (by omega) l0 (min l0.length 40) (by omega))
  have SQ := hid INV.out.sq
  generalize Plain.knownT (1 + a1 % 50) l0 (min l0.length 40) = T at *
  clear s0 r0
  go_enter Try.func5, Try.ntmps5
  go_wp2_with fail
  refine K0.mono ?_
  rintro e W0 ⟨g, VM, VU, rfl, ki⟩
  have IX := hid (show AI w W0 g VM VU T [] from ⟨ki, fun e he => by cases he⟩)
  clear ki K0
  have c0 : W0.cell? ⟨g, 0, none⟩ = some (VM 0) := IX.out.ki.tri.c0 0 (by omega)
  have c1 : W0.cell? ⟨g, 1, none⟩ = some (VU 0) := IX.out.ki.tri.c1 0 (by omega)
  have c2 : W0.cell? ⟨g, 2, none⟩ = some (VM 1) := IX.out.ki.tri.c0 1 (by omega)
  have c3 : W0.cell? ⟨g, 3, none⟩ = some (VU 1) := IX.out.ki.tri.c1 1 (by omega)
  have gl0 : g < W0.heap.size := IX.out.ki.tri.lt
  have ne0 : ¬ W0.heap.size = g := by omega
  have bA := hid (show Below W0.heap.size W0 W0.drew from (Below.refl _ _).drew)
  have bB := hid (show Below W0.heap.size W0 (W0.alloc (.cells #[.slice none 0 0, .slice none 0 0] 25)).drew from ((Below.refl _ _).alloc (Nat.le_refl _) _).drew)
  have K := fun X (b : Below W0.heap.size W0 X) => merge_ok (VM 0) (VU 0) (VM 1) (VU 1) (T 0) (T 1) 3 X ((IX.out.ki.has' 0 (by omega)).grow b) ((IX.out.ki.has' 1 (by omega)).grow b) (SQ.out 0 (by omega)) (SQ.out 1 (by omega))
  go_wp2
  go_cut [7, 8] from 32 to 41 (fun sa sb wx => ∃ mb x y, sa = .pointer (some ⟨mb, 0, none⟩) ∧ sb = .int .i64 0 ∧ AI w wx g VM VU T ((mb, x, y, Plain.mergeT (T 0) (T 1)) :: []))
  case first =>
    go_region_held3 (fun w' => w'.cell? ⟨g, 0, none⟩ = some (VM 0) ∧ w'.cell? ⟨g, 1, none⟩ = some (VU 0) ∧ w'.cell? ⟨g, 2, none⟩ = some (VM 1) ∧ w'.cell? ⟨g, 3, none⟩ = some (VU 1)) (go_keep)
      ((go_at_call 7; first
      | (refine (K _ bA.out).mono ?_; rintro e w' ⟨x, y, rfl, hp, b⟩; have HP := hid hp; have BB := hid (bA.out.trans b); obtain ⟨qm, rm, dm, qu, ru, du, rfl, rfl⟩ := hp.has.forms; have IC := hid (IX.out.step BB.out); have f0 : w'.cell? ⟨g, 0, none⟩ = some (VM 0) := IC.out.ki.tri.c0 0 (by omega); have f1 : w'.cell? ⟨g, 1, none⟩ = some (VU 0) := IC.out.ki.tri.c1 0 (by omega); have f2 : w'.cell? ⟨g, 2, none⟩ = some (VM 1) := IC.out.ki.tri.c0 1 (by omega); have f3 : w'.cell? ⟨g, 3, none⟩ = some (VU 1) := IC.out.ki.tri.c1 1 (by omega); have nf0 : ¬ w'.heap.size = g := (by have : g < w'.heap.size := IC.out.ki.tri.lt; omega); clear hp b)
      | (refine (K _ bB.out).mono ?_; rintro e w' ⟨x, y, rfl, hp, b⟩; have HP := hid hp; have BB := hid (bB.out.trans (b.mono bB.out.size)); obtain ⟨qm, rm, dm, qu, ru, du, rfl, rfl⟩ := hp.has.forms; have IC := hid (IX.out.step BB.out); have f0 : w'.cell? ⟨g, 0, none⟩ = some (VM 0) := IC.out.ki.tri.c0 0 (by omega); have f1 : w'.cell? ⟨g, 1, none⟩ = some (VU 0) := IC.out.ki.tri.c1 0 (by omega); have f2 : w'.cell? ⟨g, 2, none⟩ = some (VM 1) := IC.out.ki.tri.c0 1 (by omega); have f3 : w'.cell? ⟨g, 3, none⟩ = some (VU 1) := IC.out.ki.tri.c1 1 (by omega); have nf0 : ¬ w'.heap.size = g := (by have : g < w'.heap.size := IC.out.ki.tri.lt; omega); have RZ := hid (show Res w' W0.heap.size (.slice none 0 0) (.slice none 0 0) from (b.block _ (by simp)).trans (Deep.blk_alloc_new W0 _)); have z0 := RZ.out.c0; have z1 := RZ.out.c1; have z2 := RZ.out.frozen 0; have z3 := RZ.out.frozen 1; have z4 := RZ.out.lt; clear hp b)))
    all_goals (try go_wp2_with fail)
    all_goals go_meet
    all_goals first
      | exact ⟨_, _, _, rfl, rfl, (IX.out.step (box_late BB.out HP.out.has).1).push (box_late BB.out HP.out.has).2.1 (box_late BB.out HP.out.has).2.2⟩
      | exact ⟨_, _, _, rfl, rfl, (IX.out.step (box_early BB.out RZ.out HP.out (fun b hb => by simpa using hb)).1).push (box_early BB.out RZ.out HP.out (fun b hb => by simpa using hb)).2.1 (box_early BB.out RZ.out HP.out (fun b hb => by simpa using hb)).2.2⟩
  case rest =>
    obtain ⟨mb1, x1, y1, rfl, rfl, ai⟩ := hcut
    have IY := hid ai
    obtain ⟨pm1, nm1, cm1, pu1, nu1, cu1, rfl, rfl⟩ := (ai.bx _ (.head _)).2.forms
    clear ai K IX c0 c1 c2 c3 gl0 ne0 bA bB
    obtain ⟨W1, hW1⟩ : ∃ W1, W1 = wc := ⟨_, rfl⟩
    subst hW1
    have IX := IY
    clear IY
    have c0 : W1.cell? ⟨g, 2, none⟩ = some (VM 1) := IX.out.ki.tri.c0 1 (by omega)
    have c1 : W1.cell? ⟨g, 3, none⟩ = some (VU 1) := IX.out.ki.tri.c1 1 (by omega)
    have c2 : W1.cell? ⟨g, 0, none⟩ = some (VM 0) := IX.out.ki.tri.c0 0 (by omega)
    have c3 : W1.cell? ⟨g, 1, none⟩ = some (VU 0) := IX.out.ki.tri.c1 0 (by omega)
    have gl0 : g < W1.heap.size := IX.out.ki.tri.lt
    have ne0 : ¬ W1.heap.size = g := by omega
    have bA := hid (show Below W1.heap.size W1 W1.drew from (Below.refl _ _).drew)
    have bB := hid (show Below W1.heap.size W1 (W1.alloc (.cells #[.slice none 0 0, .slice none 0 0] 25)).drew from ((Below.refl _ _).alloc (Nat.le_refl _) _).drew)
    have K := fun X (b : Below W1.heap.size W1 X) => merge_ok (VM 1) (VU 1) (VM 0) (VU 0) (T 1) (T 0) 3 X ((IX.out.ki.has' 1 (by omega)).grow b) ((IX.out.ki.has' 0 (by omega)).grow b) (SQ.out 1 (by omega)) (SQ.out 0 (by omega))
    go_wp2
    go_cut [9, 10] from 42 to 51 (fun sa sb wx => ∃ mb x y, sa = .pointer (some ⟨mb, 0, none⟩) ∧ sb = .int .i64 0 ∧ AI w wx g VM VU T ((mb, x, y, Plain.mergeT (T 1) (T 0)) :: [(mb1, (.slice pm1 nm1 cm1), (.slice pu1 nu1 cu1), (Plain.mergeT (T 0) (T 1)))]))
    case first =>
      go_region_held3 (fun w' => w'.cell? ⟨g, 2, none⟩ = some (VM 1) ∧ w'.cell? ⟨g, 3, none⟩ = some (VU 1) ∧ w'.cell? ⟨g, 0, none⟩ = some (VM 0) ∧ w'.cell? ⟨g, 1, none⟩ = some (VU 0)) (go_keep)
        ((go_at_call 7; first
        | (refine (K _ bA.out).mono ?_; rintro e w' ⟨x, y, rfl, hp, b⟩; have HP := hid hp; have BB := hid (bA.out.trans b); obtain ⟨qm, rm, dm, qu, ru, du, rfl, rfl⟩ := hp.has.forms; have IC := hid (IX.out.step BB.out); have f0 : w'.cell? ⟨g, 2, none⟩ = some (VM 1) := IC.out.ki.tri.c0 1 (by omega); have f1 : w'.cell? ⟨g, 3, none⟩ = some (VU 1) := IC.out.ki.tri.c1 1 (by omega); have f2 : w'.cell? ⟨g, 0, none⟩ = some (VM 0) := IC.out.ki.tri.c0 0 (by omega); have f3 : w'.cell? ⟨g, 1, none⟩ = some (VU 0) := IC.out.ki.tri.c1 0 (by omega); have nf0 : ¬ w'.heap.size = g := (by have : g < w'.heap.size := IC.out.ki.tri.lt; omega); clear hp b)
        | (refine (K _ bB.out).mono ?_; rintro e w' ⟨x, y, rfl, hp, b⟩; have HP := hid hp; have BB := hid (bB.out.trans (b.mono bB.out.size)); obtain ⟨qm, rm, dm, qu, ru, du, rfl, rfl⟩ := hp.has.forms; have IC := hid (IX.out.step BB.out); have f0 : w'.cell? ⟨g, 2, none⟩ = some (VM 1) := IC.out.ki.tri.c0 1 (by omega); have f1 : w'.cell? ⟨g, 3, none⟩ = some (VU 1) := IC.out.ki.tri.c1 1 (by omega); have f2 : w'.cell? ⟨g, 0, none⟩ = some (VM 0) := IC.out.ki.tri.c0 0 (by omega); have f3 : w'.cell? ⟨g, 1, none⟩ = some (VU 0) := IC.out.ki.tri.c1 0 (by omega); have nf0 : ¬ w'.heap.size = g := (by have : g < w'.heap.size := IC.out.ki.tri.lt; omega); have RZ := hid (show Res w' W1.heap.size (.slice none 0 0) (.slice none 0 0) from (b.block _ (by simp)).trans (Deep.blk_alloc_new W1 _)); have z0 := RZ.out.c0; have z1 := RZ.out.c1; have z2 := RZ.out.frozen 0; have z3 := RZ.out.frozen 1; have z4 := RZ.out.lt; clear hp b)))
      all_goals (try go_wp2_with fail)
      all_goals go_meet
      all_goals first
        | exact ⟨_, _, _, rfl, rfl, (IX.out.step (box_late BB.out HP.out.has).1).push (box_late BB.out HP.out.has).2.1 (box_late BB.out HP.out.has).2.2⟩
        | exact ⟨_, _, _, rfl, rfl, (IX.out.step (box_early BB.out RZ.out HP.out (fun b hb => by simpa using hb)).1).push (box_early BB.out RZ.out HP.out (fun b hb => by simpa using hb)).2.1 (box_early BB.out RZ.out HP.out (fun b hb => by simpa using hb)).2.2⟩
    case rest =>
      obtain ⟨mb2, x2, y2, rfl, rfl, ai⟩ := hcut
      have IY := hid ai
      obtain ⟨pm2, nm2, cm2, pu2, nu2, cu2, rfl, rfl⟩ := (ai.bx _ (.head _)).2.forms
      clear ai K IX c0 c1 c2 c3 gl0 ne0 bA bB
      obtain ⟨W2, hW2⟩ : ∃ W2, W2 = wc := ⟨_, rfl⟩
      subst hW2
      have IX := IY
      clear IY
      have c0 : W2.cell? ⟨g, 2, none⟩ = some (VM 1) := IX.out.ki.tri.c0 1 (by omega)
      have c1 : W2.cell? ⟨g, 3, none⟩ = some (VU 1) := IX.out.ki.tri.c1 1 (by omega)
      have c2 : W2.cell? ⟨g, 4, none⟩ = some (VM 2) := IX.out.ki.tri.c0 2 (by omega)
      have c3 : W2.cell? ⟨g, 5, none⟩ = some (VU 2) := IX.out.ki.tri.c1 2 (by omega)
      have gl0 : g < W2.heap.size := IX.out.ki.tri.lt
      have ne0 : ¬ W2.heap.size = g := by omega
      have bA := hid (show Below W2.heap.size W2 W2.drew from (Below.refl _ _).drew)
      have bB := hid (show Below W2.heap.size W2 (W2.alloc (.cells #[.slice none 0 0, .slice none 0 0] 25)).drew from ((Below.refl _ _).alloc (Nat.le_refl _) _).drew)
      have K := fun X (b : Below W2.heap.size W2 X) => merge_ok (VM 1) (VU 1) (VM 2) (VU 2) (T 1) (T 2) 3 X ((IX.out.ki.has' 1 (by omega)).grow b) ((IX.out.ki.has' 2 (by omega)).grow b) (SQ.out 1 (by omega)) (SQ.out 2 (by omega))
      go_wp2
      go_cut [11, 12] from 52 to 61 (fun sa sb wx => ∃ mb x y, sa = .pointer (some ⟨mb, 0, none⟩) ∧ sb = .int .i64 0 ∧ AI w wx g VM VU T ((mb, x, y, Plain.mergeT (T 1) (T 2)) :: [(mb2, (.slice pm2 nm2 cm2), (.slice pu2 nu2 cu2), (Plain.mergeT (T 1) (T 0))), (mb1, (.slice pm1 nm1 cm1), (.slice pu1 nu1 cu1), (Plain.mergeT (T 0) (T 1)))]))
      case first =>
        go_region_held3 (fun w' => w'.cell? ⟨g, 2, none⟩ = some (VM 1) ∧ w'.cell? ⟨g, 3, none⟩ = some (VU 1) ∧ w'.cell? ⟨g, 4, none⟩ = some (VM 2) ∧ w'.cell? ⟨g, 5, none⟩ = some (VU 2)) (go_keep)
          ((go_at_call 7; first
          | (refine (K _ bA.out).mono ?_; rintro e w' ⟨x, y, rfl, hp, b⟩; have HP := hid hp; have BB := hid (bA.out.trans b); obtain ⟨qm, rm, dm, qu, ru, du, rfl, rfl⟩ := hp.has.forms; have IC := hid (IX.out.step BB.out); have f0 : w'.cell? ⟨g, 2, none⟩ = some (VM 1) := IC.out.ki.tri.c0 1 (by omega); have f1 : w'.cell? ⟨g, 3, none⟩ = some (VU 1) := IC.out.ki.tri.c1 1 (by omega); have f2 : w'.cell? ⟨g, 4, none⟩ = some (VM 2) := IC.out.ki.tri.c0 2 (by omega); have f3 : w'.cell? ⟨g, 5, none⟩ = some (VU 2) := IC.out.ki.tri.c1 2 (by omega); have nf0 : ¬ w'.heap.size = g := (by have : g < w'.heap.size := IC.out.ki.tri.lt; omega); clear hp b)
          | (refine (K _ bB.out).mono ?_; rintro e w' ⟨x, y, rfl, hp, b⟩; have HP := hid hp; have BB := hid (bB.out.trans (b.mono bB.out.size)); obtain ⟨qm, rm, dm, qu, ru, du, rfl, rfl⟩ := hp.has.forms; have IC := hid (IX.out.step BB.out); have f0 : w'.cell? ⟨g, 2, none⟩ = some (VM 1) := IC.out.ki.tri.c0 1 (by omega); have f1 : w'.cell? ⟨g, 3, none⟩ = some (VU 1) := IC.out.ki.tri.c1 1 (by omega); have f2 : w'.cell? ⟨g, 4, none⟩ = some (VM 2) := IC.out.ki.tri.c0 2 (by omega); have f3 : w'.cell? ⟨g, 5, none⟩ = some (VU 2) := IC.out.ki.tri.c1 2 (by omega); have nf0 : ¬ w'.heap.size = g := (by have : g < w'.heap.size := IC.out.ki.tri.lt; omega); have RZ := hid (show Res w' W2.heap.size (.slice none 0 0) (.slice none 0 0) from (b.block _ (by simp)).trans (Deep.blk_alloc_new W2 _)); have z0 := RZ.out.c0; have z1 := RZ.out.c1; have z2 := RZ.out.frozen 0; have z3 := RZ.out.frozen 1; have z4 := RZ.out.lt; clear hp b)))
        all_goals (try go_wp2_with fail)
        all_goals go_meet
        all_goals first
          | exact ⟨_, _, _, rfl, rfl, (IX.out.step (box_late BB.out HP.out.has).1).push (box_late BB.out HP.out.has).2.1 (box_late BB.out HP.out.has).2.2⟩
          | exact ⟨_, _, _, rfl, rfl, (IX.out.step (box_early BB.out RZ.out HP.out (fun b hb => by simpa using hb)).1).push (box_early BB.out RZ.out HP.out (fun b hb => by simpa using hb)).2.1 (box_early BB.out RZ.out HP.out (fun b hb => by simpa using hb)).2.2⟩
      case rest =>
        obtain ⟨mb3, x3, y3, rfl, rfl, ai⟩ := hcut
        have IY := hid ai
        obtain ⟨pm3, nm3, cm3, pu3, nu3, cu3, rfl, rfl⟩ := (ai.bx _ (.head _)).2.forms
        clear ai K IX c0 c1 c2 c3 gl0 ne0 bA bB
        obtain ⟨W3, hW3⟩ : ∃ W3, W3 = wc := ⟨_, rfl⟩
        subst hW3
        have IX := IY
        clear IY
        have c0 : W3.cell? ⟨mb1, 0, none⟩ = some ((.slice pm1 nm1 cm1)) := (IX.out.bx (mb1, (.slice pm1 nm1 cm1), (.slice pu1 nu1 cu1), (Plain.mergeT (T 0) (T 1))) (.tail _ (.tail _ (.head _)))).1.c0
        have c1 : W3.cell? ⟨mb1, 1, none⟩ = some ((.slice pu1 nu1 cu1)) := (IX.out.bx (mb1, (.slice pm1 nm1 cm1), (.slice pu1 nu1 cu1), (Plain.mergeT (T 0) (T 1))) (.tail _ (.tail _ (.head _)))).1.c1
        have c2 : W3.cell? ⟨g, 4, none⟩ = some (VM 2) := IX.out.ki.tri.c0 2 (by omega)
        have c3 : W3.cell? ⟨g, 5, none⟩ = some (VU 2) := IX.out.ki.tri.c1 2 (by omega)
        have gl0 : mb1 < W3.heap.size := (IX.out.bx (mb1, (.slice pm1 nm1 cm1), (.slice pu1 nu1 cu1), (Plain.mergeT (T 0) (T 1))) (.tail _ (.tail _ (.head _)))).1.lt
        have ne0 : ¬ W3.heap.size = mb1 := by omega
        have gl1 : g < W3.heap.size := IX.out.ki.tri.lt
        have ne1 : ¬ W3.heap.size = g := by omega
        have bA := hid (show Below W3.heap.size W3 W3.drew from (Below.refl _ _).drew)
        have bB := hid (show Below W3.heap.size W3 (W3.alloc (.cells #[.slice none 0 0, .slice none 0 0] 25)).drew from ((Below.refl _ _).alloc (Nat.le_refl _) _).drew)
        have K := fun X (b : Below W3.heap.size W3 X) => merge_ok (.slice pm1 nm1 cm1) (.slice pu1 nu1 cu1) (VM 2) (VU 2) (Plain.mergeT (T 0) (T 1)) (T 2) 3 X ((IX.out.bx (mb1, (.slice pm1 nm1 cm1), (.slice pu1 nu1 cu1), (Plain.mergeT (T 0) (T 1))) (.tail _ (.tail _ (.head _)))).2.grow b) ((IX.out.ki.has' 2 (by omega)).grow b) (Plain.sq_merge (SQ.out 0 (by omega)) (SQ.out 1 (by omega))) (SQ.out 2 (by omega))
        go_wp2
        go_cut [13, 14] from 62 to 69 (fun sa sb wx => ∃ mb x y, sa = .pointer (some ⟨mb, 0, none⟩) ∧ sb = .int .i64 0 ∧ AI w wx g VM VU T ((mb, x, y, Plain.mergeT (Plain.mergeT (T 0) (T 1)) (T 2)) :: [(mb3, (.slice pm3 nm3 cm3), (.slice pu3 nu3 cu3), (Plain.mergeT (T 1) (T 2))), (mb2, (.slice pm2 nm2 cm2), (.slice pu2 nu2 cu2), (Plain.mergeT (T 1) (T 0))), (mb1, (.slice pm1 nm1 cm1), (.slice pu1 nu1 cu1), (Plain.mergeT (T 0) (T 1)))]))
        case first =>
          go_region_held3 (fun w' => w'.cell? ⟨mb1, 0, none⟩ = some ((.slice pm1 nm1 cm1)) ∧ w'.cell? ⟨mb1, 1, none⟩ = some ((.slice pu1 nu1 cu1)) ∧ w'.cell? ⟨g, 4, none⟩ = some (VM 2) ∧ w'.cell? ⟨g, 5, none⟩ = some (VU 2)) (go_keep)
            ((go_at_call 7; first
            | (refine (K _ bA.out).mono ?_; rintro e w' ⟨x, y, rfl, hp, b⟩; have HP := hid hp; have BB := hid (bA.out.trans b); obtain ⟨qm, rm, dm, qu, ru, du, rfl, rfl⟩ := hp.has.forms; have IC := hid (IX.out.step BB.out); have f0 : w'.cell? ⟨mb1, 0, none⟩ = some ((.slice pm1 nm1 cm1)) := (IC.out.bx (mb1, (.slice pm1 nm1 cm1), (.slice pu1 nu1 cu1), (Plain.mergeT (T 0) (T 1))) (.tail _ (.tail _ (.head _)))).1.c0; have f1 : w'.cell? ⟨mb1, 1, none⟩ = some ((.slice pu1 nu1 cu1)) := (IC.out.bx (mb1, (.slice pm1 nm1 cm1), (.slice pu1 nu1 cu1), (Plain.mergeT (T 0) (T 1))) (.tail _ (.tail _ (.head _)))).1.c1; have f2 : w'.cell? ⟨g, 4, none⟩ = some (VM 2) := IC.out.ki.tri.c0 2 (by omega); have f3 : w'.cell? ⟨g, 5, none⟩ = some (VU 2) := IC.out.ki.tri.c1 2 (by omega); have nf0 : ¬ w'.heap.size = mb1 := (by have : mb1 < w'.heap.size := (IC.out.bx (mb1, (.slice pm1 nm1 cm1), (.slice pu1 nu1 cu1), (Plain.mergeT (T 0) (T 1))) (.tail _ (.tail _ (.head _)))).1.lt; omega); have nf1 : ¬ w'.heap.size = g := (by have : g < w'.heap.size := IC.out.ki.tri.lt; omega); clear hp b)
            | (refine (K _ bB.out).mono ?_; rintro e w' ⟨x, y, rfl, hp, b⟩; have HP := hid hp; have BB := hid (bB.out.trans (b.mono bB.out.size)); obtain ⟨qm, rm, dm, qu, ru, du, rfl, rfl⟩ := hp.has.forms; have IC := hid (IX.out.step BB.out); have f0 : w'.cell? ⟨mb1, 0, none⟩ = some ((.slice pm1 nm1 cm1)) := (IC.out.bx (mb1, (.slice pm1 nm1 cm1), (.slice pu1 nu1 cu1), (Plain.mergeT (T 0) (T 1))) (.tail _ (.tail _ (.head _)))).1.c0; have f1 : w'.cell? ⟨mb1, 1, none⟩ = some ((.slice pu1 nu1 cu1)) := (IC.out.bx (mb1, (.slice pm1 nm1 cm1), (.slice pu1 nu1 cu1), (Plain.mergeT (T 0) (T 1))) (.tail _ (.tail _ (.head _)))).1.c1; have f2 : w'.cell? ⟨g, 4, none⟩ = some (VM 2) := IC.out.ki.tri.c0 2 (by omega); have f3 : w'.cell? ⟨g, 5, none⟩ = some (VU 2) := IC.out.ki.tri.c1 2 (by omega); have nf0 : ¬ w'.heap.size = mb1 := (by have : mb1 < w'.heap.size := (IC.out.bx (mb1, (.slice pm1 nm1 cm1), (.slice pu1 nu1 cu1), (Plain.mergeT (T 0) (T 1))) (.tail _ (.tail _ (.head _)))).1.lt; omega); have nf1 : ¬ w'.heap.size = g := (by have : g < w'.heap.size := IC.out.ki.tri.lt; omega); have RZ := hid (show Res w' W3.heap.size (.slice none 0 0) (.slice none 0 0) from (b.block _ (by simp)).trans (Deep.blk_alloc_new W3 _)); have z0 := RZ.out.c0; have z1 := RZ.out.c1; have z2 := RZ.out.frozen 0; have z3 := RZ.out.frozen 1; have z4 := RZ.out.lt; clear hp b)))
          all_goals (try go_wp2_with fail)
          all_goals go_meet
          all_goals first
            | exact ⟨_, _, _, rfl, rfl, (IX.out.step (box_late BB.out HP.out.has).1).push (box_late BB.out HP.out.has).2.1 (box_late BB.out HP.out.has).2.2⟩
            | exact ⟨_, _, _, rfl, rfl, (IX.out.step (box_early BB.out RZ.out HP.out (fun b hb => by simpa using hb)).1).push (box_early BB.out RZ.out HP.out (fun b hb => by simpa using hb)).2.1 (box_early BB.out RZ.out HP.out (fun b hb => by simpa using hb)).2.2⟩
        case rest =>
          obtain ⟨mb4, x4, y4, rfl, rfl, ai⟩ := hcut
          have IY := hid ai
          obtain ⟨pm4, nm4, cm4, pu4, nu4, cu4, rfl, rfl⟩ := (ai.bx _ (.head _)).2.forms
          clear ai K IX c0 c1 c2 c3 gl0 ne0 gl1 ne1 bA bB
          obtain ⟨W4, hW4⟩ : ∃ W4, W4 = wc := ⟨_, rfl⟩
          subst hW4
          have IX := IY
          clear IY
          have c0 : W4.cell? ⟨g, 0, none⟩ = some (VM 0) := IX.out.ki.tri.c0 0 (by omega)
          have c1 : W4.cell? ⟨g, 1, none⟩ = some (VU 0) := IX.out.ki.tri.c1 0 (by omega)
          have c2 : W4.cell? ⟨mb3, 0, none⟩ = some ((.slice pm3 nm3 cm3)) := (IX.out.bx (mb3, (.slice pm3 nm3 cm3), (.slice pu3 nu3 cu3), (Plain.mergeT (T 1) (T 2))) (.tail _ (.head _))).1.c0
          have c3 : W4.cell? ⟨mb3, 1, none⟩ = some ((.slice pu3 nu3 cu3)) := (IX.out.bx (mb3, (.slice pm3 nm3 cm3), (.slice pu3 nu3 cu3), (Plain.mergeT (T 1) (T 2))) (.tail _ (.head _))).1.c1
          have gl0 : g < W4.heap.size := IX.out.ki.tri.lt
          have ne0 : ¬ W4.heap.size = g := by omega
          have gl1 : mb3 < W4.heap.size := (IX.out.bx (mb3, (.slice pm3 nm3 cm3), (.slice pu3 nu3 cu3), (Plain.mergeT (T 1) (T 2))) (.tail _ (.head _))).1.lt
          have ne1 : ¬ W4.heap.size = mb3 := by omega
          have bA := hid (show Below W4.heap.size W4 W4.drew from (Below.refl _ _).drew)
          have bB := hid (show Below W4.heap.size W4 (W4.alloc (.cells #[.slice none 0 0, .slice none 0 0] 25)).drew from ((Below.refl _ _).alloc (Nat.le_refl _) _).drew)
          have K := fun X (b : Below W4.heap.size W4 X) => merge_ok (VM 0) (VU 0) (.slice pm3 nm3 cm3) (.slice pu3 nu3 cu3) (T 0) (Plain.mergeT (T 1) (T 2)) 3 X ((IX.out.ki.has' 0 (by omega)).grow b) ((IX.out.bx (mb3, (.slice pm3 nm3 cm3), (.slice pu3 nu3 cu3), (Plain.mergeT (T 1) (T 2))) (.tail _ (.head _))).2.grow b) (SQ.out 0 (by omega)) (Plain.sq_merge (SQ.out 1 (by omega)) (SQ.out 2 (by omega)))
          go_wp2
          go_cut [15, 16] from 70 to 77 (fun sa sb wx => ∃ mb x y, sa = .pointer (some ⟨mb, 0, none⟩) ∧ sb = .int .i64 0 ∧ AI w wx g VM VU T ((mb, x, y, Plain.mergeT (T 0) (Plain.mergeT (T 1) (T 2))) :: [(mb4, (.slice pm4 nm4 cm4), (.slice pu4 nu4 cu4), (Plain.mergeT (Plain.mergeT (T 0) (T 1)) (T 2))), (mb3, (.slice pm3 nm3 cm3), (.slice pu3 nu3 cu3), (Plain.mergeT (T 1) (T 2))), (mb2, (.slice pm2 nm2 cm2), (.slice pu2 nu2 cu2), (Plain.mergeT (T 1) (T 0))), (mb1, (.slice pm1 nm1 cm1), (.slice pu1 nu1 cu1), (Plain.mergeT (T 0) (T 1)))]))
          case first =>
            go_region_held3 (fun w' => w'.cell? ⟨g, 0, none⟩ = some (VM 0) ∧ w'.cell? ⟨g, 1, none⟩ = some (VU 0) ∧ w'.cell? ⟨mb3, 0, none⟩ = some ((.slice pm3 nm3 cm3)) ∧ w'.cell? ⟨mb3, 1, none⟩ = some ((.slice pu3 nu3 cu3))) (go_keep)
              ((go_at_call 7; first
              | (refine (K _ bA.out).mono ?_; rintro e w' ⟨x, y, rfl, hp, b⟩; have HP := hid hp; have BB := hid (bA.out.trans b); obtain ⟨qm, rm, dm, qu, ru, du, rfl, rfl⟩ := hp.has.forms; have IC := hid (IX.out.step BB.out); have f0 : w'.cell? ⟨g, 0, none⟩ = some (VM 0) := IC.out.ki.tri.c0 0 (by omega); have f1 : w'.cell? ⟨g, 1, none⟩ = some (VU 0) := IC.out.ki.tri.c1 0 (by omega); have f2 : w'.cell? ⟨mb3, 0, none⟩ = some ((.slice pm3 nm3 cm3)) := (IC.out.bx (mb3, (.slice pm3 nm3 cm3), (.slice pu3 nu3 cu3), (Plain.mergeT (T 1) (T 2))) (.tail _ (.head _))).1.c0; have f3 : w'.cell? ⟨mb3, 1, none⟩ = some ((.slice pu3 nu3 cu3)) := (IC.out.bx (mb3, (.slice pm3 nm3 cm3), (.slice pu3 nu3 cu3), (Plain.mergeT (T 1) (T 2))) (.tail _ (.head _))).1.c1; have nf0 : ¬ w'.heap.size = g := (by have : g < w'.heap.size := IC.out.ki.tri.lt; omega); have nf1 : ¬ w'.heap.size = mb3 := (by have : mb3 < w'.heap.size := (IC.out.bx (mb3, (.slice pm3 nm3 cm3), (.slice pu3 nu3 cu3), (Plain.mergeT (T 1) (T 2))) (.tail _ (.head _))).1.lt; omega); clear hp b)
              | (refine (K _ bB.out).mono ?_; rintro e w' ⟨x, y, rfl, hp, b⟩; have HP := hid hp; have BB := hid (bB.out.trans (b.mono bB.out.size)); obtain ⟨qm, rm, dm, qu, ru, du, rfl, rfl⟩ := hp.has.forms; have IC := hid (IX.out.step BB.out); have f0 : w'.cell? ⟨g, 0, none⟩ = some (VM 0) := IC.out.ki.tri.c0 0 (by omega); have f1 : w'.cell? ⟨g, 1, none⟩ = some (VU 0) := IC.out.ki.tri.c1 0 (by omega); have f2 : w'.cell? ⟨mb3, 0, none⟩ = some ((.slice pm3 nm3 cm3)) := (IC.out.bx (mb3, (.slice pm3 nm3 cm3), (.slice pu3 nu3 cu3), (Plain.mergeT (T 1) (T 2))) (.tail _ (.head _))).1.c0; have f3 : w'.cell? ⟨mb3, 1, none⟩ = some ((.slice pu3 nu3 cu3)) := (IC.out.bx (mb3, (.slice pm3 nm3 cm3), (.slice pu3 nu3 cu3), (Plain.mergeT (T 1) (T 2))) (.tail _ (.head _))).1.c1; have nf0 : ¬ w'.heap.size = g := (by have : g < w'.heap.size := IC.out.ki.tri.lt; omega); have nf1 : ¬ w'.heap.size = mb3 := (by have : mb3 < w'.heap.size := (IC.out.bx (mb3, (.slice pm3 nm3 cm3), (.slice pu3 nu3 cu3), (Plain.mergeT (T 1) (T 2))) (.tail _ (.head _))).1.lt; omega); have RZ := hid (show Res w' W4.heap.size (.slice none 0 0) (.slice none 0 0) from (b.block _ (by simp)).trans (Deep.blk_alloc_new W4 _)); have z0 := RZ.out.c0; have z1 := RZ.out.c1; have z2 := RZ.out.frozen 0; have z3 := RZ.out.frozen 1; have z4 := RZ.out.lt; clear hp b)))
            all_goals (try go_wp2_with fail)
            all_goals go_meet
            all_goals first
              | exact ⟨_, _, _, rfl, rfl, (IX.out.step (box_late BB.out HP.out.has).1).push (box_late BB.out HP.out.has).2.1 (box_late BB.out HP.out.has).2.2⟩
              | exact ⟨_, _, _, rfl, rfl, (IX.out.step (box_early BB.out RZ.out HP.out (fun b hb => by simpa using hb)).1).push (box_early BB.out RZ.out HP.out (fun b hb => by simpa using hb)).2.1 (box_early BB.out RZ.out HP.out (fun b hb => by simpa using hb)).2.2⟩
          case rest =>
            obtain ⟨mb5, x5, y5, rfl, rfl, ai⟩ := hcut
            have IY := hid ai
            obtain ⟨pm5, nm5, cm5, pu5, nu5, cu5, rfl, rfl⟩ := (ai.bx _ (.head _)).2.forms
            clear ai K IX c0 c1 c2 c3 gl0 ne0 gl1 ne1 bA bB
            obtain ⟨W5, hW5⟩ : ∃ W5, W5 = wc := ⟨_, rfl⟩
            subst hW5
            have IX := IY
            clear IY
            have p00 := (IX.out.bx (mb4, (.slice pm4 nm4 cm4), (.slice pu4 nu4 cu4), (Plain.mergeT (Plain.mergeT (T 0) (T 1)) (T 2))) (.tail _ (.head _))).1.c0
            have p01 := (IX.out.bx (mb4, (.slice pm4 nm4 cm4), (.slice pu4 nu4 cu4), (Plain.mergeT (Plain.mergeT (T 0) (T 1)) (T 2))) (.tail _ (.head _))).1.c1
            go_wp2_with fail
            refine (merge_ok (.slice pm4 nm4 cm4) (.slice pu4 nu4 cu4) (.slice pm4 nm4 cm4) (.slice pu4 nu4 cu4) (Plain.mergeT (Plain.mergeT (T 0) (T 1)) (T 2)) (Plain.mergeT (Plain.mergeT (T 0) (T 1)) (T 2)) 3 _ (IX.out.bx (mb4, (.slice pm4 nm4 cm4), (.slice pu4 nu4 cu4), (Plain.mergeT (Plain.mergeT (T 0) (T 1)) (T 2))) (.tail _ (.head _))).2 (IX.out.bx (mb4, (.slice pm4 nm4 cm4), (.slice pu4 nu4 cu4), (Plain.mergeT (Plain.mergeT (T 0) (T 1)) (T 2))) (.tail _ (.head _))).2 (Plain.sq_merge (Plain.sq_merge (SQ.out 0 (by omega)) (SQ.out 1 (by omega))) (SQ.out 2 (by omega))) (Plain.sq_merge (Plain.sq_merge (SQ.out 0 (by omega)) (SQ.out 1 (by omega))) (SQ.out 2 (by omega)))).mono ?_
            rintro e W6 ⟨x6, y6, rfl, hp, b⟩
            obtain ⟨pm6, nm6, cm6, pu6, nu6, cu6, rfl, rfl⟩ := hp.has.forms
            have R6 := box_late (IX.out.step b |>.ki |> fun _ => b) hp.has
            have IY := hid ((IX.out.step R6.1).push R6.2.1 R6.2.2)
            clear R6 hp b IX
            clear p00 p01
            have p00 := (IY.out.bx (W6.heap.size, (.slice pm6 nm6 cm6), (.slice pu6 nu6 cu6), (Plain.mergeT (Plain.mergeT (Plain.mergeT (T 0) (T 1)) (T 2)) (Plain.mergeT (Plain.mergeT (T 0) (T 1)) (T 2)))) (.head _)).1.c0
            have p01 := (IY.out.bx (W6.heap.size, (.slice pm6 nm6 cm6), (.slice pu6 nu6 cu6), (Plain.mergeT (Plain.mergeT (Plain.mergeT (T 0) (T 1)) (T 2)) (Plain.mergeT (Plain.mergeT (T 0) (T 1)) (T 2)))) (.head _)).1.c1
            have p10 := (IY.out.bx (mb5, (.slice pm5 nm5 cm5), (.slice pu5 nu5 cu5), (Plain.mergeT (T 0) (Plain.mergeT (T 1) (T 2)))) (.tail _ (.head _))).1.c0
            have p11 := (IY.out.bx (mb5, (.slice pm5 nm5 cm5), (.slice pu5 nu5 cu5), (Plain.mergeT (T 0) (Plain.mergeT (T 1) (T 2)))) (.tail _ (.head _))).1.c1
            have p20 := (IY.out.bx (mb4, (.slice pm4 nm4 cm4), (.slice pu4 nu4 cu4), (Plain.mergeT (Plain.mergeT (T 0) (T 1)) (T 2))) (.tail _ (.tail _ (.head _)))).1.c0
            have p21 := (IY.out.bx (mb4, (.slice pm4 nm4 cm4), (.slice pu4 nu4 cu4), (Plain.mergeT (Plain.mergeT (T 0) (T 1)) (T 2))) (.tail _ (.tail _ (.head _)))).1.c1
            have p30 := (IY.out.bx (mb2, (.slice pm2 nm2 cm2), (.slice pu2 nu2 cu2), (Plain.mergeT (T 1) (T 0))) (.tail _ (.tail _ (.tail _ (.tail _ (.head _)))))).1.c0
            have p31 := (IY.out.bx (mb2, (.slice pm2 nm2 cm2), (.slice pu2 nu2 cu2), (Plain.mergeT (T 1) (T 0))) (.tail _ (.tail _ (.tail _ (.tail _ (.head _)))))).1.c1
            have p40 := (IY.out.bx (mb1, (.slice pm1 nm1 cm1), (.slice pu1 nu1 cu1), (Plain.mergeT (T 0) (T 1))) (.tail _ (.tail _ (.tail _ (.tail _ (.tail _ (.head _))))))).1.c0
            have p41 := (IY.out.bx (mb1, (.slice pm1 nm1 cm1), (.slice pu1 nu1 cu1), (Plain.mergeT (T 0) (T 1))) (.tail _ (.tail _ (.tail _ (.tail _ (.tail _ (.head _))))))).1.c1
            go_wp2_with fail
            refine (may_g _ _ (Plain.mergeT (Plain.mergeT (T 0) (T 1)) (T 2)) _ (IY.out.bx (mb4, (.slice pm4 nm4 cm4), (.slice pu4 nu4 cu4), (Plain.mergeT (Plain.mergeT (T 0) (T 1)) (T 2))) (.tail _ (.tail _ (.head _)))).2).mono ?_
            rw [Plain.mayT_iff.2 (show Plain.Sq _ (Plain.mergeT (Plain.mergeT (T 0) (T 1)) (T 2)) by rw [(Plain.sq_merge (Plain.sq_merge (SQ.out 0 (by omega)) (SQ.out 1 (by omega))) (SQ.out 2 (by omega))).u]; exact (Plain.sq_merge (Plain.sq_merge (SQ.out 0 (by omega)) (SQ.out 1 (by omega))) (SQ.out 2 (by omega))))]
            rintro e W7 ⟨rfl, q7, os7, h7⟩
            have I7 := hid (IY.out.step (w' := W7) (by rw [h7]; exact grow_below _ _ _))
            clear h7 IY
            clear p00 p01 p10 p11 p20 p21 p30 p31 p40 p41
            have p00 := (I7.out.bx (W6.heap.size, (.slice pm6 nm6 cm6), (.slice pu6 nu6 cu6), (Plain.mergeT (Plain.mergeT (Plain.mergeT (T 0) (T 1)) (T 2)) (Plain.mergeT (Plain.mergeT (T 0) (T 1)) (T 2)))) (.head _)).1.c0
            have p01 := (I7.out.bx (W6.heap.size, (.slice pm6 nm6 cm6), (.slice pu6 nu6 cu6), (Plain.mergeT (Plain.mergeT (Plain.mergeT (T 0) (T 1)) (T 2)) (Plain.mergeT (Plain.mergeT (T 0) (T 1)) (T 2)))) (.head _)).1.c1
            have p10 := (I7.out.bx (mb5, (.slice pm5 nm5 cm5), (.slice pu5 nu5 cu5), (Plain.mergeT (T 0) (Plain.mergeT (T 1) (T 2)))) (.tail _ (.head _))).1.c0
            have p11 := (I7.out.bx (mb5, (.slice pm5 nm5 cm5), (.slice pu5 nu5 cu5), (Plain.mergeT (T 0) (Plain.mergeT (T 1) (T 2)))) (.tail _ (.head _))).1.c1
            have p20 := (I7.out.bx (mb4, (.slice pm4 nm4 cm4), (.slice pu4 nu4 cu4), (Plain.mergeT (Plain.mergeT (T 0) (T 1)) (T 2))) (.tail _ (.tail _ (.head _)))).1.c0
            have p21 := (I7.out.bx (mb4, (.slice pm4 nm4 cm4), (.slice pu4 nu4 cu4), (Plain.mergeT (Plain.mergeT (T 0) (T 1)) (T 2))) (.tail _ (.tail _ (.head _)))).1.c1
            have p30 := (I7.out.bx (mb2, (.slice pm2 nm2 cm2), (.slice pu2 nu2 cu2), (Plain.mergeT (T 1) (T 0))) (.tail _ (.tail _ (.tail _ (.tail _ (.head _)))))).1.c0
            have p31 := (I7.out.bx (mb2, (.slice pm2 nm2 cm2), (.slice pu2 nu2 cu2), (Plain.mergeT (T 1) (T 0))) (.tail _ (.tail _ (.tail _ (.tail _ (.head _)))))).1.c1
            have p40 := (I7.out.bx (mb1, (.slice pm1 nm1 cm1), (.slice pu1 nu1 cu1), (Plain.mergeT (T 0) (T 1))) (.tail _ (.tail _ (.tail _ (.tail _ (.tail _ (.head _))))))).1.c0
            have p41 := (I7.out.bx (mb1, (.slice pm1 nm1 cm1), (.slice pu1 nu1 cu1), (Plain.mergeT (T 0) (T 1))) (.tail _ (.tail _ (.tail _ (.tail _ (.tail _ (.head _))))))).1.c1
            go_wp2_with fail
            refine (keep.tally_eq _ _ _ _ (Plain.mergeT (T 0) (T 1)) 3 _ ((I7.out.bx (mb1, (.slice pm1 nm1 cm1), (.slice pu1 nu1 cu1), (Plain.mergeT (T 0) (T 1))) (.tail _ (.tail _ (.tail _ (.tail _ (.tail _ (.head _))))))).2) (by have := (I7.out.bx (mb2, (.slice pm2 nm2 cm2), (.slice pu2 nu2 cu2), (Plain.mergeT (T 1) (T 0))) (.tail _ (.tail _ (.tail _ (.tail _ (.head _)))))).2; rw [Plain.merge_comm (SQ.out 1 (by omega)) (SQ.out 0 (by omega))] at this; exact this) (Plain.sq_merge (SQ.out 0 (by omega)) (SQ.out 1 (by omega)))).mono ?_
            rintro e W8 ⟨rfl, b8⟩
            have I8 := hid (I7.out.step b8)
            clear b8 I7
            clear p00 p01 p10 p11 p20 p21 p30 p31 p40 p41
            have p00 := (I8.out.bx (W6.heap.size, (.slice pm6 nm6 cm6), (.slice pu6 nu6 cu6), (Plain.mergeT (Plain.mergeT (Plain.mergeT (T 0) (T 1)) (T 2)) (Plain.mergeT (Plain.mergeT (T 0) (T 1)) (T 2)))) (.head _)).1.c0
            have p01 := (I8.out.bx (W6.heap.size, (.slice pm6 nm6 cm6), (.slice pu6 nu6 cu6), (Plain.mergeT (Plain.mergeT (Plain.mergeT (T 0) (T 1)) (T 2)) (Plain.mergeT (Plain.mergeT (T 0) (T 1)) (T 2)))) (.head _)).1.c1
            have p10 := (I8.out.bx (mb5, (.slice pm5 nm5 cm5), (.slice pu5 nu5 cu5), (Plain.mergeT (T 0) (Plain.mergeT (T 1) (T 2)))) (.tail _ (.head _))).1.c0
            have p11 := (I8.out.bx (mb5, (.slice pm5 nm5 cm5), (.slice pu5 nu5 cu5), (Plain.mergeT (T 0) (Plain.mergeT (T 1) (T 2)))) (.tail _ (.head _))).1.c1
            have p20 := (I8.out.bx (mb4, (.slice pm4 nm4 cm4), (.slice pu4 nu4 cu4), (Plain.mergeT (Plain.mergeT (T 0) (T 1)) (T 2))) (.tail _ (.tail _ (.head _)))).1.c0
            have p21 := (I8.out.bx (mb4, (.slice pm4 nm4 cm4), (.slice pu4 nu4 cu4), (Plain.mergeT (Plain.mergeT (T 0) (T 1)) (T 2))) (.tail _ (.tail _ (.head _)))).1.c1
            have p30 := (I8.out.bx (mb2, (.slice pm2 nm2 cm2), (.slice pu2 nu2 cu2), (Plain.mergeT (T 1) (T 0))) (.tail _ (.tail _ (.tail _ (.tail _ (.head _)))))).1.c0
            have p31 := (I8.out.bx (mb2, (.slice pm2 nm2 cm2), (.slice pu2 nu2 cu2), (Plain.mergeT (T 1) (T 0))) (.tail _ (.tail _ (.tail _ (.tail _ (.head _)))))).1.c1
            have p40 := (I8.out.bx (mb1, (.slice pm1 nm1 cm1), (.slice pu1 nu1 cu1), (Plain.mergeT (T 0) (T 1))) (.tail _ (.tail _ (.tail _ (.tail _ (.tail _ (.head _))))))).1.c0
            have p41 := (I8.out.bx (mb1, (.slice pm1 nm1 cm1), (.slice pu1 nu1 cu1), (Plain.mergeT (T 0) (T 1))) (.tail _ (.tail _ (.tail _ (.tail _ (.tail _ (.head _))))))).1.c1
            go_wp2_with fail
            refine (keep.tally_eq _ _ _ _ (Plain.mergeT (Plain.mergeT (T 0) (T 1)) (T 2)) 3 _ ((I8.out.bx (mb4, (.slice pm4 nm4 cm4), (.slice pu4 nu4 cu4), (Plain.mergeT (Plain.mergeT (T 0) (T 1)) (T 2))) (.tail _ (.tail _ (.head _)))).2) (by have := (I8.out.bx (mb5, (.slice pm5 nm5 cm5), (.slice pu5 nu5 cu5), (Plain.mergeT (T 0) (Plain.mergeT (T 1) (T 2)))) (.tail _ (.head _))).2; rw [← Plain.merge_assoc (SQ.out 0 (by omega)) (SQ.out 1 (by omega)) (SQ.out 2 (by omega))] at this; exact this) (Plain.sq_merge (Plain.sq_merge (SQ.out 0 (by omega)) (SQ.out 1 (by omega))) (SQ.out 2 (by omega)))).mono ?_
            rintro e W9 ⟨rfl, b9⟩
            have I9 := hid (I8.out.step b9)
            clear b9 I8
            clear p00 p01 p10 p11 p20 p21 p30 p31 p40 p41
            have p00 := (I9.out.bx (W6.heap.size, (.slice pm6 nm6 cm6), (.slice pu6 nu6 cu6), (Plain.mergeT (Plain.mergeT (Plain.mergeT (T 0) (T 1)) (T 2)) (Plain.mergeT (Plain.mergeT (T 0) (T 1)) (T 2)))) (.head _)).1.c0
            have p01 := (I9.out.bx (W6.heap.size, (.slice pm6 nm6 cm6), (.slice pu6 nu6 cu6), (Plain.mergeT (Plain.mergeT (Plain.mergeT (T 0) (T 1)) (T 2)) (Plain.mergeT (Plain.mergeT (T 0) (T 1)) (T 2)))) (.head _)).1.c1
            have p10 := (I9.out.bx (mb5, (.slice pm5 nm5 cm5), (.slice pu5 nu5 cu5), (Plain.mergeT (T 0) (Plain.mergeT (T 1) (T 2)))) (.tail _ (.head _))).1.c0
            have p11 := (I9.out.bx (mb5, (.slice pm5 nm5 cm5), (.slice pu5 nu5 cu5), (Plain.mergeT (T 0) (Plain.mergeT (T 1) (T 2)))) (.tail _ (.head _))).1.c1
            have p20 := (I9.out.bx (mb4, (.slice pm4 nm4 cm4), (.slice pu4 nu4 cu4), (Plain.mergeT (Plain.mergeT (T 0) (T 1)) (T 2))) (.tail _ (.tail _ (.head _)))).1.c0
            have p21 := (I9.out.bx (mb4, (.slice pm4 nm4 cm4), (.slice pu4 nu4 cu4), (Plain.mergeT (Plain.mergeT (T 0) (T 1)) (T 2))) (.tail _ (.tail _ (.head _)))).1.c1
            have p30 := (I9.out.bx (mb2, (.slice pm2 nm2 cm2), (.slice pu2 nu2 cu2), (Plain.mergeT (T 1) (T 0))) (.tail _ (.tail _ (.tail _ (.tail _ (.head _)))))).1.c0
            have p31 := (I9.out.bx (mb2, (.slice pm2 nm2 cm2), (.slice pu2 nu2 cu2), (Plain.mergeT (T 1) (T 0))) (.tail _ (.tail _ (.tail _ (.tail _ (.head _)))))).1.c1
            have p40 := (I9.out.bx (mb1, (.slice pm1 nm1 cm1), (.slice pu1 nu1 cu1), (Plain.mergeT (T 0) (T 1))) (.tail _ (.tail _ (.tail _ (.tail _ (.tail _ (.head _))))))).1.c0
            have p41 := (I9.out.bx (mb1, (.slice pm1 nm1 cm1), (.slice pu1 nu1 cu1), (Plain.mergeT (T 0) (T 1))) (.tail _ (.tail _ (.tail _ (.tail _ (.tail _ (.head _))))))).1.c1
            go_wp2_with fail
            refine (keep.tally_eq _ _ _ _ (Plain.mergeT (Plain.mergeT (T 0) (T 1)) (T 2)) 3 _ (by have := (I9.out.bx (W6.heap.size, (.slice pm6 nm6 cm6), (.slice pu6 nu6 cu6), (Plain.mergeT (Plain.mergeT (Plain.mergeT (T 0) (T 1)) (T 2)) (Plain.mergeT (Plain.mergeT (T 0) (T 1)) (T 2)))) (.head _)).2; rw [Plain.merge_self (Plain.sq_merge (Plain.sq_merge (SQ.out 0 (by omega)) (SQ.out 1 (by omega))) (SQ.out 2 (by omega)))] at this; exact this) ((I9.out.bx (mb4, (.slice pm4 nm4 cm4), (.slice pu4 nu4 cu4), (Plain.mergeT (Plain.mergeT (T 0) (T 1)) (T 2))) (.tail _ (.tail _ (.head _)))).2) (Plain.sq_merge (Plain.sq_merge (SQ.out 0 (by omega)) (SQ.out 1 (by omega))) (SQ.out 2 (by omega)))).mono ?_
            rintro e W10 ⟨rfl, b10⟩
            have I10 := hid (I9.out.step b10)
            clear b10 I9
            clear p00 p01 p10 p11 p20 p21 p30 p31 p40 p41
            go_wp2
            go_ret
            exact ⟨rfl, I10.out.ki.bel⟩

set_option maxRecDepth 100000 in
theorem lifted (os : Os) (started : os.Started) (H : Type) (enc : TypeId × Value → H) :
    ReturnsInHanded {} Try.checked os 5 .any (Rows.tallyAnySpec.pre6 enc Try.prog Try.f5 Rows.tallyAnyRow.domain false) (Rows.tallyAnySpec.post enc Try.prog Try.f5 false true false false) := by
  refine returnsInHanded_of_change (C := Try.checked) own started (by kernel_rfl) Try.func5
    (ChangeSpec.witness6 (enc := enc) (C := Try.checked) false ⟨#[], #[.slice none 0 0, .int .i64 0], []⟩ 8 (by kernel_rfl) (by kernel_rfl) (by kernel_rfl) (by kernel_rfl)) ?_
  intro W base args ds gs before hval0 hW hcnd _
  have hval : ∀ (j : Nat) t v, Try.f5.params[j]? = some t → args[j]? = some v → Value.okWide Try.prog W .any base t v := hval0
  have hW' := hW
  obtain ⟨p, q, hA0, hV, rfl, hfz, hnd⟩ := hW
  have hA : DataW.TrodAll enc Try.prog W 0 (fun _ => true) true Try.f5.params.toList args.toList ds p := hA0
  rw [Try.params5] at hA hval
  obtain ⟨v0, vs0, d0, ds0, p0, q0, hargs, rfl, rfl, h0, r0⟩ := trodAll_cons hA
  obtain ⟨v1, vs1, d1, ds1, p1, q1, rfl, rfl, rfl, h1, r1⟩ := trodAll_cons r0
  obtain ⟨rfl, rfl, rfl⟩ := trodAll_nil r1
  obtain rfl : args = #[v0, v1] := by cases args; simp_all
  obtain ⟨rfl, rfl⟩ := trodVars_none hV
  obtain ⟨a0, len0, cap0, rfl⟩ := okWide_slice Try.underlying30 (hval 0 30 v0 rfl rfl)
  have k0 := h0
  have lt0 : ∀ x ∈ p0, x.block < W.heap.size := by obtain ⟨m, hm⟩ := k0; exact DataW.trod_lt m _ _ _ hm
  obtain ⟨l0, s0, ri0⟩ := des_open Try.underlying30 Try.underlying48 (by kernel_rfl) ⟨rfl, by intro j f hj; rcases j with _ | _ | _ | _ | j <;> simp at hj <;> subst hj <;> exact ⟨rfl, by kernel_rfl, Try.underlying3⟩⟩ h0
  have k1 := h1
  have lt1 : ∀ x ∈ p1, x.block < W.heap.size := by obtain ⟨m, hm⟩ := k1; exact DataW.trod_lt m _ _ _ hm
  obtain ⟨a1, rfl, _, _, w1⟩ := open_int Try.underlying3 (hval 1 3 v1 rfl rfl) h1
  clear hA0 hval0
  refine (walk W _ l0 s0 ri0 a1 (bounds_i64 w1)).mono fun e W' ⟨he, bel⟩ => ?_
  subst he
  exact ⟨_, rfl, _, _, _, [], _, [], hW', trodAll_mk1 (shut_bool Try.underlying4 _), (trodAll_cons_mk (Below.trod laidOut (by kernel_rfl) (of_decide_eq_true (by kernel_rfl)) k0 bel lt0) (trodAll_cons_mk (Below.trod laidOut (by kernel_rfl) (of_decide_eq_true (by kernel_rfl)) k1 bel lt1) trodAll_mk0)), rfl, bel.frame _, fun h => by cases h⟩

theorem over : Rows.tallyAnyRow.holds Try.pinned (OpenSpec.ofChange Rows.tallyAnySpec) :=
  OpenClaim.holds_of_wide 5 Try.f5 rfl rfl rfl rfl rfl rfl rfl ⟨rfl, rfl, rfl, rfl, rfl⟩ rfl rfl rfl rfl rfl (by kernel_rfl) Try.func5 (by kernel_rfl)
    (of_decide_eq_true (by kernel_rfl)) (by unfold Func.isWrapper; first | (rw [if_pos (by decide +kernel)]; kernel_rfl) | (rw [if_neg (by decide +kernel)]; exact ⟨rfl, rfl⟩))
    (fun os started H enc _ => lifted os started H enc)

end tallyAny

theorem tallyAny_holds : Rows.TallyAnySaid := tallyAny.over
#print axioms tallyAny_holds
end Go.Proofs.Ytcdlgpickjiikag
