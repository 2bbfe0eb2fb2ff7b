/- Proved: at every list of orders of 64-bit integers the law HoldPlays returns true: hold.Play answers what promise P7.1 says. Conditions: none. -/
import Derived.Test.YtiolkeghgodggahRows
import Derived.WalkKit
import Derived.ProofKit
import Derived.OpenShut
import Derived.WalkSmall
import Derived.ShutString
import Derived.ChangeOld
import Derived.Below
import Derived.Test.YtiolkeghgodggahJy
import Derived.Test.YtiolkeghgodggahJz
import Derived.Test.YtiolkeghgodggahJ1
namespace Go.Proofs.Ytiolkeghgodggah
namespace holdPlays
open Go.ChangeShapes Go.WideShapes Go.ChangeAt Go.RowKit Hd
set_option linter.unusedVariables false

theorem own : ownKnob Try.prog.godebug = none := by kernel_rfl
theorem laidOut : laidOutB Try.prog = true := by kernel_rfl

set_option maxHeartbeats 4000000 in
set_option maxRecDepth 100000 in
theorem walk (w : World) (v0 : Value) (l0 : List Plain.Or) (s0 : SegO w v0 l0) (r0 : ∀ j, j < l0.length → InO (l0.getD j default)) :
    Calls Try.prog 7 #[v0] w fun e w' => e = .returned (.bool true) ∧ Below w.heap.size w w' := by
  obtain ⟨hm0, p, cap, rfl, hp⟩ := s0
  have HP := hid hp
  have K1 := play_c p l0.length cap l0 r0 hm0 w rfl hp
  have K2 := fun W (g : Below w.heap.size w W) => rplay_c p l0.length cap l0 r0 hm0 W rfl (hp.grow g)
  clear hp r0
  generalize hV : Plain.holdV l0 = V at *
  generalize Plain.holdE l0 = E at *
  have hVb : V.length ≤ 300 := by rw [← hV, Plain.holdV_len]; split <;> omega
  clear hV
  go_enter Try.func7, Try.ntmps7
  go_wp2_with fail
  refine K1.mono ?_
  rintro e W1 ⟨q1, c1, rfl, h1, b1, hx⟩
  clear hx
  have H1 := hid h1
  have B1 := hid b1
  clear h1 b1 K1
  go_wp2_with fail
  refine (K2 _ B1.out).mono ?_
  rintro e W2 ⟨q2, c2, rfl, h2, b2, hx⟩
  clear hx
  have H2 := hid h2
  have H12 := hid (H1.out.grow b2)
  have B2 := hid (B1.out.trans (b2.mono B1.out.size))
  clear h2 b2 K2 H1 B1
  generalize hn : V.length = n at *
  have HN := hid hn
  clear hn
  have gd := Try.guardStock
  have he : ((E : Int) != (E : Int)) = false := by simp
  have hnn : ((n : Int) != (n : Int)) = false := by simp
  go_wp2
  clear he hnn
  go_loopg [7] n (fun gg s7 wx => ∃ k : Nat, k ≤ n ∧ n - k ≤ gg ∧ s7 = .int .i64 k ∧ Aside (∃ q, wx = W2.drewN q))
  case atStart => exact ⟨0, Nat.zero_le _, by omega, rfl, (show Aside _ from ⟨0, rfl⟩)⟩
  case round =>
    obtain ⟨k, hkk, hg, rfl, I⟩ := hrel
    by_cases hlt : k < n
    · have hltz : (k : Int) < (n : Int) := by omega
      have hkl : k < V.length := by rw [HN.out]; exact hlt
      obtain ⟨b1, o1, rfl, _, g1⟩ := holdsS H12.out (by omega)
      obtain ⟨b2, o2, rfl, _, g2⟩ := holdsS H2.out (by omega)
      obtain ⟨q, hq⟩ := I.out
      obtain ⟨x0, x1, x2, x3, x4⟩ := (g1 k hkl).drewN q
      obtain ⟨y0, y1, y2, y3, y4⟩ := (g2 k hkl).drewN q
      rw [← hq] at x0 x1 x2 x3 x4 y0 y1 y2 y3 y4
      have hne := fun w => neqS (V.getD k default) w
      have HQ := hid hq
      clear g1 g2 hq
      generalize V.getD k default = z at x0 x1 x2 x3 x4 y0 y1 y2 y3 y4 hne
      obtain ⟨za, zb, zc, zd, ze⟩ := z
      dsimp only at x0 x1 x2 x3 x4 y0 y1 y2 y3 y4 hne
      go_wp2
      go_quiet (fail)
      go_wp2
      go_roundg (n - (k + 1))
      case measure => omega
      case rel => exact ⟨k + 1, by omega, by omega, by go_num, (show Aside _ from ⟨_, by rw [HQ.out, drewN_add]⟩)⟩
    · have hltz : ¬ (k : Int) < (n : Int) := by omega
      go_wp2
      go_ret
      refine ⟨rfl, ?_⟩
      obtain ⟨q, hq⟩ := I.out
      rw [hq]; exact below_drewN B2.out q

set_option maxRecDepth 100000 in
theorem lifted (os : Os) (started : os.Started) (H : Type) (enc : TypeId × Value → H) :
    ReturnsInHanded {} Try.checked os 7 .any (Rows.holdPlaysSpec.pre6 enc Try.prog Try.f7 Rows.holdPlaysRow.domain false) (Rows.holdPlaysSpec.post enc Try.prog Try.f7 false true false false) := by
  refine returnsInHanded_of_change (C := Try.checked) own started (by kernel_rfl) Try.func7
    (ChangeSpec.witness6 (enc := enc) (C := Try.checked) false ⟨#[], #[.slice none 0 0], []⟩ 8 (by kernel_rfl) (by kernel_rfl) (by kernel_rfl) (by kernel_rfl)) ?_
  intro W base args ds gs before hval0 hW hcnd _
  have hval : ∀ (j : Nat) t v, Try.f7.params[j]? = some t → args[j]? = some v → Value.okWide Try.prog W .any base t v := hval0
  have hW' := hW
  obtain ⟨p, q, hA0, hV, rfl, hfz, hnd⟩ := hW
  have hA : DataW.TrodAll enc Try.prog W 0 (fun _ => true) true Try.f7.params.toList args.toList ds p := hA0
  rw [Try.params7] at hA hval
  obtain ⟨v0, vs0, d0, ds0, p0, q0, hargs, rfl, rfl, h0, r0⟩ := trodAll_cons hA
  obtain ⟨rfl, rfl, rfl⟩ := trodAll_nil r0
  obtain rfl : args = #[v0] := by cases args; simp_all
  obtain ⟨rfl, rfl⟩ := trodVars_none hV
  obtain ⟨a0, len0, cap0, rfl⟩ := okWide_slice Try.underlying30 (hval 0 30 v0 rfl rfl)
  have k0 := h0
  have lt0 : ∀ x ∈ p0, x.block < W.heap.size := by obtain ⟨m, hm⟩ := k0; exact DataW.trod_lt m _ _ _ hm
  obtain ⟨l0, s0, ri0⟩ := ors_open Try.underlying30 Try.underlying44 (by kernel_rfl) ⟨rfl, by intro j f hj; rcases j with _ | _ | _ | _ | j <;> simp at hj <;> subst hj <;> exact ⟨rfl, by kernel_rfl, Try.underlying3⟩⟩ h0
  clear hA0 hval0
  refine (walk W _ l0 s0 ri0).mono fun e W' ⟨he, bel⟩ => ?_
  subst he
  exact ⟨_, rfl, _, _, _, [], _, [], hW', trodAll_mk1 (shut_bool Try.underlying4 _), (trodAll_cons_mk (Below.trod laidOut (by kernel_rfl) (of_decide_eq_true (by kernel_rfl)) k0 bel lt0) trodAll_mk0), rfl, bel.frame _, fun h => by cases h⟩

theorem over : Rows.holdPlaysRow.holds Try.pinned (OpenSpec.ofChange Rows.holdPlaysSpec) :=
  OpenClaim.holds_of_wide 7 Try.f7 rfl rfl rfl rfl rfl rfl rfl ⟨rfl, rfl, rfl, rfl, rfl⟩ rfl rfl rfl rfl rfl (by kernel_rfl) Try.func7 (by kernel_rfl)
    (of_decide_eq_true (by kernel_rfl)) (by unfold Func.isWrapper; first | (rw [if_pos (by decide +kernel)]; kernel_rfl) | (rw [if_neg (by decide +kernel)]; exact ⟨rfl, rfl⟩))
    (fun os started H enc _ => lifted os started H enc)

end holdPlays

theorem holdPlays_holds : Rows.HoldPlaysSaid := holdPlays.over
#print axioms holdPlays_holds
end Go.Proofs.Ytiolkeghgodggah
