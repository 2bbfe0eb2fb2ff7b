/- SealPlays: of whatever moves of letters seal.Play and the document's SealPlayed tell the same, move by move: the code, the number, the size and the bytes. No condition. -/
import Derived.Test.YtiolkeghgodggaiRows
import Derived.WalkKit
import Derived.ProofKit
import Derived.OpenShut
import Derived.WalkSmall
import Derived.ShutString
import Derived.ChangeOld
import Derived.Below
import Derived.Test.YtiolkeghgodggaiS9
import Derived.Test.YtiolkeghgodggaiZ1
import Derived.Test.YtiolkeghgodggaiSxl
import Derived.Test.YtiolkeghgodggaiLi
namespace Go.Proofs.Ytiolkeghgodggai
namespace sealPlays
open Go.ChangeShapes Go.WideShapes Go.ChangeAt Go.RowKit Se
set_option linter.unusedVariables false

theorem own : ownKnob Try.prog.godebug = none := by kernel_rfl
theorem laidOut : laidOutB Try.prog = true := by kernel_rfl

set_option maxHeartbeats 4000000 in
set_option maxRecDepth 100000 in
theorem walk (w : World) (v0 : Value) (l0 : List RL) (s0 : SegL w v0 l0) :
    Calls Try.prog 6 #[v0] w fun e w' => e = .returned (.bool true) ∧ Below w.heap.size w w' := by
  obtain ⟨hm0, p, cap, rfl, hp⟩ := s0
  have K1 := play_c p l0.length cap l0 hm0 w rfl hp
  have K2 := fun W (g : Below w.heap.size w W) => rplay_c p l0.length cap l0 hm0 W rfl (hp.grow g)
  clear hp
  generalize hV : Plain.sealV (l0.map RL.x) = V at *
  have HV := hid hV
  clear hV
  go_enter Try.func6, Try.ntmps6
  go_wp2_with fail
  refine K1.mono ?_
  rintro e W1 ⟨q1, c1, D1, rfl, h1, a1, b1⟩
  have H1 := hid h1
  have A1 := hid a1
  have B1 := hid b1
  clear h1 b1 a1 K1
  go_wp2_with fail
  refine (K2 _ B1.out).mono ?_
  rintro e W2 ⟨q2, c2, D2, rfl, h2, a2, b2⟩
  have H2 := hid h2
  have A2 := hid a2
  have A12 := hid (A1.out.grow b2)
  have B2 := hid (B1.out.trans (b2.mono B1.out.size))
  clear h2 a2 b2 K2 A1 B1
  have hl1 : D1.length = V.length := by rw [← HV.out, ← H1.out, List.length_map]
  have hl2 : D2.length = V.length := by rw [← HV.out, ← H2.out, List.length_map]
  have hvl : V.length ≤ 300 := by
    rw [← HV.out]
    unfold Plain.sealV
    split
    · simp
    · rw [Plain.mailF_len]; omega
  have HL1 := hid hl1
  have HL2 := hid hl2
  generalize Plain.sealE (l0.map RL.x) = E at *
  generalize hn : V.length = n at *
  rw [hl1, hl2]
  clear hl1 hl2
  have HN := hid hn
  clear hn
  have he : ((E : Int) != (E : Int)) = false := by simp
  have hnn : ((n : Int) != (n : Int)) = false := by simp
  go_wp2
  clear he hnn
  go_loopg [7] n (fun gg s7 wx => ∃ k : Nat, k ≤ n ∧ n - k ≤ gg ∧ s7 = .int .i64 k ∧ Aside (∃ q, wx = W2.drewN q))
  case atStart => exact ⟨0, Nat.zero_le _, by omega, rfl, (show Aside _ from ⟨0, rfl⟩)⟩
  case round =>
    obtain ⟨k, hkk, hg, rfl, I⟩ := hrel
    by_cases hlt : k < n
    · have hltz : (k : Int) < (n : Int) := by omega
      have hk1 : k < D1.length := by rw [HL1.out]; exact hlt
      have hk2 : k < D2.length := by rw [HL2.out]; exact hlt
      obtain ⟨b1, o1, rfl, _, g1⟩ := holdsD A12.out.hd (by omega)
      obtain ⟨b2, o2, rfl, _, g2⟩ := holdsD A2.out.hd (by omega)
      obtain ⟨q, hq⟩ := I.out
      obtain ⟨x0, x1, x2, x3⟩ := (g1 k hk1).drewN q
      obtain ⟨y0, y1, y2, y3⟩ := (g2 k hk2).drewN q
      rw [← hq] at x0 x1 x2 x3 y0 y1 y2 y3
      have e1 : (D1.getD k default).d = (D2.getD k default).d := by
        rw [← getD_map RD.d D1 default default hk1, ← getD_map RD.d D2 default default hk2, H1.out, H2.out]
      have yb1 := A12.out.bs _ (getD_mem D1 default hk1)
      have yb2 := A2.out.bs _ (getD_mem D2 default hk2)
      have HQ := hid hq
      clear g1 g2 hq
      generalize D1.getD k default = z1 at x0 x1 x2 x3 e1 yb1
      generalize D2.getD k default = z2 at y0 y1 y2 y3 e1 yb2
      obtain ⟨⟨za, zb, zc, zd⟩, zp, zq⟩ := z1
      obtain ⟨z2d, yp, yq⟩ := z2
      dsimp only at e1
      subst e1
      dsimp only at x0 x1 x2 x3 y0 y1 y2 y3 yb1 yb2
      have K := fun t => sameB_any (n := zd.length) (wr.drewN t) rfl (show By W2.heap.size (wr.drewN t) zp zq zd by rw [HQ.out]; exact (yb1.drewN q).drewN t) (show By W2.heap.size (wr.drewN t) yp yq zd by rw [HQ.out]; exact (yb2.drewN q).drewN t)
      clear yb1 yb2
      generalize zd.length = m at *
      have n0 : ((za : Int) != (za : Int)) = false := by simp
      have n1 : (zb != zb) = false := by simp
      have n2 : (zc != zc) = false := by simp
      go_wp2
      go_quiet ((go_at_call 15; exact Calls.quiet_of (K _)))
      go_wp2
      go_roundg (n - (k + 1))
      case measure => omega
      case rel => exact ⟨k + 1, by omega, by omega, by go_num, (show Aside _ from ⟨_, by rw [HQ.out, drewN_add]⟩)⟩
    · have hltz : ¬ (k : Int) < (n : Int) := by omega
      obtain ⟨q, hq⟩ := I.out
      have F := hid (show Below w.heap.size w wr by rw [hq]; exact below_drewN B2.out q)
      clear hq I
      go_wp2
      go_ret
      exact ⟨rfl, F.out⟩

set_option maxRecDepth 100000 in
theorem lifted (os : Os) (started : os.Started) (H : Type) (enc : TypeId × Value → H) :
    ReturnsInHanded {} Try.checked os 6 .any (Rows.sealPlaysSpec.pre6 enc Try.prog Try.f6 Rows.sealPlaysRow.domain false) (Rows.sealPlaysSpec.post enc Try.prog Try.f6 false true false false) := by
  refine returnsInHanded_of_change (C := Try.checked) own started (by kernel_rfl) Try.func6
    (ChangeSpec.witness6 (enc := enc) (C := Try.checked) false ⟨#[], #[.slice none 0 0], []⟩ 8 (by kernel_rfl) (by kernel_rfl) (by kernel_rfl) (by kernel_rfl)) ?_
  intro W base args ds gs before hval0 hW hcnd _
  have hval : ∀ (j : Nat) t v, Try.f6.params[j]? = some t → args[j]? = some v → Value.okWide Try.prog W .any base t v := hval0
  have hW' := hW
  obtain ⟨p, q, hA0, hV, rfl, hfz, hnd⟩ := hW
  have hA : DataW.TrodAll enc Try.prog W 0 (fun _ => true) true Try.f6.params.toList args.toList ds p := hA0
  rw [Try.params6] at hA hval
  obtain ⟨v0, vs0, d0, ds0, p0, q0, hargs, rfl, rfl, h0, r0⟩ := trodAll_cons hA
  obtain ⟨rfl, rfl, rfl⟩ := trodAll_nil r0
  obtain rfl : args = #[v0] := by cases args; simp_all
  obtain ⟨rfl, rfl⟩ := trodVars_none hV
  obtain ⟨a0, len0, cap0, rfl⟩ := okWide_slice Try.underlying38 (hval 0 38 v0 rfl rfl)
  have k0 := h0
  have lt0 : ∀ x ∈ p0, x.block < W.heap.size := by obtain ⟨m, hm⟩ := k0; exact DataW.trod_lt m _ _ _ hm
  obtain ⟨l0, s0⟩ := les_open Try.underlying38 Try.underlying53 (by kernel_rfl) ⟨rfl, by intro j f hj; rcases j with _ | _ | _ | _ | _ | j <;> simp at hj <;> subst hj <;> exact ⟨rfl, by kernel_rfl⟩, by intro j f hj h4; rcases j with _ | _ | _ | _ | j <;> (try omega) <;> simp at hj <;> subst hj <;> exact Try.underlying3, by intro f hj; simp at hj; subst hj; exact Try.underlying42⟩ h0
  clear hA0 hval0
  refine (walk W _ l0 s0).mono fun e W' ⟨he, bel⟩ => ?_
  subst he
  exact ⟨_, rfl, _, _, _, [], _, [], hW', trodAll_mk1 (shut_bool Try.underlying4 _), (trodAll_cons_mk (Below.trod laidOut (by kernel_rfl) (of_decide_eq_true (by kernel_rfl)) k0 bel lt0) trodAll_mk0), rfl, bel.frame _, fun h => by cases h⟩

theorem over : Rows.sealPlaysRow.holds Try.pinned (OpenSpec.ofChange Rows.sealPlaysSpec) :=
  OpenClaim.holds_of_wide 6 Try.f6 rfl rfl rfl rfl rfl rfl rfl ⟨rfl, rfl, rfl, rfl, rfl⟩ rfl rfl rfl rfl rfl (by kernel_rfl) Try.func6 (by kernel_rfl)
    (of_decide_eq_true (by kernel_rfl)) (by unfold Func.isWrapper; first | (rw [if_pos (by decide +kernel)]; kernel_rfl) | (rw [if_neg (by decide +kernel)]; exact ⟨rfl, rfl⟩))
    (fun os started H enc _ => lifted os started H enc)

end sealPlays

theorem sealPlays_holds : Rows.SealPlaysSaid := sealPlays.over
#print axioms sealPlays_holds
end Go.Proofs.Ytiolkeghgodggai
